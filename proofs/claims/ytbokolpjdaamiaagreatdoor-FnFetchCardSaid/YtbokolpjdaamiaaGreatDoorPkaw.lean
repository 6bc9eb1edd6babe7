/-
  Contracts of the specification's quoted text.
-/
import Derived.Test.YtbokolpjdaamiaaGreatDoorPkah
import Derived.Test.YtbokolpjdaamiaaGreatDoorPkaf
import Derived.Deep.DeepCutAuto
import Derived.Deep.Cut
import Derived.Deep.CutRange
import Derived.BigRegion

namespace Go.Proofs.YtbokolpjdaamiaaGreatDoor.qu
open Go.RowKit
set_option linter.unusedVariables false

theorem is13 : ∀ c : UInt8, ((c.toNat : Int) == 13) = (c == 13) := fun c => b6.byte_all (p := fun c => ((c.toNat : Int) == 13) = (c == 13)) (by decide +kernel) c
theorem is10 : ∀ c : UInt8, ((c.toNat : Int) == 10) = (c == 10) := fun c => b6.byte_all (p := fun c => ((c.toNat : Int) == 10) = (c == 10)) (by decide +kernel) c
theorem is61 : ∀ c : UInt8, ((c.toNat : Int) == 61) = (c == 61) := fun c => b6.byte_all (p := fun c => ((c.toNat : Int) == 61) = (c == 61)) (by decide +kernel) c
theorem is32 : ∀ c : UInt8, ((c.toNat : Int) == 32) = (c == 32) := fun c => b6.byte_all (p := fun c => ((c.toNat : Int) == 32) = (c == 32)) (by decide +kernel) c

set_option maxHeartbeats 1000000 in
theorem in_any (a b c : Int) (w : World) : Calls Tryz.prog 20 #[.int .i64 a, .int .i64 b, .int .i64 c] w fun e w' => e = .returned (.bool (decide (b ≤ a) && decide (a ≤ c))) ∧ w' = w := by
  by_cases h : b ≤ a
  · have hd : decide (b ≤ a) = true := decide_eq_true h
    rw [hd]
    go_enter Tryz.func20, Tryz.ntmps20
    go_wp2
    go_ret
    exact ⟨rfl, rfl⟩
  · have hd : decide (b ≤ a) = false := decide_eq_false h
    rw [hd]
    go_enter Tryz.func20, Tryz.ntmps20
    go_wp2
    go_ret
    exact ⟨rfl, rfl⟩

theorem hex_at_all : ∀ n : Fin 16, (((⟨#[48, 49, 50, 51, 52, 53, 54, 55, 56, 57, 65, 66, 67, 68, 69, 70]⟩ : ByteArray).data.toList)[n.val]?).map (·.toNat) = some (hx n.val).toNat := by decide +kernel
theorem ix_hex (z : Int) (m : Nat) (h : z = m) (hm : m < 16) (wx : World) : (Instr.index 9 (.string { data := #[48, 49, 50, 51, 52, 53, 54, 55, 56, 57, 65, 66, 67, 68, 69, 70] }) (.int .u8 z)).run Tryz.prog wx = .ok (.int .u8 ((hx m).toNat : Int)) wx := by
  subst h
  obtain ⟨S, hS⟩ : ∃ S : ByteArray, S = { data := #[48, 49, 50, 51, 52, 53, 54, 55, 56, 57, 65, 66, 67, 68, 69, 70] } := ⟨_, rfl⟩
  have hz : S.size = 16 := by rw [hS]; rfl
  have e := hex_at_all ⟨m, hm⟩
  rw [← hS] at e ⊢
  have hs : m < S.size := by omega
  have hb : S[(m : Int).toNat]'(by simpa using hs) = S[m]'hs := by simp
  have hc : (S.data.toList)[m]? = some (S[m]'hs) := by
    rw [Array.getElem?_toList]
    exact Array.getElem?_eq_getElem hs
  simp only [hc, Option.map_some, Option.some.injEq] at e
  rw [run_index_string wx 9 S .u8 (m : Int) Tryz.underlying9, dif_pos ⟨by omega, by omega⟩, hb, e]

set_option maxHeartbeats 4000000 in
set_option maxRecDepth 100000 in
theorem specQt_any (v : Value) (l : List UInt8) (w : World) (h : ow.Reads .u8 w v (b6.bz l)) (hn : l.length ≤ 65536) :
    Calls Tryz.prog 30 #[v] w fun e w' => e = .returned (.string ⟨(qt 0 l).toArray⟩) ∧ Below w.heap.size w w' := by
  have hql := qt_len 0 l
  have HQL : Hid ((qt 0 l).length ≤ 6 * l.length) := hql
  clear hql
  obtain ⟨a, cap, rfl, h⟩ := h
  rw [b6.bz_len] at h ⊢
  have H1 : Hid (b6.bz l = [] ∨ ∃ b off, a = some ⟨b, off, none⟩ ∧ ∀ j, j < l.length → w.cell? ⟨b, off + j, none⟩ = some (.int .u8 ((b6.bz l).getD j 0))) := h
  clear h
  obtain ⟨n, hn'⟩ : ∃ n, n = l.length := ⟨_, rfl⟩
  rw [← hn'] at hn H1 ⊢
  have HN : Hid (n = l.length) := hn'
  clear hn'
  have hn2 : (n : Int) ≤ 65536 := by omega
  obtain ⟨i0, hi, hz0, hz1, hz2⟩ := info_parts bl.info1
  go_enter Tryz.func30, Tryz.ntmps30
  go_wp2
  go_loopw [3, 4, 5] (fun o x i wr => ∃ (k wd : Nat) (q : List UInt8), k ≤ n ∧ wd ≤ 1000 ∧ x = .int .i64 wd ∧ i = .int .i64 k ∧ Hid (q ++ qt wd (l.drop k) = qt 0 l) ∧ wr.ownsRow w.heap.size 5 1 o q.length (Lib.byteCells q) ∧ Below w.heap.size w wr) (fun _ _ i _ => n - (intOf i).toNat)
  case atStart => exact ⟨0, 0, [], Nat.zero_le _, by decide, rfl, rfl, rfl, ow.own_empty _ _, (Below.refl _ _).alloc (Nat.le_refl _) _⟩
  case round =>
    obtain ⟨k, wd, q, hk, hwd, rfl, rfl, HQ, hown, hbw⟩ := hrel
    by_cases hlt : k < n
    · have hlt' : (k : Int) < (n : Int) := by omega
      have hzne : b6.bz l ≠ [] := by
        intro e
        have := congrArg List.length e
        rw [b6.bz_len, ← HN.out] at this
        simp at this
        omega
      rcases H1.out with e | ⟨b, off, rfl, hcells⟩
      · exact absurd e hzne
      clear hzne
      have hblt : b < w.heap.size := World.block_lt_of_cell? w _ (hcells k hlt)
      have HC : Hid (∀ j, j < n → wr.cell? ⟨b, off + j, none⟩ = some (.int .u8 ((l.getD j 0).toNat : Int))) := fun j hj => by
        rw [← b6.bz_at]
        exact (hbw.cell (p := ⟨b, off + j, none⟩) hblt).trans (hcells j hj)
      clear hcells
      have HLQ : Hid (q.length ≤ 400000) := by
        have e1 := congrArg List.length HQ.out
        have e2 := HQL.out
        rw [List.length_append] at e1
        rw [← HN.out] at e2
        show q.length ≤ 400000
        omega
      have v0 := HC.out k hlt
      have CA := crlf_at l k
      have LA := last_at l (k + 1)
      rw [← HN.out] at LA
      obtain ⟨c0, hc0⟩ : ∃ c, c = l.getD k 0 := ⟨_, rfl⟩
      obtain ⟨c1, hc1⟩ : ∃ c, c = l.getD (k + 1) 0 := ⟨_, rfl⟩
      obtain ⟨c2, hc2⟩ : ∃ c, c = l.getD (k + 1 + 1) 0 := ⟨_, rfl⟩
      have HC0 : Hid (c0 = l.getD k 0) := hc0
      rw [← hc0] at v0 CA
      rw [← hc1] at CA LA
      rw [← hc2] at LA
      have HV1 : Hid (k + 1 < n → wr.cell? ⟨b, off + (k + 1), none⟩ = some (.int .u8 (c1.toNat : Int))) := fun hj => by rw [hc1]; exact HC.out _ hj
      have HV2 : Hid (k + 2 < n → wr.cell? ⟨b, off + (k + 2), none⟩ = some (.int .u8 (c2.toNat : Int))) := fun hj => by rw [hc2]; exact HC.out _ hj
      have HC1n : Hid (n ≤ k + 1 → c1 = 0) := fun hj => by rw [hc1, List.getD_eq_getElem?_getD, List.getElem?_eq_none (by rw [← HN.out]; exact hj)]; rfl
      have HC2n : Hid (n ≤ k + 2 → c2 = 0) := fun hj => by rw [hc2, List.getD_eq_getElem?_getD, List.getElem?_eq_none (by rw [← HN.out]; exact hj)]; rfl
      have HCA : Hid (crlf (l.drop k) = (c0 == 13 && c1 == 10)) := CA
      have HLA : Hid (lastb (l.drop (k + 1)) = (decide (n ≤ k + 1) || (c1 == 13 && c2 == 10))) := LA
      clear hc0 hc1 hc2 HC CA LA H1
      have cb13 := is13 c0
      obtain ⟨x0, hx0⟩ : ∃ x : Nat, x = c0.toNat := ⟨_, rfl⟩
      have HX0 : Hid (x0 = c0.toNat) := hx0
      have hx0l : x0 < 256 := by rw [hx0]; exact c0.toNat_lt
      rw [← hx0] at v0 cb13
      clear hx0
      go_upto_region 5 with fail
      go_cut [33] (fun t wx => t = .bool (crlf (l.drop k)) ∧ wx = wr)
      case first =>
        by_cases e13 : c0 = 13
        · have hb13 : ((x0 : Int) == 13) = true := by rw [cb13, e13]; rfl
          by_cases hn1 : k + 1 < n
          · have v1 := HV1.out hn1
            have hn1' : (k : Int) + 1 < (n : Int) := by omega
            have hn1d : decide ((k : Int) + 1 < (n : Int)) = true := decide_eq_true hn1'
            have b10 := is10 c1
            have HR0 : crlf (l.drop k) = (c1 == 10) := by
              have := HCA.out
              rw [e13] at this
              simpa using this
            have HR : Hid (crlf (l.drop k) = (c1 == 10)) := HR0
            clear HR0
            generalize (c1 == 10) = B at b10 HR
            generalize c1.toNat = x1 at v1 b10
            clear cb13 e13 HCA HLA HV1 HV2 HC1n HC2n
            go_wp2_with fail
            go_meet
            exact ⟨by rw [HR.out], rfl⟩
          · have hn1d : decide ((k : Int) + 1 < (n : Int)) = false := decide_eq_false (by omega)
            have HR : Hid (crlf (l.drop k) = false) := (show crlf (l.drop k) = false from by rw [HCA.out, HC1n.out (by omega)]; simp)
            clear cb13 e13 HCA HLA HV1 HV2 HC1n HC2n
            go_wp2_with fail
            go_meet
            exact ⟨by rw [HR.out], rfl⟩
        · have hb13 : ((x0 : Int) == 13) = false := by rw [cb13]; simpa using e13
          have HR : Hid (crlf (l.drop k) = false) := (show crlf (l.drop k) = false from by rw [HCA.out]; simp [e13])
          clear cb13 e13 HCA HLA HV1 HV2 HC1n HC2n
          go_wp2_with fail
          go_meet
          exact ⟨by rw [HR.out], rfl⟩
      case rest =>
        obtain ⟨rfl, rfl⟩ := hcut
        go_at_K
        have hsz := hbw.size
        cases hcr : crlf (l.drop k)
        case true =>
          have HG : Hid ((q ++ [13, 10]) ++ qt 0 (l.drop (k + 2)) = qt 0 l) := grow HQ.out (at_crlf hcr)
          have hk2 : k + 2 ≤ n := by
            by_cases hh : k + 2 ≤ n
            · exact hh
            · have := HCA.out
              rw [hcr, HC1n.out (by omega)] at this
              simp at this
          clear HQ HCA HLA HV1 HV2 HC1n HC2n cb13 v0 hcr
          go_wp2_with (at_builtin; go_loud (refine wpList_append_own _ rfl _ _ 22 rfl w.heap.size 5 i0 (.int .u8 0) 1 1 Tryz.underlying22 hi hz0 hz1 hz2 rfl (by decide) _ _ _ rfl (hown.alloc _) ⟨wc.heap.size, 0, none⟩ 2 2 [Value.int .u8 13, Value.int .u8 10] rfl rfl (ow.cells_new wc _ 5) (by simp [Value.oneCell']) (by have := HLQ.out; unfold maxLen; omega) (by have := HLQ.out; omega) (by simp; omega) ?_); intro v' w3 hown' hgrow _)
          have hbz := (hbw.alloc hsz _).grown hgrow (by simp; omega) (ow.own_lt hown)
          obtain ⟨ao, n', cap', rfl⟩ : ∃ ao n' cap, v' = .slice ao n' cap := by
            rcases hown'.2 with ⟨hv, _⟩ | ⟨g, cap, cur, hv, _⟩
            · exact ⟨_, _, _, hv⟩
            · exact ⟨_, _, _, hv⟩
          have hown2 : w3.ownsRow w.heap.size 5 1 (.slice ao n' cap') (q ++ [13, 10]).length (Lib.byteCells (q ++ [13, 10])) := by rw [List.length_append, Lib.byteCells_append]; exact hown'
          clear hown'
          go_wp2
          go_roundw
          case rel => exact ⟨k + 2, 0, q ++ [13, 10], by omega, by decide, rfl, by go_num, HG, hown2, hbz⟩
          case measure => simp [intOf]; omega
        case false =>
          go_upto_region 10 with fail
          go_cut [7] (fun t wx => t = .bool (lastb (l.drop (k + 1))) ∧ wx = wc)
          case first =>
            by_cases hn1 : k + 1 = n
            · have he : ((k : Int) + 1 == (n : Int)) = true := beq_iff_eq.2 (by omega)
              have HR : Hid (lastb (l.drop (k + 1)) = true) := (show lastb (l.drop (k + 1)) = true from by rw [HLA.out]; simp; omega)
              clear cb13 HCA HLA HV1 HV2 HC1n HC2n hcr HQ hown hbw
              go_wp2_with fail
              go_meet
              exact ⟨by rw [HR.out], rfl⟩
            have hn1b : ((k : Int) + 1 == (n : Int)) = false := by rw [beq_eq_false_iff_ne]; omega
            have hn1l : k + 1 < n := by omega
            have hn1l' : (k : Int) + 1 < (n : Int) := by omega
            have v1 := HV1.out hn1l
            have b13 := is13 c1
            by_cases e13 : c1 = 13
            · have hb13 : ((c1.toNat : Int) == 13) = true := by rw [b13, e13]; rfl
              by_cases hn2 : k + 2 < n
              · have hn2' : (k : Int) + 2 < (n : Int) := by omega
                have hn2d : decide ((k : Int) + 2 < (n : Int)) = true := decide_eq_true hn2'
                have v2 := HV2.out hn2
                have b10 := is10 c2
                have HR0 : lastb (l.drop (k + 1)) = (c2 == 10) := by
                  have := HLA.out
                  rw [e13, decide_eq_false (show ¬ n ≤ k + 1 by omega)] at this
                  simpa using this
                have HR : Hid (lastb (l.drop (k + 1)) = (c2 == 10)) := HR0
                clear HR0
                generalize (c2 == 10) = B at b10 HR
                generalize c2.toNat = x2 at v2 b10
                generalize c1.toNat = x1 at v1 b13 hb13
                clear cb13 HCA HLA HV1 HV2 HC1n HC2n hcr HQ hown hbw e13 b13
                go_wp2_with fail
                go_meet
                exact ⟨by rw [HR.out], rfl⟩
              · have hn2d : decide ((k : Int) + 2 < (n : Int)) = false := decide_eq_false (by omega)
                have HR : Hid (lastb (l.drop (k + 1)) = false) := (show lastb (l.drop (k + 1)) = false from by rw [HLA.out, HC2n.out (by omega), decide_eq_false (show ¬ n ≤ k + 1 by omega)]; simp)
                generalize c1.toNat = x1 at v1 b13 hb13
                clear cb13 HCA HLA HV1 HV2 HC1n HC2n hcr HQ hown hbw e13 b13
                go_wp2_with fail
                go_meet
                exact ⟨by rw [HR.out], rfl⟩
            · have hb13 : ((c1.toNat : Int) == 13) = false := by rw [b13]; simpa using e13
              have HR : Hid (lastb (l.drop (k + 1)) = false) := (show lastb (l.drop (k + 1)) = false from by rw [HLA.out, decide_eq_false (show ¬ n ≤ k + 1 by omega)]; simp [e13])
              generalize c1.toNat = x1 at v1 b13 hb13
              clear cb13 HCA HLA HV1 HV2 HC1n HC2n hcr HQ hown hbw e13 b13
              go_wp2_with fail
              go_meet
              exact ⟨by rw [HR.out], rfl⟩
          case rest =>
            obtain ⟨rfl, hwc⟩ := hcut
            subst hwc
            go_at_K
            have HCR : Hid (crlf (l.drop k) = false) := hcr
            clear HV1 HV2 HC1n HC2n HLA HCA hcr cb13
            obtain ⟨la, hla⟩ : ∃ la, la = lastb (l.drop (k + 1)) := ⟨_, rfl⟩
            have HLA2 : Hid (la = lastb (l.drop (k + 1))) := hla
            rw [← hla]
            clear hla
            go_upto_region 12 with fail
            go_cut [88] (fun t wx => t = .bool (!plain c0 la) ∧ wx = wc.alloc (.cells #[Value.int .u8 (x0 : Int)] 5))
            case first =>
              have b61 := is61 c0
              have b32 := is32 c0
              rw [← HX0.out] at b61 b32
              have hx0' : (x0 : Int) ≤ 255 := by omega
              have HP : Hid (plain c0 la = ((decide (33 ≤ x0) && decide (x0 ≤ 126) && c0 != 61) || (c0 == 32 && !la))) := by rw [HX0.out]; rfl
              have hd1 : decide ((33 : Int) ≤ (x0 : Int)) = decide (33 ≤ x0) := by congr 1; exact propext (by omega)
              have hd2 : decide ((x0 : Int) ≤ 126) = decide (x0 ≤ 126) := by congr 1; exact propext (by omega)
              clear HQ hown hbw v0
              go_wp2_with fail
              refine (in_any _ _ _ _).mono ?_
              rintro e wx ⟨rfl, rfl⟩
              rw [hd1, hd2]
              have hne : (c0 != 61) = !(c0 == 61) := rfl
              rw [hne] at HP
              clear hne
              have hne2 : ((x0 : Int) != 61) = !(c0 == 61) := by rw [← b61]; rfl
              generalize (decide (33 ≤ x0) && decide (x0 ≤ 126)) = p at HP ⊢
              generalize (c0 == 61) = p61 at HP b61 hne2
              generalize (c0 == 32) = p32 at HP b32
              clear hd1 hd2 hx0l HX0
              cases p <;> cases p61 <;> cases p32 <;> cases la <;> (go_wp2_with fail; go_meet; exact ⟨by rw [HP.out]; rfl, rfl⟩)
            case rest =>
              obtain ⟨rfl, hwc⟩ := hcut
              subst hwc
              go_at_K
              cases hpl : plain c0 la
              case true =>
                have HF : Hid ([c0] = form c0 la) := (show [c0] = form c0 la from by unfold form; rw [if_pos hpl])
                obtain ⟨W, hW⟩ : ∃ W, W = wc.alloc (.cells #[Value.int .u8 (x0 : Int)] 5) := ⟨_, rfl⟩
                rw [← hW]
                obtain ⟨own1, bel1, blk1, ne1, sz1⟩ := ow.laid hW hown hbw hsz
                clear hW hown hbw v0 hpl
                obtain ⟨g, hg⟩ : ∃ g, g = wc.heap.size := ⟨_, rfl⟩
                rw [← hg] at blk1 ne1 sz1 hsz ⊢
                clear hg
                have blk1 : W.heap[g]? = some (.cells (Lib.byteCells [c0]).toArray 5 (0, 0)) := by rw [blk1, HX0.out]; rfl
                go_upto_region 14 with fail
                go_cut [111] (fun t wx => t = .bool (decide (lim la < wd + 1)) ∧ wx = W)
                case first =>
                  have hw' : (wd : Int) ≤ 1000 := by omega
                  have HLIM : Hid (lim la = if la then 76 else 75) := rfl
                  clear HQ own1 bel1 blk1 ne1 sz1 HF
                  by_cases h75 : 75 < wd + 1
                  · have h75' : (75 : Int) < (wd : Int) + 1 := by omega
                    have h75d : decide ((75 : Int) < (wd : Int) + 1) = true := decide_eq_true h75'
                    cases la
                    · have HR : Hid (decide (lim false < wd + 1) = true) := decide_eq_true (show 75 < wd + 1 from h75)
                      go_wp2_with fail
                      go_meet
                      exact ⟨by rw [HR.out], rfl⟩
                    · by_cases h76 : wd + 1 ≤ 76
                      · have h76d : decide ((wd : Int) + 1 ≤ 76) = true := decide_eq_true (by omega)
                        have HR : Hid (decide (lim true < wd + 1) = false) := decide_eq_false (show ¬ 76 < wd + 1 by omega)
                        go_wp2_with fail
                        go_meet
                        exact ⟨by rw [HR.out], rfl⟩
                      · have h76d : decide ((wd : Int) + 1 ≤ 76) = false := decide_eq_false (by omega)
                        have HR : Hid (decide (lim true < wd + 1) = true) := decide_eq_true (show 76 < wd + 1 by omega)
                        go_wp2_with fail
                        go_meet
                        exact ⟨by rw [HR.out], rfl⟩
                  · have h75d : decide ((75 : Int) < (wd : Int) + 1) = false := decide_eq_false (by omega)
                    have HR : Hid (decide (lim la < wd + 1) = false) := decide_eq_false (by rw [HLIM.out]; split <;> omega)
                    go_wp2_with fail
                    go_meet
                    exact ⟨by rw [HR.out], rfl⟩
                case rest =>
                  obtain ⟨rfl, hwc2⟩ := hcut
                  subst hwc2
                  go_at_K
                  by_cases hsoft : lim la < wd + 1
                  · have hsd : decide (lim la < wd + 1) = true := decide_eq_true hsoft
                    rw [hsd]
                    have HG : Hid ((q ++ ([61, 13, 10] ++ [c0])) ++ qt 1 (l.drop (k + 1)) = qt 0 l) := grow HQ.out (at_soft (by rw [← HN.out]; exact hlt) HCR.out HLA2.out (HC0.out ▸ HF.out) hsoft)
                    clear HQ HF HLA2 HCR hsd hsoft
                    go_upto_region 17 with (at_builtin; go_loud (refine wpList_append_own _ rfl _ _ 22 rfl w.heap.size 5 i0 (.int .u8 0) 1 1 Tryz.underlying22 hi hz0 hz1 hz2 rfl (by decide) _ _ _ rfl (own1.alloc _) ⟨g + 1, 0, none⟩ 3 3 [Value.int .u8 61, Value.int .u8 13, Value.int .u8 10] rfl rfl (by have h := ow.cells_new wc [Value.int .u8 61, Value.int .u8 13, Value.int .u8 10] 5; rw [sz1] at h; exact h) (by simp [Value.oneCell']) (by have := HLQ.out; unfold maxLen; omega) (by have := HLQ.out; omega) (by simp; omega) ?_); intro v' w3 own3 hgrow _)
                    have bel3 := (bel1.alloc (by omega) _).grown hgrow (by simp; omega) (ow.own_lt own1)
                    have blk3 : w3.heap[g]? = some (.cells (Lib.byteCells [c0]).toArray 5 (0, 0)) := by
                      have hgl : g < wc.heap.size := by omega
                      rw [hgrow.block g (by simp; omega) (fun x => ne1 x.symm), Below.heap_alloc _ _ _ hgl]
                      exact blk1
                    have hsz3 : g < w3.heap.size := (Array.getElem?_eq_some_iff.1 blk3).1
                    have HNW : Hid (∀ (j : Nat) (u : Value), (Lib.byteCells [c0])[j]? = some u → World.cell? w3 ((⟨g, 0, none⟩ : Addr).add j) = some u) := ow.news_blk blk3 (fun j u hj => by simpa using hj)
                    clear own1 bel1 blk1 ne1 hgrow
                    obtain ⟨ao, n', cap', rfl⟩ : ∃ ao n' cap, v' = .slice ao n' cap := by
                      rcases own3.2 with ⟨hv, _⟩ | ⟨g, cap, cur, hv, _⟩
                      · exact ⟨_, _, _, hv⟩
                      · exact ⟨_, _, _, hv⟩
                    go_wp2_with (at_builtin; go_loud (refine wpList_append_own _ rfl _ _ 22 rfl w.heap.size 5 i0 (.int .u8 0) 1 1 Tryz.underlying22 hi hz0 hz1 hz2 rfl (by decide) _ _ _ rfl own3 ⟨g, 0, none⟩ 1 1 (Lib.byteCells [c0]) rfl rfl HNW.out (ow.one_bytes _) (by have := HLQ.out; unfold maxLen; omega) (by have := HLQ.out; omega) (by omega) ?_); intro v4 w4 own4 hgrow4 _)
                    have bel4 := bel3.grown hgrow4 (by omega) (ow.own_lt own3)
                    obtain ⟨ao4, n4, cap4, rfl⟩ : ∃ ao n' cap, v4 = .slice ao n' cap := by
                      rcases own4.2 with ⟨hv, _⟩ | ⟨g, cap, cur, hv, _⟩
                      · exact ⟨_, _, _, hv⟩
                      · exact ⟨_, _, _, hv⟩
                    have own5 : w4.ownsRow w.heap.size 5 1 (.slice ao4 n4 cap4) (q ++ ([61, 13, 10] ++ [c0])).length (Lib.byteCells (q ++ ([61, 13, 10] ++ [c0]))) := by
                      have e1 : Lib.byteCells q ++ [Value.int .u8 61, Value.int .u8 13, Value.int .u8 10] ++ Lib.byteCells [c0] = Lib.byteCells (q ++ ([61, 13, 10] ++ [c0])) := by rw [Lib.byteCells_append, Lib.byteCells_append, List.append_assoc]; rfl
                      have e2 : q.length + 3 + 1 = (q ++ ([61, 13, 10] ++ [c0])).length := by simp
                      rw [← e1, ← e2]
                      exact own4
                    clear own3 own4 bel3 blk3 HNW hgrow4
                    go_wp2
                    go_roundw
                    case rel => exact ⟨k + 1, 1, _, by omega, by decide, by go_num, by go_num, HG, own5, bel4⟩
                    case measure => simp [intOf]; omega
                  · have hsd : decide (lim la < wd + 1) = false := decide_eq_false hsoft
                    rw [hsd]
                    have hwl : wd + 1 ≤ 76 := by
                      have : lim la ≤ 76 := by cases la <;> decide
                      omega
                    have HG : Hid ((q ++ [c0]) ++ qt (wd + 1) (l.drop (k + 1)) = qt 0 l) := grow HQ.out (at_on (by rw [← HN.out]; exact hlt) HCR.out HLA2.out (HC0.out ▸ HF.out) hsoft)
                    have HNW : Hid (∀ (j : Nat) (u : Value), (Lib.byteCells [c0])[j]? = some u → World.cell? wc ((⟨g, 0, none⟩ : Addr).add j) = some u) := ow.news_blk blk1 (fun j u hj => by simpa using hj)
                    clear HQ HF HLA2 HCR hsd hsoft
                    go_wp2_with (at_builtin; go_loud (refine wpList_append_own _ rfl _ _ 22 rfl w.heap.size 5 i0 (.int .u8 0) 1 1 Tryz.underlying22 hi hz0 hz1 hz2 rfl (by decide) _ _ _ rfl own1 ⟨g, 0, none⟩ 1 1 (Lib.byteCells [c0]) rfl rfl HNW.out (ow.one_bytes _) (by have := HLQ.out; unfold maxLen; omega) (by have := HLQ.out; omega) (by omega) ?_); intro v4 w4 own4 hgrow4 _)
                    have bel4 := bel1.grown hgrow4 (by omega) (ow.own_lt own1)
                    obtain ⟨ao4, n4, cap4, rfl⟩ : ∃ ao n' cap, v4 = .slice ao n' cap := by
                      rcases own4.2 with ⟨hv, _⟩ | ⟨g, cap, cur, hv, _⟩
                      · exact ⟨_, _, _, hv⟩
                      · exact ⟨_, _, _, hv⟩
                    have own5 : w4.ownsRow w.heap.size 5 1 (.slice ao4 n4 cap4) (q ++ [c0]).length (Lib.byteCells (q ++ [c0])) := by
                      rw [List.length_append, Lib.byteCells_append]
                      exact own4
                    clear own4 own1 bel1 blk1 ne1 HNW hgrow4
                    go_wp2
                    go_roundw
                    case rel => exact ⟨k + 1, wd + 1, _, by omega, by omega, by go_num, by go_num, HG, own5, bel4⟩
                    case measure => simp [intOf]; omega
              case false =>
                have HF : Hid ([61, hx (c0.toNat / 16), hx (c0.toNat % 16)] = form c0 la) := (show _ = form c0 la from by unfold form; rw [hpl]; rfl)
                have g1 := ix_hex ((x0 : Int) / 16) (x0 / 16) (by omega) (by omega)
                have g2 := ix_hex ((x0 : Int) % 16) (x0 % 16) (by omega) (by omega)
                rw [← HX0.out] at HF
                obtain ⟨d1, hd1⟩ : ∃ d, d = hx (x0 / 16) := ⟨_, rfl⟩
                obtain ⟨d2, hd2⟩ : ∃ d, d = hx (x0 % 16) := ⟨_, rfl⟩
                rw [← hd1, ← hd2] at HF
                rw [← hd1] at g1
                rw [← hd2] at g2
                clear hd1 hd2 hpl v0
                have hx0' : (x0 : Int) ≤ 255 := by omega
                have ownA := ow.own_below hown ((Below.refl _ _).alloc (Nat.le_refl _) (.cells #[Value.int .u8 (x0 : Int)] 5))
                have belA := hbw.alloc hsz (.cells #[Value.int .u8 (x0 : Int)] 5)
                have szA : (wc.alloc (.cells #[Value.int .u8 (x0 : Int)] 5)).heap.size = wc.heap.size + 1 := by simp
                clear hown hbw
                obtain ⟨WA, hWA⟩ : ∃ W, W = wc.alloc (.cells #[Value.int .u8 (x0 : Int)] 5) := ⟨_, rfl⟩
                rw [← hWA] at ownA belA szA ⊢
                clear hWA
                have hszA : w.heap.size ≤ WA.heap.size := by omega
                go_upto_region 13 with fail
                go_cut [8] (fun t wx => t = .slice (some ⟨WA.heap.size, 0, none⟩) 3 3 ∧ wx = (WA.alloc (.cells #[Value.int .u8 61, Value.int .u8 (d1.toNat : Int), Value.int .u8 (d2.toNat : Int)] 5)).drew)
                case first =>
                  clear ownA belA HQ HF
                  go_region
                  all_goals (try go_wp2_with fail)
                  all_goals go_meet
                  all_goals exact ⟨by rw [szA], rfl⟩
                case rest =>
                  obtain ⟨rfl, hwc⟩ := hcut
                  obtain ⟨own1, bel1, blk1, ne1, sz1⟩ := ow.built hwc ownA belA hszA
                  clear hwc ownA belA g1 g2
                  obtain ⟨g, hg⟩ : ∃ g, g = WA.heap.size := ⟨_, rfl⟩
                  rw [← hg] at blk1 ne1 sz1 hszA ⊢
                  clear hg szA
                  have blk1 : wc.heap[g]? = some (.cells (Lib.byteCells [61, d1, d2]).toArray 5 (0, 0)) := blk1
                  have HF : Hid ([61, d1, d2] = form c0 la) := HF
                  go_at_K
                  go_upto_region 14 with fail
                  go_cut [111] (fun t wx => t = .bool (decide (lim la < wd + 3)) ∧ wx = wc)
                  case first =>
                    have hw' : (wd : Int) ≤ 1000 := by omega
                    have HLIM : Hid (lim la = if la then 76 else 75) := rfl
                    clear HQ own1 bel1 blk1 ne1 sz1 HF
                    by_cases h75 : 75 < wd + 3
                    · have h75' : (75 : Int) < (wd : Int) + 3 := by omega
                      have h75d : decide ((75 : Int) < (wd : Int) + 3) = true := decide_eq_true h75'
                      cases la
                      · have HR : Hid (decide (lim false < wd + 3) = true) := decide_eq_true (show 75 < wd + 3 from h75)
                        go_wp2_with fail
                        go_meet
                        exact ⟨by rw [HR.out], rfl⟩
                      · by_cases h76 : wd + 3 ≤ 76
                        · have h76d : decide ((wd : Int) + 3 ≤ 76) = true := decide_eq_true (by omega)
                          have HR : Hid (decide (lim true < wd + 3) = false) := decide_eq_false (show ¬ 76 < wd + 3 by omega)
                          go_wp2_with fail
                          go_meet
                          exact ⟨by rw [HR.out], rfl⟩
                        · have h76d : decide ((wd : Int) + 3 ≤ 76) = false := decide_eq_false (by omega)
                          have HR : Hid (decide (lim true < wd + 3) = true) := decide_eq_true (show 76 < wd + 3 by omega)
                          go_wp2_with fail
                          go_meet
                          exact ⟨by rw [HR.out], rfl⟩
                    · have h75d : decide ((75 : Int) < (wd : Int) + 3) = false := decide_eq_false (by omega)
                      have HR : Hid (decide (lim la < wd + 3) = false) := decide_eq_false (by rw [HLIM.out]; split <;> omega)
                      go_wp2_with fail
                      go_meet
                      exact ⟨by rw [HR.out], rfl⟩
                  case rest =>
                    obtain ⟨rfl, hwc2⟩ := hcut
                    subst hwc2
                    go_at_K
                    by_cases hsoft : lim la < wd + 3
                    · have hsd : decide (lim la < wd + 3) = true := decide_eq_true hsoft
                      rw [hsd]
                      have HG : Hid ((q ++ ([61, 13, 10] ++ [61, d1, d2])) ++ qt 3 (l.drop (k + 1)) = qt 0 l) := grow HQ.out (at_soft (by rw [← HN.out]; exact hlt) HCR.out HLA2.out (HC0.out ▸ HF.out) hsoft)
                      clear HQ HF HLA2 HCR hsd hsoft
                      go_upto_region 17 with (at_builtin; go_loud (refine wpList_append_own _ rfl _ _ 22 rfl w.heap.size 5 i0 (.int .u8 0) 1 1 Tryz.underlying22 hi hz0 hz1 hz2 rfl (by decide) _ _ _ rfl (own1.alloc _) ⟨g + 1, 0, none⟩ 3 3 [Value.int .u8 61, Value.int .u8 13, Value.int .u8 10] rfl rfl (by have h := ow.cells_new wc [Value.int .u8 61, Value.int .u8 13, Value.int .u8 10] 5; rw [sz1] at h; exact h) (by simp [Value.oneCell']) (by have := HLQ.out; unfold maxLen; omega) (by have := HLQ.out; omega) (by simp; omega) ?_); intro v' w3 own3 hgrow _)
                      have bel3 := (bel1.alloc (by omega) _).grown hgrow (by simp; omega) (ow.own_lt own1)
                      have blk3 : w3.heap[g]? = some (.cells (Lib.byteCells [61, d1, d2]).toArray 5 (0, 0)) := by
                        have hgl : g < wc.heap.size := by omega
                        rw [hgrow.block g (by simp; omega) (fun x => ne1 x.symm), Below.heap_alloc _ _ _ hgl]
                        exact blk1
                      have hsz3 : g < w3.heap.size := (Array.getElem?_eq_some_iff.1 blk3).1
                      have HNW : Hid (∀ (j : Nat) (u : Value), (Lib.byteCells [61, d1, d2])[j]? = some u → World.cell? w3 ((⟨g, 0, none⟩ : Addr).add j) = some u) := ow.news_blk blk3 (fun j u hj => by simpa using hj)
                      clear own1 bel1 blk1 ne1 hgrow
                      obtain ⟨ao, n', cap', rfl⟩ : ∃ ao n' cap, v' = .slice ao n' cap := by
                        rcases own3.2 with ⟨hv, _⟩ | ⟨g, cap, cur, hv, _⟩
                        · exact ⟨_, _, _, hv⟩
                        · exact ⟨_, _, _, hv⟩
                      go_wp2_with (at_builtin; go_loud (refine wpList_append_own _ rfl _ _ 22 rfl w.heap.size 5 i0 (.int .u8 0) 1 1 Tryz.underlying22 hi hz0 hz1 hz2 rfl (by decide) _ _ _ rfl own3 ⟨g, 0, none⟩ 3 3 (Lib.byteCells [61, d1, d2]) rfl rfl HNW.out (ow.one_bytes _) (by have := HLQ.out; unfold maxLen; omega) (by have := HLQ.out; omega) (by omega) ?_); intro v4 w4 own4 hgrow4 _)
                      have bel4 := bel3.grown hgrow4 (by omega) (ow.own_lt own3)
                      obtain ⟨ao4, n4, cap4, rfl⟩ : ∃ ao n' cap, v4 = .slice ao n' cap := by
                        rcases own4.2 with ⟨hv, _⟩ | ⟨g, cap, cur, hv, _⟩
                        · exact ⟨_, _, _, hv⟩
                        · exact ⟨_, _, _, hv⟩
                      have own5 : w4.ownsRow w.heap.size 5 1 (.slice ao4 n4 cap4) (q ++ ([61, 13, 10] ++ [61, d1, d2])).length (Lib.byteCells (q ++ ([61, 13, 10] ++ [61, d1, d2]))) := by
                        have e1 : Lib.byteCells q ++ [Value.int .u8 61, Value.int .u8 13, Value.int .u8 10] ++ Lib.byteCells [61, d1, d2] = Lib.byteCells (q ++ ([61, 13, 10] ++ [61, d1, d2])) := by rw [Lib.byteCells_append, Lib.byteCells_append, List.append_assoc]; rfl
                        have e2 : q.length + 3 + 3 = (q ++ ([61, 13, 10] ++ [61, d1, d2])).length := by simp
                        rw [← e1, ← e2]
                        exact own4
                      clear own3 own4 bel3 blk3 HNW hgrow4
                      go_wp2
                      go_roundw
                      case rel => exact ⟨k + 1, 3, _, by omega, by decide, by go_num, by go_num, HG, own5, bel4⟩
                      case measure => simp [intOf]; omega
                    · have hsd : decide (lim la < wd + 3) = false := decide_eq_false hsoft
                      rw [hsd]
                      have hwl : wd + 3 ≤ 76 := by
                        have : lim la ≤ 76 := by cases la <;> decide
                        omega
                      have HG : Hid ((q ++ [61, d1, d2]) ++ qt (wd + 3) (l.drop (k + 1)) = qt 0 l) := grow HQ.out (at_on (by rw [← HN.out]; exact hlt) HCR.out HLA2.out (HC0.out ▸ HF.out) hsoft)
                      have HNW : Hid (∀ (j : Nat) (u : Value), (Lib.byteCells [61, d1, d2])[j]? = some u → World.cell? wc ((⟨g, 0, none⟩ : Addr).add j) = some u) := ow.news_blk blk1 (fun j u hj => by simpa using hj)
                      clear HQ HF HLA2 HCR hsd hsoft
                      go_wp2_with (at_builtin; go_loud (refine wpList_append_own _ rfl _ _ 22 rfl w.heap.size 5 i0 (.int .u8 0) 1 1 Tryz.underlying22 hi hz0 hz1 hz2 rfl (by decide) _ _ _ rfl own1 ⟨g, 0, none⟩ 3 3 (Lib.byteCells [61, d1, d2]) rfl rfl HNW.out (ow.one_bytes _) (by have := HLQ.out; unfold maxLen; omega) (by have := HLQ.out; omega) (by omega) ?_); intro v4 w4 own4 hgrow4 _)
                      have bel4 := bel1.grown hgrow4 (by omega) (ow.own_lt own1)
                      obtain ⟨ao4, n4, cap4, rfl⟩ : ∃ ao n' cap, v4 = .slice ao n' cap := by
                        rcases own4.2 with ⟨hv, _⟩ | ⟨g, cap, cur, hv, _⟩
                        · exact ⟨_, _, _, hv⟩
                        · exact ⟨_, _, _, hv⟩
                      have own5 : w4.ownsRow w.heap.size 5 1 (.slice ao4 n4 cap4) (q ++ [61, d1, d2]).length (Lib.byteCells (q ++ [61, d1, d2])) := by
                        rw [List.length_append, Lib.byteCells_append]
                        exact own4
                      clear own4 own1 bel1 blk1 ne1 HNW hgrow4
                      go_wp2
                      go_roundw
                      case rel => exact ⟨k + 1, wd + 3, _, by omega, by omega, by go_num, by go_num, HG, own5, bel4⟩
                      case measure => simp [intOf]; omega
    · have hd : l.drop k = [] := List.drop_eq_nil_of_le (by rw [← HN.out]; omega)
      have hq : q = qt 0 l := by have := HQ.out; rw [hd, qt_nil] at this; simpa using this
      subst hq
      have hcv := ow.conv_bytes (P := Tryz.prog) (src := 22) (dst := 9) (qt 0 l) hown Tryz.underlying22 Tryz.underlying5 Tryz.underlying9
      have hlt' : (n : Int) ≤ (k : Int) := by omega
      clear hd HQ H1 hown
      go_wp2
      go_ret
      exact ⟨rfl, hbw⟩
end Go.Proofs.YtbokolpjdaamiaaGreatDoor.qu
