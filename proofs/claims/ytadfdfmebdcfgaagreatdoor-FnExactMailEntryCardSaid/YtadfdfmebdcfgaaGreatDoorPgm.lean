/-
  Contracts of the specification's reading of quoted text.
-/
import Derived.Test.YtadfdfmebdcfgaaGreatDoorPgh
import Derived.Test.YtadfdfmebdcfgaaGreatDoorPgg
import Derived.Deep.RegionWith
import Derived.Deep.RegionLaw

namespace Go.Proofs.YtadfdfmebdcfgaaGreatDoor.qu
open Go.RowKit
set_option linter.unusedVariables false

set_option maxHeartbeats 1000000 in
set_option maxRecDepth 100000 in
theorem hex_any (c : UInt8) (w : World) : Calls Tryz.prog 87 #[.int .u8 (c.toNat : Int)] w fun e w' => e = .returned (.int .i64 (hv c)) ∧ w' = w := by
  have hc := c.toNat_lt
  have HV : Hid (hv c = if 48 ≤ c.toNat ∧ c.toNat ≤ 57 then (c.toNat : Int) - 48 else if 65 ≤ c.toNat ∧ c.toNat ≤ 70 then (c.toNat : Int) - 55 else -1) := rfl
  generalize hv c = h at HV ⊢
  generalize c.toNat = x at HV hc ⊢
  have hx : (x : Int) ≤ 255 := by omega
  by_cases h1 : 48 ≤ x
  · have h1' : (48 : Int) ≤ (x : Int) := by omega
    have h1d : decide ((48 : Int) ≤ (x : Int)) = true := decide_eq_true h1'
    by_cases h2 : x ≤ 57
    · have h2' : (x : Int) ≤ 57 := by omega
      have h2d : decide ((x : Int) ≤ 57) = true := decide_eq_true h2'
      have HH : Hid (h = (x : Int) - 48) := (show h = (x : Int) - 48 from by rw [HV.out, if_pos ⟨h1, h2⟩])
      clear HV
      go_enter Tryz.func87, Tryz.ntmps87
      go_wp2
      go_ret
      exact ⟨by rw [HH.out]; rfl, rfl⟩
    have h2d : decide ((x : Int) ≤ 57) = false := decide_eq_false (by omega)
    by_cases h3 : 65 ≤ x
    · have h3' : (65 : Int) ≤ (x : Int) := by omega
      have h3d : decide ((65 : Int) ≤ (x : Int)) = true := decide_eq_true h3'
      by_cases h4 : x ≤ 70
      · have h4' : (x : Int) ≤ 70 := by omega
        have h4d : decide ((x : Int) ≤ 70) = true := decide_eq_true h4'
        have HH : Hid (h = (x : Int) - 65 + 10) := (show h = (x : Int) - 65 + 10 from by rw [HV.out, if_neg (by omega), if_pos ⟨h3, h4⟩]; omega)
        clear HV
        go_enter Tryz.func87, Tryz.ntmps87
        go_wp2
        go_ret
        exact ⟨by rw [HH.out]; rfl, rfl⟩
      · have h4d : decide ((x : Int) ≤ 70) = false := decide_eq_false (by omega)
        have HH : Hid (h = -1) := (show h = -1 from by rw [HV.out, if_neg (by omega), if_neg (by omega)])
        clear HV
        go_enter Tryz.func87, Tryz.ntmps87
        go_wp2
        go_ret
        exact ⟨by rw [HH.out]; rfl, rfl⟩
    · have h3d : decide ((65 : Int) ≤ (x : Int)) = false := decide_eq_false (by omega)
      have HH : Hid (h = -1) := (show h = -1 from by rw [HV.out, if_neg (by omega), if_neg (by omega)])
      clear HV
      go_enter Tryz.func87, Tryz.ntmps87
      go_wp2
      go_ret
      exact ⟨by rw [HH.out]; rfl, rfl⟩
  · have h1d : decide ((48 : Int) ≤ (x : Int)) = false := decide_eq_false (by omega)
    have h3d : decide ((65 : Int) ≤ (x : Int)) = false := decide_eq_false (by omega)
    have HH : Hid (h = -1) := (show h = -1 from by rw [HV.out, if_neg (by omega), if_neg (by omega)])
    clear HV
    go_enter Tryz.func87, Tryz.ntmps87
    go_wp2
    go_ret
    exact ⟨by rw [HH.out]; rfl, rfl⟩

theorem getD_drop (l : List UInt8) (k j : Nat) : (l.drop k).getD j 0 = l.getD (k + j) 0 := by
  simp [List.getD_eq_getElem?_getD]
theorem soft_at (l : List UInt8) (k : Nat) : soft (l.drop k) = (l.getD k 0 == 61 && (l.getD (k + 1) 0 == 13 && l.getD (k + 2) 0 == 10)) := by
  unfold soft
  by_cases h : k < l.length
  · have e : (l.drop k).tail = l.drop (k + 1) := by rw [b6.drop_cons h]; rfl
    rw [e, crlf_at, b6.drop_cons h]
    simp
  · have e0 : l.getD k 0 = 0 := by rw [List.getD_eq_getElem?_getD, List.getElem?_eq_none (by omega)]; rfl
    rw [List.drop_eq_nil_of_le (by omega), e0]
    simp
theorem str_ix (s : ByteArray) (z : Int) (j : Nat) (hz : z = j) (hj : j < s.size) (wx : World) : (Instr.index 9 (.string s) (.int .i64 z)).run Tryz.prog wx = .ok (.int .u8 ((s.data.toList.getD j 0).toNat : Int)) wx := by
  subst hz
  have hb : s[(j : Int).toNat]'(by simpa using hj) = s[j]'hj := by simp
  have hc : s.data.toList.getD j 0 = s[j]'hj := by
    rw [List.getD_eq_getElem?_getD, Array.getElem?_toList, Array.getElem?_eq_getElem (show j < s.data.size from hj)]
    rfl
  rw [run_index_string wx 9 s .i64 (j : Int) Tryz.underlying9, dif_pos ⟨by omega, by omega⟩, hb, hc]
/-- What a reading answers: the bytes and whether there are such. -/
def Ret (base : Nat) (o : Option (List UInt8)) (e : Ending) (w' : World) : Prop :=
  ∃ v, e = .returned (.tuple #[v, .bool o.isSome]) ∧ w'.ownsRow base 5 1 v (o.getD []).length (Lib.byteCells (o.getD []))
theorem r_none {base : Nat} {o : Option (List UInt8)} {w : World} (h : o = none) (hb : base ≤ w.heap.size) : Ret base o (.returned (.tuple #[.slice (some ⟨w.heap.size, 0, none⟩) 0 0, .bool false])) (w.alloc (.cells #[] 5)) := by
  subst h
  exact ⟨_, rfl, ow.own_base (ow.own_empty _ _) hb⟩
theorem step_app {P : Program} {ops : Array Oper} {o : Oper} {a : Act} {w : World} {K : Act → World → Prop} {Q : Exit → Act → World → Prop} {E : Prop}
    (hg : o.guard = none) (s x : Operand) (t : TypeId) (hop : o.op = Op.call { callee := Callee.builtin Builtin.append, args := #[s, x], argTypes := #[t, t] })
    (v u : Value) (hs : a.eval s = v) (hx : a.eval x = u) {v' : Value} {w' : World} (hr : (Builtin.append_ #[t, t] o.type #[v, u]).run P w = .ok v' w') (hK : K (a.put o.dst v') w') :
    if Region.wanted o (yielded ops a.tmps) = true then Oper.wp P o a w K Q else E := by
  have hw : Region.wanted o (yielded ops a.tmps) = true := by simp [Region.wanted, hg]
  rw [if_pos hw]
  unfold Oper.wp
  simp [execOp, hop, resolve, invoke, builtin, hs, hx, hr, Result.andThen]
  exact hK
theorem step_app2 {P : Program} {ops : Array Oper} {o : Oper} {a : Act} {w : World} {K : Act → World → Prop} {Q : Exit → Act → World → Prop} {E : Prop}
    (hg : o.guard = none) (s x : Operand) (t : TypeId) (hop : o.op = Op.call { callee := Callee.builtin Builtin.append, args := #[s, x], argTypes := #[t, t] }) (ty : TypeId) (hty : o.type = ty)
    (v u : Value) (hs : a.eval s = v) (hx : a.eval x = u) (W0 : World) (hw : w = W0) {v' : Value} {w' : World} (hr : (Builtin.append_ #[t, t] ty #[v, u]).run P W0 = .ok v' w') (hK : K (a.put o.dst v') w') :
    if Region.wanted o (yielded ops a.tmps) = true then Oper.wp P o a w K Q else E := by
  subst hw hty
  exact step_app hg s x t hop v u hs hx hr hK
theorem u_start (t : List UInt8) : (uq (t.drop 0)).map ([] ++ ·) = uq t := by simp

set_option maxHeartbeats 40000000 in
set_option maxRecDepth 100000 in
theorem specUn_any (s : ByteArray) (w : World) (hn : s.size ≤ 65536) :
    Calls Tryz.prog 38 #[.string s] w fun e w' => Ret w.heap.size (uq s.data.toList) e w' ∧ Below w.heap.size w w' := by
  have hsz : (s.size : Int) ≤ 65536 := by omega
  obtain ⟨i0, hi, hz0, hz1, hz2⟩ := info_parts bl.info1
  go_enter Tryz.func38, Tryz.ntmps38
  go_wp2
  go_loopw [4, 5] (fun o i wr => ∃ (k : Nat) (q : List UInt8), k ≤ s.size ∧ i = .int .i64 k ∧ Hid ((uq (s.data.toList.drop k)).map (q ++ ·) = uq s.data.toList) ∧ Hid (q.length ≤ k) ∧ wr.ownsRow w.heap.size 5 1 o q.length (Lib.byteCells q) ∧ Below w.heap.size w wr) (fun _ i _ => s.size - (intOf i).toNat)
  case atStart => exact ⟨0, [], Nat.zero_le _, rfl, u_start _, Nat.zero_le _, ow.own_empty _ _, (Below.refl _ _).alloc (Nat.le_refl _) _⟩
  case round =>
    obtain ⟨k, q, hk, rfl, HQ, HL, hown, hbw⟩ := hrel
    by_cases hlt : k < s.size
    · have hlt' : (k : Int) < (s.size : Int) := by omega
      have hne : s.data.toList.drop k ≠ [] := by
        intro e
        have := congrArg List.length e
        rw [List.length_drop] at this
        have h2 : s.data.toList.length = s.size := rfl
        simp at this
        omega
      have HNE : Hid (s.data.toList.drop k ≠ []) := hne
      clear hne
      have hx0 := str_ix s (k : Int) k rfl hlt
      have HX1 : Hid (k + 1 < s.size → ∀ wx : World, (Instr.index 9 (.string s) (.int .i64 ((k : Int) + 1))).run Tryz.prog wx = .ok (.int .u8 ((s.data.toList.getD (k + 1) 0).toNat : Int)) wx) := fun h => str_ix s ((k : Int) + 1) (k + 1) (by omega) h
      have HX2 : Hid (k + 2 < s.size → ∀ wx : World, (Instr.index 9 (.string s) (.int .i64 ((k : Int) + 2))).run Tryz.prog wx = .ok (.int .u8 ((s.data.toList.getD (k + 2) 0).toNat : Int)) wx) := fun h => str_ix s ((k : Int) + 2) (k + 2) (by omega) h
      have HSO := soft_at s.data.toList k
      have HCR := crlf_at s.data.toList k
      have HFQ : fq (s.data.toList.drop k) = if soft (s.data.toList.drop k) then some ([], 3) else if crlf (s.data.toList.drop k) then some ([13, 10], 2)
          else if s.data.toList.getD k 0 = 61 then (if s.size ≤ k + 2 ∨ hv (s.data.toList.getD (k + 1) 0) < 0 ∨ hv (s.data.toList.getD (k + 2) 0) < 0 then none else some ([UInt8.ofNat ((hv (s.data.toList.getD (k + 1) 0)).toNat * 16 + (hv (s.data.toList.getD (k + 2) 0)).toNat)], 3))
          else if 32 ≤ (s.data.toList.getD k 0).toNat ∧ (s.data.toList.getD k 0).toNat ≤ 126 then some ([s.data.toList.getD k 0], 1) else none := by
        unfold fq
        rw [getD_drop, getD_drop, getD_drop, Nat.add_zero]
        have h3 : (s.data.toList.drop k).length < 3 ↔ s.size ≤ k + 2 := by
          rw [List.length_drop]
          show s.size - k < 3 ↔ _
          omega
        simp only [h3]
      have HN1 : Hid (s.size ≤ k + 1 → s.data.toList.getD (k + 1) 0 = 0) := fun hj => by rw [List.getD_eq_getElem?_getD, List.getElem?_eq_none hj]; rfl
      have HN2 : Hid (s.size ≤ k + 2 → s.data.toList.getD (k + 2) 0 = 0) := fun hj => by rw [List.getD_eq_getElem?_getD, List.getElem?_eq_none hj]; rfl
      generalize s.data.toList.getD k 0 = c0 at hx0 HSO HCR HFQ
      generalize s.data.toList.getD (k + 1) 0 = c1 at HX1 HSO HCR HFQ HN1
      generalize s.data.toList.getD (k + 2) 0 = c2 at HX2 HSO HFQ HN2
      have HSO : Hid (soft (s.data.toList.drop k) = (c0 == 61 && (c1 == 13 && c2 == 10))) := HSO
      have HCR : Hid (crlf (s.data.toList.drop k) = (c0 == 13 && c1 == 10)) := HCR
      have HFQ : Hid (fq (s.data.toList.drop k) = if soft (s.data.toList.drop k) then some ([], 3) else if crlf (s.data.toList.drop k) then some ([13, 10], 2)
          else if c0 = 61 then (if s.size ≤ k + 2 ∨ hv c1 < 0 ∨ hv c2 < 0 then none else some ([UInt8.ofNat ((hv c1).toNat * 16 + (hv c2).toNat)], 3))
          else if 32 ≤ c0.toNat ∧ c0.toNat ≤ 126 then some ([c0], 1) else none) := HFQ
      have b61 := is61 c0
      have hc0 := c0.toNat_lt
      go_upto_region 6 with fail
      go_cut [16] (fun t wx => t = .bool (soft (s.data.toList.drop k)) ∧ wx = wr)
      case first =>
        clear HFQ HCR HQ hown hbw
        by_cases e61 : c0 = 61
        · have hb61 : ((c0.toNat : Int) == 61) = true := by rw [b61, e61]; rfl
          by_cases hn2 : k + 2 < s.size
          · have hn2d : decide ((k : Int) + 2 < (s.size : Int)) = true := decide_eq_true (by omega)
            have v1 := HX1.out (by omega)
            have v2 := HX2.out hn2
            have b13 := is13 c1
            have b10 := is10 c2
            have HR0 : soft (s.data.toList.drop k) = ((c1 == 13) && (c2 == 10)) := by rw [HSO.out, e61]; rfl
            have HR : Hid (soft (s.data.toList.drop k) = ((c1 == 13) && (c2 == 10))) := HR0
            clear HR0 HX1 HX2 HN1 HN2 HSO
            generalize (c1 == 13) = B1 at b13 HR
            generalize (c2 == 10) = B2 at b10 HR
            cases B1 <;> (go_wp2_with fail; go_meet; exact ⟨by rw [HR.out]; rfl, rfl⟩)
          · have hn2d : decide ((k : Int) + 2 < (s.size : Int)) = false := decide_eq_false (by omega)
            have HR : Hid (soft (s.data.toList.drop k) = false) := (show soft (s.data.toList.drop k) = false from by rw [HSO.out, HN2.out (by omega)]; simp)
            clear HX1 HX2 HN1 HN2 HSO
            go_wp2_with fail
            go_meet
            exact ⟨by rw [HR.out], rfl⟩
        · have hb61 : ((c0.toNat : Int) == 61) = false := by rw [b61]; simpa using e61
          have HR : Hid (soft (s.data.toList.drop k) = false) := (show soft (s.data.toList.drop k) = false from by rw [HSO.out]; simp [e61])
          clear HX1 HX2 HN1 HN2 HSO
          go_wp2_with fail
          go_meet
          exact ⟨by rw [HR.out], rfl⟩
      case rest =>
        obtain ⟨rfl, hwc⟩ := hcut
        subst hwc
        go_at_K
        cases hso : soft (s.data.toList.drop k)
        case true =>
          have HM : Hid ((uq (s.data.toList.drop (k + 3))).map (q ++ ·) = uq s.data.toList) := by
            have h1 := u_more HNE.out HQ.out (show fq (s.data.toList.drop k) = some ([], 3) from by rw [HFQ.out, if_pos hso])
            rw [List.drop_drop, List.append_nil] at h1
            exact h1
          have hk3 : k + 3 ≤ s.size := by
            by_cases hh : k + 3 ≤ s.size
            · exact hh
            · have h1 := HSO.out
              rw [hso, HN2.out (by omega)] at h1
              simp at h1
          clear HFQ HCR HSO HX1 HX2 HN1 HN2 HQ hso
          go_wp2
          exact ⟨⟨k + 3, q, hk3, by go_num, HM, (show q.length ≤ k + 3 from by have := HL.out; omega), hown, hbw⟩, by simp [intOf]; omega⟩
        case false =>
          by_cases e61 : c0 = 61
          · have hb61 : ((c0.toNat : Int) == 61) = true := by rw [b61, e61]; rfl
            have hcf : crlf (s.data.toList.drop k) = false := by rw [HCR.out, e61]; rfl
            have HF2 : Hid (fq (s.data.toList.drop k) = if s.size ≤ k + 2 ∨ hv c1 < 0 ∨ hv c2 < 0 then none else some ([UInt8.ofNat ((hv c1).toNat * 16 + (hv c2).toNat)], 3)) := by rw [HFQ.out, hso, hcf, if_neg (by decide), if_neg (by decide), if_pos e61]; exact rfl
            clear HFQ HCR HSO HN1 HN2 hso hcf e61 b61
            go_upto_region 9 with fail
            go_cut [65] (fun t wx => t = .bool (decide (s.size ≤ k + 2) || (decide (hv c1 < 0) || decide (hv c2 < 0))) ∧ wx = wc)
            case first =>
              clear HF2 HQ hown hbw
              by_cases hn2 : s.size ≤ k + 2
              · have hn2d : decide ((s.size : Int) ≤ (k : Int) + 2) = true := decide_eq_true (by omega)
                have HR : Hid ((decide (s.size ≤ k + 2) || (decide (hv c1 < 0) || decide (hv c2 < 0))) = true) := (show _ = true from by simp [hn2])
                clear HX1 HX2
                go_wp2_with fail
                go_meet
                exact ⟨by rw [HR.out], rfl⟩
              · have hn2d : decide ((s.size : Int) ≤ (k : Int) + 2) = false := decide_eq_false (by omega)
                have v1 := HX1.out (by omega)
                have v2 := HX2.out (by omega)
                have HR : Hid ((decide (s.size ≤ k + 2) || (decide (hv c1 < 0) || decide (hv c2 < 0))) = (decide (hv c1 < 0) || decide (hv c2 < 0))) := (show _ = _ from by simp [hn2])
                clear HX1 HX2
                go_wp2_with fail
                refine (hex_any c1 _).mono ?_
                rintro e wz ⟨rfl, hwz⟩
                subst hwz
                by_cases h1 : hv c1 < 0
                · have h1d : decide (hv c1 < 0) = true := decide_eq_true h1
                  go_wp2_with fail
                  go_meet
                  exact ⟨by rw [HR.out, h1d]; rfl, rfl⟩
                · have h1d : decide (hv c1 < 0) = false := decide_eq_false h1
                  go_wp2_with fail
                  refine (hex_any c2 _).mono ?_
                  rintro e wz2 ⟨rfl, hwz2⟩
                  subst hwz2
                  go_wp2_with fail
                  go_meet
                  exact ⟨by rw [HR.out, h1d]; rfl, rfl⟩
            case rest =>
              obtain ⟨rfl, hwc⟩ := hcut
              subst hwc
              go_at_K
              by_cases hbad : s.size ≤ k + 2 ∨ hv c1 < 0 ∨ hv c2 < 0
              · have hbd : (decide (s.size ≤ k + 2) || (decide (hv c1 < 0) || decide (hv c2 < 0))) = true := by simpa using hbad
                rw [hbd]
                have HX : Hid (uq s.data.toList = none) := u_fall HNE.out HQ.out (by rw [HF2.out, if_pos hbad])
                clear HQ hown HF2 HX1 HX2 hbad hbd
                go_wp2
                go_ret2
                exact ⟨r_none HX.out hbw.size, hbw.alloc hbw.size _⟩
              · have hbd : (decide (s.size ≤ k + 2) || (decide (hv c1 < 0) || decide (hv c2 < 0))) = false := by
                  rw [decide_eq_false (fun h => hbad (.inl h)), decide_eq_false (fun h => hbad (.inr (.inl h))), decide_eq_false (fun h => hbad (.inr (.inr h)))]
                  rfl
                rw [hbd]
                have hn2 : k + 2 < s.size := by
                  have : ¬ s.size ≤ k + 2 := fun h => hbad (.inl h)
                  omega
                have v1 := HX1.out (by omega)
                have v2 := HX2.out hn2
                obtain ⟨h1, hh1⟩ : ∃ h : Nat, hv c1 = (h : Int) := ⟨(hv c1).toNat, by have : ¬ hv c1 < 0 := fun h => hbad (.inr (.inl h)); omega⟩
                obtain ⟨h2, hh2⟩ : ∃ h : Nat, hv c2 = (h : Int) := ⟨(hv c2).toNat, by have : ¬ hv c2 < 0 := fun h => hbad (.inr (.inr h)); omega⟩
                have k1 : h1 < 16 := by rcases hv_cases c1 with h | h <;> omega
                have k2 : h2 < 16 := by rcases hv_cases c2 with h | h <;> omega
                have C1 : Hid (∀ W, Calls Tryz.prog 87 #[.int .u8 (c1.toNat : Int)] W fun e w' => e = .returned (.int .i64 (h1 : Int)) ∧ w' = W) := fun W => by rw [← hh1]; exact hex_any c1 W
                have C2 : Hid (∀ W, Calls Tryz.prog 87 #[.int .u8 (c2.toNat : Int)] W fun e w' => e = .returned (.int .i64 (h2 : Int)) ∧ w' = W) := fun W => by rw [← hh2]; exact hex_any c2 W
                have HM : Hid ((uq (s.data.toList.drop (k + 3))).map ((q ++ [UInt8.ofNat (h1 * 16 + h2)]) ++ ·) = uq s.data.toList) := by
                  have h3 := u_more HNE.out HQ.out (show fq (s.data.toList.drop k) = some ([UInt8.ofNat (h1 * 16 + h2)], 3) from by rw [HF2.out, if_neg hbad, hh1, hh2]; rfl)
                  rw [List.drop_drop] at h3
                  exact h3
                have HB : Hid (Lib.byteCells [UInt8.ofNat (h1 * 16 + h2)] = [Value.int .u8 ((h1 : Int) * 16 + (h2 : Int))]) := by
                  show [Value.int .u8 ((UInt8.ofNat (h1 * 16 + h2)).toNat : Int)] = _
                  have : ((UInt8.ofNat (h1 * 16 + h2)).toNat : Int) = (h1 : Int) * 16 + (h2 : Int) := by rw [UInt8.toNat_ofNat']; omega
                  rw [this]
                clear HQ HF2 HX1 HX2 hbad hbd hh1 hh2
                have hszw := hbw.size
                obtain ⟨v', w3, hrun, hown', hgrow, _⟩ := run_append_own (P := Tryz.prog) (w := (wc.alloc (.cells #[Value.int .u8 ((h1 : Int) * 16 + (h2 : Int))] 5)).drew) w.heap.size 22 22 5 i0 (.int .u8 0) 1 1 Tryz.underlying22 hi hz0 hz1 hz2 rfl (by decide) _ q.length (Lib.byteCells q) (by exact hown.alloc _) ⟨wc.heap.size, 0, none⟩ 1 1 [Value.int .u8 ((h1 : Int) * 16 + (h2 : Int))] rfl (by exact ow.cells_new wc _ 5) (by simp [Value.oneCell']) (by have := HL.out; unfold maxLen; omega) (by have := HL.out; omega) (by simp; omega)
                have hbz := ((hbw.alloc hszw _).drew).grown hgrow (by simp; omega) (ow.own_lt hown)
                obtain ⟨ao, n', cap', rfl⟩ : ∃ ao n' cap, v' = .slice ao n' cap := by
                  rcases hown'.2 with ⟨hv, _⟩ | ⟨g, cap, cur, hv, _⟩
                  · exact ⟨_, _, _, hv⟩
                  · exact ⟨_, _, _, hv⟩
                rw [← HB.out, ← Lib.byteCells_append] at hown'
                have hown2 : w3.ownsRow w.heap.size 5 1 (.slice ao n' cap') (q ++ [UInt8.ofNat (h1 * 16 + h2)]).length (Lib.byteCells (q ++ [UInt8.ofNat (h1 * 16 + h2)])) := by rw [List.length_append]; exact hown'
                clear hown' hown hgrow
                have k1' : (h1 : Int) < 16 := by omega
                have k2' : (h2 : Int) < 16 := by omega
                have k3' : (h1 : Int) * 16 + (h2 : Int) < 256 := by omega
                have a1 : IntKind.i64.wrap ((k : Int) + 1) = (k : Int) + 1 := by rw [IntKind.wrap_i64]; omega
                have a2 : IntKind.i64.wrap ((k : Int) + 2) = (k : Int) + 2 := by rw [IntKind.wrap_i64]; omega
                have a3 : IntKind.i64.wrap ((h1 : Int) * 16) = (h1 : Int) * 16 := by rw [IntKind.wrap_i64]; omega
                have a4 : IntKind.i64.wrap ((h1 : Int) * 16 + (h2 : Int)) = (h1 : Int) * 16 + (h2 : Int) := by rw [IntKind.wrap_i64]; omega
                have a5 : IntKind.u8.wrap ((h1 : Int) * 16 + (h2 : Int)) = (h1 : Int) * 16 + (h2 : Int) := by rw [IntKind.wrap_u8]; omega
                have hrun2 : (Builtin.append_ #[22, 22] 22 #[u4, .slice (some ⟨wc.heap.size, 0, none⟩) 1 1]).run Tryz.prog (wc.drew.alloc (.cells #[Value.int .u8 ((h1 : Int) * 16 + (h2 : Int))] 5)) = .ok (.slice ao n' cap') w3 := hrun
                generalize c1.toNat = x1 at v1 C1
                generalize c2.toNat = x2 at v2 C2
                go_upto_region 11 with fail
                go_cut [4] (fun t wx => t = .slice ao n' cap' ∧ wx = w3)
                case first =>
                  clear HM hown2 hbz HB hszw hbw HL HNE hb61 k1 k2 k3' hc0 hx0 hi hz0 hz1 hz2
                  go_region_law (first
                    | (go_simp; go_at_call_of 87 (Value.int IntKind.u8 (x1 : Int)); refine (C1.out _).mono ?_; rintro e wz ⟨rfl, rfl⟩)
                    | (go_simp; go_at_call_of 87 (Value.int IntKind.u8 (x2 : Int)); refine (C2.out _).mono ?_; rintro e wz ⟨rfl, rfl⟩)
                    | (refine step_app2 rfl (.tmp 67) (.tmp 81) 22 rfl 22 rfl u4 (.slice (some ⟨wc.heap.size, 0, none⟩) 1 1) rfl rfl (wc.drew.alloc (.cells #[Value.int .u8 ((h1 : Int) * 16 + (h2 : Int))] 5)) rfl hrun2 ?_))
                  all_goals (try go_wp2_with fail)
                  all_goals go_meet
                  all_goals exact ⟨rfl, rfl⟩
                case rest =>
                  obtain ⟨rfl, hwc⟩ := hcut
                  subst hwc
                  go_at_K
                  clear C1 C2 v1 v2 hrun hrun2 a1 a2 a3 a4 a5
                  go_wp2
                  exact ⟨⟨k + 3, q ++ [UInt8.ofNat (h1 * 16 + h2)], by omega, by go_num, HM, (show (q ++ [UInt8.ofNat (h1 * 16 + h2)]).length ≤ k + 3 from by rw [List.length_append]; have := HL.out; simp; omega), hown2, hbz⟩, by simp [intOf]; omega⟩
          · have hb61 : ((c0.toNat : Int) == 61) = false := by rw [b61]; simpa using e61
            have HF2 : Hid (fq (s.data.toList.drop k) = if crlf (s.data.toList.drop k) then some ([13, 10], 2) else if 32 ≤ c0.toNat ∧ c0.toNat ≤ 126 then some ([c0], 1) else none) := by rw [HFQ.out, hso, if_neg (by decide), if_neg e61]; exact rfl
            clear HFQ HSO HX2 HN2 hso b61
            have HE61 : Hid (¬ c0 = 61) := e61
            clear e61
            have B13 : Hid (((c0.toNat : Int) == 13) = (c0 == 13)) := is13 c0
            go_upto_region 13 with fail
            go_cut [85] (fun t wx => t = .bool (crlf (s.data.toList.drop k)) ∧ wx = wc)
            case first =>
              clear HF2 HQ hown hbw
              by_cases e13 : c0 = 13
              · have hb13 : ((c0.toNat : Int) == 13) = true := by rw [B13.out, e13]; rfl
                by_cases hn1 : k + 1 < s.size
                · have hn1d : decide ((k : Int) + 1 < (s.size : Int)) = true := decide_eq_true (by omega)
                  have v1 := HX1.out hn1
                  have b10 := is10 c1
                  have HR0 : crlf (s.data.toList.drop k) = (c1 == 10) := by rw [HCR.out, e13]; rfl
                  have HR : Hid (crlf (s.data.toList.drop k) = (c1 == 10)) := HR0
                  clear HR0 HX1 HN1 HCR e13
                  generalize (c1 == 10) = B at b10 HR
                  go_wp2_with fail
                  go_meet
                  exact ⟨by rw [HR.out], rfl⟩
                · have hn1d : decide ((k : Int) + 1 < (s.size : Int)) = false := decide_eq_false (by omega)
                  have HR : Hid (crlf (s.data.toList.drop k) = false) := (show crlf (s.data.toList.drop k) = false from by rw [HCR.out, HN1.out (by omega)]; simp)
                  clear HX1 HN1 HCR e13
                  go_wp2_with fail
                  go_meet
                  exact ⟨by rw [HR.out], rfl⟩
              · have hb13 : ((c0.toNat : Int) == 13) = false := by rw [B13.out]; simpa using e13
                have HR : Hid (crlf (s.data.toList.drop k) = false) := (show crlf (s.data.toList.drop k) = false from by rw [HCR.out]; simp [e13])
                clear HX1 HN1 HCR e13
                go_wp2_with fail
                go_meet
                exact ⟨by rw [HR.out], rfl⟩
            case rest =>
              obtain ⟨rfl, hwc⟩ := hcut
              subst hwc
              go_at_K
              cases hcr : crlf (s.data.toList.drop k)
              case true =>
                have HM : Hid ((uq (s.data.toList.drop (k + 2))).map ((q ++ [13, 10]) ++ ·) = uq s.data.toList) := by
                  have h3 := u_more HNE.out HQ.out (show fq (s.data.toList.drop k) = some ([13, 10], 2) from by rw [HF2.out, if_pos hcr])
                  rw [List.drop_drop] at h3
                  exact h3
                have hk2 : k + 2 ≤ s.size := by
                  by_cases hh : k + 2 ≤ s.size
                  · exact hh
                  · have h1 := HCR.out
                    rw [hcr, HN1.out (by omega)] at h1
                    simp at h1
                clear HF2 HCR HX1 HN1 HQ hcr
                have hszw := hbw.size
                go_wp2_with (at_builtin; go_loud (refine wpList_append_own _ rfl _ _ 22 rfl w.heap.size 5 i0 (.int .u8 0) 1 1 Tryz.underlying22 hi hz0 hz1 hz2 rfl (by decide) _ _ _ rfl (hown.alloc _) ⟨wc.heap.size, 0, none⟩ 2 2 [Value.int .u8 13, Value.int .u8 10] rfl rfl (ow.cells_new wc _ 5) (by simp [Value.oneCell']) (by have := HL.out; unfold maxLen; omega) (by have := HL.out; omega) (by simp; omega) ?_); intro v' w3 hown' hgrow _)
                have hbz := (hbw.alloc hszw _).grown hgrow (by simp; omega) (ow.own_lt hown)
                obtain ⟨ao, n', cap', rfl⟩ : ∃ ao n' cap, v' = .slice ao n' cap := by
                  rcases hown'.2 with ⟨hv, _⟩ | ⟨g, cap, cur, hv, _⟩
                  · exact ⟨_, _, _, hv⟩
                  · exact ⟨_, _, _, hv⟩
                have hown2 : w3.ownsRow w.heap.size 5 1 (.slice ao n' cap') (q ++ [13, 10]).length (Lib.byteCells (q ++ [13, 10])) := by rw [List.length_append, Lib.byteCells_append]; exact hown'
                clear hown'
                go_wp2
                exact ⟨⟨k + 2, q ++ [13, 10], by omega, by go_num, HM, (show (q ++ [13, 10]).length ≤ k + 2 from by rw [List.length_append]; have := HL.out; simp; omega), hown2, hbz⟩, by simp [intOf]; omega⟩
              case false =>
                clear HCR HX1 HN1
                go_wp2_with fail
                refine (in_any _ _ _ _).mono ?_
                rintro e wz ⟨rfl, hwz⟩
                subst hwz
                by_cases hin : 32 ≤ c0.toNat ∧ c0.toNat ≤ 126
                · have hp : (decide ((32 : Int) ≤ (c0.toNat : Int)) && decide ((c0.toNat : Int) ≤ 126)) = true := by
                    rw [decide_eq_true (by omega), decide_eq_true (by omega)]; rfl
                  rw [hp]
                  have HM : Hid ((uq (s.data.toList.drop (k + 1))).map ((q ++ [c0]) ++ ·) = uq s.data.toList) := by
                    have h3 := u_more HNE.out HQ.out (show fq (s.data.toList.drop k) = some ([c0], 1) from by rw [HF2.out, hcr, if_neg (by decide), if_pos hin])
                    rw [List.drop_drop] at h3
                    exact h3
                  clear HF2 HQ hcr hp hin
                  have hszw := hbw.size
                  go_wp2_with (at_builtin; go_loud (refine wpList_append_own _ rfl _ _ 22 rfl w.heap.size 5 i0 (.int .u8 0) 1 1 Tryz.underlying22 hi hz0 hz1 hz2 rfl (by decide) _ _ _ rfl (hown.alloc _) ⟨wz.heap.size, 0, none⟩ 1 1 [Value.int .u8 (c0.toNat : Int)] rfl rfl (ow.cells_new wz _ 5) (by simp [Value.oneCell']) (by have := HL.out; unfold maxLen; omega) (by have := HL.out; omega) (by simp; omega) ?_); intro v' w3 hown' hgrow _)
                  have hbz := (hbw.alloc hszw _).grown hgrow (by simp; omega) (ow.own_lt hown)
                  obtain ⟨ao, n', cap', rfl⟩ : ∃ ao n' cap, v' = .slice ao n' cap := by
                    rcases hown'.2 with ⟨hv, _⟩ | ⟨g, cap, cur, hv, _⟩
                    · exact ⟨_, _, _, hv⟩
                    · exact ⟨_, _, _, hv⟩
                  have hown2 : w3.ownsRow w.heap.size 5 1 (.slice ao n' cap') (q ++ [c0]).length (Lib.byteCells (q ++ [c0])) := by rw [List.length_append, Lib.byteCells_append]; exact hown'
                  clear hown'
                  go_wp2
                  exact ⟨⟨k + 1, q ++ [c0], by omega, by go_num, HM, (show (q ++ [c0]).length ≤ k + 1 from by rw [List.length_append]; have := HL.out; simp; omega), hown2, hbz⟩, by simp [intOf]; omega⟩
                · have hp : (decide ((32 : Int) ≤ (c0.toNat : Int)) && decide ((c0.toNat : Int) ≤ 126)) = false := by
                    by_cases h32 : 32 ≤ c0.toNat
                    · rw [decide_eq_false (show ¬ (c0.toNat : Int) ≤ 126 by omega)]; simp
                    · rw [decide_eq_false (show ¬ (32 : Int) ≤ (c0.toNat : Int) by omega)]; rfl
                  rw [hp]
                  have HX : Hid (uq s.data.toList = none) := u_fall HNE.out HQ.out (by rw [HF2.out, hcr, if_neg (by decide), if_neg hin])
                  clear HQ hown HF2 hcr hp
                  go_wp2
                  go_ret2
                  exact ⟨r_none HX.out hbw.size, hbw.alloc hbw.size _⟩
    · have hd : s.data.toList.drop k = [] := List.drop_eq_nil_of_le (by show s.size ≤ k; omega)
      have hq : uq s.data.toList = some q := by rw [← HQ.out, hd, uq_nil]; simp
      have HQQ : Hid (uq s.data.toList = some q) := hq
      have hlt' : (s.size : Int) ≤ (k : Int) := by omega
      clear hd HQ hq
      go_wp2
      go_ret2
      exact ⟨⟨_, by rw [HQQ.out]; rfl, by rw [HQQ.out]; exact hown⟩, hbw⟩
end Go.Proofs.YtadfdfmebdcfgaaGreatDoor.qu
