/-
  The specification's l06Line: a text in one line.
-/
import Derived.Test.YtbgoejalbhkmeaaDoorLia
import Derived.Laws.OwnMore
namespace Go.Proofs.YtbgoejalbhkmeaaDoor.li
open Go.RowKit
set_option linter.unusedVariables false

theorem cell_at {w : World} {base e g n cap : Nat} {l : List UInt8} (h : w.ownsRow base e 1 (.slice (some ⟨g, 0, none⟩) n cap) n (Lib.byteCells l)) (j : Nat) (hj : j < l.length) : w.cell? ⟨g, j, none⟩ = some (.int .u8 ((l.getD j 0).toNat : Int)) := by
  have hl : l.length = n := by have := h.1; rw [Lib.byteCells_length] at this; simpa using this
  rw [h.cellAt j (by omega)]
  simp [Lib.byteCells, List.getD_eq_getElem?_getD, hj]
theorem conv_part {P : Program} {w : World} {src dst e : TypeId} {g cap : Nat} (l : List UInt8) (hs : P.underlying src = some (.slice e)) (he : P.underlying e = some (.int .u8)) (hd : P.underlying dst = some .string)
    (hc : ∀ j, j < l.length → w.cell? ⟨g, j, none⟩ = some (.int .u8 ((l.getD j 0).toNat : Int))) : (convert src dst (.slice (some ⟨g, 0, none⟩) l.length cap)).run P w = .ok (.string ⟨l.toArray⟩) w := by
  refine run_convert_bytes_back w src dst e ⟨g, 0, none⟩ cap l hs he hd (fun j hj => ?_)
  rw [show ((⟨g, 0, none⟩ : Addr).add j) = ⟨g, j, none⟩ from by simp [Addr.add]; omega, hc j hj]
  simp [List.getD_eq_getElem?_getD, hj]

set_option maxHeartbeats 4000000 in
set_option maxRecDepth 100000 in
theorem spec_line (s : ByteArray) (w : World) (hs : s.size ≤ 1048576) :
    Calls Tryd.prog 33 #[.string s] w fun e w' => e = .returned (.string ⟨(line s.data.toList).toArray⟩) ∧ Below w.heap.size w w' := by
  obtain ⟨i0, hi, hz0, hz1, hz2⟩ := info_parts bl.info1
  go_enter Tryd.func33, Tryd.ntmps33
  go_wp2
  go_loopw [3, 4] (fun o i wr => ∃ k : Nat, k ≤ s.size ∧ i = .int .i64 k ∧ wr.ownsRow w.heap.size 5 1 o (spo (sk s k)).length (Lib.byteCells (spo (sk s k))) ∧ Below w.heap.size w wr) (fun _ i _ => s.size - (intOf i).toNat)
  case atStart => exact ⟨0, Nat.zero_le _, rfl, ow.own_empty _ _, (Below.refl _ _).alloc (Nat.le_refl _) _⟩
  case round =>
    obtain ⟨k, hk, rfl, hown, hbw⟩ := hrel
    have HL := sk_spo s k
    have hsz := hbw.size
    have HC : Hid ((spo (sk s k) = [] ∧ (sk s k).1 = []) ∨ (spo (sk s k) = (sk s k).1 ++ [32] ∧ (sk s k).1 ≠ []) ∨ (spo (sk s k) = (sk s k).1 ∧ (sk s k).1 ≠ [] ∧ ((sk s k).1.getD ((sk s k).1.length - 1) 0 == 32) = false)) := spo_cases (nice_st _)
    by_cases hlt : k < s.size
    · have HS : Hid (sk s (k + 1) = step (sk s k) s[k]) := sk_step s k hlt
      cases hb : blk (s[k]'hlt)
      · have HE : Hid (spo (sk s (k + 1)) = spo (sk s k) ++ [s[k]'hlt]) := by rw [HS.out]; exact spo_other _ hb
        have Hb : Hid (blk (s[k]'hlt) = false) := hb
        clear HS hb HC
        generalize hx : spo (sk s k) = x at hown HE HL
        clear hx
        go_wp2_with (first | (go_at_call 51; refine (spec_blk _ _).mono ?_; rintro e w' ⟨rfl, rfl⟩; rw [Hb.out]) | (at_builtin; go_loud (refine wpList_append_own _ rfl _ _ 57 rfl w.heap.size 5 i0 (.int .u8 0) 1 1 Tryd.underlying57 hi hz0 hz1 hz2 rfl (by decide) _ _ _ rfl (hown.alloc _) ⟨_, 0, none⟩ 1 1 [Value.int .u8 ((s[k]'hlt).toNat : Int)] rfl rfl (ow.cells_new _ _ 5) (by simp [Value.oneCell']) (by unfold maxLen; omega) (by omega) (by simp; omega) ?_); intro v' w3 hown' hgrow _))
        have hbz := (hbw.alloc hsz _).grown hgrow (by simp; omega) (ow.own_lt hown)
        have hown2 : w3.ownsRow w.heap.size 5 1 v' (spo (sk s (k + 1))).length (Lib.byteCells (spo (sk s (k + 1)))) := by rw [HE.out, List.length_append, Lib.byteCells_append]; exact hown'
        clear hown' hown hgrow
        go_wp2
        go_roundw
        case rel => exact ⟨k + 1, by omega, by go_num, hown2, hbz⟩
        case measure => simp [intOf]; omega
      · have Hb : Hid (blk (s[k]'hlt) = true) := hb
        clear hb
        rcases HC.out with ⟨h1, h2⟩ | ⟨h1, h2⟩ | ⟨h1, h2, h3⟩
        · have HE : Hid (spo (sk s (k + 1)) = []) := by rw [HS.out]; exact spo_blank0 Hb.out h2
          rw [h1] at hown
          clear HS HC h1 h2
          rcases hown.2 with ⟨rfl, _⟩ | ⟨g, cap, cur, rfl, _⟩
          · have HO : Hid (wr.ownsRow w.heap.size 5 1 (.slice none 0 0) ([] : List UInt8).length (Lib.byteCells [])) := hown
            clear hown
            go_wp2_with (go_at_call 51; refine (spec_blk _ _).mono ?_; rintro e w' ⟨rfl, rfl⟩; rw [Hb.out])
            go_roundw
            case rel => exact ⟨k + 1, by omega, by go_num, by rw [HE.out]; exact HO.out, hbw⟩
            case measure => simp [intOf]; omega
          · have HO : Hid (wr.ownsRow w.heap.size 5 1 (.slice (some ⟨g, 0, none⟩) ([] : List UInt8).length cap) ([] : List UInt8).length (Lib.byteCells [])) := hown
            rw [List.length_nil]
            clear hown
            go_wp2_with (go_at_call 51; refine (spec_blk _ _).mono ?_; rintro e w' ⟨rfl, rfl⟩; rw [Hb.out])
            go_roundw
            case rel => exact ⟨k + 1, by omega, by go_num, by rw [HE.out]; exact HO.out, hbw⟩
            case measure => simp [intOf]; omega
        · have HE : Hid (spo (sk s (k + 1)) = (sk s k).1 ++ [32]) := by rw [HS.out]; exact spo_blank Hb.out h2
          rw [h1] at hown HL
          clear HS HC h1 h2
          generalize hx : (sk s k).1 = x at hown HE HL
          clear hx
          have hlen : (x ++ [32]).length = x.length + 1 := by simp
          rcases hown.2 with ⟨rfl, h0⟩ | ⟨g, cap, cur, rfl, _⟩
          · omega
          have HO : Hid (wr.ownsRow w.heap.size 5 1 (.slice (some ⟨g, 0, none⟩) (x ++ [32]).length cap) (x ++ [32]).length (Lib.byteCells (x ++ [32]))) := hown
          have hc := cell_at hown x.length (by simp)
          rw [show (x ++ [(32 : UInt8)]).getD x.length 0 = (32 : UInt8) by simp [List.getD_eq_getElem?_getD], show (((32 : UInt8).toNat : Nat) : Int) = 32 from rfl] at hc
          rw [hlen] at HL ⊢
          clear hown hlen
          go_wp2_with (go_at_call 51; refine (spec_blk _ _).mono ?_; rintro e w' ⟨rfl, rfl⟩; rw [Hb.out])
          go_roundw
          case rel => exact ⟨k + 1, by omega, by go_num, by rw [HE.out]; have := HO.out; simpa using this, hbw⟩
          case measure => simp [intOf]; omega
        · have HE : Hid (spo (sk s (k + 1)) = (sk s k).1 ++ [32]) := by rw [HS.out]; exact spo_blank Hb.out h2
          rw [h1] at hown HL
          clear HS HC h1
          generalize hx : (sk s k).1 = x at hown HE HL h2 h3
          clear hx
          obtain ⟨m, hm⟩ : ∃ m, x.length = m + 1 := ⟨x.length - 1, by have := List.length_pos_iff.2 h2; omega⟩
          have h32 := is32 (x.getD (x.length - 1) 0)
          rw [h3] at h32
          rcases hown.2 with ⟨rfl, h0⟩ | ⟨g, cap, cur, rfl, _⟩
          · omega
          have hc := cell_at hown m (by omega)
          rw [hm, Nat.add_sub_cancel] at h32
          have hc' := hc
          generalize hv : (x.getD m 0) = v at hc h32
          have HO : Hid (wr.ownsRow w.heap.size 5 1 (.slice (some ⟨g, 0, none⟩) x.length cap) x.length (Lib.byteCells x)) := hown
          rw [hm] at HL hown ⊢
          clear hc' hv h2 h3
          have hvn : ((v.toNat : Int) != 32) = true := by simp [bne, h32]
          go_wp2_with (first | (go_at_call 51; refine (spec_blk _ _).mono ?_; rintro e w' ⟨rfl, rfl⟩; rw [Hb.out]) | (at_builtin; go_loud (refine wpList_append_own _ rfl _ _ 57 rfl w.heap.size 5 i0 (.int .u8 0) 1 1 Tryd.underlying57 hi hz0 hz1 hz2 rfl (by decide) _ _ _ rfl (hown.alloc _) ⟨_, 0, none⟩ 1 1 [Value.int .u8 32] rfl rfl (ow.cells_new _ _ 5) (by simp [Value.oneCell']) (by unfold maxLen; omega) (by omega) (by simp; omega) ?_); intro v' w3 hown' hgrow _))
          have hbz := (hbw.alloc hsz _).grown hgrow (by simp; omega) (ow.own_lt hown)
          have hown2 : w3.ownsRow w.heap.size 5 1 v' (spo (sk s (k + 1))).length (Lib.byteCells (spo (sk s (k + 1)))) := by rw [HE.out, List.length_append, Lib.byteCells_append, hm]; exact hown'
          clear hown' hown hgrow
          go_wp2
          go_roundw
          case rel => exact ⟨k + 1, by omega, by go_num, hown2, hbz⟩
          case measure => simp [intOf]; omega
    · have HT : Hid ((sk s k).1 = line s.data.toList) := sk_all s k (by omega)
      rcases HC.out with ⟨h1, h2⟩ | ⟨h1, h2⟩ | ⟨h1, h2, h3⟩
      · rw [h1] at hown
        have H2 : Hid ((sk s k).1 = []) := h2
        clear HC h1 h2
        have hcv := ow.conv_bytes (P := Tryd.prog) [] hown Tryd.underlying57 Tryd.underlying5 Tryd.underlying9
        rcases hown.2 with ⟨rfl, _⟩ | ⟨g, cap, cur, rfl, _⟩
        · clear hown
          go_wp2
          go_ret
          exact ⟨by rw [← HT.out, H2.out]; rfl, hbw⟩
        · rw [List.length_nil] at hcv ⊢
          clear hown
          go_wp2
          go_ret
          exact ⟨by rw [← HT.out, H2.out]; rfl, hbw⟩
      · rw [h1] at hown HL
        clear HC h1
        generalize hx : (sk s k).1 = x at hown HL h2 HT
        clear hx
        have hlen : (x ++ [32]).length = x.length + 1 := by simp
        rcases hown.2 with ⟨rfl, h0⟩ | ⟨g, cap, cur, rfl, _, _, hcap, _⟩
        · omega
        have hc := cell_at hown x.length (by simp)
        rw [show (x ++ [(32 : UInt8)]).getD x.length 0 = (32 : UInt8) by simp [List.getD_eq_getElem?_getD], show (((32 : UInt8).toNat : Nat) : Int) = 32 from rfl] at hc
        have hcv := conv_part (P := Tryd.prog) (w := wr) (g := g) (cap := cap) x Tryd.underlying57 Tryd.underlying5 Tryd.underlying9 (fun j hj => by have := cell_at hown j (by simp; omega); rwa [get_left hj] at this)
        rw [hlen] at HL hcap ⊢
        clear hown hlen h2
        go_wp2
        go_ret
        exact ⟨by rw [← HT.out]; rfl, hbw⟩
      · rw [h1] at hown HL
        clear HC h1
        generalize hx : (sk s k).1 = x at hown HL h2 h3 HT
        clear hx
        obtain ⟨m, hm⟩ : ∃ m, x.length = m + 1 := ⟨x.length - 1, by have := List.length_pos_iff.2 h2; omega⟩
        have h32 := is32 (x.getD (x.length - 1) 0)
        rw [h3] at h32
        have hcv := ow.conv_bytes (P := Tryd.prog) x hown Tryd.underlying57 Tryd.underlying5 Tryd.underlying9
        rcases hown.2 with ⟨rfl, h0⟩ | ⟨g, cap, cur, rfl, _⟩
        · omega
        have hc := cell_at hown m (by omega)
        rw [hm, Nat.add_sub_cancel] at h32
        generalize hv : (x.getD m 0) = v at hc h32
        rw [hm] at HL hown hcv ⊢
        clear hown hv h2 h3
        go_wp2
        go_ret
        exact ⟨by rw [← HT.out]; rfl, hbw⟩
end Go.Proofs.YtbgoejalbhkmeaaDoor.li
