/-
  Flags written as a text: the program's way.
-/
import Derived.Test.YtejmfffapkmjoaaDoorFgt
namespace Go.Proofs.YtejmfffapkmjoaaDoor.fg
open Go.RowKit
open lo sl sp gr bl
set_option linter.unusedVariables false

theorem sel_none {f k : Nat} (h : bit f k = false) : sel f (k + 1) = sel f k := by rw [sel, if_neg (by rw [h]; simp), List.append_nil]
theorem sel_one {f k : Nat} (h : bit f k = true) : sel f (k + 1) = sel f k ++ [tb.fls.getD k []] := by rw [sel, if_pos h]
theorem areFlags_any (z : Int) (w : World) : Calls Tryd.prog 14 #[.int .i64 z] w fun e w' => e = .returned (.bool (decide (0 ≤ z ∧ z ≤ 31))) ∧ w' = w := by
  go_enter Tryd.func14, Tryd.ntmps14
  go_wp2
  all_goals (go_ret; exact ⟨ret_bool (by rw [Bool.eq_iff_iff]; simp; try omega), rfl⟩)
set_option maxHeartbeats 4000000 in
set_option maxRecDepth 100000 in
theorem implFT (z : Int) (w : World) (h : tb.TF w) : Calls Tryd.prog 36 #[.int .i64 z] w fun e w' => e = .returned (.tuple #[.string (FR z).1, .int .i64 (FR z).2]) ∧ Below w.heap.size w w' := by
  by_cases hz : 0 ≤ z ∧ z ≤ 31
  case neg =>
    have hd : decide (0 ≤ z ∧ z ≤ 31) = false := decide_eq_false hz
    rw [show FR z = (⟨#[]⟩, 4) from if_neg hz]
    clear hz h
    go_enter Tryd.func36, Tryd.ntmps36
    go_wp2_with fail
    refine (areFlags_any _ _).mono ?_
    rintro e w ⟨rfl, rfl⟩
    rw [hd]
    go_wp2
    go_ret2
    exact ⟨rfl, Below.refl _ _⟩
  obtain ⟨f, rfl⟩ : ∃ f : Nat, z = f := ⟨z.toNat, by omega⟩
  have hd : decide (0 ≤ (f : Int) ∧ (f : Int) ≤ 31) = true := decide_eq_true hz
  rw [show FR f = (FT f, 0) from by unfold FR; rw [if_pos hz]; rfl]
  have HF : Hid (f < 32) := (show f < 32 by omega)
  have hf0 : (0 : Int) ≤ (f : Int) := by omega
  have hf1 : (f : Int) < 32 := by omega
  have HSL : Hid (∀ k, k ≤ 5 → (sel f k).length ≤ 5) := fun k hk => by have := (sel_len f k hk).1; omega
  rw [FT_is]
  obtain ⟨t, fr, h⟩ := h
  obtain ⟨tt, htt⟩ : ∃ tt, tt = (tb.fls.map fun l => Value.string ⟨l.toArray⟩).toArray := ⟨_, rfl⟩
  rw [← htt] at h
  have HIX : Hid (∀ wx : World, (Instr.index 80 (.agg tt) (.int .i64 0)).run Tryd.prog wx = .ok (.string (fn 0)) wx ∧ (Instr.index 80 (.agg tt) (.int .i64 1)).run Tryd.prog wx = .ok (.string (fn 1)) wx ∧ (Instr.index 80 (.agg tt) (.int .i64 2)).run Tryd.prog wx = .ok (.string (fn 2)) wx ∧ (Instr.index 80 (.agg tt) (.int .i64 3)).run Tryd.prog wx = .ok (.string (fn 3)) wx ∧ (Instr.index 80 (.agg tt) (.int .i64 4)).run Tryd.prog wx = .ok (.string (fn 4)) wx) := by
    rw [htt]
    exact fun wx => ⟨ix0 wx, ix1 wx, ix2 wx, ix3 wx, ix4 wx⟩
  have hsz : (Tryd.prog.info? 80).map (·.size) = some tt.size := by rw [htt]; kernel_rfl
  obtain ⟨i0, hi, hz0, hz1, hz2⟩ := info_parts sp.infoStr
  have HH : Hid (w.heap[0]? = some (.cells tt t fr)) := h
  clear htt hz h
  go_enter Tryd.func36, Tryd.ntmps36
  go_wp2_with fail
  refine (areFlags_any _ _).mono ?_
  rintro e w ⟨rfl, rfl⟩
  rw [hd]
  clear hd
  have h := HH.out
  go_wp2_with (refine wpList_load_row rfl 80 _ rfl 0 rfl t tt fr _ h Tryd.underlying80 rfl hsz ?_)
  go_loopw [4, 11] (fun v i wr => ∃ k : Nat, k ≤ 5 ∧ i = .int .i64 k ∧ wr.ownsRow w.heap.size 9 1 v (sel f k).length ((sel f k).map sp.tv) ∧ Below w.heap.size w wr) (fun _ i _ => 5 - (intOf i).toNat)
  case atStart => exact ⟨0, Nat.zero_le _, rfl, World.ownsRow_nil _ _ _ _, Below.refl _ _⟩
  case round =>
    clear h hsz HH
    obtain ⟨k, hk, rfl, hown, hbw⟩ := hrel
    by_cases hlt : k < 5
    · obtain ⟨hx0, hx1, hx2, hx3, hx4⟩ := HIX.out wr
      obtain ⟨aa, nn, cc, hvv⟩ : ∃ aa nn cc, u4 = Value.slice aa nn cc := by
        rcases hown.2 with ⟨hv, _⟩ | ⟨g, cap, cur, hv, _⟩
        · exact ⟨_, _, _, hv⟩
        · exact ⟨_, _, _, hv⟩
      subst hvv
      have HO : Hid (wr.ownsRow w.heap.size 9 1 (.slice aa nn cc) (sel f k).length ((sel f k).map sp.tv) ∧ Below w.heap.size w wr) := ⟨hown, hbw⟩
      clear hown hbw
      have hc : k = 0 ∨ k = 1 ∨ k = 2 ∨ k = 3 ∨ k = 4 := by omega
      rcases hc with rfl | rfl | rfl | rfl | rfl
      · clear hx1 hx2 hx3 hx4
        have hb := ib0 f HF.out
        cases hbt : bit f 0
        · rw [hbt] at hb
          have HZ : Hid (sel f (0 + 1) = sel f 0) := sel_none hbt
          clear hbt
          go_wp2
          go_roundw
          case rel => exact ⟨0 + 1, by omega, by go_num, by rw [HZ.out]; exact HO.out.1, HO.out.2⟩
          case measure => simp [intOf]
        · rw [hbt] at hb
          have HZ : Hid (sel f (0 + 1) = sel f 0 ++ [tb.fls.getD 0 []]) := sel_one hbt
          clear hbt
          go_wp2_with (at_builtin; refine wpList_append_own _ rfl _ _ 24 rfl w.heap.size 9 i0 (.string ByteArray.empty) 1 16 Tryd.underlying24 hi hz0 hz1 hz2 rfl (by decide) _ _ _ rfl (HO.out.1.alloc _) ⟨wr.heap.size, 0, none⟩ 1 1 [.string (fn 0)] rfl rfl (ow.cells_new _ [.string (fn 0)] _) (by intro u hu; simp at hu; subst hu; rfl) (by unfold maxLen; have := HSL.out 0 (by omega); omega) (by have := HSL.out 0 (by omega); omega) (by have := HO.out.2.size; simp; omega) ?_; intro v' w3 hown3 hgrow3 hnil3)
          have hb3 := Below.grown (HO.out.2.alloc HO.out.2.size _) hgrow3 (by have := HO.out.2.size; simp; omega) (ow.own_lt HO.out.1)
          have HA : Hid (w3.ownsRow w.heap.size 9 1 v' (sel f (0 + 1)).length ((sel f (0 + 1)).map sp.tv) ∧ Below w.heap.size w w3) := ⟨by rw [HZ.out, List.map_append, List.length_append]; exact hown3, hb3⟩
          clear hown3 hgrow3 hnil3 hb3 hx0 HO
          go_wp2
          go_roundw
          case rel => exact ⟨0 + 1, by omega, by go_num, HA.out.1, HA.out.2⟩
          case measure => simp [intOf]
      · clear hx0 hx2 hx3 hx4
        have hb := ib1 f HF.out
        cases hbt : bit f 1
        · rw [hbt] at hb
          have HZ : Hid (sel f (1 + 1) = sel f 1) := sel_none hbt
          clear hbt
          go_wp2
          go_roundw
          case rel => exact ⟨1 + 1, by omega, by go_num, by rw [HZ.out]; exact HO.out.1, HO.out.2⟩
          case measure => simp [intOf]
        · rw [hbt] at hb
          have HZ : Hid (sel f (1 + 1) = sel f 1 ++ [tb.fls.getD 1 []]) := sel_one hbt
          clear hbt
          go_wp2_with (at_builtin; refine wpList_append_own _ rfl _ _ 24 rfl w.heap.size 9 i0 (.string ByteArray.empty) 1 16 Tryd.underlying24 hi hz0 hz1 hz2 rfl (by decide) _ _ _ rfl (HO.out.1.alloc _) ⟨wr.heap.size, 0, none⟩ 1 1 [.string (fn 1)] rfl rfl (ow.cells_new _ [.string (fn 1)] _) (by intro u hu; simp at hu; subst hu; rfl) (by unfold maxLen; have := HSL.out 1 (by omega); omega) (by have := HSL.out 1 (by omega); omega) (by have := HO.out.2.size; simp; omega) ?_; intro v' w3 hown3 hgrow3 hnil3)
          have hb3 := Below.grown (HO.out.2.alloc HO.out.2.size _) hgrow3 (by have := HO.out.2.size; simp; omega) (ow.own_lt HO.out.1)
          have HA : Hid (w3.ownsRow w.heap.size 9 1 v' (sel f (1 + 1)).length ((sel f (1 + 1)).map sp.tv) ∧ Below w.heap.size w w3) := ⟨by rw [HZ.out, List.map_append, List.length_append]; exact hown3, hb3⟩
          clear hown3 hgrow3 hnil3 hb3 hx1 HO
          go_wp2
          go_roundw
          case rel => exact ⟨1 + 1, by omega, by go_num, HA.out.1, HA.out.2⟩
          case measure => simp [intOf]
      · clear hx0 hx1 hx3 hx4
        have hb := ib2 f HF.out
        cases hbt : bit f 2
        · rw [hbt] at hb
          have HZ : Hid (sel f (2 + 1) = sel f 2) := sel_none hbt
          clear hbt
          go_wp2
          go_roundw
          case rel => exact ⟨2 + 1, by omega, by go_num, by rw [HZ.out]; exact HO.out.1, HO.out.2⟩
          case measure => simp [intOf]
        · rw [hbt] at hb
          have HZ : Hid (sel f (2 + 1) = sel f 2 ++ [tb.fls.getD 2 []]) := sel_one hbt
          clear hbt
          go_wp2_with (at_builtin; refine wpList_append_own _ rfl _ _ 24 rfl w.heap.size 9 i0 (.string ByteArray.empty) 1 16 Tryd.underlying24 hi hz0 hz1 hz2 rfl (by decide) _ _ _ rfl (HO.out.1.alloc _) ⟨wr.heap.size, 0, none⟩ 1 1 [.string (fn 2)] rfl rfl (ow.cells_new _ [.string (fn 2)] _) (by intro u hu; simp at hu; subst hu; rfl) (by unfold maxLen; have := HSL.out 2 (by omega); omega) (by have := HSL.out 2 (by omega); omega) (by have := HO.out.2.size; simp; omega) ?_; intro v' w3 hown3 hgrow3 hnil3)
          have hb3 := Below.grown (HO.out.2.alloc HO.out.2.size _) hgrow3 (by have := HO.out.2.size; simp; omega) (ow.own_lt HO.out.1)
          have HA : Hid (w3.ownsRow w.heap.size 9 1 v' (sel f (2 + 1)).length ((sel f (2 + 1)).map sp.tv) ∧ Below w.heap.size w w3) := ⟨by rw [HZ.out, List.map_append, List.length_append]; exact hown3, hb3⟩
          clear hown3 hgrow3 hnil3 hb3 hx2 HO
          go_wp2
          go_roundw
          case rel => exact ⟨2 + 1, by omega, by go_num, HA.out.1, HA.out.2⟩
          case measure => simp [intOf]
      · clear hx0 hx1 hx2 hx4
        have hb := ib3 f HF.out
        cases hbt : bit f 3
        · rw [hbt] at hb
          have HZ : Hid (sel f (3 + 1) = sel f 3) := sel_none hbt
          clear hbt
          go_wp2
          go_roundw
          case rel => exact ⟨3 + 1, by omega, by go_num, by rw [HZ.out]; exact HO.out.1, HO.out.2⟩
          case measure => simp [intOf]
        · rw [hbt] at hb
          have HZ : Hid (sel f (3 + 1) = sel f 3 ++ [tb.fls.getD 3 []]) := sel_one hbt
          clear hbt
          go_wp2_with (at_builtin; refine wpList_append_own _ rfl _ _ 24 rfl w.heap.size 9 i0 (.string ByteArray.empty) 1 16 Tryd.underlying24 hi hz0 hz1 hz2 rfl (by decide) _ _ _ rfl (HO.out.1.alloc _) ⟨wr.heap.size, 0, none⟩ 1 1 [.string (fn 3)] rfl rfl (ow.cells_new _ [.string (fn 3)] _) (by intro u hu; simp at hu; subst hu; rfl) (by unfold maxLen; have := HSL.out 3 (by omega); omega) (by have := HSL.out 3 (by omega); omega) (by have := HO.out.2.size; simp; omega) ?_; intro v' w3 hown3 hgrow3 hnil3)
          have hb3 := Below.grown (HO.out.2.alloc HO.out.2.size _) hgrow3 (by have := HO.out.2.size; simp; omega) (ow.own_lt HO.out.1)
          have HA : Hid (w3.ownsRow w.heap.size 9 1 v' (sel f (3 + 1)).length ((sel f (3 + 1)).map sp.tv) ∧ Below w.heap.size w w3) := ⟨by rw [HZ.out, List.map_append, List.length_append]; exact hown3, hb3⟩
          clear hown3 hgrow3 hnil3 hb3 hx3 HO
          go_wp2
          go_roundw
          case rel => exact ⟨3 + 1, by omega, by go_num, HA.out.1, HA.out.2⟩
          case measure => simp [intOf]
      · clear hx0 hx1 hx2 hx3
        have hb := ib4 f HF.out
        cases hbt : bit f 4
        · rw [hbt] at hb
          have HZ : Hid (sel f (4 + 1) = sel f 4) := sel_none hbt
          clear hbt
          go_wp2
          go_roundw
          case rel => exact ⟨4 + 1, by omega, by go_num, by rw [HZ.out]; exact HO.out.1, HO.out.2⟩
          case measure => simp [intOf]
        · rw [hbt] at hb
          have HZ : Hid (sel f (4 + 1) = sel f 4 ++ [tb.fls.getD 4 []]) := sel_one hbt
          clear hbt
          go_wp2_with (at_builtin; refine wpList_append_own _ rfl _ _ 24 rfl w.heap.size 9 i0 (.string ByteArray.empty) 1 16 Tryd.underlying24 hi hz0 hz1 hz2 rfl (by decide) _ _ _ rfl (HO.out.1.alloc _) ⟨wr.heap.size, 0, none⟩ 1 1 [.string (fn 4)] rfl rfl (ow.cells_new _ [.string (fn 4)] _) (by intro u hu; simp at hu; subst hu; rfl) (by unfold maxLen; have := HSL.out 4 (by omega); omega) (by have := HSL.out 4 (by omega); omega) (by have := HO.out.2.size; simp; omega) ?_; intro v' w3 hown3 hgrow3 hnil3)
          have hb3 := Below.grown (HO.out.2.alloc HO.out.2.size _) hgrow3 (by have := HO.out.2.size; simp; omega) (ow.own_lt HO.out.1)
          have HA : Hid (w3.ownsRow w.heap.size 9 1 v' (sel f (4 + 1)).length ((sel f (4 + 1)).map sp.tv) ∧ Below w.heap.size w w3) := ⟨by rw [HZ.out, List.map_append, List.length_append]; exact hown3, hb3⟩
          clear hown3 hgrow3 hnil3 hb3 hx4 HO
          go_wp2
          go_roundw
          case rel => exact ⟨4 + 1, by omega, by go_num, HA.out.1, HA.out.2⟩
          case measure => simp [intOf]
    · have hk5 : k = 5 := by omega
      subst hk5
      have hts := tx_size (f := f) hk
      have hlen : (sel f 5).length + lens (sel f 5) ≤ 1048576 := by have := sel_len f 5 (by omega); omega
      have hv : (sel f 5 = [] ∧ ∃ a cap, u4 = .slice a 0 cap) ∨ ∃ b cap, u4 = .slice (some ⟨b, 0, none⟩) (sel f 5).length cap ∧ (sel f 5).length ≤ cap ∧ b < wr.heap.size ∧ ∀ j, j < (sel f 5).length → wr.cell? ⟨b, j, none⟩ = some (.string ⟨((sel f 5).getD j []).toArray⟩) := by
        have h0 := hown
        obtain ⟨h1, h2⟩ := hown
        rcases h2 with ⟨e, h2⟩ | ⟨g, cap, cur, rfl, hb, c, d, e1⟩
        · exact .inl ⟨List.length_eq_zero_iff.1 h2, _, _, e⟩
        · refine .inr ⟨g, cap, rfl, d, (Array.getElem?_eq_some_iff.1 c).1, fun j hj => ?_⟩
          rw [h0.cellAt j (by omega), List.getElem?_map, List.getElem?_eq_getElem hj]
          simp [tv, List.getD_eq_getElem?_getD, hj]
      obtain ⟨aa, nn, cc, hvv⟩ : ∃ aa nn cc, u4 = Value.slice aa nn cc := by
        rcases hv with ⟨_, a, cap, e⟩ | ⟨b, cap, e, _⟩
        · exact ⟨_, _, _, e⟩
        · exact ⟨_, _, _, e⟩
      subst hvv
      have HJ : Hid (Calls Tryd.prog 27 #[.slice aa nn cc, .string ⟨#[32]⟩] wr fun e w' => e = .returned (.string (tx f 5)) ∧ Below wr.heap.size wr w') := join_any _ (sel f 5) 32 wr hv hlen
      clear hv hown hlen HIX
      generalize hT : tx f 5 = T at hts HJ
      have HT : Hid (tx f 5 = T) := hT
      clear hT
      go_wp2_with fail
      refine HJ.out.mono ?_
      rintro e w5 ⟨rfl, hb5⟩
      have b5 := hbw.trans (hb5.mono hbw.size)
      clear HJ hb5
      go_wp2
      go_ret2
      exact ⟨by rw [HT.out]; rfl, b5⟩
end Go.Proofs.YtejmfffapkmjoaaDoor.fg
