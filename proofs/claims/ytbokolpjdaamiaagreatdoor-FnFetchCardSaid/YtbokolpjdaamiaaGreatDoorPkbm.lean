/-
  Flags written as a text: the program's way.
  What a fetch tells of a mail: whether an item is asked for, and an item's text, the program's way.
-/
import Derived.Test.YtbokolpjdaamiaaGreatDoorPkbh
import Derived.Test.YtbokolpjdaamiaaGreatDoorPkbk
import Derived.Test.YtbokolpjdaamiaaGreatDoorPkbl
import Derived.Test.YtbokolpjdaamiaaGreatDoorPkbc
import Derived.Test.YtbokolpjdaamiaaGreatDoorPkbi

namespace Go.Proofs.YtbokolpjdaamiaaGreatDoor.fg
open Go.RowKit
open lo sl sp gr bl
set_option linter.unusedVariables false

theorem sel_none {f k : Nat} (h : bit f k = false) : sel f (k + 1) = sel f k := by rw [sel, if_neg (by rw [h]; simp), List.append_nil]
theorem sel_one {f k : Nat} (h : bit f k = true) : sel f (k + 1) = sel f k ++ [tb.fls.getD k []] := by rw [sel, if_pos h]
theorem areFlags_any (z : Int) (w : World) : Calls Tryz.prog 15 #[.int .i64 z] w fun e w' => e = .returned (.bool (decide (0 ≤ z ∧ z ≤ 31))) ∧ w' = w := by
  go_enter Tryz.func15, Tryz.ntmps15
  go_wp2
  all_goals (go_ret; exact ⟨ret_bool (by rw [Bool.eq_iff_iff]; simp; try omega), rfl⟩)
set_option maxHeartbeats 4000000 in
set_option maxRecDepth 100000 in
theorem implFT (z : Int) (w : World) (h : tb.TF w) : Calls Tryz.prog 63 #[.int .i64 z] w fun e w' => e = .returned (.tuple #[.string (FR z).1, .int .i64 (FR z).2]) ∧ Below w.heap.size w w' := by
  by_cases hz : 0 ≤ z ∧ z ≤ 31
  case neg =>
    have hd : decide (0 ≤ z ∧ z ≤ 31) = false := decide_eq_false hz
    rw [show FR z = (⟨#[]⟩, 4) from if_neg hz]
    clear hz h
    go_enter Tryz.func63, Tryz.ntmps63
    go_wp2_with fail
    refine (areFlags_any _ _).mono ?_
    rintro e w ⟨rfl, rfl⟩
    rw [hd]
    go_wp2
    go_ret2
    exact ⟨rfl, Below.refl _ _⟩
  obtain ⟨f, rfl⟩ : ∃ f : Nat, z = f := ⟨z.toNat, by omega⟩
  have hd : decide (0 ≤ (f : Int) ∧ (f : Int) ≤ 31) = true := decide_eq_true hz
  rw [show FR f = (FT f, 0) from by unfold FR; rw [if_pos hz]; rfl]
  have HF : Hid (f < 32) := (show f < 32 by omega)
  have hf0 : (0 : Int) ≤ (f : Int) := by omega
  have hf1 : (f : Int) < 32 := by omega
  have HSL : Hid (∀ k, k ≤ 5 → (sel f k).length ≤ 5) := fun k hk => by have := (sel_len f k hk).1; omega
  rw [FT_is]
  obtain ⟨t, fr, h⟩ := h
  obtain ⟨tt, htt⟩ : ∃ tt, tt = (tb.fls.map fun l => Value.string ⟨l.toArray⟩).toArray := ⟨_, rfl⟩
  rw [← htt] at h
  have HIX : Hid (∀ wx : World, (Instr.index 105 (.agg tt) (.int .i64 0)).run Tryz.prog wx = .ok (.string (fn 0)) wx ∧ (Instr.index 105 (.agg tt) (.int .i64 1)).run Tryz.prog wx = .ok (.string (fn 1)) wx ∧ (Instr.index 105 (.agg tt) (.int .i64 2)).run Tryz.prog wx = .ok (.string (fn 2)) wx ∧ (Instr.index 105 (.agg tt) (.int .i64 3)).run Tryz.prog wx = .ok (.string (fn 3)) wx ∧ (Instr.index 105 (.agg tt) (.int .i64 4)).run Tryz.prog wx = .ok (.string (fn 4)) wx) := by
    rw [htt]
    exact fun wx => ⟨ix0 wx, ix1 wx, ix2 wx, ix3 wx, ix4 wx⟩
  have hsz : (Tryz.prog.info? 105).map (·.size) = some tt.size := by rw [htt]; kernel_rfl
  obtain ⟨i0, hi, hz0, hz1, hz2⟩ := info_parts sp.infoStr
  have HH : Hid (w.heap[0]? = some (.cells tt t fr)) := h
  clear htt hz h
  go_enter Tryz.func63, Tryz.ntmps63
  go_wp2_with fail
  refine (areFlags_any _ _).mono ?_
  rintro e w ⟨rfl, rfl⟩
  rw [hd]
  clear hd
  have h := HH.out
  go_wp2_with (refine wpList_load_row rfl 105 _ rfl 0 rfl t tt fr _ h Tryz.underlying105 rfl hsz ?_)
  go_loopw [4, 11] (fun v i wr => ∃ k : Nat, k ≤ 5 ∧ i = .int .i64 k ∧ wr.ownsRow w.heap.size 9 1 v (sel f k).length ((sel f k).map sp.tv) ∧ Below w.heap.size w wr) (fun _ i _ => 5 - (intOf i).toNat)
  case atStart => exact ⟨0, Nat.zero_le _, rfl, World.ownsRow_nil _ _ _ _, Below.refl _ _⟩
  case round =>
    clear h hsz HH
    obtain ⟨k, hk, rfl, hown, hbw⟩ := hrel
    by_cases hlt : k < 5
    · obtain ⟨hx0, hx1, hx2, hx3, hx4⟩ := HIX.out wr
      obtain ⟨aa, nn, cc, hvv⟩ : ∃ aa nn cc, u4 = Value.slice aa nn cc := by
        rcases hown.2 with ⟨hv, _⟩ | ⟨g, cap, cur, hv, _⟩
        · exact ⟨_, _, _, hv⟩
        · exact ⟨_, _, _, hv⟩
      subst hvv
      have HO : Hid (wr.ownsRow w.heap.size 9 1 (.slice aa nn cc) (sel f k).length ((sel f k).map sp.tv) ∧ Below w.heap.size w wr) := ⟨hown, hbw⟩
      clear hown hbw
      have hc : k = 0 ∨ k = 1 ∨ k = 2 ∨ k = 3 ∨ k = 4 := by omega
      rcases hc with rfl | rfl | rfl | rfl | rfl
      · clear hx1 hx2 hx3 hx4
        have hb := ib0 f HF.out
        cases hbt : bit f 0
        · rw [hbt] at hb
          have HZ : Hid (sel f (0 + 1) = sel f 0) := sel_none hbt
          clear hbt
          go_wp2
          go_roundw
          case rel => exact ⟨0 + 1, by omega, by go_num, by rw [HZ.out]; exact HO.out.1, HO.out.2⟩
          case measure => simp [intOf]
        · rw [hbt] at hb
          have HZ : Hid (sel f (0 + 1) = sel f 0 ++ [tb.fls.getD 0 []]) := sel_one hbt
          clear hbt
          go_wp2_with (at_builtin; refine wpList_append_own _ rfl _ _ 33 rfl w.heap.size 9 i0 (.string ByteArray.empty) 1 16 Tryz.underlying33 hi hz0 hz1 hz2 rfl (by decide) _ _ _ rfl (HO.out.1.alloc _) ⟨wr.heap.size, 0, none⟩ 1 1 [.string (fn 0)] rfl rfl (ow.cells_new _ [.string (fn 0)] _) (by intro u hu; simp at hu; subst hu; rfl) (by unfold maxLen; have := HSL.out 0 (by omega); omega) (by have := HSL.out 0 (by omega); omega) (by have := HO.out.2.size; simp; omega) ?_; intro v' w3 hown3 hgrow3 hnil3)
          have hb3 := Below.grown (HO.out.2.alloc HO.out.2.size _) hgrow3 (by have := HO.out.2.size; simp; omega) (ow.own_lt HO.out.1)
          have HA : Hid (w3.ownsRow w.heap.size 9 1 v' (sel f (0 + 1)).length ((sel f (0 + 1)).map sp.tv) ∧ Below w.heap.size w w3) := ⟨by rw [HZ.out, List.map_append, List.length_append]; exact hown3, hb3⟩
          clear hown3 hgrow3 hnil3 hb3 hx0 HO
          go_wp2
          go_roundw
          case rel => exact ⟨0 + 1, by omega, by go_num, HA.out.1, HA.out.2⟩
          case measure => simp [intOf]
      · clear hx0 hx2 hx3 hx4
        have hb := ib1 f HF.out
        cases hbt : bit f 1
        · rw [hbt] at hb
          have HZ : Hid (sel f (1 + 1) = sel f 1) := sel_none hbt
          clear hbt
          go_wp2
          go_roundw
          case rel => exact ⟨1 + 1, by omega, by go_num, by rw [HZ.out]; exact HO.out.1, HO.out.2⟩
          case measure => simp [intOf]
        · rw [hbt] at hb
          have HZ : Hid (sel f (1 + 1) = sel f 1 ++ [tb.fls.getD 1 []]) := sel_one hbt
          clear hbt
          go_wp2_with (at_builtin; refine wpList_append_own _ rfl _ _ 33 rfl w.heap.size 9 i0 (.string ByteArray.empty) 1 16 Tryz.underlying33 hi hz0 hz1 hz2 rfl (by decide) _ _ _ rfl (HO.out.1.alloc _) ⟨wr.heap.size, 0, none⟩ 1 1 [.string (fn 1)] rfl rfl (ow.cells_new _ [.string (fn 1)] _) (by intro u hu; simp at hu; subst hu; rfl) (by unfold maxLen; have := HSL.out 1 (by omega); omega) (by have := HSL.out 1 (by omega); omega) (by have := HO.out.2.size; simp; omega) ?_; intro v' w3 hown3 hgrow3 hnil3)
          have hb3 := Below.grown (HO.out.2.alloc HO.out.2.size _) hgrow3 (by have := HO.out.2.size; simp; omega) (ow.own_lt HO.out.1)
          have HA : Hid (w3.ownsRow w.heap.size 9 1 v' (sel f (1 + 1)).length ((sel f (1 + 1)).map sp.tv) ∧ Below w.heap.size w w3) := ⟨by rw [HZ.out, List.map_append, List.length_append]; exact hown3, hb3⟩
          clear hown3 hgrow3 hnil3 hb3 hx1 HO
          go_wp2
          go_roundw
          case rel => exact ⟨1 + 1, by omega, by go_num, HA.out.1, HA.out.2⟩
          case measure => simp [intOf]
      · clear hx0 hx1 hx3 hx4
        have hb := ib2 f HF.out
        cases hbt : bit f 2
        · rw [hbt] at hb
          have HZ : Hid (sel f (2 + 1) = sel f 2) := sel_none hbt
          clear hbt
          go_wp2
          go_roundw
          case rel => exact ⟨2 + 1, by omega, by go_num, by rw [HZ.out]; exact HO.out.1, HO.out.2⟩
          case measure => simp [intOf]
        · rw [hbt] at hb
          have HZ : Hid (sel f (2 + 1) = sel f 2 ++ [tb.fls.getD 2 []]) := sel_one hbt
          clear hbt
          go_wp2_with (at_builtin; refine wpList_append_own _ rfl _ _ 33 rfl w.heap.size 9 i0 (.string ByteArray.empty) 1 16 Tryz.underlying33 hi hz0 hz1 hz2 rfl (by decide) _ _ _ rfl (HO.out.1.alloc _) ⟨wr.heap.size, 0, none⟩ 1 1 [.string (fn 2)] rfl rfl (ow.cells_new _ [.string (fn 2)] _) (by intro u hu; simp at hu; subst hu; rfl) (by unfold maxLen; have := HSL.out 2 (by omega); omega) (by have := HSL.out 2 (by omega); omega) (by have := HO.out.2.size; simp; omega) ?_; intro v' w3 hown3 hgrow3 hnil3)
          have hb3 := Below.grown (HO.out.2.alloc HO.out.2.size _) hgrow3 (by have := HO.out.2.size; simp; omega) (ow.own_lt HO.out.1)
          have HA : Hid (w3.ownsRow w.heap.size 9 1 v' (sel f (2 + 1)).length ((sel f (2 + 1)).map sp.tv) ∧ Below w.heap.size w w3) := ⟨by rw [HZ.out, List.map_append, List.length_append]; exact hown3, hb3⟩
          clear hown3 hgrow3 hnil3 hb3 hx2 HO
          go_wp2
          go_roundw
          case rel => exact ⟨2 + 1, by omega, by go_num, HA.out.1, HA.out.2⟩
          case measure => simp [intOf]
      · clear hx0 hx1 hx2 hx4
        have hb := ib3 f HF.out
        cases hbt : bit f 3
        · rw [hbt] at hb
          have HZ : Hid (sel f (3 + 1) = sel f 3) := sel_none hbt
          clear hbt
          go_wp2
          go_roundw
          case rel => exact ⟨3 + 1, by omega, by go_num, by rw [HZ.out]; exact HO.out.1, HO.out.2⟩
          case measure => simp [intOf]
        · rw [hbt] at hb
          have HZ : Hid (sel f (3 + 1) = sel f 3 ++ [tb.fls.getD 3 []]) := sel_one hbt
          clear hbt
          go_wp2_with (at_builtin; refine wpList_append_own _ rfl _ _ 33 rfl w.heap.size 9 i0 (.string ByteArray.empty) 1 16 Tryz.underlying33 hi hz0 hz1 hz2 rfl (by decide) _ _ _ rfl (HO.out.1.alloc _) ⟨wr.heap.size, 0, none⟩ 1 1 [.string (fn 3)] rfl rfl (ow.cells_new _ [.string (fn 3)] _) (by intro u hu; simp at hu; subst hu; rfl) (by unfold maxLen; have := HSL.out 3 (by omega); omega) (by have := HSL.out 3 (by omega); omega) (by have := HO.out.2.size; simp; omega) ?_; intro v' w3 hown3 hgrow3 hnil3)
          have hb3 := Below.grown (HO.out.2.alloc HO.out.2.size _) hgrow3 (by have := HO.out.2.size; simp; omega) (ow.own_lt HO.out.1)
          have HA : Hid (w3.ownsRow w.heap.size 9 1 v' (sel f (3 + 1)).length ((sel f (3 + 1)).map sp.tv) ∧ Below w.heap.size w w3) := ⟨by rw [HZ.out, List.map_append, List.length_append]; exact hown3, hb3⟩
          clear hown3 hgrow3 hnil3 hb3 hx3 HO
          go_wp2
          go_roundw
          case rel => exact ⟨3 + 1, by omega, by go_num, HA.out.1, HA.out.2⟩
          case measure => simp [intOf]
      · clear hx0 hx1 hx2 hx3
        have hb := ib4 f HF.out
        cases hbt : bit f 4
        · rw [hbt] at hb
          have HZ : Hid (sel f (4 + 1) = sel f 4) := sel_none hbt
          clear hbt
          go_wp2
          go_roundw
          case rel => exact ⟨4 + 1, by omega, by go_num, by rw [HZ.out]; exact HO.out.1, HO.out.2⟩
          case measure => simp [intOf]
        · rw [hbt] at hb
          have HZ : Hid (sel f (4 + 1) = sel f 4 ++ [tb.fls.getD 4 []]) := sel_one hbt
          clear hbt
          go_wp2_with (at_builtin; refine wpList_append_own _ rfl _ _ 33 rfl w.heap.size 9 i0 (.string ByteArray.empty) 1 16 Tryz.underlying33 hi hz0 hz1 hz2 rfl (by decide) _ _ _ rfl (HO.out.1.alloc _) ⟨wr.heap.size, 0, none⟩ 1 1 [.string (fn 4)] rfl rfl (ow.cells_new _ [.string (fn 4)] _) (by intro u hu; simp at hu; subst hu; rfl) (by unfold maxLen; have := HSL.out 4 (by omega); omega) (by have := HSL.out 4 (by omega); omega) (by have := HO.out.2.size; simp; omega) ?_; intro v' w3 hown3 hgrow3 hnil3)
          have hb3 := Below.grown (HO.out.2.alloc HO.out.2.size _) hgrow3 (by have := HO.out.2.size; simp; omega) (ow.own_lt HO.out.1)
          have HA : Hid (w3.ownsRow w.heap.size 9 1 v' (sel f (4 + 1)).length ((sel f (4 + 1)).map sp.tv) ∧ Below w.heap.size w w3) := ⟨by rw [HZ.out, List.map_append, List.length_append]; exact hown3, hb3⟩
          clear hown3 hgrow3 hnil3 hb3 hx4 HO
          go_wp2
          go_roundw
          case rel => exact ⟨4 + 1, by omega, by go_num, HA.out.1, HA.out.2⟩
          case measure => simp [intOf]
    · have hk5 : k = 5 := by omega
      subst hk5
      have hts := tx_size (f := f) hk
      have hlen : (sel f 5).length + lens (sel f 5) ≤ 1048576 := by have := sel_len f 5 (by omega); omega
      have hv : (sel f 5 = [] ∧ ∃ a cap, u4 = .slice a 0 cap) ∨ ∃ b cap, u4 = .slice (some ⟨b, 0, none⟩) (sel f 5).length cap ∧ (sel f 5).length ≤ cap ∧ b < wr.heap.size ∧ ∀ j, j < (sel f 5).length → wr.cell? ⟨b, j, none⟩ = some (.string ⟨((sel f 5).getD j []).toArray⟩) := by
        have h0 := hown
        obtain ⟨h1, h2⟩ := hown
        rcases h2 with ⟨e, h2⟩ | ⟨g, cap, cur, rfl, hb, c, d, e1⟩
        · exact .inl ⟨List.length_eq_zero_iff.1 h2, _, _, e⟩
        · refine .inr ⟨g, cap, rfl, d, (Array.getElem?_eq_some_iff.1 c).1, fun j hj => ?_⟩
          rw [h0.cellAt j (by omega), List.getElem?_map, List.getElem?_eq_getElem hj]
          simp [tv, List.getD_eq_getElem?_getD, hj]
      obtain ⟨aa, nn, cc, hvv⟩ : ∃ aa nn cc, u4 = Value.slice aa nn cc := by
        rcases hv with ⟨_, a, cap, e⟩ | ⟨b, cap, e, _⟩
        · exact ⟨_, _, _, e⟩
        · exact ⟨_, _, _, e⟩
      subst hvv
      have HJ : Hid (Calls Tryz.prog 38 #[.slice aa nn cc, .string ⟨#[32]⟩] wr fun e w' => e = .returned (.string (tx f 5)) ∧ Below wr.heap.size wr w') := join_any _ (sel f 5) 32 wr hv hlen
      clear hv hown hlen HIX
      generalize hT : tx f 5 = T at hts HJ
      have HT : Hid (tx f 5 = T) := hT
      clear hT
      go_wp2_with fail
      refine HJ.out.mono ?_
      rintro e w5 ⟨rfl, hb5⟩
      have b5 := hbw.trans (hb5.mono hbw.size)
      clear HJ hb5
      go_wp2
      go_ret2
      exact ⟨by rw [HT.out]; rfl, b5⟩
end Go.Proofs.YtbokolpjdaamiaaGreatDoor.fg

namespace Go.Proofs.YtbokolpjdaamiaaGreatDoor.fq
open Go.RowKit
open gr bl
open ky (TextsAt nt)
set_option linter.unusedVariables false

theorem heap_new (w : World) (o : Obj) : (w.alloc o).heap[w.heap.size]? = some o := (MapKept.heap_alloc w _).1
def hasN (is : List It) (l : B) : Bool := is.any fun i => decide (nmOf i = l)
theorem hasN_yes {is : List It} {l : B} {k : Nat} (h : k < is.length) (e : nmOf (is.getD k .fl) = l) : hasN is l = true := by
  unfold hasN
  rw [List.any_eq_true]
  refine ⟨is[k], List.getElem_mem h, decide_eq_true ?_⟩
  rw [← e, List.getD_eq_getElem?_getD, List.getElem?_eq_getElem h]
  rfl
theorem hasN_no {is : List It} {l : B} (h : ∀ j, j < is.length → nmOf (is.getD j .fl) ≠ l) : hasN is l = false := by
  unfold hasN
  rw [List.any_eq_false]
  intro i hi
  obtain ⟨j, hj, rfl⟩ := List.getElem_of_mem hi
  have := h j hj
  rw [List.getD_eq_getElem?_getD, List.getElem?_eq_getElem hj] at this
  simpa using this
theorem ret_bool' {a b : Bool} (h : a = b) : (Ending.returned (.bool a)) = .returned (.bool b) := by rw [h]

set_option maxHeartbeats 1000000 in
set_option maxRecDepth 100000 in
theorem hit_any (i : It) (l : B) (g : Nat) (w : World) (hg : w.cell? ⟨g, 0, none⟩ = some (.string ⟨l.toArray⟩)) :
    Calls Tryz.prog 40 #[.agg #[.string (nmB i), .string (paB i)], .pointer (some ⟨g, 0, none⟩)] w fun e w' => e = .returned (.bool (decide (nmOf i = l))) ∧ Below w.heap.size w w' := by
  have HE : Hid (((nmB i).toList == (⟨l.toArray⟩ : ByteArray).toList) = decide (nmOf i = l)) := (show _ = _ by rw [Lib.toList_data (⟨l.toArray⟩ : ByteArray)]; exact tl_of (nmOf i) l)
  generalize nmB i = X at HE ⊢
  generalize paB i = Y
  generalize (⟨l.toArray⟩ : ByteArray) = L at HE hg
  have hb : Below w.heap.size w (w.alloc (.cells #[.string X, .string Y] 63)) := (Below.refl _ _).alloc (Nat.le_refl _) _
  have k1 := kq hb hg
  have k3 : (w.alloc (.cells #[.string X, .string Y] 63)).cell? ⟨w.heap.size, 0, none⟩ = some (.string X) := by
    rw [cell_of_row _ _ _ _ _ _ (heap_new w _)]; rfl
  clear hg
  go_enter Tryz.func40, Tryz.ntmps40
  go_wp2_with fail
  generalize w.alloc _ = w0 at hb k1 k3 ⊢
  go_wp2
  go_ret
  exact ⟨ret_bool' HE.out, hb⟩

set_option maxHeartbeats 2000000 in
set_option maxRecDepth 100000 in
theorem index_any (v : Value) (is : List It) (l : B) (g : Nat) (w : World) (h : ItAt w v is) (hg : w.cell? ⟨g, 0, none⟩ = some (.string ⟨l.toArray⟩)) (hl : is.length ≤ 1048576) :
    Calls Tryz.prog 69 #[v, .func (Fn.func 40) #[] #[.pointer (some ⟨g, 0, none⟩)]] w fun e w' => (∃ r : Int, e = .returned (.int .i64 r) ∧ decide (0 ≤ r) = hasN is l) ∧ Below w.heap.size w w' := by
  obtain ⟨b, off, cap, rfl, h⟩ := h
  obtain ⟨m, hm⟩ : ∃ m, m = is.length := ⟨_, rfl⟩
  have HM : Hid (m = is.length) := hm
  have HH : Hid (∀ j, j < is.length → w.cell? ⟨b, off + j * 2, none⟩ = some (.string (nmB (is.getD j .fl))) ∧ w.cell? ⟨b, off + j * 2 + 1, none⟩ = some (.string (paB (is.getD j .fl)))) := h
  have HG : Hid (w.cell? ⟨g, 0, none⟩ = some (.string ⟨l.toArray⟩)) := hg
  rw [← hm] at hl ⊢
  clear h hm hg
  go_enter Tryz.func69, Tryz.ntmps69
  go_wp2
  go_loopw [8] (fun i wr => ∃ k : Nat, k ≤ m ∧ i = .int .i64 k ∧ (∀ j, j < k → nmOf (is.getD j .fl) ≠ l) ∧ Below w.heap.size w wr) (fun i _ => m - (intOf i).toNat)
  case atStart => exact ⟨0, Nat.zero_le _, rfl, fun j hj => absurd hj (Nat.not_lt_zero _), Below.refl _ _⟩
  case round =>
    obtain ⟨k, hk, rfl, hno, hbw⟩ := hrel
    have HNO : Hid (∀ j, j < k → nmOf (is.getD j .fl) ≠ l) := hno
    clear hno
    by_cases hlt : k < m
    · have hka : k < is.length := by rw [← HM.out]; exact hlt
      have HKA : Hid (k < is.length) := hka
      obtain ⟨v0, v1⟩ := HH.out k hka
      have c0 := kq hbw v0
      have c1 := kq hbw v1
      clear hka v0 v1
      generalize hx : is.getD k .fl = i at c0 c1
      have HX : Hid (is.getD k .fl = i) := hx
      clear hx
      have HHI : Hid (∀ W, W.cell? ⟨g, 0, none⟩ = some (.string ⟨l.toArray⟩) → Calls Tryz.prog 40 #[.agg #[.string (nmB i), .string (paB i)], .pointer (some ⟨g, 0, none⟩)] W fun e w' => e = .returned (.bool (decide (nmOf i = l))) ∧ Below W.heap.size W w') := fun W hW => hit_any i l g W hW
      generalize nmB i = X at c0 HHI
      generalize paB i = Y at c1 HHI
      have HC : Hid (wr.cell? ⟨g, 0, none⟩ = some (.string ⟨l.toArray⟩)) := kq hbw HG.out
      have hlt' : (k : Int) < (m : Int) := by omega
      go_wp2_with fail
      refine (HHI.out wr HC.out).mono ?_
      rintro e w2 ⟨rfl, hb2⟩
      have b2 := hbw.trans (hb2.mono hbw.size)
      clear hb2 hbw c0 c1 HC HHI
      by_cases hd : nmOf i = l
      · have HE : Hid (hasN is l = true) := hasN_yes HKA.out (by rw [HX.out]; exact hd)
        rw [decide_eq_true hd]
        clear hd
        go_wp2
        go_ret
        exact ⟨⟨k, rfl, by rw [HE.out]; exact decide_eq_true (by omega)⟩, b2⟩
      · have HE : Hid (∀ j, j < k + 1 → nmOf (is.getD j .fl) ≠ l) := fun j hj => by
          by_cases e : j = k
          · subst e; rw [HX.out]; exact hd
          · exact HNO.out j (by omega)
        rw [decide_eq_false hd]
        clear hd
        go_wp2
        go_roundw
        case rel => exact ⟨k + 1, by omega, by go_num, HE.out, b2⟩
        case measure => simp [intOf]; omega
    · have HE : Hid (hasN is l = false) := hasN_no fun j hj => HNO.out j (by have := HM.out; omega)
      go_wp2
      go_ret
      exact ⟨⟨-1, rfl, by rw [HE.out]; rfl⟩, hbw⟩

set_option maxHeartbeats 1000000 in
set_option maxRecDepth 100000 in
theorem contains_any (v : Value) (is : List It) (l : B) (g : Nat) (w : World) (h : ItAt w v is) (hg : w.cell? ⟨g, 0, none⟩ = some (.string ⟨l.toArray⟩)) (hl : is.length ≤ 1048576) :
    Calls Tryz.prog 39 #[v, .func (Fn.func 40) #[] #[.pointer (some ⟨g, 0, none⟩)]] w fun e w' => e = .returned (.bool (hasN is l)) ∧ Below w.heap.size w w' := by
  have HA := h
  obtain ⟨b, off, cap, rfl, h⟩ := h
  clear h
  have HA : Hid (ItAt w (.slice (some ⟨b, off, none⟩) is.length cap) is) := HA
  have HG : Hid (w.cell? ⟨g, 0, none⟩ = some (.string ⟨l.toArray⟩)) := hg
  clear hg
  go_enter Tryz.func39, Tryz.ntmps39
  go_wp2_with fail
  refine (index_any _ is l g w HA.out HG.out hl).mono ?_
  rintro e w2 ⟨⟨r, rfl, hr⟩, hb2⟩
  have HR : Hid (decide (0 ≤ r) = hasN is l) := hr
  clear hr HA HG
  go_wp2
  all_goals (go_ret; exact ⟨ret_bool' HR.out, hb2⟩)

set_option maxHeartbeats 1000000 in
set_option maxRecDepth 100000 in
theorem has_any (v : Value) (is : List It) (l : B) (w : World) (h : ItAt w v is) (hl : is.length ≤ 1048576) :
    Calls Tryz.prog 19 #[v, .string ⟨l.toArray⟩] w fun e w' => e = .returned (.bool (hasN is l)) ∧ Below w.heap.size w w' := by
  have b0 : Below w.heap.size w (w.alloc (.cells #[.string ⟨l.toArray⟩] 9)) := (Below.refl _ _).alloc (Nat.le_refl _) _
  have HA := it_below h b0
  have k0 : (w.alloc (.cells #[.string ⟨l.toArray⟩] 9)).cell? ⟨w.heap.size, 0, none⟩ = some (.string ⟨l.toArray⟩) := by
    rw [cell_of_row _ _ _ _ _ _ (heap_new w _)]; rfl
  obtain ⟨b, off, cap, rfl, h⟩ := h
  clear h
  have HA : Hid (ItAt (w.alloc (.cells #[.string ⟨l.toArray⟩] 9)) (.slice (some ⟨b, off, none⟩) is.length cap) is) := HA
  have HK : Hid ((w.alloc (.cells #[.string ⟨l.toArray⟩] 9)).cell? ⟨w.heap.size, 0, none⟩ = some (.string ⟨l.toArray⟩)) := k0
  have HC : Hid (∀ W, ItAt W (.slice (some ⟨b, off, none⟩) is.length cap) is → W.cell? ⟨w.heap.size, 0, none⟩ = some (.string ⟨l.toArray⟩) → Calls Tryz.prog 39 #[.slice (some ⟨b, off, none⟩) is.length cap, .func (Fn.func 40) #[] #[.pointer (some ⟨w.heap.size, 0, none⟩)]] W fun e w' => e = .returned (.bool (hasN is l)) ∧ Below W.heap.size W w') := fun W h1 h2 => contains_any _ is l _ W h1 h2 hl
  clear k0
  go_enter Tryz.func19, Tryz.ntmps19
  go_wp2_with fail
  generalize World.alloc _ _ = w0 at b0 HA HK ⊢
  refine (HC.out w0 HA.out HK.out).mono ?_
  rintro e w2 ⟨rfl, hb2⟩
  have b3 := b0.trans (hb2.mono b0.size)
  clear hb2 HA HK b0
  go_wp2
  go_ret
  exact ⟨rfl, b3⟩
end Go.Proofs.YtbokolpjdaamiaaGreatDoor.fq
