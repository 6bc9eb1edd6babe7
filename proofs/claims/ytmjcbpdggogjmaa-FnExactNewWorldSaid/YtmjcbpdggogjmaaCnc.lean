/-
  Connections that are closed, held against each other; marks of four connections.
-/
import Derived.Test.YtmjcbpdggogjmaaCnb
import Derived.Test.YtmjcbpdggogjmaaGrw
namespace Go.Proofs.Ytmjcbpdggogjmaa.cn
open Go.ChangeShapes Go.WideShapes Go.ChangeAt Go.RowKit Go.Deep Go.Joins
open en lg gr mk
set_option linter.unusedVariables false

theorem zf_at (k r : Nat) (h : r < 9) : zf (k * 9 + r) = zr r := by
  unfold zf
  congr 1
  omega
set_option maxHeartbeats 1000000 in
set_option maxRecDepth 100000 in
theorem eqInts_none (w : World) : Calls Try.prog 37 #[.slice none 0 0, .slice none 0 0] w fun e w' => e = .returned (.bool true) ∧ w' = w := by
  go_enter Try.func37, Try.ntmps37
  go_wp2
  refine wp_loop_rounds 1 ?_
  rw [rounds_succ]
  go_wp2
  go_ret
  exact ⟨rfl, rfl⟩
set_option maxHeartbeats 1000000 in
set_option maxRecDepth 100000 in
theorem eqImap_zero (w : World) : Calls Try.prog 29 #[.agg #[.int .i64 0, .string ⟨#[]⟩, .bool false, .slice none 0 0], .agg #[.int .i64 0, .string ⟨#[]⟩, .bool false, .slice none 0 0]] w fun e w' => e = .returned (.bool true) ∧ Below w.heap.size w w' := by
  have b0 := (new_below w 51 #[.int .i64 0, .string ⟨#[]⟩, .bool false, .slice none 0 0]).alloc (by simp) (.cells #[.int .i64 0, .string ⟨#[]⟩, .bool false, .slice none 0 0] 51)
  go_enter Try.func29, Try.ntmps29
  go_wp2_with fail
  refine (eqInts_none _).mono ?_
  rintro e w2 ⟨rfl, rfl⟩
  go_wp2
  go_ret
  exact ⟨rfl, b0⟩
set_option maxHeartbeats 1000000 in
set_option maxRecDepth 100000 in
theorem eqNntp_zero (w : World) : Calls Try.prog 30 #[.agg #[.string ⟨#[]⟩, .int .i64 0, .bool false], .agg #[.string ⟨#[]⟩, .int .i64 0, .bool false]] w fun e w' => e = .returned (.bool true) ∧ Below w.heap.size w w' := by
  have b0 := (new_below w 53 #[.string ⟨#[]⟩, .int .i64 0, .bool false]).alloc (by simp) (.cells #[.string ⟨#[]⟩, .int .i64 0, .bool false] 53)
  go_enter Try.func30, Try.ntmps30
  go_wp2
  go_ret
  exact ⟨rfl, b0⟩
set_option maxHeartbeats 1000000 in
set_option maxRecDepth 100000 in
theorem eqConn_zero (w : World) : Calls Try.prog 22 #[zv, zv] w fun e w' => e = .returned (.bool true) ∧ Below w.heap.size w w' := by
  unfold zv
  have b0 := (new_below w 55 #[.int .i64 0, .string ⟨#[]⟩, .int .i64 0, .string ⟨#[]⟩, .bool false, .slice none 0 0, .string ⟨#[]⟩, .int .i64 0, .bool false]).alloc (by simp) (.cells #[.int .i64 0, .string ⟨#[]⟩, .int .i64 0, .string ⟨#[]⟩, .bool false, .slice none 0 0, .string ⟨#[]⟩, .int .i64 0, .bool false] 55)
  have hA : ((w.alloc (.cells #[.int .i64 0, .string ⟨#[]⟩, .int .i64 0, .string ⟨#[]⟩, .bool false, .slice none 0 0, .string ⟨#[]⟩, .int .i64 0, .bool false] 55)).alloc (.cells #[.int .i64 0, .string ⟨#[]⟩, .int .i64 0, .string ⟨#[]⟩, .bool false, .slice none 0 0, .string ⟨#[]⟩, .int .i64 0, .bool false] 55)).heap[w.heap.size]? = some (.cells #[.int .i64 0, .string ⟨#[]⟩, .int .i64 0, .string ⟨#[]⟩, .bool false, .slice none 0 0, .string ⟨#[]⟩, .int .i64 0, .bool false] 55 (0, 0)) := by
    show ((w.heap.push _).push _)[w.heap.size]? = _
    simp [Array.getElem?_push]
  have hB : ((w.alloc (.cells #[.int .i64 0, .string ⟨#[]⟩, .int .i64 0, .string ⟨#[]⟩, .bool false, .slice none 0 0, .string ⟨#[]⟩, .int .i64 0, .bool false] 55)).alloc (.cells #[.int .i64 0, .string ⟨#[]⟩, .int .i64 0, .string ⟨#[]⟩, .bool false, .slice none 0 0, .string ⟨#[]⟩, .int .i64 0, .bool false] 55)).heap[w.heap.size + 1]? = some (.cells #[.int .i64 0, .string ⟨#[]⟩, .int .i64 0, .string ⟨#[]⟩, .bool false, .slice none 0 0, .string ⟨#[]⟩, .int .i64 0, .bool false] 55 (0, 0)) := by
    show ((w.heap.push _).push _)[w.heap.size + 1]? = _
    rw [Array.getElem?_push, if_pos (by simp)]
  go_enter Try.func22, Try.ntmps22
  go_wp2_with fail
  generalize World.alloc _ _ = w0 at b0 hA hB ⊢
  refine (eqImap_zero _).mono ?_
  rintro e w2 ⟨rfl, b2⟩
  have hA2 := (b2.block _ (Array.getElem?_eq_some_iff.1 hA).1).trans hA
  have hB2 := (b2.block _ (Array.getElem?_eq_some_iff.1 hB).1).trans hB
  have b3 := b0.trans (b2.mono b0.size)
  clear b0 b2 hA hB
  have a6 : w2.cell? ⟨w.heap.size, 0 + 6, none⟩ = some (.string ⟨#[]⟩) := by rw [cell_of_row w2 _ _ _ _ _ hA2]; rfl
  have a7 : w2.cell? ⟨w.heap.size, 0 + 6 + 1, none⟩ = some (.int .i64 0) := by rw [cell_of_row w2 _ _ _ _ _ hA2]; rfl
  have a8 : w2.cell? ⟨w.heap.size, 0 + 6 + 2, none⟩ = some (.bool false) := by rw [cell_of_row w2 _ _ _ _ _ hA2]; rfl
  have c6 : w2.cell? ⟨w.heap.size + 1, 0 + 6, none⟩ = some (.string ⟨#[]⟩) := by rw [cell_of_row w2 _ _ _ _ _ hB2]; rfl
  have c7 : w2.cell? ⟨w.heap.size + 1, 0 + 6 + 1, none⟩ = some (.int .i64 0) := by rw [cell_of_row w2 _ _ _ _ _ hB2]; rfl
  have c8 : w2.cell? ⟨w.heap.size + 1, 0 + 6 + 2, none⟩ = some (.bool false) := by rw [cell_of_row w2 _ _ _ _ _ hB2]; rfl
  clear hA2 hB2
  go_wp2_with fail
  refine (eqNntp_zero _).mono ?_
  rintro e w3 ⟨rfl, b4⟩
  have b5 := b3.trans (b4.mono b3.size)
  clear b3 b4 a6 a7 a8 c6 c7 c8
  go_wp2
  go_ret
  exact ⟨rfl, b5⟩

set_option maxHeartbeats 2000000 in
set_option maxRecDepth 100000 in
theorem eqConnS_zero (a b : Nat) (w : World) (ha : Row w a zf) (hb : Row w b zf) : Calls Try.prog 14 #[.slice (some ⟨a, 0, none⟩) 4 4, .slice (some ⟨b, 0, none⟩) 4 4] w fun e w' => e = .returned (.bool true) ∧ Below w.heap.size w w' := by
  have HA : Hid (Row w a zf) := ha
  have HB : Hid (Row w b zf) := hb
  clear ha hb
  go_enter Try.func14, Try.ntmps14
  go_wp2
  go_loopw [5] (fun i wr => ∃ k : Nat, k ≤ 4 ∧ i = .int .i64 k ∧ Below w.heap.size w wr) (fun i _ => 4 - (intOf i).toNat)
  case atStart => exact ⟨0, Nat.zero_le _, rfl, Below.refl _ _⟩
  case round =>
    obtain ⟨k, hk, rfl, hbw⟩ := hrel
    by_cases hlt : k < 4
    · have hA := HA.out.below hbw
      have hB := HB.out.below hbw
      have HE : Hid (∀ y : Ext wr, Calls Try.prog 22 #[.agg #[.int .i64 0, .string ⟨#[]⟩, .int .i64 0, .string ⟨#[]⟩, .bool false, .slice none 0 0, .string ⟨#[]⟩, .int .i64 0, .bool false], .agg #[.int .i64 0, .string ⟨#[]⟩, .int .i64 0, .string ⟨#[]⟩, .bool false, .slice none 0 0, .string ⟨#[]⟩, .int .i64 0, .bool false]] (gw y) fun e w' => e = .returned (.bool true) ∧ Below (gw y).heap.size (gw y) w') := fun y => eqConn_zero (gw y)
      have x0 : wr.cell? ⟨a, k * 9, none⟩ = some (.int .i64 0) := (hA.cell (k * 9 + 0) (by omega)).trans (congrArg some (zf_at k 0 (by omega)))
      have x1 : wr.cell? ⟨a, k * 9 + 1, none⟩ = some (.string ⟨#[]⟩) := (hA.cell (k * 9 + 1) (by omega)).trans (congrArg some (zf_at k 1 (by omega)))
      have x2 : wr.cell? ⟨a, k * 9 + 2, none⟩ = some (.int .i64 0) := (hA.cell (k * 9 + 2) (by omega)).trans (congrArg some (zf_at k 2 (by omega)))
      have x3 : wr.cell? ⟨a, k * 9 + 3, none⟩ = some (.string ⟨#[]⟩) := (hA.cell (k * 9 + 3) (by omega)).trans (congrArg some (zf_at k 3 (by omega)))
      have x4 : wr.cell? ⟨a, k * 9 + 4, none⟩ = some (.bool false) := (hA.cell (k * 9 + 4) (by omega)).trans (congrArg some (zf_at k 4 (by omega)))
      have x5 : wr.cell? ⟨a, k * 9 + 5, none⟩ = some (.slice none 0 0) := (hA.cell (k * 9 + 5) (by omega)).trans (congrArg some (zf_at k 5 (by omega)))
      have x6 : wr.cell? ⟨a, k * 9 + 6, none⟩ = some (.string ⟨#[]⟩) := (hA.cell (k * 9 + 6) (by omega)).trans (congrArg some (zf_at k 6 (by omega)))
      have x7 : wr.cell? ⟨a, k * 9 + 7, none⟩ = some (.int .i64 0) := (hA.cell (k * 9 + 7) (by omega)).trans (congrArg some (zf_at k 7 (by omega)))
      have x8 : wr.cell? ⟨a, k * 9 + 8, none⟩ = some (.bool false) := (hA.cell (k * 9 + 8) (by omega)).trans (congrArg some (zf_at k 8 (by omega)))
      have y0 : wr.cell? ⟨b, k * 9, none⟩ = some (.int .i64 0) := (hB.cell (k * 9 + 0) (by omega)).trans (congrArg some (zf_at k 0 (by omega)))
      have y1 : wr.cell? ⟨b, k * 9 + 1, none⟩ = some (.string ⟨#[]⟩) := (hB.cell (k * 9 + 1) (by omega)).trans (congrArg some (zf_at k 1 (by omega)))
      have y2 : wr.cell? ⟨b, k * 9 + 2, none⟩ = some (.int .i64 0) := (hB.cell (k * 9 + 2) (by omega)).trans (congrArg some (zf_at k 2 (by omega)))
      have y3 : wr.cell? ⟨b, k * 9 + 3, none⟩ = some (.string ⟨#[]⟩) := (hB.cell (k * 9 + 3) (by omega)).trans (congrArg some (zf_at k 3 (by omega)))
      have y4 : wr.cell? ⟨b, k * 9 + 4, none⟩ = some (.bool false) := (hB.cell (k * 9 + 4) (by omega)).trans (congrArg some (zf_at k 4 (by omega)))
      have y5 : wr.cell? ⟨b, k * 9 + 5, none⟩ = some (.slice none 0 0) := (hB.cell (k * 9 + 5) (by omega)).trans (congrArg some (zf_at k 5 (by omega)))
      have y6 : wr.cell? ⟨b, k * 9 + 6, none⟩ = some (.string ⟨#[]⟩) := (hB.cell (k * 9 + 6) (by omega)).trans (congrArg some (zf_at k 6 (by omega)))
      have y7 : wr.cell? ⟨b, k * 9 + 7, none⟩ = some (.int .i64 0) := (hB.cell (k * 9 + 7) (by omega)).trans (congrArg some (zf_at k 7 (by omega)))
      have y8 : wr.cell? ⟨b, k * 9 + 8, none⟩ = some (.bool false) := (hB.cell (k * 9 + 8) (by omega)).trans (congrArg some (zf_at k 8 (by omega)))
      clear hA hB
      have hlt' : (k : Int) < 4 := by omega
      have hk0 : (0 : Int) ≤ (k : Int) := by omega
      go_wp2_with fail
      have ne := ext_some wr
      have x0 := fun y : Ext wr => gw_cell y x0
      have x1 := fun y : Ext wr => gw_cell y x1
      have x2 := fun y : Ext wr => gw_cell y x2
      have x3 := fun y : Ext wr => gw_cell y x3
      have x4 := fun y : Ext wr => gw_cell y x4
      have x5 := fun y : Ext wr => gw_cell y x5
      have x6 := fun y : Ext wr => gw_cell y x6
      have x7 := fun y : Ext wr => gw_cell y x7
      have x8 := fun y : Ext wr => gw_cell y x8
      have y0 := fun y : Ext wr => gw_cell y y0
      have y1 := fun y : Ext wr => gw_cell y y1
      have y2 := fun y : Ext wr => gw_cell y y2
      have y3 := fun y : Ext wr => gw_cell y y3
      have y4 := fun y : Ext wr => gw_cell y y4
      have y5 := fun y : Ext wr => gw_cell y y5
      have y6 := fun y : Ext wr => gw_cell y y6
      have y7 := fun y : Ext wr => gw_cell y y7
      have y8 := fun y : Ext wr => gw_cell y y8
      refine region_lit (by kernel_rfl) (by kernel_rfl) ?_
      repeat (go_big_quiet_step ((go_at_call 22; exact grow_of (HE.out _))))
      refine wpQuiet_nil ?_
      rintro W' ⟨z0, rfl⟩
      have b3 := hbw.trans ((gw_below z0).mono hbw.size)
      generalize gw z0 = W' at b3 ⊢
      clear x0 x1 x2 x3 x4 x5 x6 x7 x8 y0 y1 y2 y3 y4 y5 y6 y7 y8 hbw HE
      go_wp2
      go_roundw
      case rel => exact ⟨k + 1, by omega, by go_num, b3⟩
      case measure => simp [intOf]; omega
    · obtain rfl : k = 4 := by omega
      go_wp2
      go_ret
      exact ⟨rfl, hbw⟩
end Go.Proofs.Ytmjcbpdggogjmaa.cn
