/-
  Contracts of both StampOf functions.
-/
import Derived.Test.YtbgoejalbhkmeaaDoorDwd
namespace Go.Proofs.YtbgoejalbhkmeaaDoor.dw
open Go.RowKit
open dt
set_option linter.unusedVariables false

/-- A calendar lies in a block. -/
def Lies (w : World) (b : Nat) (y m d h i s : Int) : Prop := w.heap[b]? = some (.cells #[.int .i64 y, .int .i64 m, .int .i64 d, .int .i64 h, .int .i64 i, .int .i64 s] 67)
section
variable {w w' : World} {b : Nat} {y m d h i s : Int}
theorem Lies.c0 (L : Lies w b y m d h i s) : w.cell? ⟨b, 0, none⟩ = some (.int .i64 y) := by rw [cell_of_row _ _ _ _ _ _ L]; rfl
theorem Lies.c1 (L : Lies w b y m d h i s) : w.cell? ⟨b, 0 + 1, none⟩ = some (.int .i64 m) := by rw [cell_of_row _ _ _ _ _ _ L]; rfl
theorem Lies.c2 (L : Lies w b y m d h i s) : w.cell? ⟨b, 0 + 2, none⟩ = some (.int .i64 d) := by rw [cell_of_row _ _ _ _ _ _ L]; rfl
theorem Lies.c3 (L : Lies w b y m d h i s) : w.cell? ⟨b, 0 + 3, none⟩ = some (.int .i64 h) := by rw [cell_of_row _ _ _ _ _ _ L]; rfl
theorem Lies.c4 (L : Lies w b y m d h i s) : w.cell? ⟨b, 0 + 4, none⟩ = some (.int .i64 i) := by rw [cell_of_row _ _ _ _ _ _ L]; rfl
theorem Lies.c5 (L : Lies w b y m d h i s) : w.cell? ⟨b, 0 + 5, none⟩ = some (.int .i64 s) := by rw [cell_of_row _ _ _ _ _ _ L]; rfl
theorem lies_new (w : World) (y m d h i s : Int) : Lies (w.alloc (.cells #[.int .i64 y, .int .i64 m, .int .i64 d, .int .i64 h, .int .i64 i, .int .i64 s] 67)) w.heap.size y m d h i s := by
  show (w.heap.push _)[w.heap.size]? = _
  simp
theorem Lies.below (L : Lies w b y m d h i s) (hb : Below w.heap.size w w') : Lies w' b y m d h i s := by
  have hlt : b < w.heap.size := (Array.getElem?_eq_some_iff.1 L).1
  exact (hb.block b hlt).trans L
end

set_option maxHeartbeats 400000 in
theorem until_any (y : Int) (h1 : 1970 ≤ y) (h2 : y ≤ 2100) (w : World) : Calls Tryd.prog 62 #[.int .i64 y] w fun e w' => e = .returned (.int .i64 (yd y)) ∧ w' = w := by
  go_enter Tryd.func62, Tryd.ntmps62
  go_wp2
  go_ret
  refine ⟨?_, rfl⟩
  unfold yd
  go_num

/-- A stamp and its code, in new memory alone. -/
def StOf (y m d h i s : Int) (w : World) (e : Ending) (w' : World) : Prop :=
  Below w.heap.size w w' ∧ ((Ok y m d h i s ∧ e = .returned (.tuple #[.int .i64 (st y m d h i s), .int .i64 0])) ∨ (¬ Ok y m d h i s ∧ e = .returned (.tuple #[.int .i64 0, .int .i64 1])))

theorem st_ex {y m d h i s : Int} {w w' : World} {e : Ending} (k : StOf y m d h i s w e w') : ∃ a c : Int, e = .returned (.tuple #[.int .i64 a, .int .i64 c]) := by
  rcases k.2 with ⟨_, e⟩ | ⟨_, e⟩ <;> exact ⟨_, _, e⟩
theorem st_same {y m d h i s a c a' c' : Int} {w w' v v' : World} (k : StOf y m d h i s w (.returned (.tuple #[.int .i64 a, .int .i64 c])) w') (k' : StOf y m d h i s v (.returned (.tuple #[.int .i64 a', .int .i64 c'])) v') : a = a' ∧ c = c' := by
  rcases k.2 with ⟨o, e⟩ | ⟨o, e⟩ <;> rcases k'.2 with ⟨o', e'⟩ | ⟨o', e'⟩
  · cases e; cases e'; exact ⟨rfl, rfl⟩
  · exact absurd o o'
  · exact absurd o' o
  · cases e; cases e'; exact ⟨rfl, rfl⟩
end Go.Proofs.YtbgoejalbhkmeaaDoor.dw
