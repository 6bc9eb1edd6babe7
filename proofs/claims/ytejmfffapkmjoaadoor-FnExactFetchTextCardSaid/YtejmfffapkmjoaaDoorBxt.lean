/-
  Plain facts on a variable of two cells that a call laid.
-/
import Derived.Test.YtejmfffapkmjoaaDoorOwn
namespace Go.Proofs.YtejmfffapkmjoaaDoor.b2
open Go.RowKit
set_option linter.unusedVariables false

def Box (w : World) (g : Nat) (t : TypeId) (a b : Value) : Prop := w.heap[g]? = some (.cells #[a, b] t (0, 0))
section
variable {w w' : World} {g : Nat} {t : TypeId} {a b a' b' : Value}
theorem new (w : World) (t : TypeId) (a b : Value) : Box (w.alloc (.cells #[a, b] t)) w.heap.size t a b := by
  show (w.heap.push (.cells #[a, b] t))[w.heap.size]? = _
  simp
theorem Box.c0 (h : Box w g t a b) : w.cell? ⟨g, 0, none⟩ = some a := by rw [cell_of_row _ _ 0 _ _ _ h]; rfl
theorem Box.c1 (h : Box w g t a b) : w.cell? ⟨g, 1, none⟩ = some b := by rw [cell_of_row _ _ 1 _ _ _ h]; rfl
theorem Box.c1' (h : Box w g t a b) : w.cell? ⟨g, 0 + 1, none⟩ = some b := by rw [cell_of_row _ _ _ _ _ _ h]; rfl
theorem Box.f (h : Box w g t a b) (j : Nat) : w.frozen? ⟨g, j, none⟩ = false := frozen_of_row _ _ _ _ _ h
theorem Box.lt (h : Box w g t a b) : g < w.heap.size := (Array.getElem?_eq_some_iff.1 h).1
theorem Box.below (h : Box w g t a b) (hb : Below w.heap.size w w') : Box w' g t a b := (hb.block g h.lt).trans h
theorem Box.keep {B : Nat} (h : Box w g t a b) (hB : g < B) (hb : Below B w w') : Box w' g t a b := (hb.block g hB).trans h
theorem Box.put0 (h : Box w g t a b) (u : Value) : Box (w.setCell ⟨g, 0, none⟩ u) g t u b := heap_setCell_same _ g 0 _ _ _ h
theorem Box.put1 (h : Box w g t a b) (u : Value) : Box (w.setCell ⟨g, 1, none⟩ u) g t a u := heap_setCell_same _ g 1 _ _ _ h
/-- Both cells are written. -/
def put (w : World) (g : Nat) (a b : Value) : World := (w.setCell ⟨g, 0, none⟩ a).setCell ⟨g, 1, none⟩ b
theorem Box.put (h : Box w g t a b) : Box (put w g a' b') g t a' b' := (h.put0 a').put1 b'
theorem put_below {B : Nat} {w0 : World} (k : Below B w0 w) (hb : B ≤ g) : Below B w0 (put w g a b) := (k.setCell (p := ⟨g, 0, none⟩) hb _).setCell (p := ⟨g, 1, none⟩) hb _
theorem put_size : (put w g a b).heap.size = w.heap.size := by unfold put; simp
/-- A row of another element type stays where the box is written. -/
theorem own_put {base e size n : Nat} {v : Value} {xs : List Value} (h : Box w g t a b) (hne : e ≠ t) (ho : w.ownsRow base e size v n xs) : (put w g a' b').ownsRow base e size v n xs := by
  obtain ⟨h1, h2⟩ := ho
  refine ⟨h1, ?_⟩
  rcases h2 with h2 | ⟨k, cap, cur, rfl, hk, hc, hd⟩
  · exact .inl h2
  · have hkg : k ≠ g := by
      intro ee
      subst ee
      rw [h] at hc
      cases hc
      exact hne rfl
    refine .inr ⟨k, cap, cur, rfl, hk, ?_, hd⟩
    unfold put
    rw [heap_setCell_other _ _ _ _ hkg, heap_setCell_other _ _ _ _ hkg]
    exact hc
end
end Go.Proofs.YtejmfffapkmjoaaDoor.b2
