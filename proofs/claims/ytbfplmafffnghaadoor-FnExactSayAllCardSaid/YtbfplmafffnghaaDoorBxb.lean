/-
  A box: copied by the law's own function.
-/
import Derived.Test.YtbfplmafffnghaaDoorBxa
namespace Go.Proofs.YtbfplmafffnghaaDoor.bx
open Go.ChangeShapes Go.WideShapes Go.ChangeAt Go.RowKit Go.Deep Go.Joins
open st
set_option linter.unusedVariables false

theorem mails_other {w w' : World} {N M g n cap : Nat} {es : List St} (h : MailsIn w N (.slice (some ⟨g, 0, none⟩) n cap) es) (hb : w'.heap[g]? = w.heap[g]?) (hM : g < N → g < M) : MailsIn w' M (.slice (some ⟨g, 0, none⟩) n cap) es := by
  obtain ⟨a, cp, e, h⟩ := h
  refine ⟨a, cp, e, ?_⟩
  rcases h with h | ⟨b, off, rfl, hgN, h⟩
  · exact .inl h
  · cases e
    refine .inr ⟨g, 0, rfl, hM hgN, fun j hj => ?_⟩
    obtain ⟨h0, h1, h2⟩ := h j hj
    exact ⟨by rw [← h0]; simp only [World.cell?, hb], by rw [← h1]; simp only [World.cell?, hb], by rw [← h2]; simp only [World.cell?, hb]⟩
theorem texts_other {w w' : World} {N M g n cap : Nat} {es : List ByteArray} (h : tx.TextsIn w N (.slice (some ⟨g, 0, none⟩) n cap) es) (hb : w'.heap[g]? = w.heap[g]?) (hM : g < N → g < M) : tx.TextsIn w' M (.slice (some ⟨g, 0, none⟩) n cap) es := by
  obtain ⟨a, cp, e, h⟩ := h
  refine ⟨a, cp, e, ?_⟩
  rcases h with h | ⟨b, off, rfl, hgN, h⟩
  · exact .inl h
  · cases e
    refine .inr ⟨g, 0, rfl, hM hgN, fun j hj => ?_⟩
    rw [← h j hj]; simp only [World.cell?, hb]
theorem heap_new (w : World) (o : Obj) : (w.alloc o).heap[w.heap.size]? = some o := (MapKept.heap_alloc w _).1
theorem new1 (w : World) (o0 o1 o2 : Obj) : (((w.alloc o0).alloc o1).alloc o2).heap[w.heap.size + 1]? = some o1 := by
  have h := heap_new (w.alloc o0) o1
  rw [show (w.alloc o0).heap.size = w.heap.size + 1 by simp] at h
  rw [Below.heap_alloc _ _ _ (by simp), h]
theorem new2 (w : World) (o0 o1 o2 : Obj) : (((w.alloc o0).alloc o1).alloc o2).heap[w.heap.size + 1 + 1]? = some o2 := by
  have h := heap_new ((w.alloc o0).alloc o1) o2
  rw [show ((w.alloc o0).alloc o1).heap.size = w.heap.size + 1 + 1 by simp] at h
  exact h
def zeros (T : TypeId) : Obj := .cells #[.string ⟨#[]⟩, .int .i64 0, .int .i64 0, .slice none 0 0, .slice none 0 0] T (0, 0)
/-- What the copy of a box leaves. -/
def fin (w2 : World) (b : Nat) (x : Bx) (V U : Value) : World := (((((w2.setCell ⟨b + 1 + 1, 4, none⟩ U).setCell ⟨b + 1, 0, none⟩ (.string x.nm)).setCell ⟨b + 1, 1, none⟩ (.int .i64 x.vd)).setCell ⟨b + 1, 2, none⟩ (.int .i64 x.nx)).setCell ⟨b + 1, 3, none⟩ V).setCell ⟨b + 1, 4, none⟩ U
theorem fin_block {w2 : World} {b : Nat} {T : TypeId} {u0 u1 u2 u3 u4 : Value} (h : w2.heap[b + 1]? = some (.cells #[u0, u1, u2, u3, u4] T (0, 0))) (x : Bx) (V U : Value) : Lies (fin w2 b x V U) (b + 1) T x V U := by
  have M1 := (heap_setCell_other w2 ⟨b + 1 + 1, 4, none⟩ (b + 1) U (by simp)).trans h
  have M2 := heap_setCell_same _ (b + 1) 0 _ _ (.string x.nm) M1
  have M3 := heap_setCell_same _ (b + 1) 1 _ _ (.int .i64 x.vd) M2
  have M4 := heap_setCell_same _ (b + 1) 2 _ _ (.int .i64 x.nx) M3
  have M5 := heap_setCell_same _ (b + 1) 3 _ _ V M4
  exact heap_setCell_same _ (b + 1) 4 _ _ U M5
theorem fin_other (w2 : World) (b g : Nat) (x : Bx) (V U : Value) (h1 : g ≠ b + 1) (h2 : g ≠ b + 1 + 1) : (fin w2 b x V U).heap[g]? = w2.heap[g]? := by
  unfold fin
  rw [heap_setCell_other _ _ _ _ h1, heap_setCell_other _ _ _ _ h1, heap_setCell_other _ _ _ _ h1, heap_setCell_other _ _ _ _ h1, heap_setCell_other _ _ _ _ h1, heap_setCell_other _ _ _ _ h2]
theorem fin_below {w w2 : World} {b : Nat} (h : Below b w w2) (x : Bx) (V U : Value) : Below b w (fin w2 b x V U) := by
  unfold fin
  exact (((((h.setCell (by simp; omega) _).setCell (by simp) _).setCell (by simp) _).setCell (by simp) _).setCell (by simp) _).setCell (by simp) _

end Go.Proofs.YtbfplmafffnghaaDoor.bx
