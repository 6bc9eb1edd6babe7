/-
  Rows of texts: whether a text is among them, of the program's library and of the specification; their comparison by the law's own function.
-/
import Derived.Test.YtabgmmpoengdoaaDoorOwn
import Derived.Test.YtabgmmpoengdoaaDoorRows
import Derived.WalkKit
import Derived.WalkLawsBesides
import Derived.BigRegion
import Derived.WideShapes
import Derived.Deep.QuietTactic
import Derived.BigQuiet
import Derived.Lib.Strings
namespace Go.Proofs.YtabgmmpoengdoaaDoor.ky
open Go.RowKit
set_option linter.unusedVariables false

def nt : ByteArray := ⟨#[]⟩
/-- A slice of texts. -/
def TextsAt (w : World) (v : Value) (ks : List ByteArray) : Prop :=
  ∃ a cap, v = .slice a ks.length cap ∧ (ks = [] ∨ ∃ b off, a = some ⟨b, off, none⟩ ∧ ∀ j, j < ks.length → w.cell? ⟨b, off + j, none⟩ = some (.string (ks.getD j nt)))
theorem texts_below {w w' : World} {v : Value} {ks : List ByteArray} (h : TextsAt w v ks) (hb : Below w.heap.size w w') : TextsAt w' v ks := by
  obtain ⟨a, cap, rfl, h⟩ := h
  refine ⟨a, cap, rfl, ?_⟩
  rcases h with h | ⟨b, off, rfl, h⟩
  · exact .inl h
  · exact .inr ⟨b, off, rfl, fun j hj => (hb.cell (p := ⟨b, off + j, none⟩) (World.block_lt_of_cell? w _ (h j hj))).trans (h j hj)⟩
/-- A row of texts that a call made. -/
def OwnT (w : World) (base : Nat) (v : Value) (ks : List ByteArray) : Prop := w.ownsRow base 9 1 v ks.length (ks.map Value.string)
theorem own_texts {w : World} {base : Nat} {v : Value} {ks : List ByteArray} (h : OwnT w base v ks) : TextsAt w v ks := by
  rcases h.2 with ⟨rfl, h0⟩ | ⟨g, cap, cur, rfl, _⟩
  · obtain rfl := List.eq_nil_of_length_eq_zero h0
    exact ⟨none, 0, rfl, .inl rfl⟩
  · refine ⟨_, cap, rfl, .inr ⟨g, 0, rfl, fun j hj => ?_⟩⟩
    rw [Nat.zero_add, h.cellAt j (by omega)]
    simp [List.getD_eq_getElem?_getD, hj]
theorem ne_list {a b : ByteArray} (h : a ≠ b) : (a.toList == b.toList) = false := beq_eq_false_iff_ne.2 fun e => h (WideShapes.bytes_inj (by rw [← Lib.toList_data, ← Lib.toList_data]; exact e))
theorem get_in {ks : List ByteArray} {j : Nat} (h : j < ks.length) : ks.getD j nt ∈ ks := by rw [List.getD_eq_getElem?_getD, List.getElem?_eq_getElem h]; exact List.getElem_mem h
theorem not_in {ks : List ByteArray} {s : ByteArray} (h : ∀ j, j < ks.length → ks.getD j nt ≠ s) : s ∉ ks := by
  intro hm
  obtain ⟨j, hj, e⟩ := List.mem_iff_getElem.1 hm
  apply h j hj
  rw [List.getD_eq_getElem?_getD, List.getElem?_eq_getElem hj]
  exact e
/-- Whether a text is among some. -/
noncomputable def has (ks : List ByteArray) (s : ByteArray) : Bool := @decide (s ∈ ks) (Classical.propDecidable _)
theorem has_yes {ks : List ByteArray} {s : ByteArray} (h : s ∈ ks) : has ks s = true := @decide_eq_true _ (Classical.propDecidable _) h
theorem has_no {ks : List ByteArray} {s : ByteArray} (h : s ∉ ks) : has ks s = false := @decide_eq_false _ (Classical.propDecidable _) h
theorem has_of {ks : List ByteArray} {s : ByteArray} (h : has ks s = true) : s ∈ ks := @of_decide_eq_true _ (Classical.propDecidable _) h

end Go.Proofs.YtabgmmpoengdoaaDoor.ky
