/-
  Fields as rows of pairs of texts: read by the law's own measure, copy and comparison.
-/
import Derived.Test.YtglgaangkffbiaaDoorRows
import Derived.Test.YtglgaangkffbiaaDoorOwn
import Derived.WalkKit
import Derived.WalkLawsBesides
import Derived.Below
namespace Go.Proofs.YtglgaangkffbiaaDoor.fa
open Go.RowKit
set_option linter.unusedVariables false

abbrev Pr := ByteArray × ByteArray
def no : Pr := (⟨#[]⟩, ⟨#[]⟩)
/-- A slice of attributes. -/
def AttrsAt (w : World) (v : Value) (ps : List Pr) : Prop :=
  ∃ a cap, v = .slice a ps.length cap ∧ (ps = [] ∨ ∃ b off, a = some ⟨b, off, none⟩ ∧ ∀ j, j < ps.length → w.cell? ⟨b, off + j * 2, none⟩ = some (.string (ps.getD j no).1) ∧ w.cell? ⟨b, off + j * 2 + 1, none⟩ = some (.string (ps.getD j no).2))
theorem at_below {w w' : World} {v : Value} {ps : List Pr} (h : AttrsAt w v ps) (hb : Below w.heap.size w w') : AttrsAt w' v ps := by
  obtain ⟨a, cap, rfl, h⟩ := h
  refine ⟨a, cap, rfl, ?_⟩
  rcases h with h | ⟨b, off, rfl, h⟩
  · exact .inl h
  · refine .inr ⟨b, off, rfl, fun j hj => ?_⟩
    obtain ⟨h0, h1⟩ := h j hj
    have hl := World.block_lt_of_cell? w _ h0
    exact ⟨(hb.cell (p := ⟨b, off + j * 2, none⟩) hl).trans h0, (hb.cell (p := ⟨b, off + j * 2 + 1, none⟩) hl).trans h1⟩

/-- Attributes of a size that a law takes. -/
def Small (ps : List Pr) : Prop := ps.length ≤ 1048576 ∧ ∀ j, j < ps.length → (ps.getD j no).1.size ≤ 1048576 ∧ (ps.getD j no).2.size ≤ 1048576
def SmallTo (ps : List Pr) (k : Nat) : Prop := ps.length ≤ 1048576 ∧ ∀ j, j < k → (ps.getD j no).1.size ≤ 1048576 ∧ (ps.getD j no).2.size ≤ 1048576

end Go.Proofs.YtglgaangkffbiaaDoor.fa
