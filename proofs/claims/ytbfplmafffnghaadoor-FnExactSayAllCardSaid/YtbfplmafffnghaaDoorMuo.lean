/-
  The laws' own copies of items and of mutations: their rows are their own memory.
-/
import Derived.Test.YtbfplmafffnghaaDoorOwn
import Derived.Test.YtbfplmafffnghaaDoorRows
import Derived.WalkKit
import Derived.WalkLawsBesides
import Derived.Below
namespace Go.Proofs.YtbfplmafffnghaaDoor.mu
open Go.RowKit
set_option linter.unusedVariables false
theorem own_lower {w : World} {b base e size n : Nat} {v : Value} {xs : List Value} (h : w.ownsRow base e size v n xs) (hb : b ≤ base) : w.ownsRow b e size v n xs :=
  ⟨h.1, h.2.imp id fun ⟨g, cap, cur, he, hb', r⟩ => ⟨g, cap, cur, he, Nat.le_trans hb hb', r⟩⟩
theorem own_block {w w' : World} {base e size n g m c : Nat} {xs : List Value} (h : w.ownsRow base e size (.slice (some ⟨g, 0, none⟩) m c) n xs) (hb : w'.heap[g]? = w.heap[g]?) : w'.ownsRow base e size (.slice (some ⟨g, 0, none⟩) m c) n xs := by
  obtain ⟨h1, h2⟩ := h
  refine ⟨h1, ?_⟩
  rcases h2 with ⟨e, hz⟩ | ⟨g', cap, cur, e, hB, hh, r⟩
  · exact .inl ⟨e, hz⟩
  · cases e
    exact .inr ⟨g, _, cur, rfl, hB, hb.trans hh, r⟩
end Go.Proofs.YtbfplmafffnghaaDoor.mu
