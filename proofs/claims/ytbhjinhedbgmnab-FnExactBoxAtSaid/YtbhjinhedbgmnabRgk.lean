/-
  Regions that draw their order, where one fact on the world holds all along.
-/
import Derived.Test.YtbhjinhedbgmnabRst
namespace Go.Proofs.Ytbhjinhedbgmnab.rk
open rs
set_option linter.unusedVariables false
def JK (V : Nat → Option Value) (K : World → Prop) (D : Nat → Prop) (f : Nat → Value) (x : World) : Prop := (∀ j, D j → ∀ y, V j = some y → f j = y) ∧ K x
theorem JK.step {V : Nat → Option Value} {K : World → Prop} {D : Nat → Prop} {f : Nat → Value} {x x' : World} {i : Nat} (y : Value) (h : JK V K D f x) (hy : ∀ z, V i = some z → y = z) (hk : K x') : JK V K (fun j => j = i ∨ D j) (upd f i y) x' := by
  refine ⟨fun j hj z hz => ?_, hk⟩
  by_cases e : j = i
  · subst e
    rw [upd_same]
    exact hy z hz
  · rw [upd_other f i y e]
    exact h.1 j (hj.resolve_left e) z hz
end Go.Proofs.Ytbhjinhedbgmnab.rk
