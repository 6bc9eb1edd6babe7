/-
  Rows of texts that a call made, where another row is written.
-/
import Derived.Test.YtcmhpkgboacojaaDoorLgo
import Derived.Test.YtcmhpkgboacojaaDoorMrl
namespace Go.Proofs.YtcmhpkgboacojaaDoor.lg
open Go.RowKit
open ky (OwnT)
theorem own_grown {w w' : World} {base : Nat} {v : Value} {ks : List ByteArray} {row : Option Nat} (h : OwnT w base v ks) (hg : w.grownBy w' row) (ha : v.ownBlock = none ∨ v.ownBlock ≠ row) : OwnT w' base v ks := by
  obtain ⟨h1, h2⟩ := h
  refine ⟨h1, ?_⟩
  rcases h2 with h2 | ⟨g, cap, cur, e, b, c, d⟩
  · exact .inl h2
  · subst e
    refine .inr ⟨g, cap, cur, rfl, b, ?_, d⟩
    rw [hg.block g (Array.getElem?_eq_some_iff.1 c).1 (fun x => ?_)]
    · exact c
    · rcases ha with ha | ha
      · simp [Value.ownBlock] at ha
      · exact ha (by simp [Value.ownBlock, x])
end Go.Proofs.YtcmhpkgboacojaaDoor.lg
