/-
  Flags are read back from their text, also from its great letters: plain facts.
-/
import Derived.Test.YtofpnabfecimhaaDoorFgd
import Derived.Test.YtofpnabfecimhaaDoorFgu
import Derived.Test.YtofpnabfecimhaaDoorUpp
namespace Go.Proofs.YtofpnabfecimhaaDoor.fg
open Go.RowKit
set_option linter.unusedVariables false
set_option maxRecDepth 100000 in
theorem back_at : ∀ f : Nat, f < 32 → RF (FT f) = ((f : Int), 0) := by decide +kernel
set_option maxRecDepth 100000 in
theorem great_at : ∀ f : Nat, f < 32 → RF ⟨(up.lower (FT f).data.toList).toArray⟩ = ((f : Int), 0) := by decide +kernel
theorem FT_size : ∀ f : Nat, f < 32 → (FT f).size ≤ 60 := by decide +kernel
theorem FR_at {f : Nat} (h : f < 32) : FR (f : Int) = (FT f, 0) := by
  unfold FR
  rw [if_pos ⟨by omega, by omega⟩]
  rfl
end Go.Proofs.YtofpnabfecimhaaDoor.fg
