/-
  The contract of the law's own comparison of two calendars that are alike.
-/
import Derived.Test.YtadnpnahomajiaaDwf
namespace Go.Proofs.Ytadnpnahomajiaa.dw
open Go.RowKit
open dt
set_option linter.unusedVariables false
set_option maxHeartbeats 2000000 in
set_option maxRecDepth 100000 in
theorem eq_any (y m d h i s : Int) (w : World) : Calls Try.prog 15 #[C6 y m d h i s, C6 y m d h i s] w fun e w' => e = .returned (.bool true) ∧ Below w.heap.size w w' := by
  unfold C6
  go_enter Try.func15, Try.ntmps15
  go_wp2
  go_ret
  exact ⟨rfl, (bel_box _ _).alloc (by simp) _⟩
end Go.Proofs.Ytadnpnahomajiaa.dw
