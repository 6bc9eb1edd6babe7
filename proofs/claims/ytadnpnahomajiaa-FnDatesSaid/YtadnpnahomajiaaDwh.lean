/-
  What a stamp's calendar has, and that of the next day, with its parts told.
-/
import Derived.Test.YtadnpnahomajiaaDwf
namespace Go.Proofs.Ytadnpnahomajiaa.dw
open Go.RowKit
open dt
set_option linter.unusedVariables false
/-- A stamp's calendar and what is told of the next day's. -/
def DayIs (n y m d h i s : Int) : Prop :=
  cv n = .tuple #[C6 y m d h i s, .int .i64 0] ∧ Ok y m d h i s ∧ st y m d h i s = n ∧
  (n + 86400 ≤ 4102444799 → ∃ y' m' d' i' : Int, cv (n + 86400) = .tuple #[C6 y' m' d' h i' s, .int .i64 0] ∧ (d' = d + 1 ∨ d' = 1) ∧
    ∃ a b : Int, wd n = .tuple #[.int .i64 a, .int .i64 0] ∧ wd (n + 86400) = .tuple #[.int .i64 b, .int .i64 0] ∧ 0 ≤ a ∧ a ≤ 6 ∧ b = (a + 1) % 7)
theorem day_is {n : Int} (h0 : 0 ≤ n) (h1 : n ≤ 4102444799) : ∃ y m d h i s : Int, DayIs n y m d h i s := by
  refine ⟨_, _, _, _, _, _, cv_in (in_yes h0 h1), civ_ok h0 h1, st_civ, fun h2 => ?_⟩
  refine ⟨yr (n + 86400), mn (n + 86400), dy (n + 86400), dt.mt (n + 86400), ?_, dy_next h0, _, _, wd_in (in_yes h0 h1), wd_in (in_yes (by omega) h2), by omega, by omega, by omega⟩
  rw [cv_in (in_yes (by omega) h2)]
  unfold civ
  rw [show hr (n + 86400) = hr n by unfold hr; omega, show sc (n + 86400) = sc n by unfold sc; omega]
end Go.Proofs.Ytadnpnahomajiaa.dw
