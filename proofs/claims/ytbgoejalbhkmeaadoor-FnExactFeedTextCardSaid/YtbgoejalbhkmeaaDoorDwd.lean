/-
  The contract of the specification's CivilOK.
-/
import Derived.Test.YtbgoejalbhkmeaaDoorDwc
namespace Go.Proofs.YtbgoejalbhkmeaaDoor.dw
open Go.RowKit
open dt
set_option linter.unusedVariables false

theorem in_if {n a b : Int} {x : Bool} (h : inB n a b = x) (w : World) : Calls Tryd.prog 34 #[.int .i64 n, .int .i64 a, .int .i64 b] w fun e w' => e = .returned (.bool x) ∧ w' = w := by
  subst h
  exact in_any n a b w
end Go.Proofs.YtbgoejalbhkmeaaDoor.dw
