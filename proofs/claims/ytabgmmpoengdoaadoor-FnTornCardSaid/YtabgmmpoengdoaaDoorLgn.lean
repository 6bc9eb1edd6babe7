/-
  The records of a log's data: the specification's.
-/
import Derived.Test.YtabgmmpoengdoaaDoorLgm
import Derived.Deep.RegionHeld
namespace Go.Proofs.YtabgmmpoengdoaaDoor.lg
open Go.RowKit
open er
open ky (OwnT TextsAt own_texts texts_below)
set_option linter.unusedVariables false

theorem wrap_id (z : Int) (h0 : 0 ≤ z) (h1 : z ≤ 4294967296) : IntKind.i64.wrap z = z := by
  simp only [IntKind.wrap, IntKind.bits, IntKind.signed]
  simp
  omega

end Go.Proofs.YtabgmmpoengdoaaDoor.lg
