/-
  The contract of the specification's CivilOK.
-/
import Derived.Test.YtadfdfmebdcfgaaGreatDoorPkar

namespace Go.Proofs.YtadfdfmebdcfgaaGreatDoor.dw
open Go.RowKit
open dt
set_option linter.unusedVariables false

end Go.Proofs.YtadfdfmebdcfgaaGreatDoor.dw
