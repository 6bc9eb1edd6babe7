/-
  The contract of the specification's ReadRfc822.
-/
import Derived.Test.YtadfdfmebdcfgaaGreatDoorPkbg
import Derived.Test.YtadfdfmebdcfgaaGreatDoorPkah
import Derived.Test.YtadfdfmebdcfgaaGreatDoorPkau
import Derived.Deep.DeepCutAuto
import Derived.Deep.RegionHeld

namespace Go.Proofs.YtadfdfmebdcfgaaGreatDoor.rd
open Go.RowKit
open dt gr
set_option linter.unusedVariables false

end Go.Proofs.YtadfdfmebdcfgaaGreatDoor.rd
