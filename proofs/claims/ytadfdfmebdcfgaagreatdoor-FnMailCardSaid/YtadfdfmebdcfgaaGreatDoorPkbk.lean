/-
  Contracts of the specification's reading of quoted text.
-/
import Derived.Test.YtadfdfmebdcfgaaGreatDoorPkaf
import Derived.Test.YtadfdfmebdcfgaaGreatDoorPkaw
import Derived.Deep.RegionWith
import Derived.Deep.RegionLaw

namespace Go.Proofs.YtadfdfmebdcfgaaGreatDoor.qu
open Go.RowKit
set_option linter.unusedVariables false

end Go.Proofs.YtadfdfmebdcfgaaGreatDoor.qu
