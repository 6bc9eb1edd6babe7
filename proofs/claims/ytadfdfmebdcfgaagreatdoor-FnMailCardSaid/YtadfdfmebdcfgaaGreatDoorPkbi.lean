/-
  The contract of the specification's ReadRfc822 where a day of the week leads.
-/
import Derived.Test.YtadfdfmebdcfgaaGreatDoorPkbg
import Derived.Test.YtadfdfmebdcfgaaGreatDoorPkah
import Derived.Test.YtadfdfmebdcfgaaGreatDoorPkau
import Derived.Deep.DeepCutAuto
import Derived.Deep.RegionHeld

namespace Go.Proofs.YtadfdfmebdcfgaaGreatDoor.rdb
open Go.RowKit
open dt gr rd
set_option linter.unusedVariables false

end Go.Proofs.YtadfdfmebdcfgaaGreatDoor.rdb
