/-
  The contract of the specification's ReadRfc822 at every text.
  The contract of the specification's l07Lf: each 13 ahead of a 10 left out.
-/
import Derived.Test.YtadfdfmebdcfgaaGreatDoorPkbh
import Derived.Test.YtadfdfmebdcfgaaGreatDoorPkbi
import Derived.Test.YtadfdfmebdcfgaaGreatDoorPkay
import Derived.Test.YtadfdfmebdcfgaaGreatDoorPkax
import Derived.Laws.AppendOwn

namespace Go.Proofs.YtadfdfmebdcfgaaGreatDoor.rd
open Go.RowKit
set_option linter.unusedVariables false
end Go.Proofs.YtadfdfmebdcfgaaGreatDoor.rd

namespace Go.Proofs.YtadfdfmebdcfgaaGreatDoor.lfp
open Go.RowKit
open gr
set_option linter.unusedVariables false

end Go.Proofs.YtadfdfmebdcfgaaGreatDoor.lfp
