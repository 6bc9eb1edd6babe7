/-
  A witness's table: what the run leaves in a variable.
-/
import Derived.Test.YtadfdfmebdcfgaaGreatDoorCards
import Derived.Test.YtadfdfmebdcfgaaGreatDoorTie
import Derived.Test.YtadfdfmebdcfgaaGreatDoorPkbs
import Derived.Test.YtadfdfmebdcfgaaGreatDoorPkat
import Derived.WalkKit
import Derived.ProofKit
import Derived.OpenShut
import Derived.ShutString
import Derived.OpenVars
import Derived.ChangeOld
import Derived.Below
import Derived.Deep.DeepHandedRow
import Derived.Deep.DeepWitnessRowRef
import Derived.LaidMore
import Derived.Lib.LaidTab
import Derived.LaidOnce

namespace Go.Proofs.YtadfdfmebdcfgaaGreatDoor.fnMail
open Go.ChangeShapes Go.WideShapes Go.ChangeAt Go.RowKit
open Go.ChangeMaps (open_string shut_string)
set_option linter.unusedVariables false

def putF (o : Obj) : Obj := match o with
  | .cells _ t frozen => .cells (Go.Pinned.utf8FirstZ.map fun (n : Nat) => Value.int .u8 (n : Int)).toArray t frozen
  | o => o
end Go.Proofs.YtadfdfmebdcfgaaGreatDoor.fnMail
