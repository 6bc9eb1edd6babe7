/-
  The tables that the run leaves are the ones that the card is told of.
-/
import Derived.Test.YtadfdfmebdcfgaaGreatDoorPkbv

namespace Go.Proofs.YtadfdfmebdcfgaaGreatDoor.fnMail
open Go.ChangeShapes Go.WideShapes Go.ChangeAt Go.RowKit
open Go.ChangeMaps (open_string shut_string)
set_option linter.unusedVariables false

set_option maxRecDepth 100000 in
theorem laid_run (os : Os) : (DataW.laidRun Tryz.prog (({ World.doorLaid Tryz.prog 83 os with heap := (World.doorLaid Tryz.prog 83 os).heap.modify 6 putF } : World).forCall (fun _ _ => 0) ⟨#[], #[Value.slice none 0 0], []⟩).memory 8 (Rows.fnMailRow.laid.map (·.1))).map (·.1) = some Rows.fnMailRow.laid := by kernel_rfl
end Go.Proofs.YtadfdfmebdcfgaaGreatDoor.fnMail
