/-
  The tables' places are apart.
-/
import Derived.Test.YtmckekflpdaklaaGreatDoorPkbh

namespace Go.Proofs.YtmckekflpdaklaaGreatDoor.fnExactRenderEntry
open Go.ChangeShapes Go.WideShapes Go.ChangeAt Go.RowKit
open Go.ChangeMaps (open_string shut_string)
set_option linter.unusedVariables false

set_option maxRecDepth 100000 in
theorem laid_apart (os : Os) : (DataW.laidRun Tryz.prog (({ World.doorLaid Tryz.prog 83 os with heap := (World.doorLaid Tryz.prog 83 os).heap.modify 6 putF } : World).forCall (fun _ _ => 0) ⟨#[], #[Value.agg #[.string .empty, .string .empty, .string .empty, .string .empty, .int .i64 0, .string .empty], Value.string .empty], []⟩).memory 8 (Rows.fnExactRenderEntryRow.laid.map (·.1))).map (fun x => nodupBits 1024 x.2 0) = some true := by kernel_rfl
end Go.Proofs.YtmckekflpdaklaaGreatDoor.fnExactRenderEntry
