/-
  Both NewLog functions.
-/
import Derived.Test.YtabgmmpoengdoabDoorLga
namespace Go.Proofs.YtabgmmpoengdoabDoor.lg
open Go.ChangeShapes Go.WideShapes Go.ChangeAt Go.RowKit Go.Deep Go.Joins
set_option linter.unusedVariables false

/-- A log and a code, as an answer. -/
def RV (r : Int) (d : ByteArray) (s c : Int) : Value := .tuple #[LV r d s, .int .i64 c]
def newLog (room : Int) : Value := if 0 ≤ room ∧ room ≤ 60000 then RV room ⟨#[]⟩ 0 0 else RV 0 ⟨#[]⟩ 0 4
theorem newLog_form (room : Int) : ∃ (r : Int) (d : ByteArray) (s c : Int), newLog room = RV r d s c := by
  unfold newLog
  split
  · exact ⟨_, _, _, _, rfl⟩
  · exact ⟨_, _, _, _, rfl⟩


end Go.Proofs.YtabgmmpoengdoabDoor.lg
