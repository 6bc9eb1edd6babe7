/-
  DERIVED. GIVEN WITH THE SEED: THE CARDS: each row of YtabgmmpoengdoabDoorRows.lean that lists a variable, with what it lists TIED to the program's text (the seventh form; the later family's looks); each row that meets fmt, with fmt's text TOLD by the authors' own Lean function (tested against real Go, not proved from fmt's source: count such statements apart). THE CARD IS WHAT COUNTS. Prove the row's statement (the work); the ties are given (YtabgmmpoengdoabDoorTie.lean); close each card by the builder's one call (the guide's Derived/Test/ToyasCard.lean, 'card_holds'). Laid BY PROGRAM, IN A SANDBOX (cutbox-door.mjs). By AI agents, Wed Nov 11 2026. No macro, syntax, notation, axiom, sorry.
-/
import Derived.Test.YtabgmmpoengdoabDoorRows
import GoSem.ClaimSeven
namespace Go.Proofs.YtabgmmpoengdoabDoor
namespace Rows

/-- THE TIED CARD OF 'laws.FnExactLogRecords'. -/
def fnExactLogRecordsCard : Claim7 := { stood := { row := fnExactLogRecordsRow, standIns := [], harness := (true, "865efc76308986443cd0db476cae27b9deb0704f3508408d64e9af6a544b7cbc"), looks := true }, kinds := [], alts := [], laidByText := true, laidKinds := [.sentinel, .sentinel], laidTests := true, laidLooks := .later }
def FnExactLogRecordsCardSaid : Prop := Claim7.holds Tryd.pinned (.plain (OpenSpec.ofChange fnExactLogRecordsSpec)) fnExactLogRecordsCard

/-- THE TIED CARD OF 'laws.FnExactLogRepair'. -/
def fnExactLogRepairCard : Claim7 := { stood := { row := fnExactLogRepairRow, standIns := [], harness := (true, "865efc76308986443cd0db476cae27b9deb0704f3508408d64e9af6a544b7cbc"), looks := true }, kinds := [], alts := [], laidByText := true, laidKinds := [.sentinel, .sentinel], laidTests := true, laidLooks := .later }
def FnExactLogRepairCardSaid : Prop := Claim7.holds Tryd.pinned (.plain (OpenSpec.ofChange fnExactLogRepairSpec)) fnExactLogRepairCard

/-- THE SECOND FORM's CARD OF 'laws.FnExactLogRecords'. -/
def fnExactLogRecordsUptoCard : Claim7 := { stood := { row := fnExactLogRecordsUptoRow, standIns := [], harness := (true, "865efc76308986443cd0db476cae27b9deb0704f3508408d64e9af6a544b7cbc"), looks := true }, kinds := [], alts := [], laidByText := true, laidKinds := [.sentinel, .sentinel], laidTests := true, laidLooks := .later }
def FnExactLogRecordsUptoCardSaid : Prop := Claim7.holds Tryd.pinned (.plain (OpenSpec.upto fnExactLogRecordsSpec)) fnExactLogRecordsUptoCard

/-- THE SECOND FORM's CARD OF 'laws.FnExactLogRepair'. -/
def fnExactLogRepairUptoCard : Claim7 := { stood := { row := fnExactLogRepairUptoRow, standIns := [], harness := (true, "865efc76308986443cd0db476cae27b9deb0704f3508408d64e9af6a544b7cbc"), looks := true }, kinds := [], alts := [], laidByText := true, laidKinds := [.sentinel, .sentinel], laidTests := true, laidLooks := .later }
def FnExactLogRepairUptoCardSaid : Prop := Claim7.holds Tryd.pinned (.plain (OpenSpec.upto fnExactLogRepairSpec)) fnExactLogRepairUptoCard
end Rows
end Go.Proofs.YtabgmmpoengdoabDoor
