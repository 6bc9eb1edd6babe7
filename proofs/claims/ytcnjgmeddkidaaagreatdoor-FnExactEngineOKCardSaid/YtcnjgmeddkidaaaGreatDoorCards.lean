/-
  DERIVED. GIVEN WITH THE SEED: THE CARDS: each row of YtcnjgmeddkidaaaGreatDoorRows.lean that lists a variable, with what it lists TIED to the program's text (the seventh form; the later family's looks); each row that meets fmt, with fmt's text TOLD by the authors' own Lean function (tested against real Go, not proved from fmt's source: count such statements apart). THE CARD IS WHAT COUNTS. Prove the row's statement (the work); the ties are given (YtcnjgmeddkidaaaGreatDoorTie.lean); close each card by the builder's one call (the guide's Derived/Test/ToyasCard.lean, 'card_holds'). Laid BY PROGRAM, IN A SANDBOX (cutbox-door.mjs). By AI agents, Wed Nov 11 2026. No macro, syntax, notation, axiom, sorry.
-/
import Derived.Test.YtcnjgmeddkidaaaGreatDoorRows
import GoSem.ClaimSeven
namespace Go.Proofs.YtcnjgmeddkidaaaGreatDoor
namespace Rows

/-- THE TIED CARD OF 'laws.FnExactReplayLog'. -/
def fnExactReplayLogCard : Claim7 := { stood := { row := fnExactReplayLogRow, standIns := [], harness := (true, "6648ae602564dba5d735cfdd0a8c1e4f7696551a8ee4326ac1b3e84ad3a371c5"), looks := true }, kinds := [], alts := [], laidByText := true, laidKinds := [.sentinel, .sentinel], laidTests := true, laidLooks := .later }
def FnExactReplayLogCardSaid : Prop := Claim7.holds Tryz.pinned (.plain (OpenSpec.ofChange fnExactReplayLogSpec)) fnExactReplayLogCard

/-- THE TIED CARD OF 'laws.FnExactEngineOK'. -/
def fnExactEngineOKCard : Claim7 := { stood := { row := fnExactEngineOKRow, standIns := [], harness := (true, "6648ae602564dba5d735cfdd0a8c1e4f7696551a8ee4326ac1b3e84ad3a371c5"), looks := true }, kinds := [], alts := [], laidByText := true, laidKinds := [.sentinel, .sentinel], laidTests := true, laidLooks := .later }
def FnExactEngineOKCardSaid : Prop := Claim7.holds Tryz.pinned (.plain (OpenSpec.ofChange fnExactEngineOKSpec)) fnExactEngineOKCard

/-- THE SECOND FORM's CARD OF 'laws.FnExactReplayLog'. -/
def fnExactReplayLogUptoCard : Claim7 := { stood := { row := fnExactReplayLogUptoRow, standIns := [], harness := (true, "6648ae602564dba5d735cfdd0a8c1e4f7696551a8ee4326ac1b3e84ad3a371c5"), looks := true }, kinds := [], alts := [], laidByText := true, laidKinds := [.sentinel, .sentinel], laidTests := true, laidLooks := .later }
def FnExactReplayLogUptoCardSaid : Prop := Claim7.holds Tryz.pinned (.plain (OpenSpec.upto fnExactReplayLogSpec)) fnExactReplayLogUptoCard

/-- THE SECOND FORM's CARD OF 'laws.FnExactEngineOK'. -/
def fnExactEngineOKUptoCard : Claim7 := { stood := { row := fnExactEngineOKUptoRow, standIns := [], harness := (true, "6648ae602564dba5d735cfdd0a8c1e4f7696551a8ee4326ac1b3e84ad3a371c5"), looks := true }, kinds := [], alts := [], laidByText := true, laidKinds := [.sentinel, .sentinel], laidTests := true, laidLooks := .later }
def FnExactEngineOKUptoCardSaid : Prop := Claim7.holds Tryz.pinned (.plain (OpenSpec.upto fnExactEngineOKSpec)) fnExactEngineOKUptoCard
end Rows
end Go.Proofs.YtcnjgmeddkidaaaGreatDoor
