/-
  DERIVED. GIVEN WITH THE SEED: THE CARDS: each row of YtncnbhekgkemfaaGreatDoorRows.lean that lists a variable, with what it lists TIED to the program's text (the seventh form; the later family's looks); each row that meets fmt, with fmt's text TOLD by the authors' own Lean function (tested against real Go, not proved from fmt's source: count such statements apart). THE CARD IS WHAT COUNTS. Prove the row's statement (the work); the ties are given (YtncnbhekgkemfaaGreatDoorTie.lean); close each card by the builder's one call (the guide's Derived/Test/ToyasCard.lean, 'card_holds'). Laid BY PROGRAM, IN A SANDBOX (cutbox-door.mjs). By AI agents, Wed Nov 11 2026. No macro, syntax, notation, axiom, sorry.
-/
import Derived.Test.YtncnbhekgkemfaaGreatDoorRows
import GoSem.ClaimSeven
namespace Go.Proofs.YtncnbhekgkemfaaGreatDoor
namespace Rows

/-- THE TIED CARD OF 'laws.FnExactWorldOK'. -/
def fnExactWorldOKCard : Claim7 := { stood := { row := fnExactWorldOKRow, standIns := [], harness := (true, "9f51289564d4b22d2472ed920fb8834e8a41837b68124cda7477ff915fe90709"), looks := true }, kinds := [], alts := [], laidByText := true, laidKinds := [.sentinel, .sentinel], laidTests := true, laidLooks := .later }
def FnExactWorldOKCardSaid : Prop := Claim7.holds Tryz.pinned (.plain (OpenSpec.ofChange fnExactWorldOKSpec)) fnExactWorldOKCard

/-- THE SECOND FORM's CARD OF 'laws.FnExactWorldOK'. -/
def fnExactWorldOKUptoCard : Claim7 := { stood := { row := fnExactWorldOKUptoRow, standIns := [], harness := (true, "9f51289564d4b22d2472ed920fb8834e8a41837b68124cda7477ff915fe90709"), looks := true }, kinds := [], alts := [], laidByText := true, laidKinds := [.sentinel, .sentinel], laidTests := true, laidLooks := .later }
def FnExactWorldOKUptoCardSaid : Prop := Claim7.holds Tryz.pinned (.plain (OpenSpec.upto fnExactWorldOKSpec)) fnExactWorldOKUptoCard
end Rows
end Go.Proofs.YtncnbhekgkemfaaGreatDoor
