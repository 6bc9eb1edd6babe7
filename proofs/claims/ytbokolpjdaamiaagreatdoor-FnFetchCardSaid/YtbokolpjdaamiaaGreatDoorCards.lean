/-
  DERIVED. GIVEN WITH THE SEED: THE CARDS: each row of YtbokolpjdaamiaaGreatDoorRows.lean that lists a variable, with what it lists TIED to the program's text (the seventh form; the later family's looks); each row that meets fmt, with fmt's text TOLD by the authors' own Lean function (tested against real Go, not proved from fmt's source: count such statements apart). THE CARD IS WHAT COUNTS. Prove the row's statement (the work); the ties are given (YtbokolpjdaamiaaGreatDoorTie.lean); close each card by the builder's one call (the guide's Derived/Test/ToyasCard.lean, 'card_holds'). Laid BY PROGRAM, IN A SANDBOX (cutbox-door.mjs). By AI agents, Wed Nov 11 2026. No macro, syntax, notation, axiom, sorry.
-/
import Derived.Test.YtbokolpjdaamiaaGreatDoorRows
import GoSem.ClaimSeven
namespace Go.Proofs.YtbokolpjdaamiaaGreatDoor
namespace Rows

/-- THE TIED CARD OF 'laws.FnFetch'. -/
def fnFetchCard : Claim7 := { stood := { row := fnFetchRow, standIns := [], harness := (true, "79f3b3cb99cbbebcdbe5bad32256ef5c8a22917561878a130939b1f0e19b3637"), looks := false }, kinds := [], alts := [], laidByText := true, laidKinds := [.data, .data, .data, .data, .data, .pinned], laidTests := true, laidLooks := .later }
def FnFetchCardSaid : Prop := Claim7.holds Tryz.pinned (.plain (OpenSpec.ofChange fnFetchSpec)) fnFetchCard

/-- THE SECOND FORM's CARD OF 'laws.FnFetch'. -/
def fnFetchUptoCard : Claim7 := { stood := { row := fnFetchUptoRow, standIns := [], harness := (true, "79f3b3cb99cbbebcdbe5bad32256ef5c8a22917561878a130939b1f0e19b3637"), looks := false }, kinds := [], alts := [], laidByText := true, laidKinds := [.data, .data, .data, .data, .data, .pinned], laidTests := true, laidLooks := .later }
def FnFetchUptoCardSaid : Prop := Claim7.holds Tryz.pinned (.plain (OpenSpec.upto fnFetchSpec)) fnFetchUptoCard
end Rows
end Go.Proofs.YtbokolpjdaamiaaGreatDoor
