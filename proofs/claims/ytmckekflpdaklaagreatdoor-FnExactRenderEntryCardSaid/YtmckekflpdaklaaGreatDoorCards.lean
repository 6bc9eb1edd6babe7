/-
  DERIVED. GIVEN WITH THE SEED: THE CARDS: each row of YtmckekflpdaklaaGreatDoorRows.lean that lists a variable, with what it lists TIED to the program's text (the seventh form; the later family's looks); each row that meets fmt, with fmt's text TOLD by the authors' own Lean function (tested against real Go, not proved from fmt's source: count such statements apart). THE CARD IS WHAT COUNTS. Prove the row's statement (the work); the ties are given (YtmckekflpdaklaaGreatDoorTie.lean); close each card by the builder's one call (the guide's Derived/Test/ToyasCard.lean, 'card_holds'). Laid BY PROGRAM, IN A SANDBOX (cutbox-door.mjs). By AI agents, Wed Nov 11 2026. No macro, syntax, notation, axiom, sorry.
-/
import Derived.Test.YtmckekflpdaklaaGreatDoorRows
import GoSem.ClaimSeven
namespace Go.Proofs.YtmckekflpdaklaaGreatDoor
namespace Rows

/-- THE TIED CARD OF 'laws.FnExactRenderEntry'. -/
def fnExactRenderEntryCard : Claim7 := { stood := { row := fnExactRenderEntryRow, standIns := [], harness := (true, "92a16138d2d3be7a9173aad7415d7af9f26a91660a749fbafc3dcea504d26c90"), looks := false }, kinds := [], alts := [], laidByText := true, laidKinds := [.data, .data, .data, .data, .listed, .data, .data, .data, .data, .data, .pinned], laidTests := true, laidLooks := .later }
def FnExactRenderEntryCardSaid : Prop := Claim7.holds Tryz.pinned (.plain (OpenSpec.ofChange fnExactRenderEntrySpec)) fnExactRenderEntryCard

/-- THE TIED CARD OF 'laws.FnExactMailEntry'. -/
def fnExactMailEntryCard : Claim7 := { stood := { row := fnExactMailEntryRow, standIns := [], harness := (true, "92a16138d2d3be7a9173aad7415d7af9f26a91660a749fbafc3dcea504d26c90"), looks := false }, kinds := [], alts := [], laidByText := true, laidKinds := [.data, .listed, .data, .data, .data, .data, .data, .pinned], laidTests := true, laidLooks := .later }
def FnExactMailEntryCardSaid : Prop := Claim7.holds Tryz.pinned (.plain (OpenSpec.ofChange fnExactMailEntrySpec)) fnExactMailEntryCard

/-- THE SECOND FORM's CARD OF 'laws.FnExactRenderEntry'. -/
def fnExactRenderEntryUptoCard : Claim7 := { stood := { row := fnExactRenderEntryUptoRow, standIns := [], harness := (true, "92a16138d2d3be7a9173aad7415d7af9f26a91660a749fbafc3dcea504d26c90"), looks := false }, kinds := [], alts := [], laidByText := true, laidKinds := [.data, .data, .data, .data, .listed, .data, .data, .data, .data, .data, .pinned], laidTests := true, laidLooks := .later }
def FnExactRenderEntryUptoCardSaid : Prop := Claim7.holds Tryz.pinned (.plain (OpenSpec.upto fnExactRenderEntrySpec)) fnExactRenderEntryUptoCard

/-- THE SECOND FORM's CARD OF 'laws.FnExactMailEntry'. -/
def fnExactMailEntryUptoCard : Claim7 := { stood := { row := fnExactMailEntryUptoRow, standIns := [], harness := (true, "92a16138d2d3be7a9173aad7415d7af9f26a91660a749fbafc3dcea504d26c90"), looks := false }, kinds := [], alts := [], laidByText := true, laidKinds := [.data, .listed, .data, .data, .data, .data, .data, .pinned], laidTests := true, laidLooks := .later }
def FnExactMailEntryUptoCardSaid : Prop := Claim7.holds Tryz.pinned (.plain (OpenSpec.upto fnExactMailEntrySpec)) fnExactMailEntryUptoCard
end Rows
end Go.Proofs.YtmckekflpdaklaaGreatDoor
