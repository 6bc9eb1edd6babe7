/-
  DERIVED. GIVEN WITH THE SEED: THE CARDS: each row of YtadfdfmebdcfgaaGreatDoorRows.lean that lists a variable, with what it lists TIED to the program's text (the seventh form; the later family's looks); each row that meets fmt, with fmt's text TOLD by the authors' own Lean function (tested against real Go, not proved from fmt's source: count such statements apart). THE CARD IS WHAT COUNTS. Prove the row's statement (the work); the ties are given (YtadfdfmebdcfgaaGreatDoorTie.lean); close each card by the builder's one call (the guide's Derived/Test/ToyasCard.lean, 'card_holds'). Laid BY PROGRAM, IN A SANDBOX (cutbox-door.mjs). By AI agents, Wed Nov 11 2026. No macro, syntax, notation, axiom, sorry.
-/
import Derived.Test.YtadfdfmebdcfgaaGreatDoorRows
import GoSem.ClaimSeven
namespace Go.Proofs.YtadfdfmebdcfgaaGreatDoor
namespace Rows

/-- THE TIED CARD OF 'laws.FnMail'. -/
def fnMailCard : Claim7 := { stood := { row := fnMailRow, standIns := [], harness := (true, "179595c0a765df8c2521712fd061aa47018cedaeafaff633908a6d9ca9871eda"), looks := false }, kinds := [], alts := [], laidByText := true, laidKinds := [.data, .data, .data, .data, .listed, .data, .data, .data, .data, .data, .data, .pinned], laidTests := true, laidLooks := .later }
def FnMailCardSaid : Prop := Claim7.holds Tryz.pinned (.plain (OpenSpec.ofChange fnMailSpec)) fnMailCard

/-- THE TIED CARD OF 'laws.FnExactMailEntry'. -/
def fnExactMailEntryCard : Claim7 := { stood := { row := fnExactMailEntryRow, standIns := [], harness := (true, "179595c0a765df8c2521712fd061aa47018cedaeafaff633908a6d9ca9871eda"), looks := false }, kinds := [], alts := [], laidByText := true, laidKinds := [.data, .listed, .data, .data, .data, .data, .data, .pinned], laidTests := true, laidLooks := .later }
def FnExactMailEntryCardSaid : Prop := Claim7.holds Tryz.pinned (.plain (OpenSpec.ofChange fnExactMailEntrySpec)) fnExactMailEntryCard

/-- THE SECOND FORM's CARD OF 'laws.FnMail'. -/
def fnMailUptoCard : Claim7 := { stood := { row := fnMailUptoRow, standIns := [], harness := (true, "179595c0a765df8c2521712fd061aa47018cedaeafaff633908a6d9ca9871eda"), looks := false }, kinds := [], alts := [], laidByText := true, laidKinds := [.data, .data, .data, .data, .listed, .data, .data, .data, .data, .data, .data, .pinned], laidTests := true, laidLooks := .later }
def FnMailUptoCardSaid : Prop := Claim7.holds Tryz.pinned (.plain (OpenSpec.upto fnMailSpec)) fnMailUptoCard

/-- THE SECOND FORM's CARD OF 'laws.FnExactMailEntry'. -/
def fnExactMailEntryUptoCard : Claim7 := { stood := { row := fnExactMailEntryUptoRow, standIns := [], harness := (true, "179595c0a765df8c2521712fd061aa47018cedaeafaff633908a6d9ca9871eda"), looks := false }, kinds := [], alts := [], laidByText := true, laidKinds := [.data, .listed, .data, .data, .data, .data, .data, .pinned], laidTests := true, laidLooks := .later }
def FnExactMailEntryUptoCardSaid : Prop := Claim7.holds Tryz.pinned (.plain (OpenSpec.upto fnExactMailEntrySpec)) fnExactMailEntryUptoCard
end Rows
end Go.Proofs.YtadfdfmebdcfgaaGreatDoor
