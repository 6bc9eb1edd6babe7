/-
  DERIVED. GIVEN WITH THE SEED: THE CARDS: each row of YtpbmofofigkpjabDoorRows.lean that lists a variable, with what it lists TIED to the program's text (the seventh form; the later family's looks); each row that meets fmt, with fmt's text TOLD by the authors' own Lean function (tested against real Go, not proved from fmt's source: count such statements apart). THE CARD IS WHAT COUNTS. Prove the row's statement (the work); the ties are given (YtpbmofofigkpjabDoorTie.lean); close each card by the builder's one call (the guide's Derived/Test/ToyasCard.lean, 'card_holds'). Laid BY PROGRAM, IN A SANDBOX (cutbox-door.mjs). By AI agents, Wed Nov 11 2026. No macro, syntax, notation, axiom, sorry.
-/
import Derived.Test.YtpbmofofigkpjabDoorRows
import GoSem.ClaimSeven
namespace Go.Proofs.YtpbmofofigkpjabDoor
namespace Rows

/-- THE TIED CARD OF 'laws.FnExactDecodeWords'. -/
def fnExactDecodeWordsCard : Claim7 := { stood := { row := fnExactDecodeWordsRow, standIns := [], harness := (true, "63de27ebd962393fde956572e7ef4646b8cc908d72d2c1cc58384d663c3b5be9"), looks := false }, kinds := [], alts := [], laidByText := true, laidKinds := [.listed, .data, .data], laidTests := true, laidLooks := .later }
def FnExactDecodeWordsCardSaid : Prop := Claim7.holds Tryd.pinned (.plain (OpenSpec.ofChange fnExactDecodeWordsSpec)) fnExactDecodeWordsCard

/-- THE TIED CARD OF 'laws.FnExactFoldHeader'. -/
def fnExactFoldHeaderCard : Claim7 := { stood := { row := fnExactFoldHeaderRow, standIns := [], harness := (true, "63de27ebd962393fde956572e7ef4646b8cc908d72d2c1cc58384d663c3b5be9"), looks := false }, kinds := [], alts := [], laidByText := true, laidKinds := [.listed, .data], laidTests := true, laidLooks := .later }
def FnExactFoldHeaderCardSaid : Prop := Claim7.holds Tryd.pinned (.plain (OpenSpec.ofChange fnExactFoldHeaderSpec)) fnExactFoldHeaderCard

/-- THE TIED CARD OF 'laws.FnExactUnfoldHeader'. -/
def fnExactUnfoldHeaderCard : Claim7 := { stood := { row := fnExactUnfoldHeaderRow, standIns := [], harness := (true, "63de27ebd962393fde956572e7ef4646b8cc908d72d2c1cc58384d663c3b5be9"), looks := false }, kinds := [], alts := [], laidByText := true, laidKinds := [.data, .pinned], laidTests := true, laidLooks := .later }
def FnExactUnfoldHeaderCardSaid : Prop := Claim7.holds Tryd.pinned (.plain (OpenSpec.ofChange fnExactUnfoldHeaderSpec)) fnExactUnfoldHeaderCard

/-- THE SECOND FORM's CARD OF 'laws.FnExactDecodeWords'. -/
def fnExactDecodeWordsUptoCard : Claim7 := { stood := { row := fnExactDecodeWordsUptoRow, standIns := [], harness := (true, "63de27ebd962393fde956572e7ef4646b8cc908d72d2c1cc58384d663c3b5be9"), looks := false }, kinds := [], alts := [], laidByText := true, laidKinds := [.listed, .data, .data], laidTests := true, laidLooks := .later }
def FnExactDecodeWordsUptoCardSaid : Prop := Claim7.holds Tryd.pinned (.plain (OpenSpec.upto fnExactDecodeWordsSpec)) fnExactDecodeWordsUptoCard

/-- THE SECOND FORM's CARD OF 'laws.FnExactFoldHeader'. -/
def fnExactFoldHeaderUptoCard : Claim7 := { stood := { row := fnExactFoldHeaderUptoRow, standIns := [], harness := (true, "63de27ebd962393fde956572e7ef4646b8cc908d72d2c1cc58384d663c3b5be9"), looks := false }, kinds := [], alts := [], laidByText := true, laidKinds := [.listed, .data], laidTests := true, laidLooks := .later }
def FnExactFoldHeaderUptoCardSaid : Prop := Claim7.holds Tryd.pinned (.plain (OpenSpec.upto fnExactFoldHeaderSpec)) fnExactFoldHeaderUptoCard

/-- THE SECOND FORM's CARD OF 'laws.FnExactUnfoldHeader'. -/
def fnExactUnfoldHeaderUptoCard : Claim7 := { stood := { row := fnExactUnfoldHeaderUptoRow, standIns := [], harness := (true, "63de27ebd962393fde956572e7ef4646b8cc908d72d2c1cc58384d663c3b5be9"), looks := false }, kinds := [], alts := [], laidByText := true, laidKinds := [.data, .pinned], laidTests := true, laidLooks := .later }
def FnExactUnfoldHeaderUptoCardSaid : Prop := Claim7.holds Tryd.pinned (.plain (OpenSpec.upto fnExactUnfoldHeaderSpec)) fnExactUnfoldHeaderUptoCard
end Rows
end Go.Proofs.YtpbmofofigkpjabDoor
