/-
  DERIVED. GIVEN WITH THE SEED: THE CARDS: each row of YtfdfcmojilmpaaaDoorRows.lean that lists a variable, with what it lists TIED to the program's text (the seventh form; the later family's looks); each row that meets fmt, with fmt's text TOLD by the authors' own Lean function (tested against real Go, not proved from fmt's source: count such statements apart). THE CARD IS WHAT COUNTS. Prove the row's statement (the work); the ties are given (YtfdfcmojilmpaaaDoorTie.lean); close each card by the builder's one call (the guide's Derived/Test/ToyasCard.lean, 'card_holds'). Laid BY PROGRAM, IN A SANDBOX (cutbox-door.mjs). By AI agents, Wed Nov 11 2026. No macro, syntax, notation, axiom, sorry.
-/
import Derived.Test.YtfdfcmojilmpaaaDoorRows
import GoSem.ClaimSeven
namespace Go.Proofs.YtfdfcmojilmpaaaDoor
namespace Rows

/-- THE TIED CARD OF 'laws.FnSets'. -/
def fnSetsCard : Claim7 := { stood := { row := fnSetsRow, standIns := [], harness := (true, "c287d63c39f16d66da8b431a00b2c4b6059776746674413496bdfeb763069d2f"), looks := true }, kinds := [], alts := [], laidByText := true, laidKinds := [.data, .data, .data, .sentinel, .sentinel], laidTests := true, laidLooks := .later }
def FnSetsCardSaid : Prop := Claim7.holds Tryd.pinned (.plain (OpenSpec.ofChange fnSetsSpec)) fnSetsCard

/-- THE TIED CARD OF 'laws.FnFlagTexts'. -/
def fnFlagTextsCard : Claim7 := { stood := { row := fnFlagTextsRow, standIns := [], harness := (true, "c287d63c39f16d66da8b431a00b2c4b6059776746674413496bdfeb763069d2f"), looks := true }, kinds := [], alts := [], laidByText := true, laidKinds := [.data, .data, .pinned], laidTests := true, laidLooks := .later }
def FnFlagTextsCardSaid : Prop := Claim7.holds Tryd.pinned (.plain (OpenSpec.ofChange fnFlagTextsSpec)) fnFlagTextsCard

/-- THE TIED CARD OF 'laws.FnExactReadSearch'. -/
def fnExactReadSearchCard : Claim7 := { stood := { row := fnExactReadSearchRow, standIns := [], harness := (true, "c287d63c39f16d66da8b431a00b2c4b6059776746674413496bdfeb763069d2f"), looks := true }, kinds := [], alts := [], laidByText := true, laidKinds := [.data, .data, .data, .sentinel, .sentinel, .data], laidTests := true, laidLooks := .later }
def FnExactReadSearchCardSaid : Prop := Claim7.holds Tryd.pinned (.plain (OpenSpec.ofChange fnExactReadSearchSpec)) fnExactReadSearchCard

/-- THE SECOND FORM's CARD OF 'laws.FnSets'. -/
def fnSetsUptoCard : Claim7 := { stood := { row := fnSetsUptoRow, standIns := [], harness := (true, "c287d63c39f16d66da8b431a00b2c4b6059776746674413496bdfeb763069d2f"), looks := true }, kinds := [], alts := [], laidByText := true, laidKinds := [.data, .data, .data, .sentinel, .sentinel], laidTests := true, laidLooks := .later }
def FnSetsUptoCardSaid : Prop := Claim7.holds Tryd.pinned (.plain (OpenSpec.upto fnSetsSpec)) fnSetsUptoCard

/-- THE SECOND FORM's CARD OF 'laws.FnFlagTexts'. -/
def fnFlagTextsUptoCard : Claim7 := { stood := { row := fnFlagTextsUptoRow, standIns := [], harness := (true, "c287d63c39f16d66da8b431a00b2c4b6059776746674413496bdfeb763069d2f"), looks := true }, kinds := [], alts := [], laidByText := true, laidKinds := [.data, .data, .pinned], laidTests := true, laidLooks := .later }
def FnFlagTextsUptoCardSaid : Prop := Claim7.holds Tryd.pinned (.plain (OpenSpec.upto fnFlagTextsSpec)) fnFlagTextsUptoCard

/-- THE SECOND FORM's CARD OF 'laws.FnExactReadSearch'. -/
def fnExactReadSearchUptoCard : Claim7 := { stood := { row := fnExactReadSearchUptoRow, standIns := [], harness := (true, "c287d63c39f16d66da8b431a00b2c4b6059776746674413496bdfeb763069d2f"), looks := true }, kinds := [], alts := [], laidByText := true, laidKinds := [.data, .data, .data, .sentinel, .sentinel, .data], laidTests := true, laidLooks := .later }
def FnExactReadSearchUptoCardSaid : Prop := Claim7.holds Tryd.pinned (.plain (OpenSpec.upto fnExactReadSearchSpec)) fnExactReadSearchUptoCard
end Rows
end Go.Proofs.YtfdfcmojilmpaaaDoor
