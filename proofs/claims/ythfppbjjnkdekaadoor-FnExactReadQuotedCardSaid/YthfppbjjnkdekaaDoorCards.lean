/-
  DERIVED. GIVEN WITH THE SEED: THE CARDS: each row of YthfppbjjnkdekaaDoorRows.lean that lists a variable, with what it lists TIED to the program's text (the seventh form; the later family's looks); each row that meets fmt, with fmt's text TOLD by the authors' own Lean function (tested against real Go, not proved from fmt's source: count such statements apart). THE CARD IS WHAT COUNTS. Prove the row's statement (the work); the ties are given (YthfppbjjnkdekaaDoorTie.lean); close each card by the builder's one call (the guide's Derived/Test/ToyasCard.lean, 'card_holds'). Laid BY PROGRAM, IN A SANDBOX (cutbox-door.mjs). By AI agents, Wed Nov 11 2026. No macro, syntax, notation, axiom, sorry.
-/
import Derived.Test.YthfppbjjnkdekaaDoorRows
import GoSem.ClaimSeven
namespace Go.Proofs.YthfppbjjnkdekaaDoor
namespace Rows

/-- THE TIED CARD OF 'laws.FnBase64'. -/
def fnBase64Card : Claim7 := { stood := { row := fnBase64Row, standIns := [], harness := (true, "f6a1bb9fef93e942520149db0202443bbe208aa712ee138d12ec2abc51e96aa8"), looks := false }, kinds := [], alts := [], laidByText := true, laidKinds := [.data, .data], laidTests := true, laidLooks := .later }
def FnBase64CardSaid : Prop := Claim7.holds Tryd.pinned (.plain (OpenSpec.ofChange fnBase64Spec)) fnBase64Card

/-- THE TIED CARD OF 'laws.FnQuoted'. -/
def fnQuotedCard : Claim7 := { stood := { row := fnQuotedRow, standIns := [], harness := (true, "f6a1bb9fef93e942520149db0202443bbe208aa712ee138d12ec2abc51e96aa8"), looks := false }, kinds := [], alts := [], laidByText := true, laidKinds := [.data, .data, .pinned], laidTests := true, laidLooks := .later }
def FnQuotedCardSaid : Prop := Claim7.holds Tryd.pinned (.plain (OpenSpec.ofChange fnQuotedSpec)) fnQuotedCard

/-- THE TIED CARD OF 'laws.FnExactBase64Text'. -/
def fnExactBase64TextCard : Claim7 := { stood := { row := fnExactBase64TextRow, standIns := [], harness := (true, "f6a1bb9fef93e942520149db0202443bbe208aa712ee138d12ec2abc51e96aa8"), looks := false }, kinds := [], alts := [], laidByText := true, laidKinds := [.data], laidTests := true, laidLooks := .later }
def FnExactBase64TextCardSaid : Prop := Claim7.holds Tryd.pinned (.plain (OpenSpec.ofChange fnExactBase64TextSpec)) fnExactBase64TextCard

/-- THE TIED CARD OF 'laws.FnExactReadBase64'. -/
def fnExactReadBase64Card : Claim7 := { stood := { row := fnExactReadBase64Row, standIns := [], harness := (true, "f6a1bb9fef93e942520149db0202443bbe208aa712ee138d12ec2abc51e96aa8"), looks := false }, kinds := [], alts := [], laidByText := true, laidKinds := [.data], laidTests := true, laidLooks := .later }
def FnExactReadBase64CardSaid : Prop := Claim7.holds Tryd.pinned (.plain (OpenSpec.ofChange fnExactReadBase64Spec)) fnExactReadBase64Card

/-- THE TIED CARD OF 'laws.FnExactQuotedText'. -/
def fnExactQuotedTextCard : Claim7 := { stood := { row := fnExactQuotedTextRow, standIns := [], harness := (true, "f6a1bb9fef93e942520149db0202443bbe208aa712ee138d12ec2abc51e96aa8"), looks := false }, kinds := [], alts := [], laidByText := true, laidKinds := [.data], laidTests := true, laidLooks := .later }
def FnExactQuotedTextCardSaid : Prop := Claim7.holds Tryd.pinned (.plain (OpenSpec.ofChange fnExactQuotedTextSpec)) fnExactQuotedTextCard

/-- THE TIED CARD OF 'laws.FnExactReadQuoted'. -/
def fnExactReadQuotedCard : Claim7 := { stood := { row := fnExactReadQuotedRow, standIns := [], harness := (true, "f6a1bb9fef93e942520149db0202443bbe208aa712ee138d12ec2abc51e96aa8"), looks := false }, kinds := [], alts := [], laidByText := true, laidKinds := [.data], laidTests := true, laidLooks := .later }
def FnExactReadQuotedCardSaid : Prop := Claim7.holds Tryd.pinned (.plain (OpenSpec.ofChange fnExactReadQuotedSpec)) fnExactReadQuotedCard

/-- THE SECOND FORM's CARD OF 'laws.FnBase64'. -/
def fnBase64UptoCard : Claim7 := { stood := { row := fnBase64UptoRow, standIns := [], harness := (true, "f6a1bb9fef93e942520149db0202443bbe208aa712ee138d12ec2abc51e96aa8"), looks := false }, kinds := [], alts := [], laidByText := true, laidKinds := [.data, .data], laidTests := true, laidLooks := .later }
def FnBase64UptoCardSaid : Prop := Claim7.holds Tryd.pinned (.plain (OpenSpec.upto fnBase64Spec)) fnBase64UptoCard

/-- THE SECOND FORM's CARD OF 'laws.FnQuoted'. -/
def fnQuotedUptoCard : Claim7 := { stood := { row := fnQuotedUptoRow, standIns := [], harness := (true, "f6a1bb9fef93e942520149db0202443bbe208aa712ee138d12ec2abc51e96aa8"), looks := false }, kinds := [], alts := [], laidByText := true, laidKinds := [.data, .data, .pinned], laidTests := true, laidLooks := .later }
def FnQuotedUptoCardSaid : Prop := Claim7.holds Tryd.pinned (.plain (OpenSpec.upto fnQuotedSpec)) fnQuotedUptoCard

/-- THE SECOND FORM's CARD OF 'laws.FnExactBase64Text'. -/
def fnExactBase64TextUptoCard : Claim7 := { stood := { row := fnExactBase64TextUptoRow, standIns := [], harness := (true, "f6a1bb9fef93e942520149db0202443bbe208aa712ee138d12ec2abc51e96aa8"), looks := false }, kinds := [], alts := [], laidByText := true, laidKinds := [.data], laidTests := true, laidLooks := .later }
def FnExactBase64TextUptoCardSaid : Prop := Claim7.holds Tryd.pinned (.plain (OpenSpec.upto fnExactBase64TextSpec)) fnExactBase64TextUptoCard

/-- THE SECOND FORM's CARD OF 'laws.FnExactReadBase64'. -/
def fnExactReadBase64UptoCard : Claim7 := { stood := { row := fnExactReadBase64UptoRow, standIns := [], harness := (true, "f6a1bb9fef93e942520149db0202443bbe208aa712ee138d12ec2abc51e96aa8"), looks := false }, kinds := [], alts := [], laidByText := true, laidKinds := [.data], laidTests := true, laidLooks := .later }
def FnExactReadBase64UptoCardSaid : Prop := Claim7.holds Tryd.pinned (.plain (OpenSpec.upto fnExactReadBase64Spec)) fnExactReadBase64UptoCard

/-- THE SECOND FORM's CARD OF 'laws.FnExactQuotedText'. -/
def fnExactQuotedTextUptoCard : Claim7 := { stood := { row := fnExactQuotedTextUptoRow, standIns := [], harness := (true, "f6a1bb9fef93e942520149db0202443bbe208aa712ee138d12ec2abc51e96aa8"), looks := false }, kinds := [], alts := [], laidByText := true, laidKinds := [.data], laidTests := true, laidLooks := .later }
def FnExactQuotedTextUptoCardSaid : Prop := Claim7.holds Tryd.pinned (.plain (OpenSpec.upto fnExactQuotedTextSpec)) fnExactQuotedTextUptoCard

/-- THE SECOND FORM's CARD OF 'laws.FnExactReadQuoted'. -/
def fnExactReadQuotedUptoCard : Claim7 := { stood := { row := fnExactReadQuotedUptoRow, standIns := [], harness := (true, "f6a1bb9fef93e942520149db0202443bbe208aa712ee138d12ec2abc51e96aa8"), looks := false }, kinds := [], alts := [], laidByText := true, laidKinds := [.data], laidTests := true, laidLooks := .later }
def FnExactReadQuotedUptoCardSaid : Prop := Claim7.holds Tryd.pinned (.plain (OpenSpec.upto fnExactReadQuotedSpec)) fnExactReadQuotedUptoCard
end Rows
end Go.Proofs.YthfppbjjnkdekaaDoor
