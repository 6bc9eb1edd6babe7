/-
  DERIVED. GIVEN WITH THE SEED: THE CARDS: each row of YtcnbnnllhinoeaaDoorRows.lean that lists a variable, with what it lists TIED to the program's text (the seventh form; the later family's looks); each row that meets fmt, with fmt's text TOLD by the authors' own Lean function (tested against real Go, not proved from fmt's source: count such statements apart). THE CARD IS WHAT COUNTS. Prove the row's statement (the work); the ties are given (YtcnbnnllhinoeaaDoorTie.lean); close each card by the builder's one call (the guide's Derived/Test/ToyasCard.lean, 'card_holds'). Laid BY PROGRAM, IN A SANDBOX (cutbox-door.mjs). By AI agents, Wed Nov 11 2026. No macro, syntax, notation, axiom, sorry.
-/
import Derived.Test.YtcnbnnllhinoeaaDoorRows
import GoSem.ClaimSeven
namespace Go.Proofs.YtcnbnnllhinoeaaDoor
namespace Rows

/-- THE TIED CARD OF 'laws.FnExactQuotedText'. -/
def fnExactQuotedTextCard : Claim7 := { stood := { row := fnExactQuotedTextRow, standIns := [], harness := (true, "30cac47d17b04dcb59a73371383a48fd27c2a392680847fcc7658a0f16f69c18"), looks := false }, kinds := [], alts := [], laidByText := true, laidKinds := [.data], laidTests := true, laidLooks := .later }
def FnExactQuotedTextCardSaid : Prop := Claim7.holds Tryd.pinned (.plain (OpenSpec.ofChange fnExactQuotedTextSpec)) fnExactQuotedTextCard

/-- THE TIED CARD OF 'laws.FnExactReadQuoted'. -/
def fnExactReadQuotedCard : Claim7 := { stood := { row := fnExactReadQuotedRow, standIns := [], harness := (true, "30cac47d17b04dcb59a73371383a48fd27c2a392680847fcc7658a0f16f69c18"), looks := false }, kinds := [], alts := [], laidByText := true, laidKinds := [.data], laidTests := true, laidLooks := .later }
def FnExactReadQuotedCardSaid : Prop := Claim7.holds Tryd.pinned (.plain (OpenSpec.ofChange fnExactReadQuotedSpec)) fnExactReadQuotedCard

/-- THE SECOND FORM's CARD OF 'laws.FnExactQuotedText'. -/
def fnExactQuotedTextUptoCard : Claim7 := { stood := { row := fnExactQuotedTextUptoRow, standIns := [], harness := (true, "30cac47d17b04dcb59a73371383a48fd27c2a392680847fcc7658a0f16f69c18"), looks := false }, kinds := [], alts := [], laidByText := true, laidKinds := [.data], laidTests := true, laidLooks := .later }
def FnExactQuotedTextUptoCardSaid : Prop := Claim7.holds Tryd.pinned (.plain (OpenSpec.upto fnExactQuotedTextSpec)) fnExactQuotedTextUptoCard

/-- THE SECOND FORM's CARD OF 'laws.FnExactReadQuoted'. -/
def fnExactReadQuotedUptoCard : Claim7 := { stood := { row := fnExactReadQuotedUptoRow, standIns := [], harness := (true, "30cac47d17b04dcb59a73371383a48fd27c2a392680847fcc7658a0f16f69c18"), looks := false }, kinds := [], alts := [], laidByText := true, laidKinds := [.data], laidTests := true, laidLooks := .later }
def FnExactReadQuotedUptoCardSaid : Prop := Claim7.holds Tryd.pinned (.plain (OpenSpec.upto fnExactReadQuotedSpec)) fnExactReadQuotedUptoCard
end Rows
end Go.Proofs.YtcnbnnllhinoeaaDoor
