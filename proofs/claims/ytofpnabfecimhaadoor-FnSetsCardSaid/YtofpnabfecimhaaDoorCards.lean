/-
  DERIVED. GIVEN WITH THE SEED: THE CARDS: each row of YtofpnabfecimhaaDoorRows.lean that lists a variable, with what it lists TIED to the program's text (the seventh form; the later family's looks); each row that meets fmt, with fmt's text TOLD by the authors' own Lean function (tested against real Go, not proved from fmt's source: count such statements apart). THE CARD IS WHAT COUNTS. Prove the row's statement (the work); the ties are given (YtofpnabfecimhaaDoorTie.lean); close each card by the builder's one call (the guide's Derived/Test/ToyasCard.lean, 'card_holds'). Laid BY PROGRAM, IN A SANDBOX (cutbox-door.mjs). By AI agents, Wed Nov 11 2026. No macro, syntax, notation, axiom, sorry.
-/
import Derived.Test.YtofpnabfecimhaaDoorRows
import GoSem.ClaimSeven
namespace Go.Proofs.YtofpnabfecimhaaDoor
namespace Rows

/-- THE TIED CARD OF 'laws.FnFlagTexts'. -/
def fnFlagTextsCard : Claim7 := { stood := { row := fnFlagTextsRow, standIns := [], harness := (true, "d35fd0e5ed65481ebb8629c23b02cef776b2170479af0acc8b99c56bc7126aef"), looks := true }, kinds := [], alts := [], laidByText := true, laidKinds := [.data, .data, .pinned], laidTests := true, laidLooks := .later }
def FnFlagTextsCardSaid : Prop := Claim7.holds Tryd.pinned (.plain (OpenSpec.ofChange fnFlagTextsSpec)) fnFlagTextsCard

/-- THE TIED CARD OF 'laws.FnSets'. -/
def fnSetsCard : Claim7 := { stood := { row := fnSetsRow, standIns := [], harness := (true, "d35fd0e5ed65481ebb8629c23b02cef776b2170479af0acc8b99c56bc7126aef"), looks := true }, kinds := [], alts := [], laidByText := true, laidKinds := [.data, .data, .data, .sentinel, .sentinel], laidTests := true, laidLooks := .later }
def FnSetsCardSaid : Prop := Claim7.holds Tryd.pinned (.plain (OpenSpec.ofChange fnSetsSpec)) fnSetsCard

/-- THE SECOND FORM's CARD OF 'laws.FnFlagTexts'. -/
def fnFlagTextsUptoCard : Claim7 := { stood := { row := fnFlagTextsUptoRow, standIns := [], harness := (true, "d35fd0e5ed65481ebb8629c23b02cef776b2170479af0acc8b99c56bc7126aef"), looks := true }, kinds := [], alts := [], laidByText := true, laidKinds := [.data, .data, .pinned], laidTests := true, laidLooks := .later }
def FnFlagTextsUptoCardSaid : Prop := Claim7.holds Tryd.pinned (.plain (OpenSpec.upto fnFlagTextsSpec)) fnFlagTextsUptoCard

/-- THE SECOND FORM's CARD OF 'laws.FnSets'. -/
def fnSetsUptoCard : Claim7 := { stood := { row := fnSetsUptoRow, standIns := [], harness := (true, "d35fd0e5ed65481ebb8629c23b02cef776b2170479af0acc8b99c56bc7126aef"), looks := true }, kinds := [], alts := [], laidByText := true, laidKinds := [.data, .data, .data, .sentinel, .sentinel], laidTests := true, laidLooks := .later }
def FnSetsUptoCardSaid : Prop := Claim7.holds Tryd.pinned (.plain (OpenSpec.upto fnSetsSpec)) fnSetsUptoCard
end Rows
end Go.Proofs.YtofpnabfecimhaaDoor
