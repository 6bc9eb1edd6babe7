/-
  DERIVED. GIVEN WITH THE SEED: THE CARDS: each row of YtmbielgefhdcfaaDoorRows.lean that lists a variable, with what it lists TIED to the program's text (the seventh form; the later family's looks); each row that meets fmt, with fmt's text TOLD by the authors' own Lean function (tested against real Go, not proved from fmt's source: count such statements apart). THE CARD IS WHAT COUNTS. Prove the row's statement (the work); the ties are given (YtmbielgefhdcfaaDoorTie.lean); close each card by the builder's one call (the guide's Derived/Test/ToyasCard.lean, 'card_holds'). Laid BY PROGRAM, IN A SANDBOX (cutbox-door.mjs). By AI agents, Wed Nov 11 2026. No macro, syntax, notation, axiom, sorry.
-/
import Derived.Test.YtmbielgefhdcfaaDoorRows
import GoSem.ClaimSeven
namespace Go.Proofs.YtmbielgefhdcfaaDoor
namespace Rows

/-- THE TIED CARD OF 'laws.FnExactReadSet'. -/
def fnExactReadSetCard : Claim7 := { stood := { row := fnExactReadSetRow, standIns := [], harness := (true, "6e58af35cce949e37b01cc44acb35276003bad57902d8f15312630b2a5624781"), looks := true }, kinds := [], alts := [], laidByText := true, laidKinds := [.data, .data, .data, .sentinel, .sentinel], laidTests := true, laidLooks := .later }
def FnExactReadSetCardSaid : Prop := Claim7.holds Tryd.pinned (.plain (OpenSpec.ofChange fnExactReadSetSpec)) fnExactReadSetCard

/-- THE TIED CARD OF 'laws.FnExactSetText'. -/
def fnExactSetTextCard : Claim7 := { stood := { row := fnExactSetTextRow, standIns := [], harness := (true, "6e58af35cce949e37b01cc44acb35276003bad57902d8f15312630b2a5624781"), looks := true }, kinds := [], alts := [], laidByText := true, laidKinds := [.data, .data, .data], laidTests := true, laidLooks := .later }
def FnExactSetTextCardSaid : Prop := Claim7.holds Tryd.pinned (.plain (OpenSpec.ofChange fnExactSetTextSpec)) fnExactSetTextCard

/-- THE TIED CARD OF 'laws.FnExactFlagsText'. -/
def fnExactFlagsTextCard : Claim7 := { stood := { row := fnExactFlagsTextRow, standIns := [], harness := (true, "6e58af35cce949e37b01cc44acb35276003bad57902d8f15312630b2a5624781"), looks := true }, kinds := [], alts := [], laidByText := true, laidKinds := [.data], laidTests := true, laidLooks := .later }
def FnExactFlagsTextCardSaid : Prop := Claim7.holds Tryd.pinned (.plain (OpenSpec.ofChange fnExactFlagsTextSpec)) fnExactFlagsTextCard

/-- THE TIED CARD OF 'laws.FnExactReadFlags'. -/
def fnExactReadFlagsCard : Claim7 := { stood := { row := fnExactReadFlagsRow, standIns := [], harness := (true, "6e58af35cce949e37b01cc44acb35276003bad57902d8f15312630b2a5624781"), looks := true }, kinds := [], alts := [], laidByText := true, laidKinds := [.data, .data, .pinned], laidTests := true, laidLooks := .later }
def FnExactReadFlagsCardSaid : Prop := Claim7.holds Tryd.pinned (.plain (OpenSpec.ofChange fnExactReadFlagsSpec)) fnExactReadFlagsCard

/-- THE SECOND FORM's CARD OF 'laws.FnExactReadSet'. -/
def fnExactReadSetUptoCard : Claim7 := { stood := { row := fnExactReadSetUptoRow, standIns := [], harness := (true, "6e58af35cce949e37b01cc44acb35276003bad57902d8f15312630b2a5624781"), looks := true }, kinds := [], alts := [], laidByText := true, laidKinds := [.data, .data, .data, .sentinel, .sentinel], laidTests := true, laidLooks := .later }
def FnExactReadSetUptoCardSaid : Prop := Claim7.holds Tryd.pinned (.plain (OpenSpec.upto fnExactReadSetSpec)) fnExactReadSetUptoCard

/-- THE SECOND FORM's CARD OF 'laws.FnExactSetText'. -/
def fnExactSetTextUptoCard : Claim7 := { stood := { row := fnExactSetTextUptoRow, standIns := [], harness := (true, "6e58af35cce949e37b01cc44acb35276003bad57902d8f15312630b2a5624781"), looks := true }, kinds := [], alts := [], laidByText := true, laidKinds := [.data, .data, .data], laidTests := true, laidLooks := .later }
def FnExactSetTextUptoCardSaid : Prop := Claim7.holds Tryd.pinned (.plain (OpenSpec.upto fnExactSetTextSpec)) fnExactSetTextUptoCard

/-- THE SECOND FORM's CARD OF 'laws.FnExactFlagsText'. -/
def fnExactFlagsTextUptoCard : Claim7 := { stood := { row := fnExactFlagsTextUptoRow, standIns := [], harness := (true, "6e58af35cce949e37b01cc44acb35276003bad57902d8f15312630b2a5624781"), looks := true }, kinds := [], alts := [], laidByText := true, laidKinds := [.data], laidTests := true, laidLooks := .later }
def FnExactFlagsTextUptoCardSaid : Prop := Claim7.holds Tryd.pinned (.plain (OpenSpec.upto fnExactFlagsTextSpec)) fnExactFlagsTextUptoCard

/-- THE SECOND FORM's CARD OF 'laws.FnExactReadFlags'. -/
def fnExactReadFlagsUptoCard : Claim7 := { stood := { row := fnExactReadFlagsUptoRow, standIns := [], harness := (true, "6e58af35cce949e37b01cc44acb35276003bad57902d8f15312630b2a5624781"), looks := true }, kinds := [], alts := [], laidByText := true, laidKinds := [.data, .data, .pinned], laidTests := true, laidLooks := .later }
def FnExactReadFlagsUptoCardSaid : Prop := Claim7.holds Tryd.pinned (.plain (OpenSpec.upto fnExactReadFlagsSpec)) fnExactReadFlagsUptoCard
end Rows
end Go.Proofs.YtmbielgefhdcfaaDoor
