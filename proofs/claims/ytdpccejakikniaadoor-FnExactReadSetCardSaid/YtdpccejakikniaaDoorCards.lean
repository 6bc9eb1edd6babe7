/-
  DERIVED. GIVEN WITH THE SEED: THE CARDS: each row of YtdpccejakikniaaDoorRows.lean that lists a variable, with what it lists TIED to the program's text (the seventh form; the later family's looks); each row that meets fmt, with fmt's text TOLD by the authors' own Lean function (tested against real Go, not proved from fmt's source: count such statements apart). THE CARD IS WHAT COUNTS. Prove the row's statement (the work); the ties are given (YtdpccejakikniaaDoorTie.lean); close each card by the builder's one call (the guide's Derived/Test/ToyasCard.lean, 'card_holds'). Laid BY PROGRAM, IN A SANDBOX (cutbox-door.mjs). By AI agents, Wed Nov 11 2026. No macro, syntax, notation, axiom, sorry.
-/
import Derived.Test.YtdpccejakikniaaDoorRows
import GoSem.ClaimSeven
namespace Go.Proofs.YtdpccejakikniaaDoor
namespace Rows

/-- THE TIED CARD OF 'laws.FnExactFlagsText'. -/
def fnExactFlagsTextCard : Claim7 := { stood := { row := fnExactFlagsTextRow, standIns := [], harness := (true, "ebba52b1567e7e0d247bd396d22f3628b3dab0ad6699cd9266a2b27cf26218eb"), looks := true }, kinds := [], alts := [], laidByText := true, laidKinds := [.data], laidTests := true, laidLooks := .later }
def FnExactFlagsTextCardSaid : Prop := Claim7.holds Tryd.pinned (.plain (OpenSpec.ofChange fnExactFlagsTextSpec)) fnExactFlagsTextCard

/-- THE TIED CARD OF 'laws.FnExactReadFlags'. -/
def fnExactReadFlagsCard : Claim7 := { stood := { row := fnExactReadFlagsRow, standIns := [], harness := (true, "ebba52b1567e7e0d247bd396d22f3628b3dab0ad6699cd9266a2b27cf26218eb"), looks := true }, kinds := [], alts := [], laidByText := true, laidKinds := [.data, .data, .pinned], laidTests := true, laidLooks := .later }
def FnExactReadFlagsCardSaid : Prop := Claim7.holds Tryd.pinned (.plain (OpenSpec.ofChange fnExactReadFlagsSpec)) fnExactReadFlagsCard

/-- THE TIED CARD OF 'laws.FnExactSetText'. -/
def fnExactSetTextCard : Claim7 := { stood := { row := fnExactSetTextRow, standIns := [], harness := (true, "ebba52b1567e7e0d247bd396d22f3628b3dab0ad6699cd9266a2b27cf26218eb"), looks := true }, kinds := [], alts := [], laidByText := true, laidKinds := [.data, .data, .data], laidTests := true, laidLooks := .later }
def FnExactSetTextCardSaid : Prop := Claim7.holds Tryd.pinned (.plain (OpenSpec.ofChange fnExactSetTextSpec)) fnExactSetTextCard

/-- THE TIED CARD OF 'laws.FnExactReadSet'. -/
def fnExactReadSetCard : Claim7 := { stood := { row := fnExactReadSetRow, standIns := [], harness := (true, "ebba52b1567e7e0d247bd396d22f3628b3dab0ad6699cd9266a2b27cf26218eb"), looks := true }, kinds := [], alts := [], laidByText := true, laidKinds := [.data, .data, .data, .sentinel, .sentinel], laidTests := true, laidLooks := .later }
def FnExactReadSetCardSaid : Prop := Claim7.holds Tryd.pinned (.plain (OpenSpec.ofChange fnExactReadSetSpec)) fnExactReadSetCard

/-- THE SECOND FORM's CARD OF 'laws.FnExactFlagsText'. -/
def fnExactFlagsTextUptoCard : Claim7 := { stood := { row := fnExactFlagsTextUptoRow, standIns := [], harness := (true, "ebba52b1567e7e0d247bd396d22f3628b3dab0ad6699cd9266a2b27cf26218eb"), looks := true }, kinds := [], alts := [], laidByText := true, laidKinds := [.data], laidTests := true, laidLooks := .later }
def FnExactFlagsTextUptoCardSaid : Prop := Claim7.holds Tryd.pinned (.plain (OpenSpec.upto fnExactFlagsTextSpec)) fnExactFlagsTextUptoCard

/-- THE SECOND FORM's CARD OF 'laws.FnExactReadFlags'. -/
def fnExactReadFlagsUptoCard : Claim7 := { stood := { row := fnExactReadFlagsUptoRow, standIns := [], harness := (true, "ebba52b1567e7e0d247bd396d22f3628b3dab0ad6699cd9266a2b27cf26218eb"), looks := true }, kinds := [], alts := [], laidByText := true, laidKinds := [.data, .data, .pinned], laidTests := true, laidLooks := .later }
def FnExactReadFlagsUptoCardSaid : Prop := Claim7.holds Tryd.pinned (.plain (OpenSpec.upto fnExactReadFlagsSpec)) fnExactReadFlagsUptoCard

/-- THE SECOND FORM's CARD OF 'laws.FnExactSetText'. -/
def fnExactSetTextUptoCard : Claim7 := { stood := { row := fnExactSetTextUptoRow, standIns := [], harness := (true, "ebba52b1567e7e0d247bd396d22f3628b3dab0ad6699cd9266a2b27cf26218eb"), looks := true }, kinds := [], alts := [], laidByText := true, laidKinds := [.data, .data, .data], laidTests := true, laidLooks := .later }
def FnExactSetTextUptoCardSaid : Prop := Claim7.holds Tryd.pinned (.plain (OpenSpec.upto fnExactSetTextSpec)) fnExactSetTextUptoCard

/-- THE SECOND FORM's CARD OF 'laws.FnExactReadSet'. -/
def fnExactReadSetUptoCard : Claim7 := { stood := { row := fnExactReadSetUptoRow, standIns := [], harness := (true, "ebba52b1567e7e0d247bd396d22f3628b3dab0ad6699cd9266a2b27cf26218eb"), looks := true }, kinds := [], alts := [], laidByText := true, laidKinds := [.data, .data, .data, .sentinel, .sentinel], laidTests := true, laidLooks := .later }
def FnExactReadSetUptoCardSaid : Prop := Claim7.holds Tryd.pinned (.plain (OpenSpec.upto fnExactReadSetSpec)) fnExactReadSetUptoCard
end Rows
end Go.Proofs.YtdpccejakikniaaDoor
