/-
  DERIVED. GIVEN WITH THE SEED: THE CARDS: each row of YtdnjiagnpaibjaaDoorRows.lean that lists a variable, with what it lists TIED to the program's text (the seventh form; the later family's looks); each row that meets fmt, with fmt's text TOLD by the authors' own Lean function (tested against real Go, not proved from fmt's source: count such statements apart). THE CARD IS WHAT COUNTS. Prove the row's statement (the work); the ties are given (YtdnjiagnpaibjaaDoorTie.lean); close each card by the builder's one call (the guide's Derived/Test/ToyasCard.lean, 'card_holds'). Laid BY PROGRAM, IN A SANDBOX (cutbox-door.mjs). By AI agents, Wed Nov 11 2026. No macro, syntax, notation, axiom, sorry.
-/
import Derived.Test.YtdnjiagnpaibjaaDoorRows
import GoSem.ClaimSeven
namespace Go.Proofs.YtdnjiagnpaibjaaDoor
namespace Rows

/-- THE TIED CARD OF 'laws.FnExactViewUpdates'. -/
def fnExactViewUpdatesCard : Claim7 := { stood := { row := fnExactViewUpdatesRow, standIns := [], harness := (true, "e50fe2e9576f8824552ad6f56d3e9ec354b28a7578a020199af5db777031e8d0"), looks := false }, kinds := [], alts := [], laidByText := true, laidKinds := [.data, .data, .data], laidTests := true, laidLooks := .later }
def FnExactViewUpdatesCardSaid : Prop := Claim7.holds Tryd.pinned (.plain (OpenSpec.ofChange fnExactViewUpdatesSpec)) fnExactViewUpdatesCard

/-- THE TIED CARD OF 'laws.FnExactMailPart'. -/
def fnExactMailPartCard : Claim7 := { stood := { row := fnExactMailPartRow, standIns := [], harness := (true, "e50fe2e9576f8824552ad6f56d3e9ec354b28a7578a020199af5db777031e8d0"), looks := false }, kinds := [], alts := [], laidByText := true, laidKinds := [.data, .pinned], laidTests := true, laidLooks := .later }
def FnExactMailPartCardSaid : Prop := Claim7.holds Tryd.pinned (.plain (OpenSpec.ofChange fnExactMailPartSpec)) fnExactMailPartCard

/-- THE TIED CARD OF 'laws.FnExactFetchText'. -/
def fnExactFetchTextCard : Claim7 := { stood := { row := fnExactFetchTextRow, standIns := [], harness := (true, "e50fe2e9576f8824552ad6f56d3e9ec354b28a7578a020199af5db777031e8d0"), looks := false }, kinds := [], alts := [], laidByText := true, laidKinds := [.data, .data, .data, .data, .data, .pinned], laidTests := true, laidLooks := .later }
def FnExactFetchTextCardSaid : Prop := Claim7.holds Tryd.pinned (.plain (OpenSpec.ofChange fnExactFetchTextSpec)) fnExactFetchTextCard

/-- THE SECOND FORM's CARD OF 'laws.FnExactViewUpdates'. -/
def fnExactViewUpdatesUptoCard : Claim7 := { stood := { row := fnExactViewUpdatesUptoRow, standIns := [], harness := (true, "e50fe2e9576f8824552ad6f56d3e9ec354b28a7578a020199af5db777031e8d0"), looks := false }, kinds := [], alts := [], laidByText := true, laidKinds := [.data, .data, .data], laidTests := true, laidLooks := .later }
def FnExactViewUpdatesUptoCardSaid : Prop := Claim7.holds Tryd.pinned (.plain (OpenSpec.upto fnExactViewUpdatesSpec)) fnExactViewUpdatesUptoCard

/-- THE SECOND FORM's CARD OF 'laws.FnExactMailPart'. -/
def fnExactMailPartUptoCard : Claim7 := { stood := { row := fnExactMailPartUptoRow, standIns := [], harness := (true, "e50fe2e9576f8824552ad6f56d3e9ec354b28a7578a020199af5db777031e8d0"), looks := false }, kinds := [], alts := [], laidByText := true, laidKinds := [.data, .pinned], laidTests := true, laidLooks := .later }
def FnExactMailPartUptoCardSaid : Prop := Claim7.holds Tryd.pinned (.plain (OpenSpec.upto fnExactMailPartSpec)) fnExactMailPartUptoCard

/-- THE SECOND FORM's CARD OF 'laws.FnExactFetchText'. -/
def fnExactFetchTextUptoCard : Claim7 := { stood := { row := fnExactFetchTextUptoRow, standIns := [], harness := (true, "e50fe2e9576f8824552ad6f56d3e9ec354b28a7578a020199af5db777031e8d0"), looks := false }, kinds := [], alts := [], laidByText := true, laidKinds := [.data, .data, .data, .data, .data, .pinned], laidTests := true, laidLooks := .later }
def FnExactFetchTextUptoCardSaid : Prop := Claim7.holds Tryd.pinned (.plain (OpenSpec.upto fnExactFetchTextSpec)) fnExactFetchTextUptoCard
end Rows
end Go.Proofs.YtdnjiagnpaibjaaDoor
