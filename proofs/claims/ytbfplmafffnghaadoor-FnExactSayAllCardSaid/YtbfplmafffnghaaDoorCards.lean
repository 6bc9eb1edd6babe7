/-
  DERIVED. GIVEN WITH THE SEED: THE CARDS: each row of YtbfplmafffnghaaDoorRows.lean that lists a variable, with what it lists TIED to the program's text (the seventh form; the later family's looks); each row that meets fmt, with fmt's text TOLD by the authors' own Lean function (tested against real Go, not proved from fmt's source: count such statements apart). THE CARD IS WHAT COUNTS. Prove the row's statement (the work); the ties are given (YtbfplmafffnghaaDoorTie.lean); close each card by the builder's one call (the guide's Derived/Test/ToyasCard.lean, 'card_holds'). Laid BY PROGRAM, IN A SANDBOX (cutbox-door.mjs). By AI agents, Wed Nov 11 2026. No macro, syntax, notation, axiom, sorry.
-/
import Derived.Test.YtbfplmafffnghaaDoorRows
import GoSem.ClaimSeven
namespace Go.Proofs.YtbfplmafffnghaaDoor
namespace Rows

/-- THE TIED CARD OF 'laws.FnExactSayAll'. -/
def fnExactSayAllCard : Claim7 := { stood := { row := fnExactSayAllRow, standIns := [], harness := (true, "6c7da94c11f03b8f0da46d81255e3e4e5b5c8434bac273c6e2525b0b562e44e6"), looks := true }, kinds := [], alts := [], laidByText := true, laidKinds := [.data, .data, .data, .sentinel, .sentinel], laidTests := true, laidLooks := .later }
def FnExactSayAllCardSaid : Prop := Claim7.holds Tryd.pinned (.plain (OpenSpec.ofChange fnExactSayAllSpec)) fnExactSayAllCard

/-- THE SECOND FORM's CARD OF 'laws.FnExactSayAll'. -/
def fnExactSayAllUptoCard : Claim7 := { stood := { row := fnExactSayAllUptoRow, standIns := [], harness := (true, "6c7da94c11f03b8f0da46d81255e3e4e5b5c8434bac273c6e2525b0b562e44e6"), looks := true }, kinds := [], alts := [], laidByText := true, laidKinds := [.data, .data, .data, .sentinel, .sentinel], laidTests := true, laidLooks := .later }
def FnExactSayAllUptoCardSaid : Prop := Claim7.holds Tryd.pinned (.plain (OpenSpec.upto fnExactSayAllSpec)) fnExactSayAllUptoCard
end Rows
end Go.Proofs.YtbfplmafffnghaaDoor
