/-
  DERIVED. GIVEN WITH THE SEED: THE CARDS: each row of YtglgaangkffbiaaDoorRows.lean that lists a variable, with what it lists TIED to the program's text (the seventh form; the later family's looks); each row that meets fmt, with fmt's text TOLD by the authors' own Lean function (tested against real Go, not proved from fmt's source: count such statements apart). THE CARD IS WHAT COUNTS. Prove the row's statement (the work); the ties are given (YtglgaangkffbiaaDoorTie.lean); close each card by the builder's one call (the guide's Derived/Test/ToyasCard.lean, 'card_holds'). Laid BY PROGRAM, IN A SANDBOX (cutbox-door.mjs). By AI agents, Wed Nov 11 2026. No macro, syntax, notation, axiom, sorry.
-/
import Derived.Test.YtglgaangkffbiaaDoorRows
import GoSem.ClaimSeven
namespace Go.Proofs.YtglgaangkffbiaaDoor
namespace Rows

/-- THE TIED CARD OF 'laws.FnExactMailLines'. -/
def fnExactMailLinesCard : Claim7 := { stood := { row := fnExactMailLinesRow, standIns := [], harness := (true, "6276582c64fda61430d60973153ac142c4cd14f8505f48673d604a418899059d"), looks := false }, kinds := [], alts := [], laidByText := true, laidKinds := [.data, .pinned], laidTests := true, laidLooks := .later }
def FnExactMailLinesCardSaid : Prop := Claim7.holds Tryd.pinned (.plain (OpenSpec.ofChange fnExactMailLinesSpec)) fnExactMailLinesCard

/-- THE TIED CARD OF 'laws.FnExactFetchText'. -/
def fnExactFetchTextCard : Claim7 := { stood := { row := fnExactFetchTextRow, standIns := [], harness := (true, "6276582c64fda61430d60973153ac142c4cd14f8505f48673d604a418899059d"), looks := false }, kinds := [], alts := [], laidByText := true, laidKinds := [.data, .data, .data, .data, .data, .pinned], laidTests := true, laidLooks := .later }
def FnExactFetchTextCardSaid : Prop := Claim7.holds Tryd.pinned (.plain (OpenSpec.ofChange fnExactFetchTextSpec)) fnExactFetchTextCard

/-- THE TIED CARD OF 'laws.FnExactOverLine'. -/
def fnExactOverLineCard : Claim7 := { stood := { row := fnExactOverLineRow, standIns := [], harness := (true, "6276582c64fda61430d60973153ac142c4cd14f8505f48673d604a418899059d"), looks := false }, kinds := [], alts := [], laidByText := true, laidKinds := [.data, .data, .data, .data, .pinned], laidTests := true, laidLooks := .later }
def FnExactOverLineCardSaid : Prop := Claim7.holds Tryd.pinned (.plain (OpenSpec.ofChange fnExactOverLineSpec)) fnExactOverLineCard

/-- THE SECOND FORM's CARD OF 'laws.FnExactMailLines'. -/
def fnExactMailLinesUptoCard : Claim7 := { stood := { row := fnExactMailLinesUptoRow, standIns := [], harness := (true, "6276582c64fda61430d60973153ac142c4cd14f8505f48673d604a418899059d"), looks := false }, kinds := [], alts := [], laidByText := true, laidKinds := [.data, .pinned], laidTests := true, laidLooks := .later }
def FnExactMailLinesUptoCardSaid : Prop := Claim7.holds Tryd.pinned (.plain (OpenSpec.upto fnExactMailLinesSpec)) fnExactMailLinesUptoCard

/-- THE SECOND FORM's CARD OF 'laws.FnExactFetchText'. -/
def fnExactFetchTextUptoCard : Claim7 := { stood := { row := fnExactFetchTextUptoRow, standIns := [], harness := (true, "6276582c64fda61430d60973153ac142c4cd14f8505f48673d604a418899059d"), looks := false }, kinds := [], alts := [], laidByText := true, laidKinds := [.data, .data, .data, .data, .data, .pinned], laidTests := true, laidLooks := .later }
def FnExactFetchTextUptoCardSaid : Prop := Claim7.holds Tryd.pinned (.plain (OpenSpec.upto fnExactFetchTextSpec)) fnExactFetchTextUptoCard

/-- THE SECOND FORM's CARD OF 'laws.FnExactOverLine'. -/
def fnExactOverLineUptoCard : Claim7 := { stood := { row := fnExactOverLineUptoRow, standIns := [], harness := (true, "6276582c64fda61430d60973153ac142c4cd14f8505f48673d604a418899059d"), looks := false }, kinds := [], alts := [], laidByText := true, laidKinds := [.data, .data, .data, .data, .pinned], laidTests := true, laidLooks := .later }
def FnExactOverLineUptoCardSaid : Prop := Claim7.holds Tryd.pinned (.plain (OpenSpec.upto fnExactOverLineSpec)) fnExactOverLineUptoCard
end Rows
end Go.Proofs.YtglgaangkffbiaaDoor
