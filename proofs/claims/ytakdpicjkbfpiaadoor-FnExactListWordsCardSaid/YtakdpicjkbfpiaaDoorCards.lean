/-
  DERIVED. GIVEN WITH THE SEED: THE CARDS: each row of YtakdpicjkbfpiaaDoorRows.lean that lists a variable, with what it lists TIED to the program's text (the seventh form; the later family's looks); each row that meets fmt, with fmt's text TOLD by the authors' own Lean function (tested against real Go, not proved from fmt's source: count such statements apart). THE CARD IS WHAT COUNTS. Prove the row's statement (the work); the ties are given (YtakdpicjkbfpiaaDoorTie.lean); close each card by the builder's one call (the guide's Derived/Test/ToyasCard.lean, 'card_holds'). Laid BY PROGRAM, IN A SANDBOX (cutbox-door.mjs). By AI agents, Wed Nov 11 2026. No macro, syntax, notation, axiom, sorry.
-/
import Derived.Test.YtakdpicjkbfpiaaDoorRows
import GoSem.ClaimSeven
namespace Go.Proofs.YtakdpicjkbfpiaaDoor
namespace Rows

/-- THE TIED CARD OF 'laws.FnExactTakeCommand'. -/
def fnExactTakeCommandCard : Claim7 := { stood := { row := fnExactTakeCommandRow, standIns := [], harness := (true, "914f6969c515e2b6ba9f04019c22d4339d0775298fe1b614ec653d6c3aedb3fd"), looks := true }, kinds := [], alts := [], laidByText := true, laidKinds := [.data, .data, .data, .sentinel, .sentinel], laidTests := true, laidLooks := .later }
def FnExactTakeCommandCardSaid : Prop := Claim7.holds Tryd.pinned (.plain (OpenSpec.ofChange fnExactTakeCommandSpec)) fnExactTakeCommandCard

/-- THE TIED CARD OF 'laws.FnExactListWords'. -/
def fnExactListWordsCard : Claim7 := { stood := { row := fnExactListWordsRow, standIns := [], harness := (true, "914f6969c515e2b6ba9f04019c22d4339d0775298fe1b614ec653d6c3aedb3fd"), looks := true }, kinds := [], alts := [], laidByText := true, laidKinds := [.data, .pinned], laidTests := true, laidLooks := .later }
def FnExactListWordsCardSaid : Prop := Claim7.holds Tryd.pinned (.plain (OpenSpec.ofChange fnExactListWordsSpec)) fnExactListWordsCard

/-- THE TIED CARD OF 'laws.FnTake'. -/
def fnTakeCard : Claim7 := { stood := { row := fnTakeRow, standIns := [], harness := (true, "914f6969c515e2b6ba9f04019c22d4339d0775298fe1b614ec653d6c3aedb3fd"), looks := true }, kinds := [], alts := [], laidByText := true, laidKinds := [.data, .data, .data, .sentinel, .sentinel], laidTests := true, laidLooks := .later }
def FnTakeCardSaid : Prop := Claim7.holds Tryd.pinned (.plain (OpenSpec.ofChange fnTakeSpec)) fnTakeCard

/-- THE SECOND FORM's CARD OF 'laws.FnExactTakeCommand'. -/
def fnExactTakeCommandUptoCard : Claim7 := { stood := { row := fnExactTakeCommandUptoRow, standIns := [], harness := (true, "914f6969c515e2b6ba9f04019c22d4339d0775298fe1b614ec653d6c3aedb3fd"), looks := true }, kinds := [], alts := [], laidByText := true, laidKinds := [.data, .data, .data, .sentinel, .sentinel], laidTests := true, laidLooks := .later }
def FnExactTakeCommandUptoCardSaid : Prop := Claim7.holds Tryd.pinned (.plain (OpenSpec.upto fnExactTakeCommandSpec)) fnExactTakeCommandUptoCard

/-- THE SECOND FORM's CARD OF 'laws.FnExactListWords'. -/
def fnExactListWordsUptoCard : Claim7 := { stood := { row := fnExactListWordsUptoRow, standIns := [], harness := (true, "914f6969c515e2b6ba9f04019c22d4339d0775298fe1b614ec653d6c3aedb3fd"), looks := true }, kinds := [], alts := [], laidByText := true, laidKinds := [.data, .pinned], laidTests := true, laidLooks := .later }
def FnExactListWordsUptoCardSaid : Prop := Claim7.holds Tryd.pinned (.plain (OpenSpec.upto fnExactListWordsSpec)) fnExactListWordsUptoCard

/-- THE SECOND FORM's CARD OF 'laws.FnTake'. -/
def fnTakeUptoCard : Claim7 := { stood := { row := fnTakeUptoRow, standIns := [], harness := (true, "914f6969c515e2b6ba9f04019c22d4339d0775298fe1b614ec653d6c3aedb3fd"), looks := true }, kinds := [], alts := [], laidByText := true, laidKinds := [.data, .data, .data, .sentinel, .sentinel], laidTests := true, laidLooks := .later }
def FnTakeUptoCardSaid : Prop := Claim7.holds Tryd.pinned (.plain (OpenSpec.upto fnTakeSpec)) fnTakeUptoCard
end Rows
end Go.Proofs.YtakdpicjkbfpiaaDoor
