/-
  DERIVED. GIVEN WITH THE SEED: THE CARDS: each row of YtnhcbiomkiljpaaGreatDoorRows.lean that lists a variable, with what it lists TIED to the program's text (the seventh form; the later family's looks); each row that meets fmt, with fmt's text TOLD by the authors' own Lean function (tested against real Go, not proved from fmt's source: count such statements apart). THE CARD IS WHAT COUNTS. Prove the row's statement (the work); the ties are given (YtnhcbiomkiljpaaGreatDoorTie.lean); close each card by the builder's one call (the guide's Derived/Test/ToyasCard.lean, 'card_holds'). Laid BY PROGRAM, IN A SANDBOX (cutbox-door.mjs). By AI agents, Wed Nov 11 2026. No macro, syntax, notation, axiom, sorry.
-/
import Derived.Test.YtnhcbiomkiljpaaGreatDoorRows
import GoSem.ClaimSeven
namespace Go.Proofs.YtnhcbiomkiljpaaGreatDoor
namespace Rows

/-- THE TIED CARD OF 'laws.FnExactCommit'. -/
def fnExactCommitCard : Claim7 := { stood := { row := fnExactCommitRow, standIns := [], harness := (true, "ed8a54d9016ce12e01f9c8c8a8aa31decf83c393cae80f1d9a736919ebf71535"), looks := true }, kinds := [], alts := [], laidByText := true, laidKinds := [.sentinel, .sentinel], laidTests := true, laidLooks := .later }
def FnExactCommitCardSaid : Prop := Claim7.holds Tryz.pinned (.plain (OpenSpec.ofChange fnExactCommitSpec)) fnExactCommitCard

/-- THE TIED CARD OF 'laws.FnExactCommitCrash'. -/
def fnExactCommitCrashCard : Claim7 := { stood := { row := fnExactCommitCrashRow, standIns := [], harness := (true, "ed8a54d9016ce12e01f9c8c8a8aa31decf83c393cae80f1d9a736919ebf71535"), looks := true }, kinds := [], alts := [], laidByText := true, laidKinds := [.sentinel, .sentinel], laidTests := true, laidLooks := .later }
def FnExactCommitCrashCardSaid : Prop := Claim7.holds Tryz.pinned (.plain (OpenSpec.ofChange fnExactCommitCrashSpec)) fnExactCommitCrashCard

/-- THE SECOND FORM's CARD OF 'laws.FnExactCommit'. -/
def fnExactCommitUptoCard : Claim7 := { stood := { row := fnExactCommitUptoRow, standIns := [], harness := (true, "ed8a54d9016ce12e01f9c8c8a8aa31decf83c393cae80f1d9a736919ebf71535"), looks := true }, kinds := [], alts := [], laidByText := true, laidKinds := [.sentinel, .sentinel], laidTests := true, laidLooks := .later }
def FnExactCommitUptoCardSaid : Prop := Claim7.holds Tryz.pinned (.plain (OpenSpec.upto fnExactCommitSpec)) fnExactCommitUptoCard

/-- THE SECOND FORM's CARD OF 'laws.FnExactCommitCrash'. -/
def fnExactCommitCrashUptoCard : Claim7 := { stood := { row := fnExactCommitCrashUptoRow, standIns := [], harness := (true, "ed8a54d9016ce12e01f9c8c8a8aa31decf83c393cae80f1d9a736919ebf71535"), looks := true }, kinds := [], alts := [], laidByText := true, laidKinds := [.sentinel, .sentinel], laidTests := true, laidLooks := .later }
def FnExactCommitCrashUptoCardSaid : Prop := Claim7.holds Tryz.pinned (.plain (OpenSpec.upto fnExactCommitCrashSpec)) fnExactCommitCrashUptoCard
end Rows
end Go.Proofs.YtnhcbiomkiljpaaGreatDoor
