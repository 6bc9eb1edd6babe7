/-
  No cell of these rows narrows 'for every input' (looked for: loops, veiled, ifaces, maps, wideKeys, modest, calm, conditions, laid).
  DERIVED. THE GIVEN ROWS OF THIS SEAT. 4 by the template 'for every input the law returns true; each argument reads behind the call as it read before'; 0 by the template 'total and deterministic' (their statements: YthndloempbcflahTotals.lean).
  GIVEN WITH THE SEED: the statements are not yours to turn. If you find one false, say at which input.
  Laid BY PROGRAM, IN A SANDBOX (cutbox-rows.mjs): the forced cells as the released guide's own fill.sh prints them over the translation a537c7863351363c… (all of the seat's roots in one cut). By AI agents, Wed Nov 11 2026. No macro, syntax, notation, axiom, sorry.
-/
import Derived.Test.YthndloempbcflahChecked
import GoSem.Claim
import GoSem.ClaimJoined
import GoSem.ClaimMapViews
import Derived.JoinedTies
import Derived.KernelRfl
namespace Go.Proofs.Ythndloempbcflah
/- THE CELL 'sum', in the pinned program and in every row, IS THE sha256 OF THE DUMP (.gsa) THAT YthndloempbcflahProg.lean LOADS. Nothing in Lean hashes anything: it is a label: what it is worth is what the hold of that sum in a sandbox is worth. -/
noncomputable def Try.pinned : Pinned := { name := "ythndloempbcflah", sum := "a537c7863351363c5346565c8ce3b40840387b7f4cbf4b5053a7e12e2647224a", checked := Try.checked }
namespace Rows
def none {H : Type} : Left H := { results := [], args := [] }

/-- 'laws.FnExactRunesOf': WHATEVER THE INPUT: true; the input reads as it did. -/
def fnExactRunesOfSpec : ChangeSpec := { name := "fnExactRunesOf", fn := fun _ => fun
  | [d] => { results := [.lit (.bool true)], args := [d] }
  | _ => none }
def fnExactRunesOfRow : OpenClaim := { program := "ythndloempbcflah", sum := "a537c7863351363c5346565c8ce3b40840387b7f4cbf4b5053a7e12e2647224a", func := "loop.example/g00268/laws.FnExactRunesOf", spec := "fnExactRunesOf", apart := false }
def FnExactRunesOfSaid : Prop := fnExactRunesOfRow.holds Try.pinned (OpenSpec.ofChange fnExactRunesOfSpec)

/-- ITS FALSE NEIGHBOUR: 'it returns false'. Refute it at one input. -/
def fnExactRunesOfWrong : ChangeSpec := { name := "fnExactRunesOf", fn := fun _ => fun
  | [d] => { results := [.lit (.bool false)], args := [d] }
  | _ => none }
def FnExactRunesOfWrongFalsely : Prop := fnExactRunesOfRow.holds Try.pinned (OpenSpec.ofChange fnExactRunesOfWrong)

/-- 'laws.FnExactTextOfRunes': WHATEVER THE INPUT: true; the input reads as it did. -/
def fnExactTextOfRunesSpec : ChangeSpec := { name := "fnExactTextOfRunes", fn := fun _ => fun
  | [d] => { results := [.lit (.bool true)], args := [d] }
  | _ => none }
def fnExactTextOfRunesRow : OpenClaim := { program := "ythndloempbcflah", sum := "a537c7863351363c5346565c8ce3b40840387b7f4cbf4b5053a7e12e2647224a", func := "loop.example/g00268/laws.FnExactTextOfRunes", spec := "fnExactTextOfRunes", apart := false }
def FnExactTextOfRunesSaid : Prop := fnExactTextOfRunesRow.holds Try.pinned (OpenSpec.ofChange fnExactTextOfRunesSpec)

/-- ITS FALSE NEIGHBOUR: 'it returns false'. Refute it at one input. -/
def fnExactTextOfRunesWrong : ChangeSpec := { name := "fnExactTextOfRunes", fn := fun _ => fun
  | [d] => { results := [.lit (.bool false)], args := [d] }
  | _ => none }
def FnExactTextOfRunesWrongFalsely : Prop := fnExactTextOfRunesRow.holds Try.pinned (OpenSpec.ofChange fnExactTextOfRunesWrong)

/-- 'laws.FnExactRuneSize': WHATEVER THE INPUT: true; the input reads as it did. -/
def fnExactRuneSizeSpec : ChangeSpec := { name := "fnExactRuneSize", fn := fun _ => fun
  | [d] => { results := [.lit (.bool true)], args := [d] }
  | _ => none }
def fnExactRuneSizeRow : OpenClaim := { program := "ythndloempbcflah", sum := "a537c7863351363c5346565c8ce3b40840387b7f4cbf4b5053a7e12e2647224a", func := "loop.example/g00268/laws.FnExactRuneSize", spec := "fnExactRuneSize", apart := false }
def FnExactRuneSizeSaid : Prop := fnExactRuneSizeRow.holds Try.pinned (OpenSpec.ofChange fnExactRuneSizeSpec)

/-- ITS FALSE NEIGHBOUR: 'it returns false'. Refute it at one input. -/
def fnExactRuneSizeWrong : ChangeSpec := { name := "fnExactRuneSize", fn := fun _ => fun
  | [d] => { results := [.lit (.bool false)], args := [d] }
  | _ => none }
def FnExactRuneSizeWrongFalsely : Prop := fnExactRuneSizeRow.holds Try.pinned (OpenSpec.ofChange fnExactRuneSizeWrong)

/-- 'laws.FnExactCutRunes': WHATEVER THE INPUT: true; the input reads as it did. -/
def fnExactCutRunesSpec : ChangeSpec := { name := "fnExactCutRunes", fn := fun _ => fun
  | [d1, d2] => { results := [.lit (.bool true)], args := [d1, d2] }
  | _ => none }
def fnExactCutRunesRow : OpenClaim := { program := "ythndloempbcflah", sum := "a537c7863351363c5346565c8ce3b40840387b7f4cbf4b5053a7e12e2647224a", func := "loop.example/g00268/laws.FnExactCutRunes", spec := "fnExactCutRunes", apart := false }
def FnExactCutRunesSaid : Prop := fnExactCutRunesRow.holds Try.pinned (OpenSpec.ofChange fnExactCutRunesSpec)

/-- ITS FALSE NEIGHBOUR: 'it returns false'. Refute it at one input. -/
def fnExactCutRunesWrong : ChangeSpec := { name := "fnExactCutRunes", fn := fun _ => fun
  | [d1, d2] => { results := [.lit (.bool false)], args := [d1, d2] }
  | _ => none }
def FnExactCutRunesWrongFalsely : Prop := fnExactCutRunesRow.holds Try.pinned (OpenSpec.ofChange fnExactCutRunesWrong)

/- THE SECOND FORM. 'bulk': how many values and letters a reading holds, each counted each time it is reached (what is shared counts as often as it is met; a slice's spare places count too). A statement '..UptoSaid' is the law's where the arguments, and the package variables that the reading takes, are together of bulk at most 1048576: NARROWER than '..Said'. Prove '..Said' where nothing that the law and all that it calls make is longer than what came in: it says more and counts as full. Else prove '..UptoSaid'. A law counts once. -/
mutual
def uptoBulk {H : Type} : DataW H → Nat
  | .lit (.string bytes) => bytes.length + 1
  | .lit _ => 1
  | .nil => 1
  | .ptr d => uptoBulk d + 1
  | .slice elems spare => uptoBulkAll elems + uptoBulkAll spare + 1
  | .agg parts => uptoBulkAll parts + 1
  | .iface _ d => uptoBulk d + 1
  | .map entries => uptoBulkEntries entries + 1
  | .held _ => 1
def uptoBulkAll {H : Type} : List (DataW H) → Nat
  | [] => 0
  | d :: r => uptoBulk d + uptoBulkAll r
def uptoBulkEntries {H : Type} : List (Lit × DataW H) → Nat
  | [] => 0
  | x :: r => uptoBulkEntry x + uptoBulkEntries r
def uptoBulkEntry {H : Type} : Lit × DataW H → Nat
  | (.string bytes, d) => bytes.length + uptoBulk d + 1
  | (_, d) => uptoBulk d + 1
 end
def uptoSmall : (H : Type) → List (DataW H) → Bool := fun _ ds => decide (uptoBulkAll ds ≤ 1048576)
def OpenSpec.upto (s : _root_.Go.ChangeSpec) : _root_.Go.OpenSpec := { _root_.Go.OpenSpec.ofChange s with cond := some uptoSmall }

/-- 'laws.FnExactRunesOf', WHERE WHAT IT READS IS OF BULK AT MOST 1048576: true; the input reads as it did. -/
def fnExactRunesOfUptoRow : OpenClaim := { program := "ythndloempbcflah", sum := "a537c7863351363c5346565c8ce3b40840387b7f4cbf4b5053a7e12e2647224a", func := "loop.example/g00268/laws.FnExactRunesOf", spec := "fnExactRunesOf", apart := false, narrowed := true }
def FnExactRunesOfUptoSaid : Prop := fnExactRunesOfUptoRow.holds Try.pinned (OpenSpec.upto fnExactRunesOfSpec)

/-- 'laws.FnExactTextOfRunes', WHERE WHAT IT READS IS OF BULK AT MOST 1048576: true; the input reads as it did. -/
def fnExactTextOfRunesUptoRow : OpenClaim := { program := "ythndloempbcflah", sum := "a537c7863351363c5346565c8ce3b40840387b7f4cbf4b5053a7e12e2647224a", func := "loop.example/g00268/laws.FnExactTextOfRunes", spec := "fnExactTextOfRunes", apart := false, narrowed := true }
def FnExactTextOfRunesUptoSaid : Prop := fnExactTextOfRunesUptoRow.holds Try.pinned (OpenSpec.upto fnExactTextOfRunesSpec)

/-- 'laws.FnExactRuneSize', WHERE WHAT IT READS IS OF BULK AT MOST 1048576: true; the input reads as it did. -/
def fnExactRuneSizeUptoRow : OpenClaim := { program := "ythndloempbcflah", sum := "a537c7863351363c5346565c8ce3b40840387b7f4cbf4b5053a7e12e2647224a", func := "loop.example/g00268/laws.FnExactRuneSize", spec := "fnExactRuneSize", apart := false, narrowed := true }
def FnExactRuneSizeUptoSaid : Prop := fnExactRuneSizeUptoRow.holds Try.pinned (OpenSpec.upto fnExactRuneSizeSpec)

/-- 'laws.FnExactCutRunes', WHERE WHAT IT READS IS OF BULK AT MOST 1048576: true; the input reads as it did. -/
def fnExactCutRunesUptoRow : OpenClaim := { program := "ythndloempbcflah", sum := "a537c7863351363c5346565c8ce3b40840387b7f4cbf4b5053a7e12e2647224a", func := "loop.example/g00268/laws.FnExactCutRunes", spec := "fnExactCutRunes", apart := false, narrowed := true }
def FnExactCutRunesUptoSaid : Prop := fnExactCutRunesUptoRow.holds Try.pinned (OpenSpec.upto fnExactCutRunesSpec)

end Rows
end Go.Proofs.Ythndloempbcflah
