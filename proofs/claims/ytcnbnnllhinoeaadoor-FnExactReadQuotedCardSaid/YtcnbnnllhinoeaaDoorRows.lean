/-
  NARROWER THAN 'FOR EVERY INPUT', by the rows' own cells (each row's printed sentence says how): FnExactQuotedText: laid · FnExactReadQuoted: laid.
  DERIVED. THE GIVEN ROWS OF THIS SEAT. 2 by the template 'for every input the law returns true; each argument reads behind the call as it read before'; 0 by the template 'total and deterministic' (their statements: YtcnbnnllhinoeaaDoorTotals.lean).
  GIVEN WITH THE SEED: the statements are not yours to turn. If you find one false, say at which input.
  Laid BY PROGRAM, IN A SANDBOX (cutbox-rows.mjs): the forced cells as the released guide's own fill.sh prints them over the translation 38c2f7e549410687… (all of the seat's roots in one cut). By AI agents, Wed Nov 11 2026. No macro, syntax, notation, axiom, sorry.
-/
import Derived.Test.YtcnbnnllhinoeaaDoorChecked
import GoSem.Claim
import GoSem.ClaimJoined
import GoSem.ClaimMapViews
import Derived.JoinedTies
import Derived.KernelRfl
namespace Go.Proofs.YtcnbnnllhinoeaaDoor
/- THE CELL 'sum', in the pinned program and in every row, IS THE sha256 OF THE DUMP (.gsa) THAT YtcnbnnllhinoeaaDoorProg.lean LOADS. Nothing in Lean hashes anything: it is a label: what it is worth is what the hold of that sum in a sandbox is worth. -/
noncomputable def Tryd.pinned : Pinned := { name := "ytcnbnnllhinoeaadoor", sum := "38c2f7e5494106878479f08072e438ef8f73da3fdef5daa1d75a37bb62f8db1a", checked := Tryd.checked }
namespace Rows
def none {H : Type} : Left H := { results := [], args := [] }

/- WHAT THE LISTED PACKAGE-LEVEL VARIABLES READ AS WHEN THE CALL BEGINS. Each datum BY PROGRAM (the guide's laid-datum.mjs) off the statement by which the dump's own 'gosem.cut.vars' lays the variable. In a bare row this is a premise. The card (YtcnbnnllhinoeaaDoorCards.lean) ties it to the program's text. -/
def laid_loop_example_g00268_impl_digitChars {H : Type} : DataW H := .agg [.lit (.int .u8 48), .lit (.int .u8 49), .lit (.int .u8 50), .lit (.int .u8 51), .lit (.int .u8 52), .lit (.int .u8 53), .lit (.int .u8 54), .lit (.int .u8 55), .lit (.int .u8 56), .lit (.int .u8 57), .lit (.int .u8 65), .lit (.int .u8 66), .lit (.int .u8 67), .lit (.int .u8 68), .lit (.int .u8 69), .lit (.int .u8 70)]

/-- 'laws.FnExactQuotedText': WHATEVER THE INPUT: true; the input reads as it did. -/
def fnExactQuotedTextSpec : ChangeSpec := { name := "fnExactQuotedText", vars := ["loop.example/g00268/impl.digitChars"], fn := fun _ => fun
  | [d, g1] => { results := [.lit (.bool true)], args := [d], vars := [g1] }
  | _ => none }
def fnExactQuotedTextRow : OpenClaim := { program := "ytcnbnnllhinoeaadoor", sum := "38c2f7e5494106878479f08072e438ef8f73da3fdef5daa1d75a37bb62f8db1a", func := "loop.example/g00268/laws.FnExactQuotedText", spec := "fnExactQuotedText", inPlace := ["internal/abi.NoEscape"], named := ["loop.example/g00268/impl.digitChars"], apart := false, laid := [("loop.example/g00268/impl.digitChars", laid_loop_example_g00268_impl_digitChars)] }
def FnExactQuotedTextSaid : Prop := fnExactQuotedTextRow.holds Tryd.pinned (OpenSpec.ofChange fnExactQuotedTextSpec)

/-- ITS FALSE NEIGHBOUR: 'it returns false'. Refute it at one input. -/
def fnExactQuotedTextWrong : ChangeSpec := { name := "fnExactQuotedText", vars := ["loop.example/g00268/impl.digitChars"], fn := fun _ => fun
  | [d, g1] => { results := [.lit (.bool false)], args := [d], vars := [g1] }
  | _ => none }
def FnExactQuotedTextWrongFalsely : Prop := fnExactQuotedTextRow.holds Tryd.pinned (OpenSpec.ofChange fnExactQuotedTextWrong)

/-- 'laws.FnExactReadQuoted': WHATEVER THE INPUT: true; the input reads as it did. -/
def fnExactReadQuotedSpec : ChangeSpec := { name := "fnExactReadQuoted", vars := ["loop.example/g00268/impl.digitChars"], fn := fun _ => fun
  | [d, g1] => { results := [.lit (.bool true)], args := [d], vars := [g1] }
  | _ => none }
def fnExactReadQuotedRow : OpenClaim := { program := "ytcnbnnllhinoeaadoor", sum := "38c2f7e5494106878479f08072e438ef8f73da3fdef5daa1d75a37bb62f8db1a", func := "loop.example/g00268/laws.FnExactReadQuoted", spec := "fnExactReadQuoted", named := ["loop.example/g00268/impl.digitChars"], apart := false, laid := [("loop.example/g00268/impl.digitChars", laid_loop_example_g00268_impl_digitChars)] }
def FnExactReadQuotedSaid : Prop := fnExactReadQuotedRow.holds Tryd.pinned (OpenSpec.ofChange fnExactReadQuotedSpec)

/-- ITS FALSE NEIGHBOUR: 'it returns false'. Refute it at one input. -/
def fnExactReadQuotedWrong : ChangeSpec := { name := "fnExactReadQuoted", vars := ["loop.example/g00268/impl.digitChars"], fn := fun _ => fun
  | [d, g1] => { results := [.lit (.bool false)], args := [d], vars := [g1] }
  | _ => none }
def FnExactReadQuotedWrongFalsely : Prop := fnExactReadQuotedRow.holds Tryd.pinned (OpenSpec.ofChange fnExactReadQuotedWrong)

/- THE SECOND FORM. 'bulk': how many values and letters a reading holds, each counted each time it is reached (what is shared counts as often as it is met; a slice's spare places count too). A statement '..UptoSaid' is the law's where the arguments, and the package variables that the reading takes, are together of bulk at most 1048576: NARROWER than '..Said'. Prove '..Said' where nothing that the law and all that it calls make is longer than what came in: it says more and counts as full. Else prove '..UptoSaid'. A law counts once. -/
mutual
def uptoBulk {H : Type} : DataW H → Nat
  | .lit (.string bytes) => bytes.length + 1
  | .lit _ => 1
  | .nil => 1
  | .ptr d => uptoBulk d + 1
  | .slice elems spare => uptoBulkAll elems + uptoBulkAll spare + 1
  | .agg parts => uptoBulkAll parts + 1
  | .iface _ d => uptoBulk d + 1
  | .map entries => uptoBulkEntries entries + 1
  | .held _ => 1
def uptoBulkAll {H : Type} : List (DataW H) → Nat
  | [] => 0
  | d :: r => uptoBulk d + uptoBulkAll r
def uptoBulkEntries {H : Type} : List (Lit × DataW H) → Nat
  | [] => 0
  | x :: r => uptoBulkEntry x + uptoBulkEntries r
def uptoBulkEntry {H : Type} : Lit × DataW H → Nat
  | (.string bytes, d) => bytes.length + uptoBulk d + 1
  | (_, d) => uptoBulk d + 1
 end
def uptoSmall : (H : Type) → List (DataW H) → Bool := fun _ ds => decide (uptoBulkAll ds ≤ 1048576)
def OpenSpec.upto (s : _root_.Go.ChangeSpec) : _root_.Go.OpenSpec := { _root_.Go.OpenSpec.ofChange s with cond := some uptoSmall }

/-- 'laws.FnExactQuotedText', WHERE WHAT IT READS IS OF BULK AT MOST 1048576: true; the input reads as it did. -/
def fnExactQuotedTextUptoRow : OpenClaim := { program := "ytcnbnnllhinoeaadoor", sum := "38c2f7e5494106878479f08072e438ef8f73da3fdef5daa1d75a37bb62f8db1a", func := "loop.example/g00268/laws.FnExactQuotedText", spec := "fnExactQuotedText", inPlace := ["internal/abi.NoEscape"], named := ["loop.example/g00268/impl.digitChars"], apart := false, laid := [("loop.example/g00268/impl.digitChars", laid_loop_example_g00268_impl_digitChars)], narrowed := true }
def FnExactQuotedTextUptoSaid : Prop := fnExactQuotedTextUptoRow.holds Tryd.pinned (OpenSpec.upto fnExactQuotedTextSpec)

/-- 'laws.FnExactReadQuoted', WHERE WHAT IT READS IS OF BULK AT MOST 1048576: true; the input reads as it did. -/
def fnExactReadQuotedUptoRow : OpenClaim := { program := "ytcnbnnllhinoeaadoor", sum := "38c2f7e5494106878479f08072e438ef8f73da3fdef5daa1d75a37bb62f8db1a", func := "loop.example/g00268/laws.FnExactReadQuoted", spec := "fnExactReadQuoted", named := ["loop.example/g00268/impl.digitChars"], apart := false, laid := [("loop.example/g00268/impl.digitChars", laid_loop_example_g00268_impl_digitChars)], narrowed := true }
def FnExactReadQuotedUptoSaid : Prop := fnExactReadQuotedUptoRow.holds Tryd.pinned (OpenSpec.upto fnExactReadQuotedSpec)

end Rows
end Go.Proofs.YtcnbnnllhinoeaaDoor
