/-
  NARROWER THAN 'FOR EVERY INPUT', by the rows' own cells (each row's printed sentence says how): FnBase64: laid · FnQuoted: laid · FnExactBase64Text: laid · FnExactReadBase64: laid · FnExactQuotedText: laid · FnExactReadQuoted: laid.
  DERIVED. THE GIVEN ROWS OF THIS SEAT. 6 by the template 'for every input the law returns true; each argument reads behind the call as it read before'; 0 by the template 'total and deterministic' (their statements: YthfppbjjnkdekaaDoorTotals.lean).
  GIVEN WITH THE SEED: the statements are not yours to turn. If you find one false, say at which input.
  Laid BY PROGRAM, IN A SANDBOX (cutbox-rows.mjs): the forced cells as the released guide's own fill.sh prints them over the translation 5aae3631a5fb2371… (all of the seat's roots in one cut). By AI agents, Wed Nov 11 2026. No macro, syntax, notation, axiom, sorry.
-/
import Derived.Test.YthfppbjjnkdekaaDoorChecked
import GoSem.PinnedTables
import GoSem.Claim
import GoSem.ClaimJoined
import GoSem.ClaimMapViews
import Derived.JoinedTies
import Derived.KernelRfl
namespace Go.Proofs.YthfppbjjnkdekaaDoor
/- THE CELL 'sum', in the pinned program and in every row, IS THE sha256 OF THE DUMP (.gsa) THAT YthfppbjjnkdekaaDoorProg.lean LOADS. Nothing in Lean hashes anything: it is a label: what it is worth is what the hold of that sum in a sandbox is worth. -/
noncomputable def Tryd.pinned : Pinned := { name := "ythfppbjjnkdekaadoor", sum := "5aae3631a5fb2371cec25b2b51f190bc267cad2209ceccababae17843421eac2", checked := Tryd.checked }
namespace Rows
def none {H : Type} : Left H := { results := [], args := [] }

/- WHAT THE LISTED PACKAGE-LEVEL VARIABLES READ AS WHEN THE CALL BEGINS. Each datum BY PROGRAM (the guide's laid-datum.mjs) off the statement by which the dump's own 'gosem.cut.vars' lays the variable. In a bare row this is a premise. The card (YthfppbjjnkdekaaDoorCards.lean) ties it to the program's text. -/
def laid_loop_example_g00268_impl_base64Chars {H : Type} : DataW H := .agg [.lit (.int .u8 65), .lit (.int .u8 66), .lit (.int .u8 67), .lit (.int .u8 68), .lit (.int .u8 69), .lit (.int .u8 70), .lit (.int .u8 71), .lit (.int .u8 72), .lit (.int .u8 73), .lit (.int .u8 74), .lit (.int .u8 75), .lit (.int .u8 76), .lit (.int .u8 77), .lit (.int .u8 78), .lit (.int .u8 79), .lit (.int .u8 80), .lit (.int .u8 81), .lit (.int .u8 82), .lit (.int .u8 83), .lit (.int .u8 84), .lit (.int .u8 85), .lit (.int .u8 86), .lit (.int .u8 87), .lit (.int .u8 88), .lit (.int .u8 89), .lit (.int .u8 90), .lit (.int .u8 97), .lit (.int .u8 98), .lit (.int .u8 99), .lit (.int .u8 100), .lit (.int .u8 101), .lit (.int .u8 102), .lit (.int .u8 103), .lit (.int .u8 104), .lit (.int .u8 105), .lit (.int .u8 106), .lit (.int .u8 107), .lit (.int .u8 108), .lit (.int .u8 109), .lit (.int .u8 110), .lit (.int .u8 111), .lit (.int .u8 112), .lit (.int .u8 113), .lit (.int .u8 114), .lit (.int .u8 115), .lit (.int .u8 116), .lit (.int .u8 117), .lit (.int .u8 118), .lit (.int .u8 119), .lit (.int .u8 120), .lit (.int .u8 121), .lit (.int .u8 122), .lit (.int .u8 48), .lit (.int .u8 49), .lit (.int .u8 50), .lit (.int .u8 51), .lit (.int .u8 52), .lit (.int .u8 53), .lit (.int .u8 54), .lit (.int .u8 55), .lit (.int .u8 56), .lit (.int .u8 57), .lit (.int .u8 43), .lit (.int .u8 47)]
def laid_loop_example_g00268_impl_base64Values {H : Type} : DataW H := .agg [.lit (.int .i8 (-1)), .lit (.int .i8 (-1)), .lit (.int .i8 (-1)), .lit (.int .i8 (-1)), .lit (.int .i8 (-1)), .lit (.int .i8 (-1)), .lit (.int .i8 (-1)), .lit (.int .i8 (-1)), .lit (.int .i8 (-1)), .lit (.int .i8 (-1)), .lit (.int .i8 (-1)), .lit (.int .i8 (-1)), .lit (.int .i8 (-1)), .lit (.int .i8 (-1)), .lit (.int .i8 (-1)), .lit (.int .i8 (-1)), .lit (.int .i8 (-1)), .lit (.int .i8 (-1)), .lit (.int .i8 (-1)), .lit (.int .i8 (-1)), .lit (.int .i8 (-1)), .lit (.int .i8 (-1)), .lit (.int .i8 (-1)), .lit (.int .i8 (-1)), .lit (.int .i8 (-1)), .lit (.int .i8 (-1)), .lit (.int .i8 (-1)), .lit (.int .i8 (-1)), .lit (.int .i8 (-1)), .lit (.int .i8 (-1)), .lit (.int .i8 (-1)), .lit (.int .i8 (-1)), .lit (.int .i8 (-1)), .lit (.int .i8 (-1)), .lit (.int .i8 (-1)), .lit (.int .i8 (-1)), .lit (.int .i8 (-1)), .lit (.int .i8 (-1)), .lit (.int .i8 (-1)), .lit (.int .i8 (-1)), .lit (.int .i8 (-1)), .lit (.int .i8 (-1)), .lit (.int .i8 (-1)), .lit (.int .i8 62), .lit (.int .i8 (-1)), .lit (.int .i8 (-1)), .lit (.int .i8 (-1)), .lit (.int .i8 63), .lit (.int .i8 52), .lit (.int .i8 53), .lit (.int .i8 54), .lit (.int .i8 55), .lit (.int .i8 56), .lit (.int .i8 57), .lit (.int .i8 58), .lit (.int .i8 59), .lit (.int .i8 60), .lit (.int .i8 61), .lit (.int .i8 (-1)), .lit (.int .i8 (-1)), .lit (.int .i8 (-1)), .lit (.int .i8 (-1)), .lit (.int .i8 (-1)), .lit (.int .i8 (-1)), .lit (.int .i8 (-1)), .lit (.int .i8 0), .lit (.int .i8 1), .lit (.int .i8 2), .lit (.int .i8 3), .lit (.int .i8 4), .lit (.int .i8 5), .lit (.int .i8 6), .lit (.int .i8 7), .lit (.int .i8 8), .lit (.int .i8 9), .lit (.int .i8 10), .lit (.int .i8 11), .lit (.int .i8 12), .lit (.int .i8 13), .lit (.int .i8 14), .lit (.int .i8 15), .lit (.int .i8 16), .lit (.int .i8 17), .lit (.int .i8 18), .lit (.int .i8 19), .lit (.int .i8 20), .lit (.int .i8 21), .lit (.int .i8 22), .lit (.int .i8 23), .lit (.int .i8 24), .lit (.int .i8 25), .lit (.int .i8 (-1)), .lit (.int .i8 (-1)), .lit (.int .i8 (-1)), .lit (.int .i8 (-1)), .lit (.int .i8 (-1)), .lit (.int .i8 (-1)), .lit (.int .i8 26), .lit (.int .i8 27), .lit (.int .i8 28), .lit (.int .i8 29), .lit (.int .i8 30), .lit (.int .i8 31), .lit (.int .i8 32), .lit (.int .i8 33), .lit (.int .i8 34), .lit (.int .i8 35), .lit (.int .i8 36), .lit (.int .i8 37), .lit (.int .i8 38), .lit (.int .i8 39), .lit (.int .i8 40), .lit (.int .i8 41), .lit (.int .i8 42), .lit (.int .i8 43), .lit (.int .i8 44), .lit (.int .i8 45), .lit (.int .i8 46), .lit (.int .i8 47), .lit (.int .i8 48), .lit (.int .i8 49), .lit (.int .i8 50), .lit (.int .i8 51), .lit (.int .i8 (-1)), .lit (.int .i8 (-1)), .lit (.int .i8 (-1)), .lit (.int .i8 (-1)), .lit (.int .i8 (-1))]
def laid_unicode_utf8_acceptRanges {H : Type} : DataW H := .agg [.agg [.lit (.int .u8 128), .lit (.int .u8 191)], .agg [.lit (.int .u8 160), .lit (.int .u8 191)], .agg [.lit (.int .u8 128), .lit (.int .u8 159)], .agg [.lit (.int .u8 144), .lit (.int .u8 191)], .agg [.lit (.int .u8 128), .lit (.int .u8 143)], .agg [.lit (.int .u8 0), .lit (.int .u8 0)], .agg [.lit (.int .u8 0), .lit (.int .u8 0)], .agg [.lit (.int .u8 0), .lit (.int .u8 0)], .agg [.lit (.int .u8 0), .lit (.int .u8 0)], .agg [.lit (.int .u8 0), .lit (.int .u8 0)], .agg [.lit (.int .u8 0), .lit (.int .u8 0)], .agg [.lit (.int .u8 0), .lit (.int .u8 0)], .agg [.lit (.int .u8 0), .lit (.int .u8 0)], .agg [.lit (.int .u8 0), .lit (.int .u8 0)], .agg [.lit (.int .u8 0), .lit (.int .u8 0)], .agg [.lit (.int .u8 0), .lit (.int .u8 0)]]
def laid_loop_example_g00268_impl_digitChars {H : Type} : DataW H := .agg [.lit (.int .u8 48), .lit (.int .u8 49), .lit (.int .u8 50), .lit (.int .u8 51), .lit (.int .u8 52), .lit (.int .u8 53), .lit (.int .u8 54), .lit (.int .u8 55), .lit (.int .u8 56), .lit (.int .u8 57), .lit (.int .u8 65), .lit (.int .u8 66), .lit (.int .u8 67), .lit (.int .u8 68), .lit (.int .u8 69), .lit (.int .u8 70)]
/-- One of Go's own tables, pinned by name: the form's constant. -/
def laid_unicode_utf8_first : DataW Unit := Go.Pinned.utf8First

/-- 'laws.FnBase64': WHATEVER THE INPUT: true; the input reads as it did. -/
def fnBase64Spec : ChangeSpec := { name := "fnBase64", vars := ["loop.example/g00268/impl.base64Chars", "loop.example/g00268/impl.base64Values"], fn := fun _ => fun
  | [d, g1, g2] => { results := [.lit (.bool true)], args := [d], vars := [g1, g2] }
  | _ => none }
def fnBase64Row : OpenClaim := { program := "ythfppbjjnkdekaadoor", sum := "5aae3631a5fb2371cec25b2b51f190bc267cad2209ceccababae17843421eac2", func := "loop.example/g00268/laws.FnBase64", spec := "fnBase64", inPlace := ["internal/abi.NoEscape"], named := ["loop.example/g00268/impl.base64Chars", "loop.example/g00268/impl.base64Values"], apart := false, laid := [("loop.example/g00268/impl.base64Chars", laid_loop_example_g00268_impl_base64Chars), ("loop.example/g00268/impl.base64Values", laid_loop_example_g00268_impl_base64Values)] }
def FnBase64Said : Prop := fnBase64Row.holds Tryd.pinned (OpenSpec.ofChange fnBase64Spec)

/-- ITS FALSE NEIGHBOUR: 'it returns false'. Refute it at one input. -/
def fnBase64Wrong : ChangeSpec := { name := "fnBase64", vars := ["loop.example/g00268/impl.base64Chars", "loop.example/g00268/impl.base64Values"], fn := fun _ => fun
  | [d, g1, g2] => { results := [.lit (.bool false)], args := [d], vars := [g1, g2] }
  | _ => none }
def FnBase64WrongFalsely : Prop := fnBase64Row.holds Tryd.pinned (OpenSpec.ofChange fnBase64Wrong)

/-- 'laws.FnQuoted': WHATEVER THE INPUT: true; the input reads as it did. -/
def fnQuotedSpec : ChangeSpec := { name := "fnQuoted", vars := ["loop.example/g00268/impl.digitChars"], fn := fun _ => fun
  | [d, g1] => { results := [.lit (.bool true)], args := [d], vars := [g1] }
  | _ => none }
def fnQuotedRow : OpenClaim := { program := "ythfppbjjnkdekaadoor", sum := "5aae3631a5fb2371cec25b2b51f190bc267cad2209ceccababae17843421eac2", func := "loop.example/g00268/laws.FnQuoted", spec := "fnQuoted", inPlace := ["internal/abi.NoEscape", "internal/bytealg.IndexByteString", "internal/bytealg.IndexString"], unfollowed := true, recurses := true, named := ["loop.example/g00268/impl.digitChars", "unicode/utf8.first", "unicode/utf8.acceptRanges", "internal/bytealg.MaxLen"], apart := false, laid := [("unicode/utf8.acceptRanges", laid_unicode_utf8_acceptRanges), ("loop.example/g00268/impl.digitChars", laid_loop_example_g00268_impl_digitChars), ("unicode/utf8.first", laid_unicode_utf8_first)] }
def FnQuotedSaid : Prop := fnQuotedRow.holds Tryd.pinned (OpenSpec.ofChange fnQuotedSpec)

/-- ITS FALSE NEIGHBOUR: 'it returns false'. Refute it at one input. -/
def fnQuotedWrong : ChangeSpec := { name := "fnQuoted", vars := ["loop.example/g00268/impl.digitChars"], fn := fun _ => fun
  | [d, g1] => { results := [.lit (.bool false)], args := [d], vars := [g1] }
  | _ => none }
def FnQuotedWrongFalsely : Prop := fnQuotedRow.holds Tryd.pinned (OpenSpec.ofChange fnQuotedWrong)

/-- 'laws.FnExactBase64Text': WHATEVER THE INPUT: true; the input reads as it did. -/
def fnExactBase64TextSpec : ChangeSpec := { name := "fnExactBase64Text", vars := ["loop.example/g00268/impl.base64Chars"], fn := fun _ => fun
  | [d, g1] => { results := [.lit (.bool true)], args := [d], vars := [g1] }
  | _ => none }
def fnExactBase64TextRow : OpenClaim := { program := "ythfppbjjnkdekaadoor", sum := "5aae3631a5fb2371cec25b2b51f190bc267cad2209ceccababae17843421eac2", func := "loop.example/g00268/laws.FnExactBase64Text", spec := "fnExactBase64Text", inPlace := ["internal/abi.NoEscape"], named := ["loop.example/g00268/impl.base64Chars"], apart := false, laid := [("loop.example/g00268/impl.base64Chars", laid_loop_example_g00268_impl_base64Chars)] }
def FnExactBase64TextSaid : Prop := fnExactBase64TextRow.holds Tryd.pinned (OpenSpec.ofChange fnExactBase64TextSpec)

/-- ITS FALSE NEIGHBOUR: 'it returns false'. Refute it at one input. -/
def fnExactBase64TextWrong : ChangeSpec := { name := "fnExactBase64Text", vars := ["loop.example/g00268/impl.base64Chars"], fn := fun _ => fun
  | [d, g1] => { results := [.lit (.bool false)], args := [d], vars := [g1] }
  | _ => none }
def FnExactBase64TextWrongFalsely : Prop := fnExactBase64TextRow.holds Tryd.pinned (OpenSpec.ofChange fnExactBase64TextWrong)

/-- 'laws.FnExactReadBase64': WHATEVER THE INPUT: true; the input reads as it did. -/
def fnExactReadBase64Spec : ChangeSpec := { name := "fnExactReadBase64", vars := ["loop.example/g00268/impl.base64Values"], fn := fun _ => fun
  | [d, g1] => { results := [.lit (.bool true)], args := [d], vars := [g1] }
  | _ => none }
def fnExactReadBase64Row : OpenClaim := { program := "ythfppbjjnkdekaadoor", sum := "5aae3631a5fb2371cec25b2b51f190bc267cad2209ceccababae17843421eac2", func := "loop.example/g00268/laws.FnExactReadBase64", spec := "fnExactReadBase64", named := ["loop.example/g00268/impl.base64Values"], apart := false, laid := [("loop.example/g00268/impl.base64Values", laid_loop_example_g00268_impl_base64Values)] }
def FnExactReadBase64Said : Prop := fnExactReadBase64Row.holds Tryd.pinned (OpenSpec.ofChange fnExactReadBase64Spec)

/-- ITS FALSE NEIGHBOUR: 'it returns false'. Refute it at one input. -/
def fnExactReadBase64Wrong : ChangeSpec := { name := "fnExactReadBase64", vars := ["loop.example/g00268/impl.base64Values"], fn := fun _ => fun
  | [d, g1] => { results := [.lit (.bool false)], args := [d], vars := [g1] }
  | _ => none }
def FnExactReadBase64WrongFalsely : Prop := fnExactReadBase64Row.holds Tryd.pinned (OpenSpec.ofChange fnExactReadBase64Wrong)

/-- 'laws.FnExactQuotedText': WHATEVER THE INPUT: true; the input reads as it did. -/
def fnExactQuotedTextSpec : ChangeSpec := { name := "fnExactQuotedText", vars := ["loop.example/g00268/impl.digitChars"], fn := fun _ => fun
  | [d, g1] => { results := [.lit (.bool true)], args := [d], vars := [g1] }
  | _ => none }
def fnExactQuotedTextRow : OpenClaim := { program := "ythfppbjjnkdekaadoor", sum := "5aae3631a5fb2371cec25b2b51f190bc267cad2209ceccababae17843421eac2", func := "loop.example/g00268/laws.FnExactQuotedText", spec := "fnExactQuotedText", inPlace := ["internal/abi.NoEscape"], named := ["loop.example/g00268/impl.digitChars"], apart := false, laid := [("loop.example/g00268/impl.digitChars", laid_loop_example_g00268_impl_digitChars)] }
def FnExactQuotedTextSaid : Prop := fnExactQuotedTextRow.holds Tryd.pinned (OpenSpec.ofChange fnExactQuotedTextSpec)

/-- ITS FALSE NEIGHBOUR: 'it returns false'. Refute it at one input. -/
def fnExactQuotedTextWrong : ChangeSpec := { name := "fnExactQuotedText", vars := ["loop.example/g00268/impl.digitChars"], fn := fun _ => fun
  | [d, g1] => { results := [.lit (.bool false)], args := [d], vars := [g1] }
  | _ => none }
def FnExactQuotedTextWrongFalsely : Prop := fnExactQuotedTextRow.holds Tryd.pinned (OpenSpec.ofChange fnExactQuotedTextWrong)

/-- 'laws.FnExactReadQuoted': WHATEVER THE INPUT: true; the input reads as it did. -/
def fnExactReadQuotedSpec : ChangeSpec := { name := "fnExactReadQuoted", vars := ["loop.example/g00268/impl.digitChars"], fn := fun _ => fun
  | [d, g1] => { results := [.lit (.bool true)], args := [d], vars := [g1] }
  | _ => none }
def fnExactReadQuotedRow : OpenClaim := { program := "ythfppbjjnkdekaadoor", sum := "5aae3631a5fb2371cec25b2b51f190bc267cad2209ceccababae17843421eac2", func := "loop.example/g00268/laws.FnExactReadQuoted", spec := "fnExactReadQuoted", named := ["loop.example/g00268/impl.digitChars"], apart := false, laid := [("loop.example/g00268/impl.digitChars", laid_loop_example_g00268_impl_digitChars)] }
def FnExactReadQuotedSaid : Prop := fnExactReadQuotedRow.holds Tryd.pinned (OpenSpec.ofChange fnExactReadQuotedSpec)

/-- ITS FALSE NEIGHBOUR: 'it returns false'. Refute it at one input. -/
def fnExactReadQuotedWrong : ChangeSpec := { name := "fnExactReadQuoted", vars := ["loop.example/g00268/impl.digitChars"], fn := fun _ => fun
  | [d, g1] => { results := [.lit (.bool false)], args := [d], vars := [g1] }
  | _ => none }
def FnExactReadQuotedWrongFalsely : Prop := fnExactReadQuotedRow.holds Tryd.pinned (OpenSpec.ofChange fnExactReadQuotedWrong)

/- THE SECOND FORM. 'bulk': how many values and letters a reading holds, each counted each time it is reached (what is shared counts as often as it is met; a slice's spare places count too). A statement '..UptoSaid' is the law's where the arguments, and the package variables that the reading takes, are together of bulk at most 1048576: NARROWER than '..Said'. Prove '..Said' where nothing that the law and all that it calls make is longer than what came in: it says more and counts as full. Else prove '..UptoSaid'. A law counts once. -/
mutual
def uptoBulk {H : Type} : DataW H → Nat
  | .lit (.string bytes) => bytes.length + 1
  | .lit _ => 1
  | .nil => 1
  | .ptr d => uptoBulk d + 1
  | .slice elems spare => uptoBulkAll elems + uptoBulkAll spare + 1
  | .agg parts => uptoBulkAll parts + 1
  | .iface _ d => uptoBulk d + 1
  | .map entries => uptoBulkEntries entries + 1
  | .held _ => 1
def uptoBulkAll {H : Type} : List (DataW H) → Nat
  | [] => 0
  | d :: r => uptoBulk d + uptoBulkAll r
def uptoBulkEntries {H : Type} : List (Lit × DataW H) → Nat
  | [] => 0
  | x :: r => uptoBulkEntry x + uptoBulkEntries r
def uptoBulkEntry {H : Type} : Lit × DataW H → Nat
  | (.string bytes, d) => bytes.length + uptoBulk d + 1
  | (_, d) => uptoBulk d + 1
 end
def uptoSmall : (H : Type) → List (DataW H) → Bool := fun _ ds => decide (uptoBulkAll ds ≤ 1048576)
def OpenSpec.upto (s : _root_.Go.ChangeSpec) : _root_.Go.OpenSpec := { _root_.Go.OpenSpec.ofChange s with cond := some uptoSmall }

/-- 'laws.FnBase64', WHERE WHAT IT READS IS OF BULK AT MOST 1048576: true; the input reads as it did. -/
def fnBase64UptoRow : OpenClaim := { program := "ythfppbjjnkdekaadoor", sum := "5aae3631a5fb2371cec25b2b51f190bc267cad2209ceccababae17843421eac2", func := "loop.example/g00268/laws.FnBase64", spec := "fnBase64", inPlace := ["internal/abi.NoEscape"], named := ["loop.example/g00268/impl.base64Chars", "loop.example/g00268/impl.base64Values"], apart := false, laid := [("loop.example/g00268/impl.base64Chars", laid_loop_example_g00268_impl_base64Chars), ("loop.example/g00268/impl.base64Values", laid_loop_example_g00268_impl_base64Values)], narrowed := true }
def FnBase64UptoSaid : Prop := fnBase64UptoRow.holds Tryd.pinned (OpenSpec.upto fnBase64Spec)

/-- 'laws.FnQuoted', WHERE WHAT IT READS IS OF BULK AT MOST 1048576: true; the input reads as it did. -/
def fnQuotedUptoRow : OpenClaim := { program := "ythfppbjjnkdekaadoor", sum := "5aae3631a5fb2371cec25b2b51f190bc267cad2209ceccababae17843421eac2", func := "loop.example/g00268/laws.FnQuoted", spec := "fnQuoted", inPlace := ["internal/abi.NoEscape", "internal/bytealg.IndexByteString", "internal/bytealg.IndexString"], unfollowed := true, recurses := true, named := ["loop.example/g00268/impl.digitChars", "unicode/utf8.first", "unicode/utf8.acceptRanges", "internal/bytealg.MaxLen"], apart := false, laid := [("unicode/utf8.acceptRanges", laid_unicode_utf8_acceptRanges), ("loop.example/g00268/impl.digitChars", laid_loop_example_g00268_impl_digitChars), ("unicode/utf8.first", laid_unicode_utf8_first)], narrowed := true }
def FnQuotedUptoSaid : Prop := fnQuotedUptoRow.holds Tryd.pinned (OpenSpec.upto fnQuotedSpec)

/-- 'laws.FnExactBase64Text', WHERE WHAT IT READS IS OF BULK AT MOST 1048576: true; the input reads as it did. -/
def fnExactBase64TextUptoRow : OpenClaim := { program := "ythfppbjjnkdekaadoor", sum := "5aae3631a5fb2371cec25b2b51f190bc267cad2209ceccababae17843421eac2", func := "loop.example/g00268/laws.FnExactBase64Text", spec := "fnExactBase64Text", inPlace := ["internal/abi.NoEscape"], named := ["loop.example/g00268/impl.base64Chars"], apart := false, laid := [("loop.example/g00268/impl.base64Chars", laid_loop_example_g00268_impl_base64Chars)], narrowed := true }
def FnExactBase64TextUptoSaid : Prop := fnExactBase64TextUptoRow.holds Tryd.pinned (OpenSpec.upto fnExactBase64TextSpec)

/-- 'laws.FnExactReadBase64', WHERE WHAT IT READS IS OF BULK AT MOST 1048576: true; the input reads as it did. -/
def fnExactReadBase64UptoRow : OpenClaim := { program := "ythfppbjjnkdekaadoor", sum := "5aae3631a5fb2371cec25b2b51f190bc267cad2209ceccababae17843421eac2", func := "loop.example/g00268/laws.FnExactReadBase64", spec := "fnExactReadBase64", named := ["loop.example/g00268/impl.base64Values"], apart := false, laid := [("loop.example/g00268/impl.base64Values", laid_loop_example_g00268_impl_base64Values)], narrowed := true }
def FnExactReadBase64UptoSaid : Prop := fnExactReadBase64UptoRow.holds Tryd.pinned (OpenSpec.upto fnExactReadBase64Spec)

/-- 'laws.FnExactQuotedText', WHERE WHAT IT READS IS OF BULK AT MOST 1048576: true; the input reads as it did. -/
def fnExactQuotedTextUptoRow : OpenClaim := { program := "ythfppbjjnkdekaadoor", sum := "5aae3631a5fb2371cec25b2b51f190bc267cad2209ceccababae17843421eac2", func := "loop.example/g00268/laws.FnExactQuotedText", spec := "fnExactQuotedText", inPlace := ["internal/abi.NoEscape"], named := ["loop.example/g00268/impl.digitChars"], apart := false, laid := [("loop.example/g00268/impl.digitChars", laid_loop_example_g00268_impl_digitChars)], narrowed := true }
def FnExactQuotedTextUptoSaid : Prop := fnExactQuotedTextUptoRow.holds Tryd.pinned (OpenSpec.upto fnExactQuotedTextSpec)

/-- 'laws.FnExactReadQuoted', WHERE WHAT IT READS IS OF BULK AT MOST 1048576: true; the input reads as it did. -/
def fnExactReadQuotedUptoRow : OpenClaim := { program := "ythfppbjjnkdekaadoor", sum := "5aae3631a5fb2371cec25b2b51f190bc267cad2209ceccababae17843421eac2", func := "loop.example/g00268/laws.FnExactReadQuoted", spec := "fnExactReadQuoted", named := ["loop.example/g00268/impl.digitChars"], apart := false, laid := [("loop.example/g00268/impl.digitChars", laid_loop_example_g00268_impl_digitChars)], narrowed := true }
def FnExactReadQuotedUptoSaid : Prop := fnExactReadQuotedUptoRow.holds Tryd.pinned (OpenSpec.upto fnExactReadQuotedSpec)

end Rows
end Go.Proofs.YthfppbjjnkdekaaDoor
