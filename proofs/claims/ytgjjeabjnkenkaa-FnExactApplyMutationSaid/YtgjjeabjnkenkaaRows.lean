/-
  No cell of these rows narrows 'for every input' (looked for: loops, veiled, ifaces, maps, wideKeys, modest, calm, conditions, laid).
  DERIVED. THE GIVEN ROWS OF THIS SEAT. 4 by the template 'for every input the law returns true; each argument reads behind the call as it read before'; 0 by the template 'total and deterministic' (their statements: YtgjjeabjnkenkaaTotals.lean).
  GIVEN WITH THE SEED: the statements are not yours to turn. If you find one false, say at which input.
  Laid BY PROGRAM, IN A SANDBOX (cutbox-rows.mjs): the forced cells as the released guide's own fill.sh prints them over the translation 28d98ac73e685337… (all of the seat's roots in one cut). By AI agents, Wed Nov 11 2026. No macro, syntax, notation, axiom, sorry.
-/
import Derived.Test.YtgjjeabjnkenkaaChecked
import GoSem.Claim
import GoSem.ClaimJoined
import GoSem.ClaimMapViews
import Derived.JoinedTies
import Derived.KernelRfl
namespace Go.Proofs.Ytgjjeabjnkenkaa
/- THE CELL 'sum', in the pinned program and in every row, IS THE sha256 OF THE DUMP (.gsa) THAT YtgjjeabjnkenkaaProg.lean LOADS. Nothing in Lean hashes anything: it is a label: what it is worth is what the hold of that sum in a sandbox is worth. -/
noncomputable def Try.pinned : Pinned := { name := "ytgjjeabjnkenkaa", sum := "28d98ac73e685337c688af873031084c0aaa538e21844d39fc097ac5d71b2548", checked := Try.checked }
namespace Rows
def none {H : Type} : Left H := { results := [], args := [] }

/-- 'laws.FnExactApplyMutation': WHATEVER THE INPUT: true; the input reads as it did. -/
def fnExactApplyMutationSpec : ChangeSpec := { name := "fnExactApplyMutation", fn := fun _ => fun
  | [d1, d2] => { results := [.lit (.bool true)], args := [d1, d2] }
  | _ => none }
def fnExactApplyMutationRow : OpenClaim := { program := "ytgjjeabjnkenkaa", sum := "28d98ac73e685337c688af873031084c0aaa538e21844d39fc097ac5d71b2548", func := "loop.example/g00268/laws.FnExactApplyMutation", spec := "fnExactApplyMutation", unfollowed := true, recurses := true, apart := false }
def FnExactApplyMutationSaid : Prop := fnExactApplyMutationRow.holds Try.pinned (OpenSpec.ofChange fnExactApplyMutationSpec)

/-- ITS FALSE NEIGHBOUR: 'it returns false'. Refute it at one input. -/
def fnExactApplyMutationWrong : ChangeSpec := { name := "fnExactApplyMutation", fn := fun _ => fun
  | [d1, d2] => { results := [.lit (.bool false)], args := [d1, d2] }
  | _ => none }
def FnExactApplyMutationWrongFalsely : Prop := fnExactApplyMutationRow.holds Try.pinned (OpenSpec.ofChange fnExactApplyMutationWrong)

/-- 'laws.FnExactMutationOK': WHATEVER THE INPUT: true; the input reads as it did. -/
def fnExactMutationOKSpec : ChangeSpec := { name := "fnExactMutationOK", fn := fun _ => fun
  | [d] => { results := [.lit (.bool true)], args := [d] }
  | _ => none }
def fnExactMutationOKRow : OpenClaim := { program := "ytgjjeabjnkenkaa", sum := "28d98ac73e685337c688af873031084c0aaa538e21844d39fc097ac5d71b2548", func := "loop.example/g00268/laws.FnExactMutationOK", spec := "fnExactMutationOK", apart := false }
def FnExactMutationOKSaid : Prop := fnExactMutationOKRow.holds Try.pinned (OpenSpec.ofChange fnExactMutationOKSpec)

/-- ITS FALSE NEIGHBOUR: 'it returns false'. Refute it at one input. -/
def fnExactMutationOKWrong : ChangeSpec := { name := "fnExactMutationOK", fn := fun _ => fun
  | [d] => { results := [.lit (.bool false)], args := [d] }
  | _ => none }
def FnExactMutationOKWrongFalsely : Prop := fnExactMutationOKRow.holds Try.pinned (OpenSpec.ofChange fnExactMutationOKWrong)

/-- 'laws.FnExactMutationBytes': WHATEVER THE INPUT: true; the input reads as it did. -/
def fnExactMutationBytesSpec : ChangeSpec := { name := "fnExactMutationBytes", fn := fun _ => fun
  | [d] => { results := [.lit (.bool true)], args := [d] }
  | _ => none }
def fnExactMutationBytesRow : OpenClaim := { program := "ytgjjeabjnkenkaa", sum := "28d98ac73e685337c688af873031084c0aaa538e21844d39fc097ac5d71b2548", func := "loop.example/g00268/laws.FnExactMutationBytes", spec := "fnExactMutationBytes", apart := false }
def FnExactMutationBytesSaid : Prop := fnExactMutationBytesRow.holds Try.pinned (OpenSpec.ofChange fnExactMutationBytesSpec)

/-- ITS FALSE NEIGHBOUR: 'it returns false'. Refute it at one input. -/
def fnExactMutationBytesWrong : ChangeSpec := { name := "fnExactMutationBytes", fn := fun _ => fun
  | [d] => { results := [.lit (.bool false)], args := [d] }
  | _ => none }
def FnExactMutationBytesWrongFalsely : Prop := fnExactMutationBytesRow.holds Try.pinned (OpenSpec.ofChange fnExactMutationBytesWrong)

/-- 'laws.FnExactReadMutation': WHATEVER THE INPUT: true; the input reads as it did. -/
def fnExactReadMutationSpec : ChangeSpec := { name := "fnExactReadMutation", fn := fun _ => fun
  | [d] => { results := [.lit (.bool true)], args := [d] }
  | _ => none }
def fnExactReadMutationRow : OpenClaim := { program := "ytgjjeabjnkenkaa", sum := "28d98ac73e685337c688af873031084c0aaa538e21844d39fc097ac5d71b2548", func := "loop.example/g00268/laws.FnExactReadMutation", spec := "fnExactReadMutation", apart := false }
def FnExactReadMutationSaid : Prop := fnExactReadMutationRow.holds Try.pinned (OpenSpec.ofChange fnExactReadMutationSpec)

/-- ITS FALSE NEIGHBOUR: 'it returns false'. Refute it at one input. -/
def fnExactReadMutationWrong : ChangeSpec := { name := "fnExactReadMutation", fn := fun _ => fun
  | [d] => { results := [.lit (.bool false)], args := [d] }
  | _ => none }
def FnExactReadMutationWrongFalsely : Prop := fnExactReadMutationRow.holds Try.pinned (OpenSpec.ofChange fnExactReadMutationWrong)

/- THE SECOND FORM. 'bulk': how many values and letters a reading holds, each counted each time it is reached (what is shared counts as often as it is met; a slice's spare places count too). A statement '..UptoSaid' is the law's where the arguments, and the package variables that the reading takes, are together of bulk at most 1048576: NARROWER than '..Said'. Prove '..Said' where nothing that the law and all that it calls make is longer than what came in: it says more and counts as full. Else prove '..UptoSaid'. A law counts once. -/
mutual
def uptoBulk {H : Type} : DataW H → Nat
  | .lit (.string bytes) => bytes.length + 1
  | .lit _ => 1
  | .nil => 1
  | .ptr d => uptoBulk d + 1
  | .slice elems spare => uptoBulkAll elems + uptoBulkAll spare + 1
  | .agg parts => uptoBulkAll parts + 1
  | .iface _ d => uptoBulk d + 1
  | .map entries => uptoBulkEntries entries + 1
  | .held _ => 1
def uptoBulkAll {H : Type} : List (DataW H) → Nat
  | [] => 0
  | d :: r => uptoBulk d + uptoBulkAll r
def uptoBulkEntries {H : Type} : List (Lit × DataW H) → Nat
  | [] => 0
  | x :: r => uptoBulkEntry x + uptoBulkEntries r
def uptoBulkEntry {H : Type} : Lit × DataW H → Nat
  | (.string bytes, d) => bytes.length + uptoBulk d + 1
  | (_, d) => uptoBulk d + 1
 end
def uptoSmall : (H : Type) → List (DataW H) → Bool := fun _ ds => decide (uptoBulkAll ds ≤ 1048576)
def OpenSpec.upto (s : _root_.Go.ChangeSpec) : _root_.Go.OpenSpec := { _root_.Go.OpenSpec.ofChange s with cond := some uptoSmall }

/-- 'laws.FnExactApplyMutation', WHERE WHAT IT READS IS OF BULK AT MOST 1048576: true; the input reads as it did. -/
def fnExactApplyMutationUptoRow : OpenClaim := { program := "ytgjjeabjnkenkaa", sum := "28d98ac73e685337c688af873031084c0aaa538e21844d39fc097ac5d71b2548", func := "loop.example/g00268/laws.FnExactApplyMutation", spec := "fnExactApplyMutation", unfollowed := true, recurses := true, apart := false, narrowed := true }
def FnExactApplyMutationUptoSaid : Prop := fnExactApplyMutationUptoRow.holds Try.pinned (OpenSpec.upto fnExactApplyMutationSpec)

/-- 'laws.FnExactMutationOK', WHERE WHAT IT READS IS OF BULK AT MOST 1048576: true; the input reads as it did. -/
def fnExactMutationOKUptoRow : OpenClaim := { program := "ytgjjeabjnkenkaa", sum := "28d98ac73e685337c688af873031084c0aaa538e21844d39fc097ac5d71b2548", func := "loop.example/g00268/laws.FnExactMutationOK", spec := "fnExactMutationOK", apart := false, narrowed := true }
def FnExactMutationOKUptoSaid : Prop := fnExactMutationOKUptoRow.holds Try.pinned (OpenSpec.upto fnExactMutationOKSpec)

/-- 'laws.FnExactMutationBytes', WHERE WHAT IT READS IS OF BULK AT MOST 1048576: true; the input reads as it did. -/
def fnExactMutationBytesUptoRow : OpenClaim := { program := "ytgjjeabjnkenkaa", sum := "28d98ac73e685337c688af873031084c0aaa538e21844d39fc097ac5d71b2548", func := "loop.example/g00268/laws.FnExactMutationBytes", spec := "fnExactMutationBytes", apart := false, narrowed := true }
def FnExactMutationBytesUptoSaid : Prop := fnExactMutationBytesUptoRow.holds Try.pinned (OpenSpec.upto fnExactMutationBytesSpec)

/-- 'laws.FnExactReadMutation', WHERE WHAT IT READS IS OF BULK AT MOST 1048576: true; the input reads as it did. -/
def fnExactReadMutationUptoRow : OpenClaim := { program := "ytgjjeabjnkenkaa", sum := "28d98ac73e685337c688af873031084c0aaa538e21844d39fc097ac5d71b2548", func := "loop.example/g00268/laws.FnExactReadMutation", spec := "fnExactReadMutation", apart := false, narrowed := true }
def FnExactReadMutationUptoSaid : Prop := fnExactReadMutationUptoRow.holds Try.pinned (OpenSpec.upto fnExactReadMutationSpec)

end Rows
end Go.Proofs.Ytgjjeabjnkenkaa
