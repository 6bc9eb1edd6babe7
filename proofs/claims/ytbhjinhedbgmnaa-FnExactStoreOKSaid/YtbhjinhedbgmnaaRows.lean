/-
  No cell of these rows narrows 'for every input' (looked for: loops, veiled, ifaces, maps, wideKeys, modest, calm, conditions, laid).
  DERIVED. THE GIVEN ROWS OF THIS SEAT. 6 by the template 'for every input the law returns true; each argument reads behind the call as it read before'; 0 by the template 'total and deterministic' (their statements: YtbhjinhedbgmnaaTotals.lean).
  GIVEN WITH THE SEED: the statements are not yours to turn. If you find one false, say at which input.
  Laid BY PROGRAM, IN A SANDBOX (cutbox-rows.mjs): the forced cells as the released guide's own fill.sh prints them over the translation 16eb70e5036933aa… (all of the seat's roots in one cut). By AI agents, Wed Nov 11 2026. No macro, syntax, notation, axiom, sorry.
-/
import Derived.Test.YtbhjinhedbgmnaaChecked
import GoSem.Claim
import GoSem.ClaimJoined
import GoSem.ClaimMapViews
import Derived.JoinedTies
import Derived.KernelRfl
namespace Go.Proofs.Ytbhjinhedbgmnaa
/- THE CELL 'sum', in the pinned program and in every row, IS THE sha256 OF THE DUMP (.gsa) THAT YtbhjinhedbgmnaaProg.lean LOADS. Nothing in Lean hashes anything: it is a label: what it is worth is what the hold of that sum in a sandbox is worth. -/
noncomputable def Try.pinned : Pinned := { name := "ytbhjinhedbgmnaa", sum := "16eb70e5036933aa9201ba62aa783e696a1125bed82e106bfcd26823a60910f8", checked := Try.checked }
namespace Rows
def none {H : Type} : Left H := { results := [], args := [] }

/-- 'laws.FnExactMutationOK': WHATEVER THE INPUT: true; the input reads as it did. -/
def fnExactMutationOKSpec : ChangeSpec := { name := "fnExactMutationOK", fn := fun _ => fun
  | [d] => { results := [.lit (.bool true)], args := [d] }
  | _ => none }
def fnExactMutationOKRow : OpenClaim := { program := "ytbhjinhedbgmnaa", sum := "16eb70e5036933aa9201ba62aa783e696a1125bed82e106bfcd26823a60910f8", func := "loop.example/g00268/laws.FnExactMutationOK", spec := "fnExactMutationOK", apart := false }
def FnExactMutationOKSaid : Prop := fnExactMutationOKRow.holds Try.pinned (OpenSpec.ofChange fnExactMutationOKSpec)

/-- ITS FALSE NEIGHBOUR: 'it returns false'. Refute it at one input. -/
def fnExactMutationOKWrong : ChangeSpec := { name := "fnExactMutationOK", fn := fun _ => fun
  | [d] => { results := [.lit (.bool false)], args := [d] }
  | _ => none }
def FnExactMutationOKWrongFalsely : Prop := fnExactMutationOKRow.holds Try.pinned (OpenSpec.ofChange fnExactMutationOKWrong)

/-- 'laws.FnExactBoxOK': WHATEVER THE INPUT: true; the input reads as it did. -/
def fnExactBoxOKSpec : ChangeSpec := { name := "fnExactBoxOK", fn := fun _ => fun
  | [d] => { results := [.lit (.bool true)], args := [d] }
  | _ => none }
def fnExactBoxOKRow : OpenClaim := { program := "ytbhjinhedbgmnaa", sum := "16eb70e5036933aa9201ba62aa783e696a1125bed82e106bfcd26823a60910f8", func := "loop.example/g00268/laws.FnExactBoxOK", spec := "fnExactBoxOK", apart := false }
def FnExactBoxOKSaid : Prop := fnExactBoxOKRow.holds Try.pinned (OpenSpec.ofChange fnExactBoxOKSpec)

/-- ITS FALSE NEIGHBOUR: 'it returns false'. Refute it at one input. -/
def fnExactBoxOKWrong : ChangeSpec := { name := "fnExactBoxOK", fn := fun _ => fun
  | [d] => { results := [.lit (.bool false)], args := [d] }
  | _ => none }
def FnExactBoxOKWrongFalsely : Prop := fnExactBoxOKRow.holds Try.pinned (OpenSpec.ofChange fnExactBoxOKWrong)

/-- 'laws.FnExactCountFlag': WHATEVER THE INPUT: true; the input reads as it did. -/
def fnExactCountFlagSpec : ChangeSpec := { name := "fnExactCountFlag", fn := fun _ => fun
  | [d1, d2] => { results := [.lit (.bool true)], args := [d1, d2] }
  | _ => none }
def fnExactCountFlagRow : OpenClaim := { program := "ytbhjinhedbgmnaa", sum := "16eb70e5036933aa9201ba62aa783e696a1125bed82e106bfcd26823a60910f8", func := "loop.example/g00268/laws.FnExactCountFlag", spec := "fnExactCountFlag", apart := false }
def FnExactCountFlagSaid : Prop := fnExactCountFlagRow.holds Try.pinned (OpenSpec.ofChange fnExactCountFlagSpec)

/-- ITS FALSE NEIGHBOUR: 'it returns false'. Refute it at one input. -/
def fnExactCountFlagWrong : ChangeSpec := { name := "fnExactCountFlag", fn := fun _ => fun
  | [d1, d2] => { results := [.lit (.bool false)], args := [d1, d2] }
  | _ => none }
def FnExactCountFlagWrongFalsely : Prop := fnExactCountFlagRow.holds Try.pinned (OpenSpec.ofChange fnExactCountFlagWrong)

/-- 'laws.FnExactStoredAt': WHATEVER THE INPUT: true; the input reads as it did. -/
def fnExactStoredAtSpec : ChangeSpec := { name := "fnExactStoredAt", fn := fun _ => fun
  | [d1, d2] => { results := [.lit (.bool true)], args := [d1, d2] }
  | _ => none }
def fnExactStoredAtRow : OpenClaim := { program := "ytbhjinhedbgmnaa", sum := "16eb70e5036933aa9201ba62aa783e696a1125bed82e106bfcd26823a60910f8", func := "loop.example/g00268/laws.FnExactStoredAt", spec := "fnExactStoredAt", unfollowed := true, recurses := true, apart := false }
def FnExactStoredAtSaid : Prop := fnExactStoredAtRow.holds Try.pinned (OpenSpec.ofChange fnExactStoredAtSpec)

/-- ITS FALSE NEIGHBOUR: 'it returns false'. Refute it at one input. -/
def fnExactStoredAtWrong : ChangeSpec := { name := "fnExactStoredAt", fn := fun _ => fun
  | [d1, d2] => { results := [.lit (.bool false)], args := [d1, d2] }
  | _ => none }
def FnExactStoredAtWrongFalsely : Prop := fnExactStoredAtRow.holds Try.pinned (OpenSpec.ofChange fnExactStoredAtWrong)

/-- 'laws.FnExactStoreOK': WHATEVER THE INPUT: true; the input reads as it did. -/
def fnExactStoreOKSpec : ChangeSpec := { name := "fnExactStoreOK", fn := fun _ => fun
  | [d] => { results := [.lit (.bool true)], args := [d] }
  | _ => none }
def fnExactStoreOKRow : OpenClaim := { program := "ytbhjinhedbgmnaa", sum := "16eb70e5036933aa9201ba62aa783e696a1125bed82e106bfcd26823a60910f8", func := "loop.example/g00268/laws.FnExactStoreOK", spec := "fnExactStoreOK", unfollowed := true, recurses := true, apart := false }
def FnExactStoreOKSaid : Prop := fnExactStoreOKRow.holds Try.pinned (OpenSpec.ofChange fnExactStoreOKSpec)

/-- ITS FALSE NEIGHBOUR: 'it returns false'. Refute it at one input. -/
def fnExactStoreOKWrong : ChangeSpec := { name := "fnExactStoreOK", fn := fun _ => fun
  | [d] => { results := [.lit (.bool false)], args := [d] }
  | _ => none }
def FnExactStoreOKWrongFalsely : Prop := fnExactStoreOKRow.holds Try.pinned (OpenSpec.ofChange fnExactStoreOKWrong)

/-- 'laws.FnExactSameStore': WHATEVER THE INPUT: true; the input reads as it did. -/
def fnExactSameStoreSpec : ChangeSpec := { name := "fnExactSameStore", fn := fun _ => fun
  | [d1, d2] => { results := [.lit (.bool true)], args := [d1, d2] }
  | _ => none }
def fnExactSameStoreRow : OpenClaim := { program := "ytbhjinhedbgmnaa", sum := "16eb70e5036933aa9201ba62aa783e696a1125bed82e106bfcd26823a60910f8", func := "loop.example/g00268/laws.FnExactSameStore", spec := "fnExactSameStore", unfollowed := true, recurses := true, apart := false }
def FnExactSameStoreSaid : Prop := fnExactSameStoreRow.holds Try.pinned (OpenSpec.ofChange fnExactSameStoreSpec)

/-- ITS FALSE NEIGHBOUR: 'it returns false'. Refute it at one input. -/
def fnExactSameStoreWrong : ChangeSpec := { name := "fnExactSameStore", fn := fun _ => fun
  | [d1, d2] => { results := [.lit (.bool false)], args := [d1, d2] }
  | _ => none }
def FnExactSameStoreWrongFalsely : Prop := fnExactSameStoreRow.holds Try.pinned (OpenSpec.ofChange fnExactSameStoreWrong)

/- THE SECOND FORM. 'bulk': how many values and letters a reading holds, each counted each time it is reached (what is shared counts as often as it is met; a slice's spare places count too). A statement '..UptoSaid' is the law's where the arguments, and the package variables that the reading takes, are together of bulk at most 1048576: NARROWER than '..Said'. Prove '..Said' where nothing that the law and all that it calls make is longer than what came in: it says more and counts as full. Else prove '..UptoSaid'. A law counts once. -/
mutual
def uptoBulk {H : Type} : DataW H → Nat
  | .lit (.string bytes) => bytes.length + 1
  | .lit _ => 1
  | .nil => 1
  | .ptr d => uptoBulk d + 1
  | .slice elems spare => uptoBulkAll elems + uptoBulkAll spare + 1
  | .agg parts => uptoBulkAll parts + 1
  | .iface _ d => uptoBulk d + 1
  | .map entries => uptoBulkEntries entries + 1
  | .held _ => 1
def uptoBulkAll {H : Type} : List (DataW H) → Nat
  | [] => 0
  | d :: r => uptoBulk d + uptoBulkAll r
def uptoBulkEntries {H : Type} : List (Lit × DataW H) → Nat
  | [] => 0
  | x :: r => uptoBulkEntry x + uptoBulkEntries r
def uptoBulkEntry {H : Type} : Lit × DataW H → Nat
  | (.string bytes, d) => bytes.length + uptoBulk d + 1
  | (_, d) => uptoBulk d + 1
 end
def uptoSmall : (H : Type) → List (DataW H) → Bool := fun _ ds => decide (uptoBulkAll ds ≤ 1048576)
def OpenSpec.upto (s : _root_.Go.ChangeSpec) : _root_.Go.OpenSpec := { _root_.Go.OpenSpec.ofChange s with cond := some uptoSmall }

/-- 'laws.FnExactMutationOK', WHERE WHAT IT READS IS OF BULK AT MOST 1048576: true; the input reads as it did. -/
def fnExactMutationOKUptoRow : OpenClaim := { program := "ytbhjinhedbgmnaa", sum := "16eb70e5036933aa9201ba62aa783e696a1125bed82e106bfcd26823a60910f8", func := "loop.example/g00268/laws.FnExactMutationOK", spec := "fnExactMutationOK", apart := false, narrowed := true }
def FnExactMutationOKUptoSaid : Prop := fnExactMutationOKUptoRow.holds Try.pinned (OpenSpec.upto fnExactMutationOKSpec)

/-- 'laws.FnExactBoxOK', WHERE WHAT IT READS IS OF BULK AT MOST 1048576: true; the input reads as it did. -/
def fnExactBoxOKUptoRow : OpenClaim := { program := "ytbhjinhedbgmnaa", sum := "16eb70e5036933aa9201ba62aa783e696a1125bed82e106bfcd26823a60910f8", func := "loop.example/g00268/laws.FnExactBoxOK", spec := "fnExactBoxOK", apart := false, narrowed := true }
def FnExactBoxOKUptoSaid : Prop := fnExactBoxOKUptoRow.holds Try.pinned (OpenSpec.upto fnExactBoxOKSpec)

/-- 'laws.FnExactCountFlag', WHERE WHAT IT READS IS OF BULK AT MOST 1048576: true; the input reads as it did. -/
def fnExactCountFlagUptoRow : OpenClaim := { program := "ytbhjinhedbgmnaa", sum := "16eb70e5036933aa9201ba62aa783e696a1125bed82e106bfcd26823a60910f8", func := "loop.example/g00268/laws.FnExactCountFlag", spec := "fnExactCountFlag", apart := false, narrowed := true }
def FnExactCountFlagUptoSaid : Prop := fnExactCountFlagUptoRow.holds Try.pinned (OpenSpec.upto fnExactCountFlagSpec)

/-- 'laws.FnExactStoredAt', WHERE WHAT IT READS IS OF BULK AT MOST 1048576: true; the input reads as it did. -/
def fnExactStoredAtUptoRow : OpenClaim := { program := "ytbhjinhedbgmnaa", sum := "16eb70e5036933aa9201ba62aa783e696a1125bed82e106bfcd26823a60910f8", func := "loop.example/g00268/laws.FnExactStoredAt", spec := "fnExactStoredAt", unfollowed := true, recurses := true, apart := false, narrowed := true }
def FnExactStoredAtUptoSaid : Prop := fnExactStoredAtUptoRow.holds Try.pinned (OpenSpec.upto fnExactStoredAtSpec)

/-- 'laws.FnExactStoreOK', WHERE WHAT IT READS IS OF BULK AT MOST 1048576: true; the input reads as it did. -/
def fnExactStoreOKUptoRow : OpenClaim := { program := "ytbhjinhedbgmnaa", sum := "16eb70e5036933aa9201ba62aa783e696a1125bed82e106bfcd26823a60910f8", func := "loop.example/g00268/laws.FnExactStoreOK", spec := "fnExactStoreOK", unfollowed := true, recurses := true, apart := false, narrowed := true }
def FnExactStoreOKUptoSaid : Prop := fnExactStoreOKUptoRow.holds Try.pinned (OpenSpec.upto fnExactStoreOKSpec)

/-- 'laws.FnExactSameStore', WHERE WHAT IT READS IS OF BULK AT MOST 1048576: true; the input reads as it did. -/
def fnExactSameStoreUptoRow : OpenClaim := { program := "ytbhjinhedbgmnaa", sum := "16eb70e5036933aa9201ba62aa783e696a1125bed82e106bfcd26823a60910f8", func := "loop.example/g00268/laws.FnExactSameStore", spec := "fnExactSameStore", unfollowed := true, recurses := true, apart := false, narrowed := true }
def FnExactSameStoreUptoSaid : Prop := fnExactSameStoreUptoRow.holds Try.pinned (OpenSpec.upto fnExactSameStoreSpec)

end Rows
end Go.Proofs.Ytbhjinhedbgmnaa
