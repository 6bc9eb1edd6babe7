/-
  No cell of these rows narrows 'for every input' (looked for: loops, veiled, ifaces, maps, wideKeys, modest, calm, conditions, laid).
  DERIVED. THE GIVEN ROWS OF THIS SEAT. 4 by the template 'for every input the law returns true; each argument reads behind the call as it read before'; 0 by the template 'total and deterministic' (their statements: YtabhnbcledicgaaTotals.lean).
  GIVEN WITH THE SEED: the statements are not yours to turn. If you find one false, say at which input.
  Laid BY PROGRAM, IN A SANDBOX (cutbox-rows.mjs): the forced cells as the released guide's own fill.sh prints them over the translation 8a5751df776eb218… (all of the seat's roots in one cut). By AI agents, Wed Nov 11 2026. No macro, syntax, notation, axiom, sorry.
-/
import Derived.Test.YtabhnbcledicgaaChecked
import GoSem.Claim
import GoSem.ClaimJoined
import GoSem.ClaimMapViews
import Derived.JoinedTies
import Derived.KernelRfl
namespace Go.Proofs.Ytabhnbcledicgaa
/- THE CELL 'sum', in the pinned program and in every row, IS THE sha256 OF THE DUMP (.gsa) THAT YtabhnbcledicgaaProg.lean LOADS. Nothing in Lean hashes anything: it is a label: what it is worth is what the hold of that sum in a sandbox is worth. -/
noncomputable def Try.pinned : Pinned := { name := "ytabhnbcledicgaa", sum := "8a5751df776eb2184b7bad75a734c011da56ededbd634892035246b02dfd0756", checked := Try.checked }
namespace Rows
def none {H : Type} : Left H := { results := [], args := [] }

/-- 'laws.FnExactEntryOK': WHATEVER THE INPUT: true; the input reads as it did. -/
def fnExactEntryOKSpec : ChangeSpec := { name := "fnExactEntryOK", fn := fun _ => fun
  | [d] => { results := [.lit (.bool true)], args := [d] }
  | _ => none }
def fnExactEntryOKRow : OpenClaim := { program := "ytabhnbcledicgaa", sum := "8a5751df776eb2184b7bad75a734c011da56ededbd634892035246b02dfd0756", func := "loop.example/g00268/laws.FnExactEntryOK", spec := "fnExactEntryOK", inPlace := ["internal/abi.NoEscape"], apart := false }
def FnExactEntryOKSaid : Prop := fnExactEntryOKRow.holds Try.pinned (OpenSpec.ofChange fnExactEntryOKSpec)

/-- ITS FALSE NEIGHBOUR: 'it returns false'. Refute it at one input. -/
def fnExactEntryOKWrong : ChangeSpec := { name := "fnExactEntryOK", fn := fun _ => fun
  | [d] => { results := [.lit (.bool false)], args := [d] }
  | _ => none }
def FnExactEntryOKWrongFalsely : Prop := fnExactEntryOKRow.holds Try.pinned (OpenSpec.ofChange fnExactEntryOKWrong)

/-- 'laws.FnExactFeedOK': WHATEVER THE INPUT: true; the input reads as it did. -/
def fnExactFeedOKSpec : ChangeSpec := { name := "fnExactFeedOK", fn := fun _ => fun
  | [d] => { results := [.lit (.bool true)], args := [d] }
  | _ => none }
def fnExactFeedOKRow : OpenClaim := { program := "ytabhnbcledicgaa", sum := "8a5751df776eb2184b7bad75a734c011da56ededbd634892035246b02dfd0756", func := "loop.example/g00268/laws.FnExactFeedOK", spec := "fnExactFeedOK", inPlace := ["internal/abi.NoEscape"], apart := false }
def FnExactFeedOKSaid : Prop := fnExactFeedOKRow.holds Try.pinned (OpenSpec.ofChange fnExactFeedOKSpec)

/-- ITS FALSE NEIGHBOUR: 'it returns false'. Refute it at one input. -/
def fnExactFeedOKWrong : ChangeSpec := { name := "fnExactFeedOK", fn := fun _ => fun
  | [d] => { results := [.lit (.bool false)], args := [d] }
  | _ => none }
def FnExactFeedOKWrongFalsely : Prop := fnExactFeedOKRow.holds Try.pinned (OpenSpec.ofChange fnExactFeedOKWrong)

/-- 'laws.FnExactFeedKeys': WHATEVER THE INPUT: true; the input reads as it did. -/
def fnExactFeedKeysSpec : ChangeSpec := { name := "fnExactFeedKeys", fn := fun _ => fun
  | [d] => { results := [.lit (.bool true)], args := [d] }
  | _ => none }
def fnExactFeedKeysRow : OpenClaim := { program := "ytabhnbcledicgaa", sum := "8a5751df776eb2184b7bad75a734c011da56ededbd634892035246b02dfd0756", func := "loop.example/g00268/laws.FnExactFeedKeys", spec := "fnExactFeedKeys", inPlace := ["internal/abi.NoEscape"], apart := false }
def FnExactFeedKeysSaid : Prop := fnExactFeedKeysRow.holds Try.pinned (OpenSpec.ofChange fnExactFeedKeysSpec)

/-- ITS FALSE NEIGHBOUR: 'it returns false'. Refute it at one input. -/
def fnExactFeedKeysWrong : ChangeSpec := { name := "fnExactFeedKeys", fn := fun _ => fun
  | [d] => { results := [.lit (.bool false)], args := [d] }
  | _ => none }
def FnExactFeedKeysWrongFalsely : Prop := fnExactFeedKeysRow.holds Try.pinned (OpenSpec.ofChange fnExactFeedKeysWrong)

/-- 'laws.FnExactSetHas': WHATEVER THE INPUT: true; the input reads as it did. -/
def fnExactSetHasSpec : ChangeSpec := { name := "fnExactSetHas", fn := fun _ => fun
  | [d1, d2, d3] => { results := [.lit (.bool true)], args := [d1, d2, d3] }
  | _ => none }
def fnExactSetHasRow : OpenClaim := { program := "ytabhnbcledicgaa", sum := "8a5751df776eb2184b7bad75a734c011da56ededbd634892035246b02dfd0756", func := "loop.example/g00268/laws.FnExactSetHas", spec := "fnExactSetHas", unfollowed := true, recurses := true, apart := false }
def FnExactSetHasSaid : Prop := fnExactSetHasRow.holds Try.pinned (OpenSpec.ofChange fnExactSetHasSpec)

/-- ITS FALSE NEIGHBOUR: 'it returns false'. Refute it at one input. -/
def fnExactSetHasWrong : ChangeSpec := { name := "fnExactSetHas", fn := fun _ => fun
  | [d1, d2, d3] => { results := [.lit (.bool false)], args := [d1, d2, d3] }
  | _ => none }
def FnExactSetHasWrongFalsely : Prop := fnExactSetHasRow.holds Try.pinned (OpenSpec.ofChange fnExactSetHasWrong)

/- THE SECOND FORM. 'bulk': how many values and letters a reading holds, each counted each time it is reached (what is shared counts as often as it is met; a slice's spare places count too). A statement '..UptoSaid' is the law's where the arguments, and the package variables that the reading takes, are together of bulk at most 1048576: NARROWER than '..Said'. Prove '..Said' where nothing that the law and all that it calls make is longer than what came in: it says more and counts as full. Else prove '..UptoSaid'. A law counts once. -/
mutual
def uptoBulk {H : Type} : DataW H → Nat
  | .lit (.string bytes) => bytes.length + 1
  | .lit _ => 1
  | .nil => 1
  | .ptr d => uptoBulk d + 1
  | .slice elems spare => uptoBulkAll elems + uptoBulkAll spare + 1
  | .agg parts => uptoBulkAll parts + 1
  | .iface _ d => uptoBulk d + 1
  | .map entries => uptoBulkEntries entries + 1
  | .held _ => 1
def uptoBulkAll {H : Type} : List (DataW H) → Nat
  | [] => 0
  | d :: r => uptoBulk d + uptoBulkAll r
def uptoBulkEntries {H : Type} : List (Lit × DataW H) → Nat
  | [] => 0
  | x :: r => uptoBulkEntry x + uptoBulkEntries r
def uptoBulkEntry {H : Type} : Lit × DataW H → Nat
  | (.string bytes, d) => bytes.length + uptoBulk d + 1
  | (_, d) => uptoBulk d + 1
 end
def uptoSmall : (H : Type) → List (DataW H) → Bool := fun _ ds => decide (uptoBulkAll ds ≤ 1048576)
def OpenSpec.upto (s : _root_.Go.ChangeSpec) : _root_.Go.OpenSpec := { _root_.Go.OpenSpec.ofChange s with cond := some uptoSmall }

/-- 'laws.FnExactEntryOK', WHERE WHAT IT READS IS OF BULK AT MOST 1048576: true; the input reads as it did. -/
def fnExactEntryOKUptoRow : OpenClaim := { program := "ytabhnbcledicgaa", sum := "8a5751df776eb2184b7bad75a734c011da56ededbd634892035246b02dfd0756", func := "loop.example/g00268/laws.FnExactEntryOK", spec := "fnExactEntryOK", inPlace := ["internal/abi.NoEscape"], apart := false, narrowed := true }
def FnExactEntryOKUptoSaid : Prop := fnExactEntryOKUptoRow.holds Try.pinned (OpenSpec.upto fnExactEntryOKSpec)

/-- 'laws.FnExactFeedOK', WHERE WHAT IT READS IS OF BULK AT MOST 1048576: true; the input reads as it did. -/
def fnExactFeedOKUptoRow : OpenClaim := { program := "ytabhnbcledicgaa", sum := "8a5751df776eb2184b7bad75a734c011da56ededbd634892035246b02dfd0756", func := "loop.example/g00268/laws.FnExactFeedOK", spec := "fnExactFeedOK", inPlace := ["internal/abi.NoEscape"], apart := false, narrowed := true }
def FnExactFeedOKUptoSaid : Prop := fnExactFeedOKUptoRow.holds Try.pinned (OpenSpec.upto fnExactFeedOKSpec)

/-- 'laws.FnExactFeedKeys', WHERE WHAT IT READS IS OF BULK AT MOST 1048576: true; the input reads as it did. -/
def fnExactFeedKeysUptoRow : OpenClaim := { program := "ytabhnbcledicgaa", sum := "8a5751df776eb2184b7bad75a734c011da56ededbd634892035246b02dfd0756", func := "loop.example/g00268/laws.FnExactFeedKeys", spec := "fnExactFeedKeys", inPlace := ["internal/abi.NoEscape"], apart := false, narrowed := true }
def FnExactFeedKeysUptoSaid : Prop := fnExactFeedKeysUptoRow.holds Try.pinned (OpenSpec.upto fnExactFeedKeysSpec)

/-- 'laws.FnExactSetHas', WHERE WHAT IT READS IS OF BULK AT MOST 1048576: true; the input reads as it did. -/
def fnExactSetHasUptoRow : OpenClaim := { program := "ytabhnbcledicgaa", sum := "8a5751df776eb2184b7bad75a734c011da56ededbd634892035246b02dfd0756", func := "loop.example/g00268/laws.FnExactSetHas", spec := "fnExactSetHas", unfollowed := true, recurses := true, apart := false, narrowed := true }
def FnExactSetHasUptoSaid : Prop := fnExactSetHasUptoRow.holds Try.pinned (OpenSpec.upto fnExactSetHasSpec)

end Rows
end Go.Proofs.Ytabhnbcledicgaa
