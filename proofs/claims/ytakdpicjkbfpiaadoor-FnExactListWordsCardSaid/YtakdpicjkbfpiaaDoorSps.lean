/-
  The contract of strings.SplitSeq: three boxes are laid.
-/
import Derived.Test.YtakdpicjkbfpiaaDoorRows
import Derived.WalkKit
import Derived.WalkLawsBesides
namespace Go.Proofs.YtakdpicjkbfpiaaDoor.ln
open Go.RowKit
set_option linter.unusedVariables false

/-- The iterator that SplitSeq hands back in this world. -/
def seqOf (w : World) : Value := .func (.func 47) #[] #[.pointer (some ⟨w.heap.size + 1, 0, none⟩), .pointer (some ⟨w.heap.size, 0, none⟩), .pointer (some ⟨w.heap.size + 1 + 1, 0, none⟩)]
def seqW (s p : ByteArray) (w : World) : World := ((w.alloc (.cells #[.string s] 9)).alloc (.cells #[.string p] 9)).alloc (.cells #[.int .i64 0] 3)

set_option maxHeartbeats 2000000 in
theorem splitSeq_any (s p : ByteArray) (w : World) :
    Calls Tryd.prog 35 #[.string s, .string p, .int .i64 0] w fun e w' => e = .returned (seqOf w) ∧ w' = seqW s p w := by
  go_enter Tryd.func35, Tryd.ntmps35
  go_wp2
  go_ret
  exact ⟨rfl, rfl⟩
set_option maxHeartbeats 2000000 in
theorem SplitSeq_any (s p : ByteArray) (w : World) :
    Calls Tryd.prog 22 #[.string s, .string p] w fun e w' => e = .returned (seqOf w) ∧ w' = seqW s p w := by
  go_enter Tryd.func22, Tryd.ntmps22
  go_wp2_with (refine (splitSeq_any s p _).mono ?_; rintro e w' ⟨rfl, rfl⟩)
  go_ret
  exact ⟨rfl, rfl⟩
end Go.Proofs.YtakdpicjkbfpiaaDoor.ln
