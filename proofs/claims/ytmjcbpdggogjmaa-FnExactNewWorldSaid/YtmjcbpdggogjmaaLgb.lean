/-
  Both NewLog functions.
-/
import Derived.Test.YtmjcbpdggogjmaaLga
namespace Go.Proofs.Ytmjcbpdggogjmaa.lg
open Go.ChangeShapes Go.WideShapes Go.ChangeAt Go.RowKit Go.Deep Go.Joins
set_option linter.unusedVariables false

/-- A log and a code, as an answer. -/
def RV (r : Int) (d : ByteArray) (s c : Int) : Value := .tuple #[LV r d s, .int .i64 c]
def newLog (room : Int) : Value := if 0 ≤ room ∧ room ≤ 60000 then RV room ⟨#[]⟩ 0 0 else RV 0 ⟨#[]⟩ 0 4
theorem newLog_form (room : Int) : ∃ (r : Int) (d : ByteArray) (s c : Int), newLog room = RV r d s c := by
  unfold newLog
  split
  · exact ⟨_, _, _, _, rfl⟩
  · exact ⟨_, _, _, _, rfl⟩

set_option maxHeartbeats 1000000 in
set_option maxRecDepth 100000 in
theorem impl_new (room : Int) (w : World) : Calls Try.prog 19 #[.int .i64 room] w fun e w' => e = .returned (newLog room) ∧ Below w.heap.size w w' := by
  have hk : newLog room = if 0 ≤ room ∧ room ≤ 60000 then RV room ⟨#[]⟩ 0 0 else RV 0 ⟨#[]⟩ 0 4 := rfl
  by_cases h0 : 0 ≤ room
  · by_cases h1 : room ≤ 60000
    · rw [hk, if_pos ⟨h0, h1⟩]
      clear hk
      go_enter Try.func19, Try.ntmps19
      go_wp2
      refine bodyPost_ret (v := RV room ⟨#[]⟩ 0 0) (by simp [results, Try.results19, go_sem, RV, LV]) rfl ⟨rfl, ?_⟩
      exact new_below w _ _
    · rw [hk, if_neg (by omega)]
      clear hk
      go_enter Try.func19, Try.ntmps19
      go_wp2
      refine bodyPost_ret (v := RV 0 ⟨#[]⟩ 0 4) (by simp [results, Try.results19, go_sem, RV, LV]) rfl ⟨rfl, ?_⟩
      exact new_below w _ _
  · rw [hk, if_neg (by omega)]
    clear hk
    go_enter Try.func19, Try.ntmps19
    go_wp2
    refine bodyPost_ret (v := RV 0 ⟨#[]⟩ 0 4) (by simp [results, Try.results19, go_sem, RV, LV]) rfl ⟨rfl, ?_⟩
    exact new_below w _ _

end Go.Proofs.Ytmjcbpdggogjmaa.lg
