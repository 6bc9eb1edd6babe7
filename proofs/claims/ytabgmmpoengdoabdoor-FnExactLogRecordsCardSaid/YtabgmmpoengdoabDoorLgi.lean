/-
  Both LogAppend functions.
-/
import Derived.Test.YtabgmmpoengdoabDoorLgh
import Derived.Test.YtabgmmpoengdoabDoorLgp
import Derived.Deep.RegionWith
namespace Go.Proofs.YtabgmmpoengdoabDoor.lg
open Go.ChangeShapes Go.WideShapes Go.ChangeAt Go.RowKit Go.Deep Go.Joins
set_option linter.unusedVariables false

/-- What is answered to a record that is not too long, at a log that is right. -/
def app1 (r : Int) (d : ByteArray) (s : Int) (x : ByteArray) : Value := if r < (d.size : Int) + 7 + x.size then RV r d s 7 else RV r (d ++ fr x) s 0
/-- What LogAppend answers. -/
def app (r : Int) (d : ByteArray) (s : Int) (x : ByteArray) : Value :=
  if 65536 < x.size then RV 0 ⟨#[]⟩ 0 2 else if ok r d.size s = false then RV 0 ⟨#[]⟩ 0 1 else if 1 ≤ x.size ∧ x.size ≤ 20000 then app1 r d s x else RV r d s 4
theorem app_form (r : Int) (d : ByteArray) (s : Int) (x : ByteArray) : ∃ (r' : Int) (d' : ByteArray) (s' c : Int), app r d s x = RV r' d' s' c := by
  unfold app
  split
  · exact ⟨_, _, _, _, rfl⟩
  · split
    · exact ⟨_, _, _, _, rfl⟩
    · split
      · unfold app1
        split
        · exact ⟨_, _, _, _, rfl⟩
        · exact ⟨_, _, _, _, rfl⟩
      · exact ⟨_, _, _, _, rfl⟩

theorem isLen_any (n : Int) (w : World) : Calls Tryd.prog 36 #[.int .i64 n] w fun e w' => e = .returned (.bool (decide (1 ≤ n ∧ n ≤ 20000))) ∧ w' = w := by
  by_cases h0 : 1 ≤ n
  · by_cases h1 : n ≤ 20000
    · rw [decide_eq_true ⟨h0, h1⟩]
      go_enter Tryd.func36, Tryd.ntmps36
      go_wp2
      go_ret
      exact ⟨rfl, rfl⟩
    · rw [decide_eq_false (by omega)]
      go_enter Tryd.func36, Tryd.ntmps36
      go_wp2
      go_ret
      exact ⟨rfl, rfl⟩
  · rw [decide_eq_false (by omega)]
    go_enter Tryd.func36, Tryd.ntmps36
    go_wp2
    go_ret
    exact ⟨rfl, rfl⟩



end Go.Proofs.YtabgmmpoengdoabDoor.lg
