/-
  Contracts of small functions of dates: whether a number is a stamp, and a stamp's day of the week.
-/
import Derived.Test.YtadfdfmebdcfgaaGreatDoorRows
import Derived.WalkKit
import Derived.WalkLawsBesides
namespace Go.Proofs.YtadfdfmebdcfgaaGreatDoor.dw
open Go.RowKit
set_option linter.unusedVariables false

def inB (n a b : Int) : Bool := decide (a ≤ n ∧ n ≤ b)
theorem in_yes {n a b : Int} (h : a ≤ n) (h' : n ≤ b) : inB n a b = true := decide_eq_true ⟨h, h'⟩
theorem in_no {n a b : Int} (h : n < a ∨ b < n) : inB n a b = false := decide_eq_false (by omega)
theorem in_no_iff {n a b : Int} : inB n a b = false ↔ (n < a ∨ b < n) := by simp [inB]; omega
set_option maxHeartbeats 400000 in
theorem in_any (n a b : Int) (w : World) : Calls Tryz.prog 55 #[.int .i64 n, .int .i64 a, .int .i64 b] w fun e w' => e = .returned (.bool (inB n a b)) ∧ w' = w := by
  by_cases h : a ≤ n
  · go_enter Tryz.func55, Tryz.ntmps55
    go_wp2
    all_goals (go_ret; exact ⟨by simp [inB, h], rfl⟩)
  · have h' : decide (a ≤ n) = false := decide_eq_false h
    go_enter Tryz.func55, Tryz.ntmps55
    go_wp2
    all_goals (go_ret; exact ⟨by rw [show inB n a b = false from decide_eq_false (by omega)]; rfl, rfl⟩)

set_option maxHeartbeats 400000 in
theorem stamp_any (n : Int) (w : World) : Calls Tryz.prog 35 #[.int .i64 n] w fun e w' => e = .returned (.bool (inB n 0 4102444799)) ∧ w' = w := by
  by_cases h : 0 ≤ n
  · go_enter Tryz.func35, Tryz.ntmps35
    go_wp2
    all_goals (go_ret; exact ⟨by simp [inB, h], rfl⟩)
  · have h' : decide (0 ≤ n) = false := decide_eq_false h
    go_enter Tryz.func35, Tryz.ntmps35
    go_wp2
    all_goals (go_ret; exact ⟨by rw [show inB n 0 4102444799 = false from decide_eq_false (by omega)]; rfl, rfl⟩)

/-- A stamp's day of the week and a code. -/
def wd (n : Int) : Value := if inB n 0 4102444799 then .tuple #[.int .i64 ((n / 86400 + 4) % 7), .int .i64 0] else .tuple #[.int .i64 0, .int .i64 4]
theorem wd_in {n : Int} (h : inB n 0 4102444799 = true) : wd n = .tuple #[.int .i64 ((n / 86400 + 4) % 7), .int .i64 0] := by simp [wd, h]
theorem wd_out {n : Int} (h : inB n 0 4102444799 = false) : wd n = .tuple #[.int .i64 0, .int .i64 4] := by simp [wd, h]
theorem wd_form (n : Int) : ∃ x c : Int, wd n = .tuple #[.int .i64 x, .int .i64 c] := by
  cases h : inB n 0 4102444799
  · exact ⟨_, _, wd_out h⟩
  · exact ⟨_, _, wd_in h⟩
theorem in_iff {n a b : Int} : inB n a b = true ↔ (a ≤ n ∧ n ≤ b) := by simp [inB]

set_option maxHeartbeats 400000 in
theorem impl_wd (n : Int) (w : World) : Calls Tryz.prog 91 #[.int .i64 n] w fun e w' => e = .returned (wd n) ∧ w' = w := by
  cases h : inB n 0 4102444799
  · rw [wd_out h]
    go_enter Tryz.func91, Tryz.ntmps91
    go_wp2_with (go_at_call 35; refine (stamp_any _ _).mono ?_; rintro e w' ⟨rfl, rfl⟩)
    go_ret2
    exact ⟨rfl, rfl⟩
  · rw [wd_in h]
    obtain ⟨h1, h2⟩ := in_iff.1 h
    go_enter Tryz.func91, Tryz.ntmps91
    go_wp2_with (go_at_call 35; refine (stamp_any _ _).mono ?_; rintro e w' ⟨rfl, rfl⟩)
    go_ret2
    refine ⟨?_, rfl⟩
    go_num

end Go.Proofs.YtadfdfmebdcfgaaGreatDoor.dw
