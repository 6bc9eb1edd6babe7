/-
  Contracts of the functions that tell how many days a month has, and whether a calendar is right.
-/
import Derived.Test.YtadfdfmebdcfgaaGreatDoorDwa
import Derived.Test.YtadfdfmebdcfgaaGreatDoorDat
import Derived.Below
namespace Go.Proofs.YtadfdfmebdcfgaaGreatDoor.dw
open Go.RowKit
open dt
set_option linter.unusedVariables false

set_option maxHeartbeats 1000000 in
theorem impl_dm (y m : Int) (h1 : 1970 ≤ y) (h2 : y ≤ 2099) (w : World) : Calls Tryz.prog 143 #[.int .i64 y, .int .i64 m] w fun e w' => e = .returned (.int .i64 (dm y m)) ∧ w' = w := by
  by_cases c2 : m = 2
  · subst c2
    rw [dm_two]
    by_cases c : y % 4 = 0
    · have d1 : (y % 4 == 0) = true := beq_iff_eq.2 c
      rw [lp_yes c]
      go_enter Tryz.func143, Tryz.ntmps143
      go_wp2
      go_ret
      exact ⟨rfl, rfl⟩
    · have d1 : (y % 4 == 0) = false := beq_eq_false_iff_ne.2 c
      rw [lp_no c]
      go_enter Tryz.func143, Tryz.ntmps143
      go_wp2
      go_ret
      exact ⟨rfl, rfl⟩
  have d2 : (m == 2) = false := beq_eq_false_iff_ne.2 c2
  by_cases c4 : m = 4
  · have d4 : (m == 4) = true := beq_iff_eq.2 c4
    rw [dm_30 (.inl c4)]
    clear c4
    go_enter Tryz.func143, Tryz.ntmps143
    go_wp2
    go_ret
    exact ⟨rfl, rfl⟩
  have d4 : (m == 4) = false := beq_eq_false_iff_ne.2 c4
  by_cases c6 : m = 6
  · have d6 : (m == 6) = true := beq_iff_eq.2 c6
    rw [dm_30 (.inr (.inl c6))]
    clear c6
    go_enter Tryz.func143, Tryz.ntmps143
    go_wp2
    go_ret
    exact ⟨rfl, rfl⟩
  have d6 : (m == 6) = false := beq_eq_false_iff_ne.2 c6
  by_cases c9 : m = 9
  · have d9 : (m == 9) = true := beq_iff_eq.2 c9
    rw [dm_30 (.inr (.inr (.inl c9)))]
    clear c9
    go_enter Tryz.func143, Tryz.ntmps143
    go_wp2
    go_ret
    exact ⟨rfl, rfl⟩
  have d9 : (m == 9) = false := beq_eq_false_iff_ne.2 c9
  by_cases c11 : m = 11
  · have d11 : (m == 11) = true := beq_iff_eq.2 c11
    rw [dm_30 (.inr (.inr (.inr c11)))]
    clear c11
    go_enter Tryz.func143, Tryz.ntmps143
    go_wp2
    go_ret
    exact ⟨rfl, rfl⟩
  have d11 : (m == 11) = false := beq_eq_false_iff_ne.2 c11
  rw [dm_31 c2 (by omega)]
  go_enter Tryz.func143, Tryz.ntmps143
  go_wp2
  go_ret
  exact ⟨rfl, rfl⟩

/-- Whether a year from 1970 to 2099 has a leap day. -/
def lpB (y : Int) : Bool := y % 4 == 0
theorem lp_bit (y : Int) : lp y = if lpB y then 1 else 0 := by unfold lp lpB; by_cases h : y % 4 = 0 <;> simp [h]
set_option maxHeartbeats 1000000 in
theorem leap_any (y : Int) (h1 : 1970 ≤ y) (h2 : y ≤ 2099) (w : World) : Calls Tryz.prog 138 #[.int .i64 y] w fun e w' => e = .returned (.bool (lpB y)) ∧ w' = w := by
  by_cases c : y % 4 = 0
  · have d1 : (y % 4 == 0) = true := beq_iff_eq.2 c
    by_cases c2 : y % 100 = 0
    · have d2 : (y % 100 == 0) = true := beq_iff_eq.2 c2
      have d3 : (y % 400 == 0) = true := beq_iff_eq.2 (by omega)
      have e : lpB y = true := d1
      rw [e]
      clear e
      go_enter Tryz.func138, Tryz.ntmps138
      go_wp2
      go_ret
      exact ⟨rfl, rfl⟩
    · have d2 : (y % 100 == 0) = false := beq_eq_false_iff_ne.2 c2
      have e : lpB y = true := d1
      rw [e]
      clear e
      go_enter Tryz.func138, Tryz.ntmps138
      go_wp2
      go_ret
      exact ⟨rfl, rfl⟩
  · have d1 : (y % 4 == 0) = false := beq_eq_false_iff_ne.2 c
    have e : lpB y = false := d1
    rw [e]
    clear e
    go_enter Tryz.func138, Tryz.ntmps138
    go_wp2
    go_ret
    exact ⟨rfl, rfl⟩
set_option maxHeartbeats 400000 in
theorem bit_any (b : Bool) (w : World) : Calls Tryz.prog 29 #[.bool b] w fun e w' => e = .returned (.int .i64 (if b then 1 else 0)) ∧ w' = w := by
  cases b
  all_goals
    go_enter Tryz.func29, Tryz.ntmps29
    go_wp2
    go_ret
    exact ⟨rfl, rfl⟩
set_option maxHeartbeats 1000000 in
theorem spec_dm (y m : Int) (h1 : 1970 ≤ y) (h2 : y ≤ 2099) (w : World) : Calls Tryz.prog 137 #[.int .i64 y, .int .i64 m] w fun e w' => e = .returned (.int .i64 (dm y m)) ∧ w' = w := by
  by_cases c2 : m = 2
  · subst c2
    rw [dm_two, lp_bit]
    have u : (0 : Int) ≤ (if lpB y then 1 else 0) ∧ (if lpB y then 1 else 0) ≤ (1 : Int) := by split <;> omega
    generalize hz : (if lpB y then (1 : Int) else 0) = z at u ⊢
    obtain ⟨u1, u2⟩ := u
    go_enter Tryz.func137, Tryz.ntmps137
    go_wp2_with fail
    refine (leap_any y h1 h2 _).mono ?_
    rintro e w' ⟨rfl, rfl⟩
    go_wp2_with fail
    refine (bit_any _ _).mono ?_
    rintro e w' ⟨rfl, rfl⟩
    rw [hz]
    go_wp2
    go_ret
    exact ⟨rfl, rfl⟩
  have d2 : (m == 2) = false := beq_eq_false_iff_ne.2 c2
  by_cases c : m = 4 ∨ m = 6 ∨ m = 9 ∨ m = 11
  · rw [dm_30 c]
    clear c2
    rcases c with rfl | rfl | rfl | rfl
    all_goals
      clear d2
      go_enter Tryz.func137, Tryz.ntmps137
      go_wp2
      go_ret
      exact ⟨rfl, rfl⟩
  · have d4 : (m == 4) = false := beq_eq_false_iff_ne.2 (by omega)
    have d6 : (m == 6) = false := beq_eq_false_iff_ne.2 (by omega)
    have d9 : (m == 9) = false := beq_eq_false_iff_ne.2 (by omega)
    have d11 : (m == 11) = false := beq_eq_false_iff_ne.2 (by omega)
    rw [dm_31 c2 c]
    clear c c2
    go_enter Tryz.func137, Tryz.ntmps137
    go_wp2
    go_ret
    exact ⟨rfl, rfl⟩
end Go.Proofs.YtadfdfmebdcfgaaGreatDoor.dw
