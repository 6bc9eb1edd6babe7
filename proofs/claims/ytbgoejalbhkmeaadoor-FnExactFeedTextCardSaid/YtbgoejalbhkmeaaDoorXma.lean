/-
  Contracts of the functions on runes and names of XML: whether a number is a rune of XML, whether a byte begins a name or goes on in one, whether a text is a name; of the program and of the specification.
-/
import Derived.Test.YtbgoejalbhkmeaaDoorSzw
import Derived.Test.YtbgoejalbhkmeaaDoorRows
import Derived.WalkKit
import Derived.WalkLawsBesides
namespace Go.Proofs.YtbgoejalbhkmeaaDoor.xm
open Go.RowKit
set_option linter.unusedVariables false

/-- A rune of XML. -/
def xr (n : Int) : Bool := decide (n = 9 ∨ n = 10 ∨ n = 13 ∨ (32 ≤ n ∧ n ≠ 65534 ∧ n ≠ 65535 ∧ (n ≤ 55295 ∨ (57344 ≤ n ∧ n ≤ 1114111))))
def letB (c : Int) : Bool := decide (97 ≤ c ∧ c ≤ 122 ∨ 65 ≤ c ∧ c ≤ 90 ∨ c = 95)
def digB (c : Int) : Bool := decide (48 ≤ c ∧ c ≤ 57)
def morB (c : Int) : Bool := decide (48 ≤ c ∧ c ≤ 57 ∨ c = 45 ∨ c = 46 ∨ c = 58)
def gonB (c : Int) : Bool := letB c || morB c

theorem ret_bool {a b : Bool} (h : a = b) : Ending.returned (.bool a) = .returned (.bool b) := by rw [h]
theorem rsz_pos {n : Int} (h : 0 < ut.rsz n) : 0 ≤ n ∧ n ≤ 1114111 ∧ (n < 55296 ∨ 57343 < n) := by
  by_cases g : n < 0 ∨ 1114111 < n ∨ (55296 ≤ n ∧ n ≤ 57343)
  · rw [ut.rsz_no g] at h; omega
  · omega
theorem rsz_zero {n : Int} (h : ¬ 0 < ut.rsz n) : n < 0 ∨ 1114111 < n ∨ (55296 ≤ n ∧ n ≤ 57343) := by
  by_cases g : n < 0 ∨ 1114111 < n ∨ (55296 ≤ n ∧ n ≤ 57343)
  · exact g
  · exfalso; apply h; rw [ut.rsz_yes (by omega) (by omega) (by omega)]; (repeat' split) <;> omega

set_option maxHeartbeats 1000000 in
theorem impl_xr (n : Int) (w : World) : Calls Tryd.prog 70 #[.int .i64 n] w fun e w' => e = .returned (.bool (xr n)) ∧ w' = w := by
  by_cases h : n < 32
  · go_enter Tryd.func70, Tryd.ntmps70
    go_wp2
    all_goals (go_ret; exact ⟨ret_bool (by rw [Bool.eq_iff_iff]; simp [xr]; omega), rfl⟩)
  · go_enter Tryd.func70, Tryd.ntmps70
    go_wp2_with fail
    refine (ut.implSize_any n _).mono ?_
    rintro e w' ⟨rfl, rfl⟩
    by_cases hz : 0 < ut.rsz n
    · have hp := rsz_pos hz
      go_wp2
      all_goals (go_ret; exact ⟨ret_bool (by rw [Bool.eq_iff_iff]; simp [xr]; omega), rfl⟩)
    · have hp := rsz_zero hz
      have hz' : decide (0 < ut.rsz n) = false := decide_eq_false hz
      go_wp2
      all_goals (go_ret; exact ⟨ret_bool (by rw [Bool.eq_iff_iff]; simp [xr]; omega), rfl⟩)

set_option maxHeartbeats 1000000 in
theorem spec_xr (n : Int) (w : World) : Calls Tryd.prog 50 #[.int .i64 n] w fun e w' => e = .returned (.bool (xr n)) ∧ w' = w := by
  by_cases h9 : n = 9
  · subst h9
    go_enter Tryd.func50, Tryd.ntmps50
    go_wp2
    all_goals (go_ret; exact ⟨rfl, rfl⟩)
  by_cases h10 : n = 10
  · subst h10
    go_enter Tryd.func50, Tryd.ntmps50
    go_wp2
    all_goals (go_ret; exact ⟨rfl, rfl⟩)
  by_cases h13 : n = 13
  · subst h13
    go_enter Tryd.func50, Tryd.ntmps50
    go_wp2
    all_goals (go_ret; exact ⟨rfl, rfl⟩)
  have b9 : (n == 9) = false := beq_eq_false_iff_ne.2 h9
  have b10 : (n == 10) = false := beq_eq_false_iff_ne.2 h10
  have b13 : (n == 13) = false := beq_eq_false_iff_ne.2 h13
  by_cases h : n < 32
  · have hd : decide (32 ≤ n) = false := decide_eq_false (by omega)
    go_enter Tryd.func50, Tryd.ntmps50
    go_wp2
    all_goals (go_ret; exact ⟨ret_bool (by symm; simp [xr]; omega), rfl⟩)
  · have hd : decide (32 ≤ n) = true := decide_eq_true (by omega)
    go_enter Tryd.func50, Tryd.ntmps50
    go_wp2_with fail
    refine (ut.scalar_any n _).mono ?_
    rintro e w' ⟨rfl, rfl⟩
    cases hz : ut.scB n
    · have hp : ¬ (n ≤ 55295 ∨ (57344 ≤ n ∧ n ≤ 1114111)) := by simp [ut.scB, ut.inB] at hz; omega
      go_wp2
      all_goals (go_ret; exact ⟨ret_bool (by symm; simp [xr]; omega), rfl⟩)
    · have hp : (n ≤ 55295 ∨ (57344 ≤ n ∧ n ≤ 1114111)) := by simp [ut.scB, ut.inB] at hz; omega
      go_wp2
      all_goals (go_ret; exact ⟨ret_bool (by rw [Bool.eq_iff_iff]; simp [xr]; omega), rfl⟩)
end Go.Proofs.YtbgoejalbhkmeaaDoor.xm
