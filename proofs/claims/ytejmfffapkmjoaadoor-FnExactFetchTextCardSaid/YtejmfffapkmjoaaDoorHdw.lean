/-
  Contracts of both HeaderNameOK functions: whether a text is a field's name.
-/
import Derived.Test.YtejmfffapkmjoaaDoorRows
import Derived.WalkKit
import Derived.WalkLawsBesides
namespace Go.Proofs.YtejmfffapkmjoaaDoor.hn
open Go.RowKit
set_option linter.unusedVariables false

def Says (p : Prop) (e : Ending) : Prop := ∃ b : Bool, e = .returned (.bool b) ∧ (b = true ↔ p)
theorem says_no {p : Prop} (h : ¬ p) : Says p (.returned (.bool false)) := ⟨false, rfl, fun x => (by cases x), fun x => absurd x h⟩
theorem says_yes {p : Prop} (h : p) : Says p (.returned (.bool true)) := ⟨true, rfl, fun _ => h, fun _ => rfl⟩
theorem says_ex {p : Prop} {e : Ending} (h : Says p e) : ∃ b : Bool, e = .returned (.bool b) := ⟨h.choose, h.choose_spec.1⟩
theorem says_same {p : Prop} {a b : Bool} (h1 : Says p (.returned (.bool a))) (h2 : Says p (.returned (.bool b))) : a = b := by
  obtain ⟨x, hx, h1⟩ := h1
  obtain ⟨y, hy, h2⟩ := h2
  cases hx; cases hy
  exact Bool.eq_iff_iff.2 (h1.trans h2.symm)
theorem says_iff {p : Prop} {b : Bool} (h : Says p (.returned (.bool b))) : b = true ↔ p := by
  obtain ⟨x, hx, h⟩ := h
  cases hx
  exact h

/-- The byte at a place may stand in a field's name. -/
def good (s : ByteArray) (j : Nat) : Prop := ∃ h : j < s.size, 33 ≤ ((s[j]'h).toNat : Int) ∧ ((s[j]'h).toNat : Int) ≤ 126 ∧ ((s[j]'h).toNat : Int) ≠ 58
/-- A text is a field's name. -/
def IsName (s : ByteArray) : Prop := 1 ≤ s.size ∧ s.size ≤ 40 ∧ ∀ j, j < s.size → good s j
theorem not_name {s : ByteArray} {k : Nat} (h : k < s.size) (hb : ((s[k]'h).toNat : Int) < 33 ∨ 126 < ((s[k]'h).toNat : Int) ∨ ((s[k]'h).toNat : Int) = 58) : ¬ IsName s := by
  rintro ⟨_, _, hg⟩
  obtain ⟨h', h1, h2, h3⟩ := hg k h
  omega
theorem no_size {s : ByteArray} (h : s.size = 0 ∨ 40 < s.size) : ¬ IsName s := fun x => by have h1 := x.1; have h2 := x.2.1; omega
theorem step {s : ByteArray} {k : Nat} (hg : ∀ j, j < k → good s j) (h : k < s.size) (hx : 33 ≤ ((s[k]'h).toNat : Int)) (hx2 : ((s[k]'h).toNat : Int) ≤ 126) (hx3 : ((s[k]'h).toNat : Int) ≠ 58) : ∀ j, j < k + 1 → good s j := by
  intro j hj
  by_cases e : j = k
  · subst e; exact ⟨h, hx, hx2, hx3⟩
  · exact hg j (by omega)

set_option maxHeartbeats 1000000 in
theorem impl_any (s : ByteArray) (w : World) (hs : s.size ≤ maxLen) :
    Calls Tryd.prog 86 #[.string s] w fun e w' => Says (IsName s) e ∧ w' = w := by
  unfold maxLen at hs
  by_cases h0 : s.size = 0
  · have b0 : ((s.size : Int) == 0) = true := beq_iff_eq.2 (by omega)
    go_enter Tryd.func86, Tryd.ntmps86
    go_wp2
    go_ret
    exact ⟨says_no (no_size (.inl h0)), rfl⟩
  have b0 : ((s.size : Int) == 0) = false := beq_eq_false_iff_ne.2 (by omega)
  by_cases h4 : 40 < s.size
  · have h4' : (40 : Int) < (s.size : Int) := by omega
    go_enter Tryd.func86, Tryd.ntmps86
    go_wp2
    go_ret
    exact ⟨says_no (no_size (.inr h4)), rfl⟩
  have h4' : (s.size : Int) ≤ 40 := by omega
  go_enter Tryd.func86, Tryd.ntmps86
  go_wp2
  go_loop [14] (fun i => ∃ k : Nat, k ≤ s.size ∧ i = .int .i64 k ∧ ∀ j, j < k → good s j) (fun i => s.size - (intOf i).toNat)
  case atStart => exact ⟨0, Nat.zero_le _, rfl, fun j hj => absurd hj (Nat.not_lt_zero _)⟩
  case round =>
    obtain ⟨k, hk, rfl, hg⟩ := hrel
    have HG : Hid (∀ j, j < k → good s j) := hg
    clear hg
    by_cases hlt : k < s.size
    · by_cases c1 : ((s[k]'hlt).toNat : Int) ≤ 32
      · go_wp2
        go_ret
        exact ⟨says_no (not_name hlt (by omega)), rfl⟩
      by_cases c2 : 126 < ((s[k]'hlt).toNat : Int)
      · have d1 : decide (((s[k]'hlt).toNat : Int) ≤ 32) = false := decide_eq_false c1
        go_wp2
        go_ret
        exact ⟨says_no (not_name hlt (by omega)), rfl⟩
      by_cases c3 : ((s[k]'hlt).toNat : Int) = 58
      · have d1 : decide (((s[k]'hlt).toNat : Int) ≤ 32) = false := decide_eq_false c1
        have d2 : decide (126 < ((s[k]'hlt).toNat : Int)) = false := decide_eq_false c2
        have d3 : (((s[k]'hlt).toNat : Int) == 58) = true := beq_iff_eq.2 c3
        have HC : Hid (((s[k]'hlt).toNat : Int) = 58) := c3
        clear c3
        go_wp2
        go_ret
        exact ⟨says_no (not_name hlt (.inr (.inr HC.out))), rfl⟩
      · have d1 : decide (((s[k]'hlt).toNat : Int) ≤ 32) = false := decide_eq_false c1
        have d2 : decide (126 < ((s[k]'hlt).toNat : Int)) = false := decide_eq_false c2
        have d3 : (((s[k]'hlt).toNat : Int) == 58) = false := beq_eq_false_iff_ne.2 c3
        have c1' : 33 ≤ ((s[k]'hlt).toNat : Int) := by omega
        have c2' : ((s[k]'hlt).toNat : Int) ≤ 126 := by omega
        go_wp2
        go_round
        case rel => exact ⟨k + 1, by omega, by go_num, step HG.out hlt c1' c2' c3⟩
        case measure => simp [intOf]; omega
    · go_wp2
      go_ret
      exact ⟨says_yes ⟨by omega, by omega, fun j hj => HG.out j (by omega)⟩, rfl⟩

def inB (n a b : Int) : Bool := decide (a ≤ n ∧ n ≤ b)
set_option maxHeartbeats 400000 in
theorem in_any (n a b : Int) (w : World) : Calls Tryd.prog 11 #[.int .i64 n, .int .i64 a, .int .i64 b] w fun e w' => e = .returned (.bool (inB n a b)) ∧ w' = w := by
  by_cases h : a ≤ n
  · go_enter Tryd.func11, Tryd.ntmps11
    go_wp2
    all_goals (go_ret; exact ⟨by simp [inB, h], rfl⟩)
  · have h' : decide (a ≤ n) = false := decide_eq_false h
    go_enter Tryd.func11, Tryd.ntmps11
    go_wp2
    all_goals (go_ret; exact ⟨by rw [show inB n a b = false from decide_eq_false (by omega)]; rfl, rfl⟩)
theorem in_yes {n a b : Int} (h : a ≤ n) (h' : n ≤ b) : inB n a b = true := decide_eq_true ⟨h, h'⟩
theorem in_no {n a b : Int} (h : n < a ∨ b < n) : inB n a b = false := decide_eq_false (by omega)

set_option maxHeartbeats 1000000 in
theorem spec_any (s : ByteArray) (w : World) (hs : s.size ≤ maxLen) :
    Calls Tryd.prog 63 #[.string s] w fun e w' => Says (IsName s) e ∧ w' = w := by
  unfold maxLen at hs
  by_cases h9 : 65536 < s.size
  · have b9 : (65536 : Int) < (s.size : Int) := by omega
    go_enter Tryd.func63, Tryd.ntmps63
    go_wp2
    go_ret
    exact ⟨says_no (no_size (.inr (by omega))), rfl⟩
  have b9 : (s.size : Int) ≤ 65536 := by omega
  by_cases h1 : s.size = 0 ∨ 40 < s.size
  · have b1 : inB (s.size : Int) 1 40 = false := in_no (by omega)
    go_enter Tryd.func63, Tryd.ntmps63
    go_wp2_with (go_at_call 11; refine (in_any _ _ _ _).mono ?_; rintro e w' ⟨rfl, rfl⟩)
    go_ret
    exact ⟨says_no (no_size h1), rfl⟩
  have b1 : inB (s.size : Int) 1 40 = true := in_yes (by omega) (by omega)
  go_enter Tryd.func63, Tryd.ntmps63
  go_wp2_with (go_at_call 11; refine (in_any _ _ _ _).mono ?_; rintro e w' ⟨rfl, rfl⟩)
  go_loop [3] (fun i => ∃ k : Nat, k ≤ s.size ∧ i = .int .i64 k ∧ ∀ j, j < k → good s j) (fun i => s.size - (intOf i).toNat)
  case atStart => exact ⟨0, Nat.zero_le _, rfl, fun j hj => absurd hj (Nat.not_lt_zero _)⟩
  case round =>
    obtain ⟨k, hk, rfl, hg⟩ := hrel
    have HG : Hid (∀ j, j < k → good s j) := hg
    clear hg
    by_cases hlt : k < s.size
    · have u : ((s[k]'hlt).toNat : Int) ≤ 255 := by have := (s[k]'hlt).toNat_lt; omega
      by_cases c1 : ((s[k]'hlt).toNat : Int) < 33 ∨ 126 < ((s[k]'hlt).toNat : Int)
      · have b2 : inB ((s[k]'hlt).toNat : Int) 33 126 = false := in_no c1
        have HC : Hid (((s[k]'hlt).toNat : Int) < 33 ∨ 126 < ((s[k]'hlt).toNat : Int)) := c1
        clear c1
        go_wp2_with (go_at_call 11; refine (in_any _ _ _ _).mono ?_; rintro e w' ⟨rfl, rfl⟩)
        go_ret
        exact ⟨says_no (not_name hlt (by have := HC.out; omega)), rfl⟩
      have b2 : inB ((s[k]'hlt).toNat : Int) 33 126 = true := in_yes (by omega) (by omega)
      have c1' : 33 ≤ ((s[k]'hlt).toNat : Int) := by omega
      have c2' : ((s[k]'hlt).toNat : Int) ≤ 126 := by omega
      clear c1
      by_cases c3 : ((s[k]'hlt).toNat : Int) = 58
      · have d3 : (((s[k]'hlt).toNat : Int) == 58) = true := beq_iff_eq.2 c3
        have HC : Hid (((s[k]'hlt).toNat : Int) = 58) := c3
        clear c3
        go_wp2_with (go_at_call 11; refine (in_any _ _ _ _).mono ?_; rintro e w' ⟨rfl, rfl⟩)
        go_ret
        exact ⟨says_no (not_name hlt (.inr (.inr HC.out))), rfl⟩
      · have d3 : (((s[k]'hlt).toNat : Int) == 58) = false := beq_eq_false_iff_ne.2 c3
        go_wp2_with (go_at_call 11; refine (in_any _ _ _ _).mono ?_; rintro e w' ⟨rfl, rfl⟩)
        go_round
        case rel => exact ⟨k + 1, by omega, by go_num, step HG.out hlt c1' c2' c3⟩
        case measure => simp [intOf]; omega
    · go_wp2
      go_ret
      exact ⟨says_yes ⟨by omega, by omega, fun j hj => HG.out j (by omega)⟩, rfl⟩
end Go.Proofs.YtejmfffapkmjoaaDoor.hn
