/-
  Contracts of both SafeValue functions: whether a text is safe as a field's value.
  Contracts of both HeaderNameOK functions: whether a text is a field's name.
  The contract of the program's UnfoldHeader.
-/
import Derived.Test.YtbanjkkbobedhaaDoorPkac
import Derived.Test.YtbanjkkbobedhaaDoorRows
import Derived.WalkKit
import Derived.WalkLawsBesides
import Derived.Test.YtbanjkkbobedhaaDoorPkab

namespace Go.Proofs.YtbanjkkbobedhaaDoor.sv
open Go.RowKit
set_option linter.unusedVariables false

def Says (p : Prop) (e : Ending) : Prop := ∃ b : Bool, e = .returned (.bool b) ∧ (b = true ↔ p)
theorem says_no {p : Prop} (h : ¬ p) : Says p (.returned (.bool false)) := ⟨false, rfl, fun x => (by cases x), fun x => absurd x h⟩
theorem says_yes {p : Prop} (h : p) : Says p (.returned (.bool true)) := ⟨true, rfl, fun _ => h, fun _ => rfl⟩
theorem says_ex {p : Prop} {e : Ending} (h : Says p e) : ∃ b : Bool, e = .returned (.bool b) := ⟨h.choose, h.choose_spec.1⟩
theorem says_same {p : Prop} {a b : Bool} (h1 : Says p (.returned (.bool a))) (h2 : Says p (.returned (.bool b))) : a = b := by
  obtain ⟨x, hx, h1⟩ := h1
  obtain ⟨y, hy, h2⟩ := h2
  cases hx; cases hy
  exact Bool.eq_iff_iff.2 (h1.trans h2.symm)
theorem says_true {p : Prop} {e : Ending} (h : Says p e) (hp : p) : e = .returned (.bool true) := by
  obtain ⟨b, rfl, hb⟩ := h
  rw [hb.2 hp]
theorem says_false {p : Prop} {e : Ending} (h : Says p e) (hp : ¬ p) : e = .returned (.bool false) := by
  obtain ⟨b, rfl, hb⟩ := h
  cases b
  · rfl
  · exact absurd (hb.1 rfl) hp

set_option maxHeartbeats 1000000 in
set_option maxRecDepth 100000 in
theorem impl_any (s : ByteArray) (w : World) (hs : s.size ≤ maxLen) :
    Calls Tryd.prog 78 #[.string s] w fun e w' => Says (hd.Safe s.data.toList) e ∧ w' = w := by
  unfold maxLen at hs
  by_cases h4 : 2000 < s.size
  · have h4' : (2000 : Int) < (s.size : Int) := by omega
    go_enter Tryd.func78, Tryd.ntmps78
    go_wp2
    go_ret
    exact ⟨says_no (hd.big h4), rfl⟩
  have h4' : (s.size : Int) ≤ 2000 := by omega
  have hz : (s.toList == []) = decide (s.size = 0) := by
    rw [Bool.eq_iff_iff, beq_iff_eq, decide_eq_true_iff]
    constructor
    · intro h; have := Lib.size_eq s; rw [← Lib.toList_data, h] at this; exact this
    · intro h; have := Lib.size_eq s; rw [h] at this; rw [Lib.toList_data]; exact List.eq_nil_of_length_eq_zero this.symm
  have HZ : Hid ((s.toList == []) = decide (s.size = 0)) := hz
  clear hz
  go_enter Tryd.func78, Tryd.ntmps78
  go_wp2
  go_loop [3, 11] (fun t i => ∃ k wd : Nat, k ≤ s.size ∧ i = .int .i64 k ∧ t = .int .i64 wd ∧ hd.wid (s.data.toList.take k) = some wd) (fun _ i => s.size - (intOf i).toNat)
  case atStart => exact ⟨0, 0, Nat.zero_le _, rfl, rfl, rfl⟩
  case round =>
    obtain ⟨k, wd, hk, rfl, rfl, hg⟩ := hrel
    have hw := hd.width_le hg
    have hw' : (wd : Int) ≤ 200 := by omega
    have HG : Hid (hd.wid (s.data.toList.take k) = some wd) := hg
    clear hg
    by_cases hlt : k < s.size
    · have HN : Hid (∀ o, hd.step (some wd) (s[k]'hlt) = o → hd.wid (s.data.toList.take (k + 1)) = o) := fun o ho => by rw [hd.wid_at s k hlt, HG.out]; exact ho
      by_cases c1 : ((s[k]'hlt).toNat : Int) < 32
      · go_wp2
        go_ret
        exact ⟨says_no (hd.bad_at hlt HG.out (hd.st_bad (.inl c1))), rfl⟩
      have d1 : decide (((s[k]'hlt).toNat : Int) < 32) = false := decide_eq_false c1
      by_cases c2 : 126 < ((s[k]'hlt).toNat : Int)
      · go_wp2
        go_ret
        exact ⟨says_no (hd.bad_at hlt HG.out (hd.st_bad (.inr c2))), rfl⟩
      have d2 : decide (126 < ((s[k]'hlt).toNat : Int)) = false := decide_eq_false c2
      by_cases c3 : ((s[k]'hlt).toNat : Int) = 32
      · have d3 : (((s[k]'hlt).toNat : Int) != 32) = false := by rw [bne_eq_false_iff_eq]; exact c3
        have HC : Hid (((s[k]'hlt).toNat : Int) = 32) := c3
        clear c3 c1 c2
        by_cases c4 : wd = 0
        · have d4 : ((wd : Int) == 0) = true := beq_iff_eq.2 (by omega)
          have H4 : Hid (wd = 0) := c4
          clear c4
          go_wp2
          go_ret
          exact ⟨says_no (hd.bad_at hlt HG.out (by rw [H4.out]; exact hd.st_sp0 HC.out)), rfl⟩
        · have d4 : ((wd : Int) == 0) = false := beq_eq_false_iff_ne.2 (by omega)
          go_wp2
          go_round
          case rel => exact ⟨k + 1, 0, by omega, by go_num, rfl, HN.out _ (hd.st_sp HC.out c4)⟩
          case measure => simp [intOf]; omega
      · have d3 : (((s[k]'hlt).toNat : Int) != 32) = true := by rw [bne_iff_ne]; exact c3
        by_cases c4 : 200 ≤ wd
        · have d4 : (200 : Int) < (wd : Int) + 1 := by omega
          go_wp2
          go_ret
          exact ⟨says_no (hd.bad_at hlt HG.out (hd.st_long c3 c4)), rfl⟩
        · have d4 : (wd : Int) + 1 ≤ 200 := by omega
          go_wp2
          go_round
          case rel => exact ⟨k + 1, wd + 1, by omega, by go_num, by go_num, HN.out _ (hd.st_ch (by omega) (by omega) c3 (by omega))⟩
          case measure => simp [intOf]; omega
    · have HA : Hid (hd.wid s.data.toList = some wd) := by have := HG.out; rw [hd.take_all s k (by omega)] at this; exact this
      by_cases c0 : s.size = 0
      · have e0 : (s.toList == []) = true := by rw [HZ.out]; exact decide_eq_true c0
        go_wp2
        go_ret
        exact ⟨says_yes (hd.good (by omega) HA.out (.inl c0)), rfl⟩
      · have e0 : (s.toList == []) = false := by rw [HZ.out]; exact decide_eq_false c0
        by_cases c4 : wd = 0
        · have d4 : decide (0 < wd) = false := decide_eq_false (by omega)
          have H4 : Hid (wd = 0) := c4
          clear c4
          go_wp2
          go_ret
          exact ⟨says_no (hd.endBad c0 (by have := HA.out; rw [H4.out] at this; exact this)), rfl⟩
        · have d4 : decide (0 < wd) = true := decide_eq_true (by omega)
          go_wp2
          go_ret
          exact ⟨says_yes (hd.good (by omega) HA.out (.inr (by omega))), rfl⟩

def inB (n a b : Int) : Bool := decide (a ≤ n ∧ n ≤ b)
set_option maxHeartbeats 400000 in
theorem in_any (n a b : Int) (w : World) : Calls Tryd.prog 22 #[.int .i64 n, .int .i64 a, .int .i64 b] w fun e w' => e = .returned (.bool (inB n a b)) ∧ w' = w := by
  by_cases h : a ≤ n
  · go_enter Tryd.func22, Tryd.ntmps22
    go_wp2
    all_goals (go_ret; exact ⟨by simp [inB, h], rfl⟩)
  · have h' : decide (a ≤ n) = false := decide_eq_false h
    go_enter Tryd.func22, Tryd.ntmps22
    go_wp2
    all_goals (go_ret; exact ⟨by rw [show inB n a b = false from decide_eq_false (by omega)]; rfl, rfl⟩)
theorem in_yes {n a b : Int} (h : a ≤ n) (h' : n ≤ b) : inB n a b = true := decide_eq_true ⟨h, h'⟩
theorem in_no {n a b : Int} (h : n < a ∨ b < n) : inB n a b = false := decide_eq_false (by omega)

set_option maxHeartbeats 1000000 in
set_option maxRecDepth 100000 in
theorem spec_any (s : ByteArray) (w : World) (hs : s.size ≤ maxLen) :
    Calls Tryd.prog 63 #[.string s] w fun e w' => Says (hd.Safe s.data.toList) e ∧ w' = w := by
  unfold maxLen at hs
  by_cases h9 : 65536 < s.size
  · have b9 : (65536 : Int) < (s.size : Int) := by omega
    go_enter Tryd.func63, Tryd.ntmps63
    go_wp2
    go_ret
    exact ⟨says_no (hd.big (by omega)), rfl⟩
  have b9 : (s.size : Int) ≤ 65536 := by omega
  by_cases h4 : 2000 < s.size
  · have h4' : (2000 : Int) < (s.size : Int) := by omega
    go_enter Tryd.func63, Tryd.ntmps63
    go_wp2
    go_ret
    exact ⟨says_no (hd.big h4), rfl⟩
  have h4' : (s.size : Int) ≤ 2000 := by omega
  go_enter Tryd.func63, Tryd.ntmps63
  go_wp2
  go_loop [3, 4] (fun t i => ∃ k wd : Nat, k ≤ s.size ∧ i = .int .i64 k ∧ t = .int .i64 wd ∧ hd.wid (s.data.toList.take k) = some wd ∧ (wd = 0 → k = 0 ∨ k < s.size)) (fun _ i => s.size - (intOf i).toNat)
  case atStart => exact ⟨0, 0, Nat.zero_le _, rfl, rfl, rfl, fun _ => .inl rfl⟩
  case round =>
    obtain ⟨k, wd, hk, rfl, rfl, hg, hq⟩ := hrel
    have hw := hd.width_le hg
    have hw' : (wd : Int) ≤ 200 := by omega
    have HG : Hid (hd.wid (s.data.toList.take k) = some wd) := hg
    have HQ : Hid (wd = 0 → k = 0 ∨ k < s.size) := hq
    clear hg hq
    by_cases hlt : k < s.size
    · have u : ((s[k]'hlt).toNat : Int) ≤ 255 := by have := (s[k]'hlt).toNat_lt; omega
      have HN : Hid (∀ o, hd.step (some wd) (s[k]'hlt) = o → hd.wid (s.data.toList.take (k + 1)) = o) := fun o ho => by rw [hd.wid_at s k hlt, HG.out]; exact ho
      by_cases c1 : ((s[k]'hlt).toNat : Int) < 32 ∨ 126 < ((s[k]'hlt).toNat : Int)
      · have b2 : inB ((s[k]'hlt).toNat : Int) 32 126 = false := in_no c1
        have HC : Hid (((s[k]'hlt).toNat : Int) < 32 ∨ 126 < ((s[k]'hlt).toNat : Int)) := c1
        clear c1
        go_wp2_with (go_at_call 22; refine (in_any _ _ _ _).mono ?_; rintro e w' ⟨rfl, rfl⟩)
        go_ret
        exact ⟨says_no (hd.bad_at hlt HG.out (hd.st_bad HC.out)), rfl⟩
      have b2 : inB ((s[k]'hlt).toNat : Int) 32 126 = true := in_yes (by omega) (by omega)
      have c1' : 32 ≤ ((s[k]'hlt).toNat : Int) := by omega
      have c2' : ((s[k]'hlt).toNat : Int) ≤ 126 := by omega
      clear c1
      by_cases c3 : ((s[k]'hlt).toNat : Int) = 32
      · have d3 : (((s[k]'hlt).toNat : Int) != 32) = false := by rw [bne_eq_false_iff_eq]; exact c3
        have HC : Hid (((s[k]'hlt).toNat : Int) = 32) := c3
        clear c3 c1' c2'
        by_cases c4 : wd = 0
        · have d4 : ((wd : Int) == 0) = true := beq_iff_eq.2 (by omega)
          have H4 : Hid (wd = 0) := c4
          clear c4
          go_wp2_with (go_at_call 22; refine (in_any _ _ _ _).mono ?_; rintro e w' ⟨rfl, rfl⟩)
          go_ret
          exact ⟨says_no (hd.bad_at hlt HG.out (by rw [H4.out]; exact hd.st_sp0 HC.out)), rfl⟩
        · have d4 : ((wd : Int) == 0) = false := beq_eq_false_iff_ne.2 (by omega)
          by_cases c5 : k + 1 = s.size
          · have d5 : ((k : Int) + 1 == (s.size : Int)) = true := beq_iff_eq.2 (by omega)
            have H5 : Hid (k + 1 = s.size) := c5
            clear c5
            go_wp2_with (go_at_call 22; refine (in_any _ _ _ _).mono ?_; rintro e w' ⟨rfl, rfl⟩)
            go_ret
            exact ⟨says_no (hd.endBad (by omega) (by have := HN.out _ (hd.st_sp HC.out c4); rw [hd.take_all s (k + 1) (by have := H5.out; omega)] at this; exact this)), rfl⟩
          · have d5 : ((k : Int) + 1 == (s.size : Int)) = false := beq_eq_false_iff_ne.2 (by omega)
            go_wp2_with (go_at_call 22; refine (in_any _ _ _ _).mono ?_; rintro e w' ⟨rfl, rfl⟩)
            go_round
            case rel => exact ⟨k + 1, 0, by omega, by go_num, rfl, HN.out _ (hd.st_sp HC.out c4), fun _ => .inr (by omega)⟩
            case measure => simp [intOf]; omega
      · have d3 : (((s[k]'hlt).toNat : Int) != 32) = true := by rw [bne_iff_ne]; exact c3
        by_cases c4 : 200 ≤ wd
        · have d4 : (200 : Int) < (wd : Int) + 1 := by omega
          go_wp2_with (go_at_call 22; refine (in_any _ _ _ _).mono ?_; rintro e w' ⟨rfl, rfl⟩)
          go_ret
          exact ⟨says_no (hd.bad_at hlt HG.out (hd.st_long c3 c4)), rfl⟩
        · have d4 : (wd : Int) + 1 ≤ 200 := by omega
          go_wp2_with (go_at_call 22; refine (in_any _ _ _ _).mono ?_; rintro e w' ⟨rfl, rfl⟩)
          go_round
          case rel => exact ⟨k + 1, wd + 1, by omega, by go_num, by go_num, HN.out _ (hd.st_ch (by omega) (by omega) c3 (by omega)), fun h => by omega⟩
          case measure => simp [intOf]; omega
    · have HA : Hid (hd.wid s.data.toList = some wd) := by have := HG.out; rw [hd.take_all s k (by omega)] at this; exact this
      go_wp2
      go_ret
      exact ⟨says_yes (hd.good (by omega) HA.out (by have := HQ.out; omega)), rfl⟩
end Go.Proofs.YtbanjkkbobedhaaDoor.sv

namespace Go.Proofs.YtbanjkkbobedhaaDoor.hn
open Go.RowKit
set_option linter.unusedVariables false

def Says (p : Prop) (e : Ending) : Prop := ∃ b : Bool, e = .returned (.bool b) ∧ (b = true ↔ p)
theorem says_no {p : Prop} (h : ¬ p) : Says p (.returned (.bool false)) := ⟨false, rfl, fun x => (by cases x), fun x => absurd x h⟩
theorem says_yes {p : Prop} (h : p) : Says p (.returned (.bool true)) := ⟨true, rfl, fun _ => h, fun _ => rfl⟩
theorem says_ex {p : Prop} {e : Ending} (h : Says p e) : ∃ b : Bool, e = .returned (.bool b) := ⟨h.choose, h.choose_spec.1⟩
theorem says_same {p : Prop} {a b : Bool} (h1 : Says p (.returned (.bool a))) (h2 : Says p (.returned (.bool b))) : a = b := by
  obtain ⟨x, hx, h1⟩ := h1
  obtain ⟨y, hy, h2⟩ := h2
  cases hx; cases hy
  exact Bool.eq_iff_iff.2 (h1.trans h2.symm)
theorem says_iff {p : Prop} {b : Bool} (h : Says p (.returned (.bool b))) : b = true ↔ p := by
  obtain ⟨x, hx, h⟩ := h
  cases hx
  exact h

/-- The byte at a place may stand in a field's name. -/
def good (s : ByteArray) (j : Nat) : Prop := ∃ h : j < s.size, 33 ≤ ((s[j]'h).toNat : Int) ∧ ((s[j]'h).toNat : Int) ≤ 126 ∧ ((s[j]'h).toNat : Int) ≠ 58
/-- A text is a field's name. -/
def IsName (s : ByteArray) : Prop := 1 ≤ s.size ∧ s.size ≤ 40 ∧ ∀ j, j < s.size → good s j
theorem not_name {s : ByteArray} {k : Nat} (h : k < s.size) (hb : ((s[k]'h).toNat : Int) < 33 ∨ 126 < ((s[k]'h).toNat : Int) ∨ ((s[k]'h).toNat : Int) = 58) : ¬ IsName s := by
  rintro ⟨_, _, hg⟩
  obtain ⟨h', h1, h2, h3⟩ := hg k h
  omega
theorem no_size {s : ByteArray} (h : s.size = 0 ∨ 40 < s.size) : ¬ IsName s := fun x => by have h1 := x.1; have h2 := x.2.1; omega
theorem step {s : ByteArray} {k : Nat} (hg : ∀ j, j < k → good s j) (h : k < s.size) (hx : 33 ≤ ((s[k]'h).toNat : Int)) (hx2 : ((s[k]'h).toNat : Int) ≤ 126) (hx3 : ((s[k]'h).toNat : Int) ≠ 58) : ∀ j, j < k + 1 → good s j := by
  intro j hj
  by_cases e : j = k
  · subst e; exact ⟨h, hx, hx2, hx3⟩
  · exact hg j (by omega)

set_option maxHeartbeats 1000000 in
theorem impl_any (s : ByteArray) (w : World) (hs : s.size ≤ maxLen) :
    Calls Tryd.prog 77 #[.string s] w fun e w' => Says (IsName s) e ∧ w' = w := by
  unfold maxLen at hs
  by_cases h0 : s.size = 0
  · have b0 : ((s.size : Int) == 0) = true := beq_iff_eq.2 (by omega)
    go_enter Tryd.func77, Tryd.ntmps77
    go_wp2
    go_ret
    exact ⟨says_no (no_size (.inl h0)), rfl⟩
  have b0 : ((s.size : Int) == 0) = false := beq_eq_false_iff_ne.2 (by omega)
  by_cases h4 : 40 < s.size
  · have h4' : (40 : Int) < (s.size : Int) := by omega
    go_enter Tryd.func77, Tryd.ntmps77
    go_wp2
    go_ret
    exact ⟨says_no (no_size (.inr h4)), rfl⟩
  have h4' : (s.size : Int) ≤ 40 := by omega
  go_enter Tryd.func77, Tryd.ntmps77
  go_wp2
  go_loop [14] (fun i => ∃ k : Nat, k ≤ s.size ∧ i = .int .i64 k ∧ ∀ j, j < k → good s j) (fun i => s.size - (intOf i).toNat)
  case atStart => exact ⟨0, Nat.zero_le _, rfl, fun j hj => absurd hj (Nat.not_lt_zero _)⟩
  case round =>
    obtain ⟨k, hk, rfl, hg⟩ := hrel
    have HG : Hid (∀ j, j < k → good s j) := hg
    clear hg
    by_cases hlt : k < s.size
    · by_cases c1 : ((s[k]'hlt).toNat : Int) ≤ 32
      · go_wp2
        go_ret
        exact ⟨says_no (not_name hlt (by omega)), rfl⟩
      by_cases c2 : 126 < ((s[k]'hlt).toNat : Int)
      · have d1 : decide (((s[k]'hlt).toNat : Int) ≤ 32) = false := decide_eq_false c1
        go_wp2
        go_ret
        exact ⟨says_no (not_name hlt (by omega)), rfl⟩
      by_cases c3 : ((s[k]'hlt).toNat : Int) = 58
      · have d1 : decide (((s[k]'hlt).toNat : Int) ≤ 32) = false := decide_eq_false c1
        have d2 : decide (126 < ((s[k]'hlt).toNat : Int)) = false := decide_eq_false c2
        have d3 : (((s[k]'hlt).toNat : Int) == 58) = true := beq_iff_eq.2 c3
        have HC : Hid (((s[k]'hlt).toNat : Int) = 58) := c3
        clear c3
        go_wp2
        go_ret
        exact ⟨says_no (not_name hlt (.inr (.inr HC.out))), rfl⟩
      · have d1 : decide (((s[k]'hlt).toNat : Int) ≤ 32) = false := decide_eq_false c1
        have d2 : decide (126 < ((s[k]'hlt).toNat : Int)) = false := decide_eq_false c2
        have d3 : (((s[k]'hlt).toNat : Int) == 58) = false := beq_eq_false_iff_ne.2 c3
        have c1' : 33 ≤ ((s[k]'hlt).toNat : Int) := by omega
        have c2' : ((s[k]'hlt).toNat : Int) ≤ 126 := by omega
        go_wp2
        go_round
        case rel => exact ⟨k + 1, by omega, by go_num, step HG.out hlt c1' c2' c3⟩
        case measure => simp [intOf]; omega
    · go_wp2
      go_ret
      exact ⟨says_yes ⟨by omega, by omega, fun j hj => HG.out j (by omega)⟩, rfl⟩

def inB (n a b : Int) : Bool := decide (a ≤ n ∧ n ≤ b)
set_option maxHeartbeats 400000 in
theorem in_any (n a b : Int) (w : World) : Calls Tryd.prog 22 #[.int .i64 n, .int .i64 a, .int .i64 b] w fun e w' => e = .returned (.bool (inB n a b)) ∧ w' = w := by
  by_cases h : a ≤ n
  · go_enter Tryd.func22, Tryd.ntmps22
    go_wp2
    all_goals (go_ret; exact ⟨by simp [inB, h], rfl⟩)
  · have h' : decide (a ≤ n) = false := decide_eq_false h
    go_enter Tryd.func22, Tryd.ntmps22
    go_wp2
    all_goals (go_ret; exact ⟨by rw [show inB n a b = false from decide_eq_false (by omega)]; rfl, rfl⟩)
theorem in_yes {n a b : Int} (h : a ≤ n) (h' : n ≤ b) : inB n a b = true := decide_eq_true ⟨h, h'⟩
theorem in_no {n a b : Int} (h : n < a ∨ b < n) : inB n a b = false := decide_eq_false (by omega)

end Go.Proofs.YtbanjkkbobedhaaDoor.hn

namespace Go.Proofs.YtbanjkkbobedhaaDoor.uf
open Go.RowKit
set_option linter.unusedVariables false

/-- What both UnfoldHeader functions answer. -/
def UhRet (s : ByteArray) (e : Ending) : Prop :=
  (65536 < s.size ∧ e = .returned (.tuple #[.string ⟨#[]⟩, .string ⟨#[]⟩, .int .i64 2])) ∨
  (s.size ≤ 65536 ∧ (¬ ∃ nm v, Field hn.IsName s.data.toList nm v) ∧ e = .returned (.tuple #[.string ⟨#[]⟩, .string ⟨#[]⟩, .int .i64 3])) ∨
  (s.size ≤ 65536 ∧ ∃ nm v : List UInt8, Field hn.IsName s.data.toList nm v ∧ e = .returned (.tuple #[.string ⟨nm.toArray⟩, .string ⟨v.toArray⟩, .int .i64 0]))
theorem uh_ex {s : ByteArray} {e : Ending} (h : UhRet s e) : ∃ (a b : ByteArray) (c : Int), e = .returned (.tuple #[.string a, .string b, .int .i64 c]) := by
  rcases h with ⟨_, rfl⟩ | ⟨_, _, rfl⟩ | ⟨_, _, _, _, rfl⟩ <;> exact ⟨_, _, _, rfl⟩
theorem uh_same {s a b a' b' : ByteArray} {c c' : Int} (h : UhRet s (.returned (.tuple #[.string a, .string b, .int .i64 c]))) (h' : UhRet s (.returned (.tuple #[.string a', .string b', .int .i64 c']))) : a = a' ∧ b = b' ∧ c = c' := by
  rcases h with ⟨x, h⟩ | ⟨x, x2, h⟩ | ⟨x, nm, v, hf, h⟩ <;>
  rcases h' with ⟨y, h'⟩ | ⟨y, y2, h'⟩ | ⟨y, nm', v', hf', h'⟩ <;>
  cases h <;> cases h' <;>
  first | exact ⟨rfl, rfl, rfl⟩ | (exfalso; omega) | (exfalso; exact x2 ⟨_, _, hf'⟩) | (exfalso; exact y2 ⟨_, _, hf⟩) | (obtain ⟨rfl, rfl⟩ := field_one hf hf'; exact ⟨rfl, rfl, rfl⟩)
theorem index_colon : ∀ (l : List UInt8), (Lib.index l [58] = -1 ∧ 58 ∉ l) ∨ ∃ i : Nat, Lib.index l [58] = i ∧ l = l.take i ++ 58 :: l.drop (i + 1) ∧ 58 ∉ l.take i
  | [] => .inl ⟨rfl, by simp⟩
  | c :: r => by
    by_cases hc : c = 58
    · refine .inr ⟨0, ?_, by rw [hc]; rfl, by simp⟩
      rw [Lib.index, if_pos (by simp [hc])]
      rfl
    · have hp : ¬ [58].isPrefixOf (c :: r) = true := by simp; exact fun e => hc e.symm
      rcases index_colon r with ⟨h1, h2⟩ | ⟨i, h1, h2, h3⟩
      · refine .inl ⟨?_, ?_⟩
        · rw [Lib.index, if_neg hp, if_pos (by rw [h1]; rfl)]
        · intro hm
          rcases List.mem_cons.1 hm with e | e
          · exact hc e.symm
          · exact h2 e
      · refine .inr ⟨i + 1, ?_, ?_, ?_⟩
        · rw [Lib.index, if_neg hp, if_neg (by rw [h1]; simp), h1]
          simp
        · simp only [List.take_succ_cons, List.drop_succ_cons, List.cons_append, List.cons.injEq, true_and]
          exact h2
        · intro hm
          rw [List.take_succ_cons] at hm
          rcases List.mem_cons.1 hm with e | e
          · exact hc e.symm
          · exact h3 e
/-- What a cut at the first colon gives. -/
def CutIs (l a r : List UInt8) (b : Bool) : Prop := (b = true ∧ l = a ++ 58 :: r ∧ 58 ∉ a) ∨ (b = false ∧ 58 ∉ l ∧ r = [])
theorem cut_is (l : List UInt8) : CutIs l (Lib.cut l [58]).1 (Lib.cut l [58]).2.1 (Lib.cut l [58]).2.2 := by
  rcases index_colon l with ⟨h1, h2⟩ | ⟨i, h1, h2, h3⟩
  · have e : Lib.cut l [58] = (l, [], false) := by
      unfold Lib.cut
      rw [if_neg (by rw [h1]; decide)]
    rw [e]
    exact .inr ⟨rfl, h2, rfl⟩
  · have e : Lib.cut l [58] = (l.take i, l.drop (i + 1), true) := by
      unfold Lib.cut
      rw [if_pos (by rw [h1]; omega), h1]
      rfl
    rw [e]
    exact .inl ⟨rfl, h2, h3⟩
def PreIs (l r : List UInt8) (b : Bool) : Prop := (b = true ∧ l = 32 :: r) ∨ (b = false ∧ ∀ q, l ≠ 32 :: q)
theorem pre_is (l : List UInt8) : PreIs l (Lib.trimPrefix l [32]) (Lib.hasPrefix l [32]) := by
  unfold Lib.trimPrefix Lib.hasPrefix
  match l with
  | [] => exact .inr ⟨rfl, fun q h => by cases h⟩
  | c :: r =>
    by_cases hc : c = 32
    · subst hc
      exact .inl ⟨rfl, rfl⟩
    · have hp : [32].isPrefixOf (c :: r) = false := by
        rw [Bool.eq_false_iff]
        intro h
        simp only [List.isPrefixOf, Bool.and_true, beq_iff_eq] at h
        exact hc h.symm
      rw [hp]
      exact .inr ⟨rfl, fun q h => hc (List.cons.inj h).1⟩
def SufIs (l r : List UInt8) (b : Bool) : Prop := (b = true ∧ l = r ++ [13, 10]) ∨ (b = false ∧ ∀ q, l ≠ q ++ [13, 10])
theorem suf_is (l : List UInt8) : SufIs l (Lib.trimSuffix l [13, 10]) (Lib.hasSuffix l [13, 10]) := by
  unfold Lib.trimSuffix Lib.hasSuffix
  cases h : [13, 10].isSuffixOf l with
  | false =>
    refine .inr ⟨rfl, fun q hq => ?_⟩
    have : [13, 10].isSuffixOf l = true := List.isSuffixOf_iff_suffix.2 ⟨q, hq.symm⟩
    rw [h] at this
    cases this
  | true =>
    obtain ⟨q, hq⟩ := List.isSuffixOf_iff_suffix.1 h
    refine .inl ⟨rfl, ?_⟩
    rw [if_pos rfl, ← hq]
    simp
theorem no_colon {P : ByteArray → Prop} {l : List UInt8} (h : 58 ∉ l) : ¬ ∃ nm v, Field P l nm v := by
  rintro ⟨nm, v, x, ⟨hx, _⟩, _⟩
  rw [hx] at h
  simp at h
theorem no_blank {P : ByteArray → Prop} {l a r : List UInt8} (h : l = a ++ 58 :: r) (ha : 58 ∉ a) (hr : ∀ q, r ≠ 32 :: q) : ¬ ∃ nm v, Field P l nm v := by
  rintro ⟨nm, v, x, ⟨hx, hm⟩, _⟩
  exact hr _ (colon_one _ _ _ _ ha hm (h.symm.trans hx)).2
theorem no_end {P : ByteArray → Prop} {l a r : List UInt8} (h : l = a ++ 58 :: 32 :: r) (ha : 58 ∉ a) (hr : ∀ q, r ≠ q ++ [13, 10]) : ¬ ∃ nm v, Field P l nm v := by
  rintro ⟨nm, v, x, ⟨hx, hm⟩, _⟩
  have := (colon_one _ _ _ _ ha hm (h.symm.trans hx)).2
  exact hr _ (List.cons.inj this).2
theorem no_name {P : ByteArray → Prop} {l a x : List UInt8} (h : Parts l a x) (hn : ¬ P ⟨a.toArray⟩) : ¬ ∃ nm v, Field P l nm v := by
  rintro ⟨nm, v, x', hx, hP, _⟩
  obtain ⟨rfl, rfl⟩ := parts_one h hx
  exact hn hP
theorem no_value {P : ByteArray → Prop} {l a x : List UInt8} (h : Parts l a x) (hn : ¬ ∃ v, unf false x = some v ∧ hd.Safe v) : ¬ ∃ nm v, Field P l nm v := by
  rintro ⟨nm, v, x', hx, _, hu, hs⟩
  obtain ⟨rfl, rfl⟩ := parts_one h hx
  exact hn ⟨v, hu, hs⟩

theorem name_true {p : Prop} {e : Ending} (h : hn.Says p e) (hp : p) : e = .returned (.bool true) := by
  obtain ⟨b, rfl, hb⟩ := h
  rw [hb.2 hp]
theorem name_false {p : Prop} {e : Ending} (h : hn.Says p e) (hp : ¬ p) : e = .returned (.bool false) := by
  obtain ⟨b, rfl, hb⟩ := h
  cases b
  · rfl
  · exact absurd (hb.1 rfl) hp
theorem bdrew {B : Nat} {a w : World} (h : Below B a w) (n : Nat) : Below B a (w.drewN n) := ⟨h.os, h.tape, h.output, h.size, h.block⟩

theorem clone_uf (s : ByteArray) (w : World) (hs : s.size ≤ 1048576) :
    Calls Tryd.prog 18 #[.string s] w fun e w' => e = .returned (.string s) ∧ Below w.heap.size w w' := by
  go_enter Tryd.func18, Tryd.ntmps18
  go_wp2_with fail
  refine (Tryd.stringslite_Clone s _ (by omega)).mono ?_
  rintro e w' ⟨rfl, hb⟩
  go_wp2
  go_ret
  exact ⟨rfl, hb⟩

set_option maxHeartbeats 4000000 in
set_option maxRecDepth 100000 in
theorem implUh_any (s : ByteArray) (w : World) (m : Int) (hm : w.cell? ⟨0, 0, none⟩ = some (.int .i64 m)) (hs : s.size ≤ 1048576) :
    Calls Tryd.prog 58 #[.string s] w fun e w' => UhRet s e ∧ Below w.heap.size w w' := by
  by_cases h : s.size ≤ 65536
  case neg =>
    have h' : (65536 : Int) < (s.size : Int) := by omega
    clear hm
    go_enter Tryd.func58, Tryd.ntmps58
    go_wp2
    go_ret3
    exact ⟨.inl ⟨by omega, rfl⟩, Below.refl _ _⟩
  have h' : (s.size : Int) ≤ 65536 := by omega
  have hgl := World.block_lt_of_cell? _ _ hm
  have HM : Hid (∀ W, Below w.heap.size w W → W.cell? ⟨0, 0, none⟩ = some (.int .i64 m)) := fun W hW => (hW.cell (p := ⟨0, 0, none⟩) hgl).trans hm
  clear hm hgl
  go_enter Tryd.func58, Tryd.ntmps58
  go_wp2_with fail
  refine (Tryd.strings_Cut s ⟨#[58]⟩ m _ (by omega) (HM.out _ (Below.refl _ _))).mono ?_
  rw [show (⟨#[58]⟩ : ByteArray).data.toList = [58] from rfl]
  have hC := cut_is s.data.toList
  obtain ⟨a, ha⟩ : ∃ a, a = (Lib.cut s.data.toList [58]).1 := ⟨_, rfl⟩
  obtain ⟨r1, hr1⟩ : ∃ r, r = (Lib.cut s.data.toList [58]).2.1 := ⟨_, rfl⟩
  obtain ⟨b1, hb1⟩ : ∃ b, b = (Lib.cut s.data.toList [58]).2.2 := ⟨_, rfl⟩
  rw [← ha, ← hr1, ← hb1] at hC ⊢
  rintro e w1 ⟨rfl, q1, hw1⟩
  have bw1 : Below w.heap.size w w1 := by rw [hw1]; exact bdrew (Below.refl _ _) _
  clear hw1 ha hr1 hb1
  have hl1 : r1.length ≤ 65536 := by
    rcases hC with ⟨_, hC, _⟩ | ⟨_, _, hC⟩
    · have := congrArg List.length hC
      rw [← Lib.size_eq] at this
      simp at this
      omega
    · rw [hC]; simp
  have hla : b1 = true → a.length ≤ 65536 := fun hb => by
    rcases hC with ⟨_, hC, _⟩ | ⟨hC, _⟩
    · have := congrArg List.length hC
      rw [← Lib.size_eq] at this
      simp at this
      omega
    · rw [hb] at hC; cases hC
  have HC : Hid (CutIs s.data.toList a r1 b1) := hC
  have HLA : Hid (b1 = true → a.length ≤ 65536) := hla
  clear hC hla
  obtain ⟨A, hA⟩ : ∃ A : ByteArray, A = ⟨a.toArray⟩ := ⟨_, rfl⟩
  obtain ⟨R1, hR1⟩ : ∃ R : ByteArray, R = ⟨r1.toArray⟩ := ⟨_, rfl⟩
  have hR1l : R1.data.toList = r1 := by rw [hR1]
  rw [← hA, ← hR1]
  have HA : Hid (A = ⟨a.toArray⟩) := hA
  clear hA hR1
  go_wp2_with fail
  refine (Tryd.strings_CutPrefix R1 ⟨#[32]⟩ _).mono ?_
  rw [show (⟨#[32]⟩ : ByteArray).data.toList = [32] from rfl, hR1l]
  have hC := pre_is r1
  obtain ⟨r2, hr2⟩ : ∃ r, r = Lib.trimPrefix r1 [32] := ⟨_, rfl⟩
  obtain ⟨b2, hb2⟩ : ∃ b, b = Lib.hasPrefix r1 [32] := ⟨_, rfl⟩
  have hl2 : r2.length ≤ 65536 := by rw [hr2]; unfold Lib.trimPrefix; split; rw [List.length_drop]; omega; exact hl1
  rw [← hr2, ← hb2] at hC ⊢
  rintro e w2 ⟨rfl, hw2⟩
  rw [hw2]
  have HP : Hid (PreIs r1 r2 b2) := hC
  obtain ⟨R2, hR2⟩ : ∃ R : ByteArray, R = ⟨r2.toArray⟩ := ⟨_, rfl⟩
  have hR2l : R2.data.toList = r2 := by rw [hR2]
  have hR2s : R2.size ≤ 65536 := by rw [Lib.size_eq, hR2l]; exact hl2
  rw [← hR2]
  clear hw2 hC hr2 hb2 hR2 hR1l hl1
  go_wp2_with fail
  refine (Tryd.strings_CutSuffix R2 ⟨#[13, 10]⟩ _ (by omega)).mono ?_
  rw [show (⟨#[13, 10]⟩ : ByteArray).data.toList = [13, 10] from rfl, hR2l]
  have hC := suf_is r2
  obtain ⟨x, hx⟩ : ∃ r, r = Lib.trimSuffix r2 [13, 10] := ⟨_, rfl⟩
  obtain ⟨b3, hb3⟩ : ∃ b, b = Lib.hasSuffix r2 [13, 10] := ⟨_, rfl⟩
  have hlx : x.length ≤ 65536 := by rw [hx]; unfold Lib.trimSuffix; split; rw [List.length_take]; omega; exact hl2
  rw [← hx, ← hb3] at hC ⊢
  rintro e w3 ⟨rfl, hw3⟩
  rw [hw3]
  have HF : Hid (SufIs r2 x b3) := hC
  obtain ⟨X, hX⟩ : ∃ R : ByteArray, R = ⟨x.toArray⟩ := ⟨_, rfl⟩
  have hXl : X.data.toList = x := by rw [hX]
  have hXs : X.size ≤ 65536 := by rw [Lib.size_eq, hXl]; exact hlx
  rw [← hX]
  clear hw3 hC hx hb3 hX hR2l hl2
  cases b1 with
  | false =>
    have HN : Hid (¬ ∃ nm v, Field hn.IsName s.data.toList nm v) := no_colon (by rcases HC.out with ⟨e, _⟩ | ⟨_, e, _⟩; cases e; exact e)
    go_wp2
    go_ret3
    exact ⟨.inr (.inl ⟨h, HN.out, rfl⟩), bw1⟩
  | true =>
    have HC1 : Hid (s.data.toList = a ++ 58 :: r1 ∧ 58 ∉ a) := by rcases HC.out with ⟨_, e⟩ | ⟨e, _⟩; exact e; cases e
    have hal := HLA.out rfl
    cases b2 with
    | false =>
      have HN : Hid (¬ ∃ nm v, Field hn.IsName s.data.toList nm v) := no_blank HC1.out.1 HC1.out.2 (by rcases HP.out with ⟨e, _⟩ | ⟨_, e⟩; cases e; exact e)
      go_wp2
      go_ret3
      exact ⟨.inr (.inl ⟨h, HN.out, rfl⟩), bw1⟩
    | true =>
      have HP1 : Hid (r1 = 32 :: r2) := by rcases HP.out with ⟨_, e⟩ | ⟨e, _⟩; exact e; cases e
      cases b3 with
      | false =>
        have HN : Hid (¬ ∃ nm v, Field hn.IsName s.data.toList nm v) := no_end (by rw [HC1.out.1, HP1.out]) HC1.out.2 (by rcases HF.out with ⟨e, _⟩ | ⟨_, e⟩; cases e; exact e)
        go_wp2
        go_ret3
        exact ⟨.inr (.inl ⟨h, HN.out, rfl⟩), bw1⟩
      | true =>
        have HF1 : Hid (r2 = x ++ [13, 10]) := by rcases HF.out with ⟨_, e⟩ | ⟨e, _⟩; exact e; cases e
        have HPA : Hid (Parts s.data.toList a x) := ⟨by rw [HC1.out.1, HP1.out, HF1.out], HC1.out.2⟩
        clear HC HP HF HC1 HP1 HF1
        go_wp2_with fail
        refine (Tryd.strings_ReplaceAll X ⟨#[13, 10, 32]⟩ ⟨#[32]⟩ m _ (by omega) (HM.out _ bw1) (by decide) (by have := Lib.countB_mul_le ⟨#[13, 10, 32]⟩ (by decide) X.size X (Nat.le_refl _); have e1 : (⟨#[13, 10, 32]⟩ : ByteArray).size = 3 := rfl; have e2 : (⟨#[32]⟩ : ByteArray).size = 1 := rfl; rw [e1] at this; rw [e2]; omega)).mono ?_
        rw [show (⟨#[13, 10, 32]⟩ : ByteArray).data.toList = fw from rfl, show (⟨#[32]⟩ : ByteArray).data.toList = [32] from rfl, hXl]
        rintro e w4 ⟨rfl, b4⟩
        have bw4 := bw1.trans (b4.mono bw1.size)
        obtain ⟨V, hV⟩ : ∃ V : ByteArray, V = ⟨(Lib.replaceAll x fw [32]).toArray⟩ := ⟨_, rfl⟩
        have hVl : V.data.toList = Lib.replaceAll x fw [32] := by rw [hV]
        rw [← hV]
        have HV : Hid (V = ⟨(Lib.replaceAll x fw [32]).toArray⟩) := hV
        have HVL : Hid (V.data.toList = Lib.replaceAll x fw [32]) := hVl
        clear hV hVl b4
        have hAs : A.size ≤ 65536 := by rw [HA.out, Lib.size_eq]; exact hal
        go_wp2_with fail
        refine (hn.impl_any A _ (by unfold maxLen; omega)).mono ?_
        rintro e w5 ⟨hsn, hw5⟩
        rw [hw5]
        clear hw5
        by_cases hname : hn.IsName A
        case neg =>
          obtain rfl := name_false hsn hname
          have HN : Hid (¬ ∃ nm v, Field hn.IsName s.data.toList nm v) := no_name HPA.out (by rw [← HA.out]; exact hname)
          clear hsn hname
          go_wp2
          go_ret3
          exact ⟨.inr (.inl ⟨h, HN.out, rfl⟩), bw4⟩
        obtain rfl := name_true hsn hname
        have HNM : Hid (hn.IsName A) := hname
        clear hsn hname
        by_cases hVs : V.size ≤ maxLen
        case neg =>
          exfalso
          apply hVs
          rw [Lib.size_eq, HVL.out, replaceAll_rep]
          have := rep_len x.length x (Nat.le_refl _)
          unfold maxLen
          omega
        go_wp2_with fail
        refine (sv.impl_any V _ hVs).mono ?_
        rintro e w6 ⟨hsv, hw6⟩
        rw [hw6]
        clear hw6
        rw [HVL.out] at hsv
        by_cases hsafe : hd.Safe (Lib.replaceAll x fw [32])
        case neg =>
          obtain rfl := sv.says_false hsv hsafe
          have HN : Hid (¬ ∃ nm v, Field hn.IsName s.data.toList nm v) := no_value HPA.out (fun e => hsafe ((value_iff x).2 e))
          clear hsv hsafe
          go_wp2
          go_ret3
          exact ⟨.inr (.inl ⟨h, HN.out, rfl⟩), bw4⟩
        obtain rfl := sv.says_true hsv hsafe
        have hVz : V.size ≤ 2000 := by rw [Lib.size_eq, HVL.out]; exact hsafe.1
        obtain ⟨v, hu, hvs⟩ := (value_iff x).1 hsafe
        have HU : Hid (unf false x = some v ∧ hd.Safe v) := ⟨hu, hvs⟩
        clear hsv hsafe hu hvs
        go_wp2_with fail
        refine (clone_uf A _ (by omega)).mono ?_
        rintro e w7 ⟨rfl, b7⟩
        go_wp2_with fail
        refine (clone_uf V _ (by omega)).mono ?_
        rintro e w8 ⟨rfl, b8⟩
        have bw8 := (bw4.trans (b7.mono bw4.size)).trans (b8.mono (bw4.trans (b7.mono bw4.size)).size)
        go_wp2
        go_ret3
        refine ⟨.inr (.inr ⟨h, a, v, ⟨x, HPA.out, by rw [← HA.out]; exact HNM.out, HU.out.1, HU.out.2⟩, ?_⟩), bw8⟩
        rw [HA.out, HV.out, value_eq HU.out.1]
        rfl
end Go.Proofs.YtbanjkkbobedhaaDoor.uf
