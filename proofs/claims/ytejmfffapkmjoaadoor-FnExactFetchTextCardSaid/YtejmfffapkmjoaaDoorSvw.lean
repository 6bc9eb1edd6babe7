/-
  Contracts of both SafeValue functions: whether a text is safe as a field's value.
-/
import Derived.Test.YtejmfffapkmjoaaDoorHdf
import Derived.Test.YtejmfffapkmjoaaDoorRows
import Derived.WalkKit
import Derived.WalkLawsBesides
namespace Go.Proofs.YtejmfffapkmjoaaDoor.sv
open Go.RowKit
set_option linter.unusedVariables false

def Says (p : Prop) (e : Ending) : Prop := ∃ b : Bool, e = .returned (.bool b) ∧ (b = true ↔ p)
theorem says_no {p : Prop} (h : ¬ p) : Says p (.returned (.bool false)) := ⟨false, rfl, fun x => (by cases x), fun x => absurd x h⟩
theorem says_yes {p : Prop} (h : p) : Says p (.returned (.bool true)) := ⟨true, rfl, fun _ => h, fun _ => rfl⟩
theorem says_ex {p : Prop} {e : Ending} (h : Says p e) : ∃ b : Bool, e = .returned (.bool b) := ⟨h.choose, h.choose_spec.1⟩
theorem says_same {p : Prop} {a b : Bool} (h1 : Says p (.returned (.bool a))) (h2 : Says p (.returned (.bool b))) : a = b := by
  obtain ⟨x, hx, h1⟩ := h1
  obtain ⟨y, hy, h2⟩ := h2
  cases hx; cases hy
  exact Bool.eq_iff_iff.2 (h1.trans h2.symm)
theorem says_true {p : Prop} {e : Ending} (h : Says p e) (hp : p) : e = .returned (.bool true) := by
  obtain ⟨b, rfl, hb⟩ := h
  rw [hb.2 hp]
theorem says_false {p : Prop} {e : Ending} (h : Says p e) (hp : ¬ p) : e = .returned (.bool false) := by
  obtain ⟨b, rfl, hb⟩ := h
  cases b
  · rfl
  · exact absurd (hb.1 rfl) hp

set_option maxHeartbeats 1000000 in
set_option maxRecDepth 100000 in
theorem impl_any (s : ByteArray) (w : World) (hs : s.size ≤ maxLen) :
    Calls Tryd.prog 87 #[.string s] w fun e w' => Says (hd.Safe s.data.toList) e ∧ w' = w := by
  unfold maxLen at hs
  by_cases h4 : 2000 < s.size
  · have h4' : (2000 : Int) < (s.size : Int) := by omega
    go_enter Tryd.func87, Tryd.ntmps87
    go_wp2
    go_ret
    exact ⟨says_no (hd.big h4), rfl⟩
  have h4' : (s.size : Int) ≤ 2000 := by omega
  have hz : (s.toList == []) = decide (s.size = 0) := by
    rw [Bool.eq_iff_iff, beq_iff_eq, decide_eq_true_iff]
    constructor
    · intro h; have := Lib.size_eq s; rw [← Lib.toList_data, h] at this; exact this
    · intro h; have := Lib.size_eq s; rw [h] at this; rw [Lib.toList_data]; exact List.eq_nil_of_length_eq_zero this.symm
  have HZ : Hid ((s.toList == []) = decide (s.size = 0)) := hz
  clear hz
  go_enter Tryd.func87, Tryd.ntmps87
  go_wp2
  go_loop [3, 11] (fun t i => ∃ k wd : Nat, k ≤ s.size ∧ i = .int .i64 k ∧ t = .int .i64 wd ∧ hd.wid (s.data.toList.take k) = some wd) (fun _ i => s.size - (intOf i).toNat)
  case atStart => exact ⟨0, 0, Nat.zero_le _, rfl, rfl, rfl⟩
  case round =>
    obtain ⟨k, wd, hk, rfl, rfl, hg⟩ := hrel
    have hw := hd.width_le hg
    have hw' : (wd : Int) ≤ 200 := by omega
    have HG : Hid (hd.wid (s.data.toList.take k) = some wd) := hg
    clear hg
    by_cases hlt : k < s.size
    · have HN : Hid (∀ o, hd.step (some wd) (s[k]'hlt) = o → hd.wid (s.data.toList.take (k + 1)) = o) := fun o ho => by rw [hd.wid_at s k hlt, HG.out]; exact ho
      by_cases c1 : ((s[k]'hlt).toNat : Int) < 32
      · go_wp2
        go_ret
        exact ⟨says_no (hd.bad_at hlt HG.out (hd.st_bad (.inl c1))), rfl⟩
      have d1 : decide (((s[k]'hlt).toNat : Int) < 32) = false := decide_eq_false c1
      by_cases c2 : 126 < ((s[k]'hlt).toNat : Int)
      · go_wp2
        go_ret
        exact ⟨says_no (hd.bad_at hlt HG.out (hd.st_bad (.inr c2))), rfl⟩
      have d2 : decide (126 < ((s[k]'hlt).toNat : Int)) = false := decide_eq_false c2
      by_cases c3 : ((s[k]'hlt).toNat : Int) = 32
      · have d3 : (((s[k]'hlt).toNat : Int) != 32) = false := by rw [bne_eq_false_iff_eq]; exact c3
        have HC : Hid (((s[k]'hlt).toNat : Int) = 32) := c3
        clear c3 c1 c2
        by_cases c4 : wd = 0
        · have d4 : ((wd : Int) == 0) = true := beq_iff_eq.2 (by omega)
          have H4 : Hid (wd = 0) := c4
          clear c4
          go_wp2
          go_ret
          exact ⟨says_no (hd.bad_at hlt HG.out (by rw [H4.out]; exact hd.st_sp0 HC.out)), rfl⟩
        · have d4 : ((wd : Int) == 0) = false := beq_eq_false_iff_ne.2 (by omega)
          go_wp2
          go_round
          case rel => exact ⟨k + 1, 0, by omega, by go_num, rfl, HN.out _ (hd.st_sp HC.out c4)⟩
          case measure => simp [intOf]; omega
      · have d3 : (((s[k]'hlt).toNat : Int) != 32) = true := by rw [bne_iff_ne]; exact c3
        by_cases c4 : 200 ≤ wd
        · have d4 : (200 : Int) < (wd : Int) + 1 := by omega
          go_wp2
          go_ret
          exact ⟨says_no (hd.bad_at hlt HG.out (hd.st_long c3 c4)), rfl⟩
        · have d4 : (wd : Int) + 1 ≤ 200 := by omega
          go_wp2
          go_round
          case rel => exact ⟨k + 1, wd + 1, by omega, by go_num, by go_num, HN.out _ (hd.st_ch (by omega) (by omega) c3 (by omega))⟩
          case measure => simp [intOf]; omega
    · have HA : Hid (hd.wid s.data.toList = some wd) := by have := HG.out; rw [hd.take_all s k (by omega)] at this; exact this
      by_cases c0 : s.size = 0
      · have e0 : (s.toList == []) = true := by rw [HZ.out]; exact decide_eq_true c0
        go_wp2
        go_ret
        exact ⟨says_yes (hd.good (by omega) HA.out (.inl c0)), rfl⟩
      · have e0 : (s.toList == []) = false := by rw [HZ.out]; exact decide_eq_false c0
        by_cases c4 : wd = 0
        · have d4 : decide (0 < wd) = false := decide_eq_false (by omega)
          have H4 : Hid (wd = 0) := c4
          clear c4
          go_wp2
          go_ret
          exact ⟨says_no (hd.endBad c0 (by have := HA.out; rw [H4.out] at this; exact this)), rfl⟩
        · have d4 : decide (0 < wd) = true := decide_eq_true (by omega)
          go_wp2
          go_ret
          exact ⟨says_yes (hd.good (by omega) HA.out (.inr (by omega))), rfl⟩

def inB (n a b : Int) : Bool := decide (a ≤ n ∧ n ≤ b)
set_option maxHeartbeats 400000 in
theorem in_any (n a b : Int) (w : World) : Calls Tryd.prog 11 #[.int .i64 n, .int .i64 a, .int .i64 b] w fun e w' => e = .returned (.bool (inB n a b)) ∧ w' = w := by
  by_cases h : a ≤ n
  · go_enter Tryd.func11, Tryd.ntmps11
    go_wp2
    all_goals (go_ret; exact ⟨by simp [inB, h], rfl⟩)
  · have h' : decide (a ≤ n) = false := decide_eq_false h
    go_enter Tryd.func11, Tryd.ntmps11
    go_wp2
    all_goals (go_ret; exact ⟨by rw [show inB n a b = false from decide_eq_false (by omega)]; rfl, rfl⟩)
theorem in_yes {n a b : Int} (h : a ≤ n) (h' : n ≤ b) : inB n a b = true := decide_eq_true ⟨h, h'⟩
theorem in_no {n a b : Int} (h : n < a ∨ b < n) : inB n a b = false := decide_eq_false (by omega)

set_option maxHeartbeats 1000000 in
set_option maxRecDepth 100000 in
theorem spec_any (s : ByteArray) (w : World) (hs : s.size ≤ maxLen) :
    Calls Tryd.prog 64 #[.string s] w fun e w' => Says (hd.Safe s.data.toList) e ∧ w' = w := by
  unfold maxLen at hs
  by_cases h9 : 65536 < s.size
  · have b9 : (65536 : Int) < (s.size : Int) := by omega
    go_enter Tryd.func64, Tryd.ntmps64
    go_wp2
    go_ret
    exact ⟨says_no (hd.big (by omega)), rfl⟩
  have b9 : (s.size : Int) ≤ 65536 := by omega
  by_cases h4 : 2000 < s.size
  · have h4' : (2000 : Int) < (s.size : Int) := by omega
    go_enter Tryd.func64, Tryd.ntmps64
    go_wp2
    go_ret
    exact ⟨says_no (hd.big h4), rfl⟩
  have h4' : (s.size : Int) ≤ 2000 := by omega
  go_enter Tryd.func64, Tryd.ntmps64
  go_wp2
  go_loop [3, 4] (fun t i => ∃ k wd : Nat, k ≤ s.size ∧ i = .int .i64 k ∧ t = .int .i64 wd ∧ hd.wid (s.data.toList.take k) = some wd ∧ (wd = 0 → k = 0 ∨ k < s.size)) (fun _ i => s.size - (intOf i).toNat)
  case atStart => exact ⟨0, 0, Nat.zero_le _, rfl, rfl, rfl, fun _ => .inl rfl⟩
  case round =>
    obtain ⟨k, wd, hk, rfl, rfl, hg, hq⟩ := hrel
    have hw := hd.width_le hg
    have hw' : (wd : Int) ≤ 200 := by omega
    have HG : Hid (hd.wid (s.data.toList.take k) = some wd) := hg
    have HQ : Hid (wd = 0 → k = 0 ∨ k < s.size) := hq
    clear hg hq
    by_cases hlt : k < s.size
    · have u : ((s[k]'hlt).toNat : Int) ≤ 255 := by have := (s[k]'hlt).toNat_lt; omega
      have HN : Hid (∀ o, hd.step (some wd) (s[k]'hlt) = o → hd.wid (s.data.toList.take (k + 1)) = o) := fun o ho => by rw [hd.wid_at s k hlt, HG.out]; exact ho
      by_cases c1 : ((s[k]'hlt).toNat : Int) < 32 ∨ 126 < ((s[k]'hlt).toNat : Int)
      · have b2 : inB ((s[k]'hlt).toNat : Int) 32 126 = false := in_no c1
        have HC : Hid (((s[k]'hlt).toNat : Int) < 32 ∨ 126 < ((s[k]'hlt).toNat : Int)) := c1
        clear c1
        go_wp2_with (go_at_call 11; refine (in_any _ _ _ _).mono ?_; rintro e w' ⟨rfl, rfl⟩)
        go_ret
        exact ⟨says_no (hd.bad_at hlt HG.out (hd.st_bad HC.out)), rfl⟩
      have b2 : inB ((s[k]'hlt).toNat : Int) 32 126 = true := in_yes (by omega) (by omega)
      have c1' : 32 ≤ ((s[k]'hlt).toNat : Int) := by omega
      have c2' : ((s[k]'hlt).toNat : Int) ≤ 126 := by omega
      clear c1
      by_cases c3 : ((s[k]'hlt).toNat : Int) = 32
      · have d3 : (((s[k]'hlt).toNat : Int) != 32) = false := by rw [bne_eq_false_iff_eq]; exact c3
        have HC : Hid (((s[k]'hlt).toNat : Int) = 32) := c3
        clear c3 c1' c2'
        by_cases c4 : wd = 0
        · have d4 : ((wd : Int) == 0) = true := beq_iff_eq.2 (by omega)
          have H4 : Hid (wd = 0) := c4
          clear c4
          go_wp2_with (go_at_call 11; refine (in_any _ _ _ _).mono ?_; rintro e w' ⟨rfl, rfl⟩)
          go_ret
          exact ⟨says_no (hd.bad_at hlt HG.out (by rw [H4.out]; exact hd.st_sp0 HC.out)), rfl⟩
        · have d4 : ((wd : Int) == 0) = false := beq_eq_false_iff_ne.2 (by omega)
          by_cases c5 : k + 1 = s.size
          · have d5 : ((k : Int) + 1 == (s.size : Int)) = true := beq_iff_eq.2 (by omega)
            have H5 : Hid (k + 1 = s.size) := c5
            clear c5
            go_wp2_with (go_at_call 11; refine (in_any _ _ _ _).mono ?_; rintro e w' ⟨rfl, rfl⟩)
            go_ret
            exact ⟨says_no (hd.endBad (by omega) (by have := HN.out _ (hd.st_sp HC.out c4); rw [hd.take_all s (k + 1) (by have := H5.out; omega)] at this; exact this)), rfl⟩
          · have d5 : ((k : Int) + 1 == (s.size : Int)) = false := beq_eq_false_iff_ne.2 (by omega)
            go_wp2_with (go_at_call 11; refine (in_any _ _ _ _).mono ?_; rintro e w' ⟨rfl, rfl⟩)
            go_round
            case rel => exact ⟨k + 1, 0, by omega, by go_num, rfl, HN.out _ (hd.st_sp HC.out c4), fun _ => .inr (by omega)⟩
            case measure => simp [intOf]; omega
      · have d3 : (((s[k]'hlt).toNat : Int) != 32) = true := by rw [bne_iff_ne]; exact c3
        by_cases c4 : 200 ≤ wd
        · have d4 : (200 : Int) < (wd : Int) + 1 := by omega
          go_wp2_with (go_at_call 11; refine (in_any _ _ _ _).mono ?_; rintro e w' ⟨rfl, rfl⟩)
          go_ret
          exact ⟨says_no (hd.bad_at hlt HG.out (hd.st_long c3 c4)), rfl⟩
        · have d4 : (wd : Int) + 1 ≤ 200 := by omega
          go_wp2_with (go_at_call 11; refine (in_any _ _ _ _).mono ?_; rintro e w' ⟨rfl, rfl⟩)
          go_round
          case rel => exact ⟨k + 1, wd + 1, by omega, by go_num, by go_num, HN.out _ (hd.st_ch (by omega) (by omega) c3 (by omega)), fun h => by omega⟩
          case measure => simp [intOf]; omega
    · have HA : Hid (hd.wid s.data.toList = some wd) := by have := HG.out; rw [hd.take_all s k (by omega)] at this; exact this
      go_wp2
      go_ret
      exact ⟨says_yes (hd.good (by omega) HA.out (by have := HQ.out; omega)), rfl⟩
end Go.Proofs.YtejmfffapkmjoaaDoor.sv
