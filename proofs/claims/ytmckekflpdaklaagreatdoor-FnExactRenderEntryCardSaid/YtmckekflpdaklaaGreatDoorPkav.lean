/-
  Contracts of the functions on names: a letter, a digit, a word, and both NameOK functions answer whether a text is a name, and leave the world as it was.
  Plain facts on quoted text: what a line's bytes come to, step by step.
-/
import Derived.Test.YtmckekflpdaklaaGreatDoorRows
import Derived.WalkKit
import Derived.WalkLawsBesides
import Derived.Test.YtmckekflpdaklaaGreatDoorPkai

namespace Go.Proofs.YtmckekflpdaklaaGreatDoor.nm
open Go.RowKit
set_option linter.unusedVariables false

def letB (c : Int) : Bool := decide (97 ≤ c ∧ c ≤ 122 ∨ 65 ≤ c ∧ c ≤ 90 ∨ c = 95)
def digB (c : Int) : Bool := decide (48 ≤ c ∧ c ≤ 57)

theorem ret_bool {a b : Bool} (h : a = b) : Ending.returned (.bool a) = .returned (.bool b) := by rw [h]

set_option maxHeartbeats 400000 in
theorem begins_any (c : Int) (w : World) : Calls Tryz.prog 42 #[.int .u8 c] w fun e w' => e = .returned (.bool (letB c)) ∧ w' = w := by
  go_enter Tryz.func42, Tryz.ntmps42
  go_wp2
  all_goals (go_ret; exact ⟨ret_bool (by rw [Bool.eq_iff_iff]; simp [letB]; omega), rfl⟩)

set_option maxHeartbeats 400000 in
theorem letter_any (c : Int) (w : World) : Calls Tryz.prog 75 #[.int .u8 c] w fun e w' => e = .returned (.bool (letB c)) ∧ w' = w := by
  go_enter Tryz.func75, Tryz.ntmps75
  go_wp2
  all_goals (go_ret; exact ⟨ret_bool (by rw [Bool.eq_iff_iff]; simp [letB]; omega), rfl⟩)

set_option maxHeartbeats 400000 in
theorem isDigit_any (c : Int) (w : World) : Calls Tryz.prog 43 #[.int .u8 c] w fun e w' => e = .returned (.bool (digB c)) ∧ w' = w := by
  go_enter Tryz.func43, Tryz.ntmps43
  go_wp2
  all_goals (go_ret; exact ⟨ret_bool (by simp [digB]; omega), rfl⟩)

set_option maxHeartbeats 400000 in
theorem digit_any (c : Int) (w : World) : Calls Tryz.prog 76 #[.int .u8 c] w fun e w' => e = .returned (.bool (digB c)) ∧ w' = w := by
  go_enter Tryz.func76, Tryz.ntmps76
  go_wp2
  all_goals (go_ret; exact ⟨ret_bool (by simp [digB]; omega), rfl⟩)

/-- The byte at a place may stand there in a name. -/
def good (s : ByteArray) (j : Nat) : Prop := ∃ h : j < s.size, letB ((s[j]'h).toNat : Int) = true ∨ (0 < j ∧ digB ((s[j]'h).toNat : Int) = true)
/-- A text is a name. -/
def IsName (s : ByteArray) : Prop := 1 ≤ s.size ∧ s.size ≤ 40 ∧ ∀ j, j < s.size → good s j

/-- What a call on a name answers: a bool that says whether it is one. -/
def NameRet (s : ByteArray) (e : Ending) : Prop := ∃ b : Bool, e = .returned (.bool b) ∧ (b = true ↔ IsName s)

theorem not_name {s : ByteArray} {k : Nat} (h : k < s.size) (hl : ¬ letB ((s[k]'h).toNat : Int) = true) (hd : k = 0 ∨ digB ((s[k]'h).toNat : Int) = false) : NameRet s (.returned (.bool false)) := by
  refine ⟨false, rfl, ?_⟩
  constructor
  · intro x; cases x
  · rintro ⟨_, _, hg⟩
    obtain ⟨h', hx⟩ := hg k h
    rcases hx with hx | ⟨hp, hx⟩
    · exact absurd hx hl
    · rcases hd with rfl | hd
      · omega
      · rw [hd] at hx; cases hx
theorem no_size {s : ByteArray} (h : s.size = 0 ∨ 40 < s.size) : NameRet s (.returned (.bool false)) :=
  ⟨false, rfl, ⟨fun x => (by cases x), fun x => (by have h1 := x.1; have h2 := x.2.1; omega)⟩⟩
theorem yes_name {s : ByteArray} (h1 : 1 ≤ s.size) (h2 : s.size ≤ 40) (hg : ∀ j, j < s.size → good s j) : NameRet s (.returned (.bool true)) :=
  ⟨true, rfl, ⟨fun _ => ⟨h1, h2, hg⟩, fun _ => rfl⟩⟩
theorem step {s : ByteArray} {k : Nat} (hg : ∀ j, j < k → good s j) (h : k < s.size) (hx : letB ((s[k]'h).toNat : Int) = true ∨ (0 < k ∧ digB ((s[k]'h).toNat : Int) = true)) : ∀ j, j < k + 1 → good s j := by
  intro j hj
  by_cases e : j = k
  · subst e; exact ⟨h, hx⟩
  · exact hg j (by omega)
theorem same_ret {s : ByteArray} {a b : Bool} (h1 : NameRet s (.returned (.bool a))) (h2 : NameRet s (.returned (.bool b))) : a = b := by
  obtain ⟨x, hx, h1⟩ := h1
  obtain ⟨y, hy, h2⟩ := h2
  cases hx; cases hy
  exact Bool.eq_iff_iff.2 (h1.trans h2.symm)
theorem ret_ex {s : ByteArray} {e : Ending} (h : NameRet s e) : ∃ b : Bool, e = .returned (.bool b) := ⟨h.choose, h.choose_spec.1⟩

set_option maxHeartbeats 1000000 in
theorem implName_any (s : ByteArray) (w : World) (hs : s.size ≤ 1048576) :
    Calls Tryz.prog 16 #[.string s] w fun e w' => NameRet s e ∧ w' = w := by
  by_cases h0 : s.size = 0
  · have b0 : ((s.size : Int) == 0) = true := beq_iff_eq.2 (by omega)
    go_enter Tryz.func16, Tryz.ntmps16
    go_wp2
    go_ret
    exact ⟨no_size (.inl h0), rfl⟩
  have b0 : ((s.size : Int) == 0) = false := beq_eq_false_iff_ne.2 (by omega)
  by_cases h4 : 40 < s.size
  · have h4' : (40 : Int) < (s.size : Int) := by omega
    go_enter Tryz.func16, Tryz.ntmps16
    go_wp2
    go_ret
    exact ⟨no_size (.inr h4), rfl⟩
  have h4' : (s.size : Int) ≤ 40 := by omega
  go_enter Tryz.func16, Tryz.ntmps16
  go_wp2
  go_loop [14] (fun i => ∃ k : Nat, k ≤ s.size ∧ i = .int .i64 k ∧ ∀ j, j < k → good s j) (fun i => s.size - (intOf i).toNat)
  case atStart => exact ⟨0, Nat.zero_le _, rfl, fun j hj => absurd hj (Nat.not_lt_zero _)⟩
  case round =>
    obtain ⟨k, hk, rfl, hg⟩ := hrel
    have HG : Hid (∀ j, j < k → good s j) := hg
    clear hg
    by_cases hlt : k < s.size
    · go_wp2_with (first | (go_at_call 42; refine (begins_any _ _).mono ?_; rintro e w' ⟨rfl, rfl⟩) | (go_at_call 43; refine (isDigit_any _ _).mono ?_; rintro e w' ⟨rfl, rfl⟩))
      · go_round
        case rel => exact ⟨k + 1, by omega, by go_num, step HG.out hlt (.inl ‹_›)⟩
        case measure => simp [intOf]; omega
      · go_ret
        exact ⟨not_name hlt ‹_› (.inl ‹_›), rfl⟩
      · go_ret
        exact ⟨not_name hlt ‹_› (by rename_i h; simp at h; omega), rfl⟩
      · go_round
        case rel => exact ⟨k + 1, by omega, by go_num, step HG.out hlt (.inr ⟨by omega, by rename_i h; simpa using h.2⟩)⟩
        case measure => simp [intOf]; omega
    · go_wp2
      go_ret
      exact ⟨yes_name (by omega) (by omega) (fun j hj => HG.out j (by omega)), rfl⟩

set_option maxHeartbeats 1000000 in
theorem word_any (s : ByteArray) (w : World) (hs : s.size ≤ 1048576) :
    Calls Tryz.prog 31 #[.string s] w fun e w' => NameRet s e ∧ w' = w := by
  by_cases h0 : s.size = 0
  · have b0 : (s.size : Int) < 1 := by omega
    go_enter Tryz.func31, Tryz.ntmps31
    go_wp2
    go_ret
    exact ⟨no_size (.inl h0), rfl⟩
  have b0 : (1 : Int) ≤ (s.size : Int) := by omega
  by_cases h4 : 40 < s.size
  · have h4' : (40 : Int) < (s.size : Int) := by omega
    go_enter Tryz.func31, Tryz.ntmps31
    go_wp2
    go_ret
    exact ⟨no_size (.inr h4), rfl⟩
  have h4' : (s.size : Int) ≤ 40 := by omega
  have hp : 0 < s.size := by omega
  by_cases hl0 : letB ((s[0]'hp).toNat : Int) = true
  case neg =>
    go_enter Tryz.func31, Tryz.ntmps31
    go_wp2_with (go_at_call 75; refine (letter_any _ _).mono ?_; rintro e w' ⟨rfl, rfl⟩)
    go_ret
    exact ⟨not_name hp hl0 (.inl rfl), rfl⟩
  have HL : Hid (letB ((s[0]'hp).toNat : Int) = true) := hl0
  go_enter Tryz.func31, Tryz.ntmps31
  go_wp2_with (go_at_call 75; refine (letter_any _ _).mono ?_; rintro e w' ⟨rfl, rfl⟩)
  go_loop [3] (fun i => ∃ k : Nat, 1 ≤ k ∧ k ≤ s.size ∧ i = .int .i64 k ∧ ∀ j, j < k → good s j) (fun i => s.size - (intOf i).toNat)
  case atStart => exact ⟨1, Nat.le_refl _, hp, rfl, step (k := 0) (fun j hj => absurd hj (Nat.not_lt_zero _)) hp (.inl HL.out)⟩
  case round =>
    obtain ⟨k, hk1, hk, rfl, hg⟩ := hrel
    have HG : Hid (∀ j, j < k → good s j) := hg
    clear hg
    by_cases hlt : k < s.size
    · go_wp2_with (first | (go_at_call 75; refine (letter_any _ _).mono ?_; rintro e w' ⟨rfl, rfl⟩) | (go_at_call 76; refine (digit_any _ _).mono ?_; rintro e w' ⟨rfl, rfl⟩))
      · go_round
        case rel => exact ⟨k + 1, by omega, by omega, by go_num, step HG.out hlt (.inl ‹_›)⟩
        case measure => simp [intOf]; omega
      · go_ret
        exact ⟨not_name hlt ‹_› (by rename_i h; simp at h; exact .inr h), rfl⟩
      · go_round
        case rel => exact ⟨k + 1, by omega, by omega, by go_num, step HG.out hlt (.inr ⟨by omega, by rename_i h; simpa using h⟩)⟩
        case measure => simp [intOf]; omega
    · go_wp2
      go_ret
      exact ⟨yes_name (by omega) (by omega) (fun j hj => HG.out j (by omega)), rfl⟩

theorem specName_any (s : ByteArray) (w : World) (hs : s.size ≤ 1048576) :
    Calls Tryz.prog 13 #[.string s] w fun e w' => NameRet s e ∧ w' = w := by
  go_enter Tryz.func13, Tryz.ntmps13
  go_wp2_with fail
  refine (word_any s _ hs).mono ?_
  rintro e w' ⟨hn, rfl⟩
  obtain ⟨b, rfl⟩ := ret_ex hn
  go_wp2
  go_ret
  exact ⟨hn, rfl⟩
end Go.Proofs.YtmckekflpdaklaaGreatDoor.nm

namespace Go.Proofs.YtmckekflpdaklaaGreatDoor.qu
set_option linter.unusedVariables false

/-- The end of a line stands here. -/
def crlf (l : List UInt8) : Bool := l.head? == some 13 && l.tail.head? == some 10
/-- The byte ahead of this is the last one of its line. -/
def lastb (r : List UInt8) : Bool := r.isEmpty || crlf r
def hx (n : Nat) : UInt8 := tb.digs.getD n 0
def plain (c : UInt8) (la : Bool) : Bool := (decide (33 ≤ c.toNat) && decide (c.toNat ≤ 126) && c != 61) || (c == 32 && !la)
def form (c : UInt8) (la : Bool) : List UInt8 := if plain c la then [c] else [61, hx (c.toNat / 16), hx (c.toNat % 16)]
def lim (la : Bool) : Nat := if la then 76 else 75
/-- The quoted text of bytes, behind w characters of a line; of an end of line the second byte is passed by. -/
def qtS : Bool → Nat → List UInt8 → List UInt8
  | _, _, [] => []
  | true, _, _ :: r => qtS false 0 r
  | false, w, c :: r => if crlf (c :: r) then 13 :: 10 :: qtS true 0 r
    else if lim (lastb r) < w + (form c (lastb r)).length then 61 :: 13 :: 10 :: (form c (lastb r) ++ qtS false (form c (lastb r)).length r)
    else form c (lastb r) ++ qtS false (w + (form c (lastb r)).length) r
def qt (w : Nat) (l : List UInt8) : List UInt8 := qtS false w l

theorem qt_nil (w : Nat) : qt w [] = [] := by rw [qt, qtS]
theorem qt_crlf (w : Nat) (r : List UInt8) : qt w (13 :: 10 :: r) = 13 :: 10 :: qt 0 r := by
  rw [qt, qtS, if_pos (by simp [crlf]), qtS, qt]
theorem qt_soft {w : Nat} {c : UInt8} {r : List UInt8} (h : crlf (c :: r) = false) (h2 : lim (lastb r) < w + (form c (lastb r)).length) : qt w (c :: r) = 61 :: 13 :: 10 :: (form c (lastb r) ++ qt (form c (lastb r)).length r) := by
  rw [qt, qtS, if_neg (by rw [h]; decide), if_pos h2, qt]
theorem qt_on {w : Nat} {c : UInt8} {r : List UInt8} (h : crlf (c :: r) = false) (h2 : ¬ lim (lastb r) < w + (form c (lastb r)).length) : qt w (c :: r) = form c (lastb r) ++ qt (w + (form c (lastb r)).length) r := by
  rw [qt, qtS, if_neg (by rw [h]; decide), if_neg h2, qt]
theorem form_len (c : UInt8) (la : Bool) : 1 ≤ (form c la).length ∧ (form c la).length ≤ 3 := by
  unfold form
  split <;> simp
theorem crlf_iff {l : List UInt8} : crlf l = true ↔ ∃ r, l = 13 :: 10 :: r := by
  match l with
  | [] => simp [crlf]
  | [a] => simp [crlf]
  | a :: b :: r => simp [crlf]
theorem crlf_at (l : List UInt8) (i : Nat) : crlf (l.drop i) = (l.getD i 0 == 13 && l.getD (i + 1) 0 == 10) := by
  by_cases h : i < l.length
  · rw [b6.drop_cons h]
    by_cases h2 : i + 1 < l.length
    · rw [b6.drop_cons h2]
      simp [crlf]
    · rw [List.drop_eq_nil_of_le (i := i + 1) (by omega)]
      have e : l.getD (i + 1) 0 = 0 := by rw [List.getD_eq_getElem?_getD, List.getElem?_eq_none (by omega)]; rfl
      rw [e]
      simp [crlf]
  · rw [List.drop_eq_nil_of_le (by omega)]
    have e : l.getD i 0 = 0 := by rw [List.getD_eq_getElem?_getD, List.getElem?_eq_none (by omega)]; rfl
    rw [e]
    simp [crlf]
theorem last_at (l : List UInt8) (i : Nat) : lastb (l.drop i) = (decide (l.length ≤ i) || (l.getD i 0 == 13 && l.getD (i + 1) 0 == 10)) := by
  unfold lastb
  rw [crlf_at]
  congr 1
  by_cases h : l.length ≤ i
  · rw [List.drop_eq_nil_of_le h]
    simp [h]
  · rw [b6.drop_cons (by omega)]
    simp [h]
theorem at_crlf {l : List UInt8} {i w : Nat} (h : crlf (l.drop i) = true) : qt w (l.drop i) = [13, 10] ++ qt 0 (l.drop (i + 2)) := by
  obtain ⟨r, hr⟩ := crlf_iff.1 h
  have e : l.drop (i + 2) = r := by rw [← List.drop_drop, hr]; rfl
  rw [hr, qt_crlf, e]
  rfl
theorem at_soft {l : List UInt8} {i w : Nat} {la : Bool} {f : List UInt8} (hi : i < l.length) (h : crlf (l.drop i) = false) (hla : la = lastb (l.drop (i + 1))) (hf : f = form (l.getD i 0) la) (h2 : lim la < w + f.length) : qt w (l.drop i) = ([61, 13, 10] ++ f) ++ qt f.length (l.drop (i + 1)) := by
  subst hla hf
  rw [b6.drop_cons hi] at h ⊢
  rw [qt_soft h h2]
  simp
theorem at_on {l : List UInt8} {i w : Nat} {la : Bool} {f : List UInt8} (hi : i < l.length) (h : crlf (l.drop i) = false) (hla : la = lastb (l.drop (i + 1))) (hf : f = form (l.getD i 0) la) (h2 : ¬ lim la < w + f.length) : qt w (l.drop i) = f ++ qt (w + f.length) (l.drop (i + 1)) := by
  subst hla hf
  rw [b6.drop_cons hi] at h ⊢
  rw [qt_on h h2]
theorem grow {q p : List UInt8} {l : List UInt8} {i j w w' : Nat} (h : q ++ qt w (l.drop i) = qt 0 l) (e : qt w (l.drop i) = p ++ qt w' (l.drop j)) : (q ++ p) ++ qt w' (l.drop j) = qt 0 l := by
  rw [List.append_assoc, ← e, h]
theorem qt_len_n : ∀ (n : Nat) (w : Nat) (l : List UInt8), l.length ≤ n → (qt w l).length ≤ 6 * l.length := by
  intro n
  induction n with
  | zero =>
    intro w l h
    obtain rfl : l = [] := List.eq_nil_of_length_eq_zero (by omega)
    rw [qt_nil]
    simp
  | succ n ih =>
    intro w l h
    match l, h with
    | [], _ => rw [qt_nil]; simp
    | c :: r, h =>
      have hr : r.length ≤ n := by simp at h; omega
      by_cases hc : crlf (c :: r) = true
      · obtain ⟨r', hr'⟩ := crlf_iff.1 hc
        obtain ⟨rfl, rfl⟩ := List.cons.inj hr'
        rw [qt_crlf]
        have := ih 0 r' (by simp at hr; omega)
        simp
        omega
      · have hcf : crlf (c :: r) = false := by simpa using hc
        have hf := form_len c (lastb r)
        by_cases h2 : lim (lastb r) < w + (form c (lastb r)).length
        · rw [qt_soft hcf h2]
          have := ih (form c (lastb r)).length r hr
          simp
          omega
        · rw [qt_on hcf h2]
          have := ih (w + (form c (lastb r)).length) r hr
          simp
          omega
theorem qt_len (w : Nat) (l : List UInt8) : (qt w l).length ≤ 6 * l.length := qt_len_n l.length w l (Nat.le_refl _)
end Go.Proofs.YtmckekflpdaklaaGreatDoor.qu
