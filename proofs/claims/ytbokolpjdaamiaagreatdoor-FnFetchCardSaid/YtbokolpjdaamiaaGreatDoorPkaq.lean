/-
  Contracts of both FoldHeader functions, whole.
  Plain facts on texts in one line: runs of blanks are one blank, none at an end; such a text stays as it is.
  Contracts of the functions on runes and names of XML: whether a number is a rune of XML, whether a byte begins a name or goes on in one, whether a text is a name; of the program and of the specification.
  Contracts of both XmlNameOK functions: whether a text is a name of XML.
  Contracts of impl.goodBytes and of the specification's l05Runes: how far a text is made of runes of XML.
-/
import Derived.Test.YtbokolpjdaamiaaGreatDoorPkap
import Derived.Test.YtbokolpjdaamiaaGreatDoorPkan
import Derived.Test.YtbokolpjdaamiaaGreatDoorRows
import Derived.WalkKit
import Derived.WalkLawsBesides
import Derived.Lib.Strings
import Derived.Test.YtbokolpjdaamiaaGreatDoorPkal
import Derived.Test.YtbokolpjdaamiaaGreatDoorPkam

namespace Go.Proofs.YtbokolpjdaamiaaGreatDoor.hf
open Go.RowKit
open Go.Proofs.YtbokolpjdaamiaaGreatDoor.hd (cutGo foldGo foldL words tv)
set_option linter.unusedVariables false

/-- What both FoldHeader functions answer. -/
def FhRet (nm s : ByteArray) (e : Ending) : Prop :=
  ((65536 < nm.size ∨ 65536 < s.size) ∧ e = .returned (.tuple #[.string ⟨#[]⟩, .int .i64 2])) ∨
  (nm.size ≤ 65536 ∧ s.size ≤ 65536 ∧ ¬ (hn.IsName nm ∧ hd.Safe s.data.toList) ∧ e = .returned (.tuple #[.string ⟨#[]⟩, .int .i64 1])) ∨
  (nm.size ≤ 65536 ∧ s.size ≤ 65536 ∧ (hn.IsName nm ∧ hd.Safe s.data.toList) ∧ ∃ r : ByteArray, r.data.toList = foldL nm.data.toList s.data.toList ∧ e = .returned (.tuple #[.string r, .int .i64 0]))
theorem fh_ex {nm s : ByteArray} {e : Ending} (h : FhRet nm s e) : ∃ (r : ByteArray) (c : Int), e = .returned (.tuple #[.string r, .int .i64 c]) := by
  rcases h with ⟨_, rfl⟩ | ⟨_, _, _, rfl⟩ | ⟨_, _, _, r, _, rfl⟩ <;> exact ⟨_, _, rfl⟩
theorem fh_same {nm s r r' : ByteArray} {c c' : Int} (h : FhRet nm s (.returned (.tuple #[.string r, .int .i64 c]))) (h' : FhRet nm s (.returned (.tuple #[.string r', .int .i64 c']))) : r = r' ∧ c = c' := by
  rcases h with ⟨a, h⟩ | ⟨a, a1, a2, h⟩ | ⟨a, a1, a2, q, hq, h⟩ <;>
  rcases h' with ⟨b, h'⟩ | ⟨b, b1, b2, h'⟩ | ⟨b, b1, b2, q', hq', h'⟩ <;>
  cases h <;> cases h' <;>
  first | exact ⟨rfl, rfl⟩ | exact ⟨ByteArray.ext (Array.toList_inj.1 (hq.trans hq'.symm)), rfl⟩ | (exfalso; omega) | (exfalso; exact a2 b2) | (exfalso; exact b2 a2)
theorem name_true {p : Prop} {e : Ending} (h : hn.Says p e) (hp : p) : e = .returned (.bool true) := by
  obtain ⟨b, rfl, hb⟩ := h
  rw [hb.2 hp]
theorem name_false {p : Prop} {e : Ending} (h : hn.Says p e) (hp : ¬ p) : e = .returned (.bool false) := by
  obtain ⟨b, rfl, hb⟩ := h
  cases b
  · rfl
  · exact absurd (hb.1 rfl) hp

theorem empty_iff (s : ByteArray) : s.toList.isEmpty = decide (s.size = 0) := by
  rw [Bool.eq_iff_iff, List.isEmpty_iff, decide_eq_true_iff]
  refine ⟨fun h => ?_, fun h => ?_⟩
  · have := Lib.size_eq s; rw [← Lib.toList_data, h] at this; exact this
  · have := Lib.size_eq s; rw [h] at this; rw [Lib.toList_data]; exact List.eq_nil_of_length_eq_zero this.symm
theorem fold_empty (nm : List UInt8) (wd : Nat) (f : Bool) : (nm ++ [58] ++ [32]) ++ foldGo f wd (words []) = nm ++ [58] ++ foldGo true (nm.length + 1) (cutGo [] []) := by
  simp [words, cutGo, foldGo]
theorem fold_some (nm l : List UInt8) (h : l ≠ []) : (nm ++ [58]) ++ foldGo (decide (0 = 0)) (nm ++ [58]).length ((words l).drop 0) = nm ++ [58] ++ foldGo true (nm.length + 1) (cutGo [] l) := by
  rw [words, if_neg h]
  simp

end Go.Proofs.YtbokolpjdaamiaaGreatDoor.hf

namespace Go.Proofs.YtbokolpjdaamiaaGreatDoor.li
set_option linter.unusedVariables false

def blk (c : UInt8) : Bool := c == 9 || c == 10 || c == 13 || c == 32
/-- What was told so far, and whether the last byte was a blank. -/
def step (x : List UInt8 × Bool) (c : UInt8) : List UInt8 × Bool :=
  if blk c then (x.1, true) else (if x.1.isEmpty = false && x.2 then x.1 ++ [32, c] else x.1 ++ [c], false)
def one (b : Bool) : Nat := cond b 1 0
def st (l : List UInt8) : List UInt8 × Bool := l.foldl step ([], false)
/-- A text in one line. -/
def line (l : List UInt8) : List UInt8 := (st l).1
theorem st_snoc (l : List UInt8) (c : UInt8) : st (l ++ [c]) = step (st l) c := by simp [st]
theorem step_blank {c : UInt8} (x : List UInt8 × Bool) (h : blk c = true) : step x c = (x.1, true) := by simp [step, h]
theorem step_other {c : UInt8} (x : List UInt8 × Bool) (h : blk c = false) : step x c = (if x.1.isEmpty = false && x.2 then x.1 ++ [32, c] else x.1 ++ [c], false) := by simp [step, h]
theorem step_two {c : UInt8} {x : List UInt8 × Bool} (h : blk c = false) (h1 : x.1 ≠ []) (h2 : x.2 = true) : step x c = (x.1 ++ [32, c], false) := by
  rw [step_other x h, if_pos]
  simp [h2, h1]
theorem step_one {c : UInt8} {x : List UInt8 × Bool} (h : blk c = false) (h1 : x.1 = [] ∨ x.2 = false) : step x c = (x.1 ++ [c], false) := by
  rw [step_other x h, if_neg]
  rcases h1 with h1 | h1 <;> simp [h1]
theorem step_prev (x : List UInt8 × Bool) (c : UInt8) : (step x c).2 = blk c := by
  cases h : blk c
  · rw [step_other x h]
  · rw [step_blank x h]
theorem step_len (x : List UInt8 × Bool) (c : UInt8) : (step x c).1.length + one (step x c).2 ≤ x.1.length + one x.2 + 1 := by
  cases h : blk c
  · by_cases h1 : x.1 ≠ [] ∧ x.2 = true
    · rw [step_two h h1.1 h1.2]; simp [h1.2, one]
    · rw [step_one h (by by_cases e : x.1 = []; exact .inl e; right; simpa [e] using h1)]; simp [one]
  · rw [step_blank x h]; simp [one]
theorem st_len (l : List UInt8) : ∀ x, (l.foldl step x).1.length + one (l.foldl step x).2 ≤ x.1.length + one x.2 + l.length := by
  induction l with
  | nil => intro x; simp
  | cons c l ih =>
    intro x
    have h1 := ih (step x c)
    have h2 := step_len x c
    simp only [List.foldl_cons, List.length_cons]
    omega
theorem line_len (l : List UInt8) : (line l).length ≤ l.length := by
  have := st_len l ([], false)
  simp only [line, st]
  simp [one] at this
  omega

/-- Blanks stand alone, between others. -/
def Nice (o : List UInt8) : Prop := ∀ i, i < o.length → blk (o.getD i 0) = true → o.getD i 0 = 32 ∧ 0 < i ∧ i + 1 < o.length ∧ blk (o.getD (i - 1) 0) = false
theorem get_left {a b : List UInt8} {i : Nat} (h : i < a.length) : (a ++ b).getD i 0 = a.getD i 0 := by
  simp only [List.getD_eq_getElem?_getD]; rw [List.getElem?_append_left h]
theorem get_right {a b : List UInt8} {i : Nat} : (a ++ b).getD (a.length + i) 0 = b.getD i 0 := by
  simp only [List.getD_eq_getElem?_getD]; rw [List.getElem?_append_right (by omega)]; simp
theorem nice_last {o : List UInt8} (h : Nice o) (h0 : o ≠ []) : blk (o.getD (o.length - 1) 0) = false := by
  have hl : 0 < o.length := List.length_pos_iff.2 h0
  cases hb : blk (o.getD (o.length - 1) 0)
  · rfl
  · have := h (o.length - 1) (by omega) hb
    omega
theorem nice_one {o : List UInt8} {c : UInt8} (h : Nice o) (hc : blk c = false) : Nice (o ++ [c]) := by
  intro i hi hb
  rw [List.length_append, List.length_singleton] at hi
  by_cases e : i < o.length
  · rw [get_left e] at hb ⊢
    obtain ⟨h1, h2, h3, h4⟩ := h i e hb
    rw [get_left (by omega)]
    exact ⟨h1, h2, by simp; omega, h4⟩
  · obtain rfl : i = o.length := by omega
    have := get_right (a := o) (b := [c]) (i := 0)
    rw [Nat.add_zero] at this
    rw [this] at hb
    simp [hc] at hb
theorem nice_two {o : List UInt8} {c : UInt8} (h : Nice o) (h0 : o ≠ []) (hc : blk c = false) : Nice (o ++ [32, c]) := by
  have hl : 0 < o.length := List.length_pos_iff.2 h0
  intro i hi hb
  rw [List.length_append] at hi
  simp at hi
  by_cases e : i < o.length
  · rw [get_left e] at hb ⊢
    obtain ⟨h1, h2, h3, h4⟩ := h i e hb
    rw [get_left (by omega)]
    exact ⟨h1, h2, by simp; omega, h4⟩
  · by_cases e2 : i = o.length
    · subst e2
      have := get_right (a := o) (b := [32, c]) (i := 0)
      rw [Nat.add_zero] at this
      rw [this, get_left (by omega)]
      exact ⟨rfl, hl, by simp, nice_last h h0⟩
    · obtain rfl : i = o.length + 1 := by omega
      rw [get_right] at hb
      simp [hc] at hb
theorem nice_step {x : List UInt8 × Bool} {c : UInt8} (h : Nice x.1) : Nice (step x c).1 := by
  cases hb : blk c
  · by_cases h1 : x.1 ≠ [] ∧ x.2 = true
    · rw [step_two hb h1.1 h1.2]; exact nice_two h h1.1 hb
    · rw [step_one hb (by by_cases e : x.1 = []; exact .inl e; right; simpa [e] using h1)]; exact nice_one h hb
  · rw [step_blank x hb]; exact h
theorem nice_fold (l : List UInt8) : ∀ x : List UInt8 × Bool, Nice x.1 → Nice (l.foldl step x).1 := by
  induction l with
  | nil => intro x h; exact h
  | cons c l ih => intro x h; exact ih _ (nice_step h)
theorem nice_st (l : List UInt8) : Nice (st l).1 := nice_fold l ([], false) (fun i hi => absurd hi (Nat.not_lt_zero _))
theorem nice_line (l : List UInt8) : Nice (line l) := nice_st l

/-- The state behind a beginning of a text that is in one line. -/
def At (o : List UInt8) (k : Nat) : List UInt8 × Bool := if k = 0 then ([], false) else if blk (o.getD (k - 1) 0) then (o.take (k - 1), true) else (o.take k, false)
theorem take_one (o : List UInt8) (k : Nat) (h : k < o.length) : o.take (k + 1) = o.take k ++ [o.getD k 0] := by
  rw [List.take_add_one, List.getElem?_eq_getElem h]
  simp [List.getD_eq_getElem?_getD, h]
theorem st_at {o : List UInt8} (h : Nice o) : ∀ k, k ≤ o.length → st (o.take k) = At o k := by
  intro k
  induction k with
  | zero => intro _; simp [st, At]
  | succ k ih =>
    intro hk
    rw [take_one o k (by omega), st_snoc, ih (by omega)]
    unfold At
    rw [if_neg (Nat.succ_ne_zero k), Nat.add_sub_cancel]
    cases hb : blk (o.getD k 0)
    · simp only [Bool.false_eq_true, if_false]
      by_cases h0 : k = 0
      · subst h0
        rw [if_pos rfl, step_one hb (.inl rfl)]
        rw [take_one o 0 (by omega)]
        simp
      · rw [if_neg h0]
        cases hp : blk (o.getD (k - 1) 0)
        · simp only [Bool.false_eq_true, if_false]
          rw [step_one hb (.inr rfl), take_one o k (by omega)]
        · simp only [if_true]
          obtain ⟨h1, h2, h3, h4⟩ := h (k - 1) (by omega) hp
          rw [step_two hb (by intro e; have := congrArg List.length e; rw [List.length_take] at this; simp only [List.length_nil] at this; omega) rfl, take_one o k (by omega)]
          have := take_one o (k - 1) (by omega)
          rw [show k - 1 + 1 = k from by omega] at this
          rw [this, h1]
          simp
    · simp only [if_true]
      rw [step_blank _ hb]
      obtain ⟨h1, h2, h3, h4⟩ := h k (by omega) hb
      rw [if_neg (by omega), h4]
      simp
/-- What is in one line stays as it is. -/
theorem line_nice {o : List UInt8} (h : Nice o) : line o = o := by
  have := st_at h o.length (Nat.le_refl _)
  rw [List.take_length] at this
  unfold line
  rw [this]
  unfold At
  by_cases h0 : o = []
  · subst h0; rfl
  · rw [if_neg (by intro e; exact h0 (List.eq_nil_of_length_eq_zero e)), nice_last h h0]
    simp
theorem line_line (l : List UInt8) : line (line l) = line l := line_nice (nice_line l)

/-- What the specification holds so far. -/
def spo (x : List UInt8 × Bool) : List UInt8 := if x.1.isEmpty = false && x.2 then x.1 ++ [32] else x.1
theorem spo_other {c : UInt8} (x : List UInt8 × Bool) (h : blk c = false) : spo (step x c) = spo x ++ [c] := by
  by_cases h1 : x.1 ≠ [] ∧ x.2 = true
  · rw [step_two h h1.1 h1.2]; simp [spo, h1.1, h1.2]
  · have e : x.1 = [] ∨ x.2 = false := by by_cases e : x.1 = []; exact .inl e; right; simpa [e] using h1
    rw [step_one h e]
    unfold spo
    rw [if_neg (by simp), if_neg (by rcases e with e | e <;> simp [e])]
theorem spo_nil {x : List UInt8 × Bool} (h : x.1 = []) : spo x = [] := by simp [spo, h]
theorem spo_has {x : List UInt8 × Bool} (h : x.1 ≠ []) (h2 : x.2 = true) : spo x = x.1 ++ [32] := by simp [spo, h, h2]
theorem spo_no {x : List UInt8 × Bool} (h2 : x.2 = false) : spo x = x.1 := by simp [spo, h2]
/-- The three ways in which a blank is met, and in which the end is. -/
theorem spo_cases {x : List UInt8 × Bool} (h : Nice x.1) : (spo x = [] ∧ x.1 = []) ∨ (spo x = x.1 ++ [32] ∧ x.1 ≠ []) ∨ (spo x = x.1 ∧ x.1 ≠ [] ∧ (x.1.getD (x.1.length - 1) 0 == 32) = false) := by
  by_cases h1 : x.1 = []
  · exact .inl ⟨spo_nil h1, h1⟩
  · cases h2 : x.2
    · refine .inr (.inr ⟨spo_no h2, h1, ?_⟩)
      have := nice_last h h1
      simp only [blk, Bool.or_eq_false_iff] at this
      exact this.2
    · exact .inr (.inl ⟨spo_has h1 h2, h1⟩)
theorem spo_blank {x : List UInt8 × Bool} {c : UInt8} (hb : blk c = true) (h : x.1 ≠ []) : spo (step x c) = x.1 ++ [32] := by rw [step_blank x hb]; exact spo_has h rfl
theorem spo_blank0 {x : List UInt8 × Bool} {c : UInt8} (hb : blk c = true) (h : x.1 = []) : spo (step x c) = [] := by rw [step_blank x hb]; exact spo_nil h
theorem spo_len (x : List UInt8 × Bool) : (spo x).length ≤ x.1.length + one x.2 := by
  unfold spo
  split
  · rename_i h
    simp at h
    simp [h.2, one]
  · omega
theorem spo_le (l : List UInt8) : (spo (st l)).length ≤ l.length := by
  have h1 := spo_len (st l)
  have h2 := st_len l ([], false)
  unfold st at h1 ⊢
  simp only [List.length_nil, Nat.zero_add] at h2
  have h4 : one false = 0 := rfl
  omega
end Go.Proofs.YtbokolpjdaamiaaGreatDoor.li

namespace Go.Proofs.YtbokolpjdaamiaaGreatDoor.xm
open Go.RowKit
set_option linter.unusedVariables false

/-- A rune of XML. -/
def xr (n : Int) : Bool := decide (n = 9 ∨ n = 10 ∨ n = 13 ∨ (32 ≤ n ∧ n ≠ 65534 ∧ n ≠ 65535 ∧ (n ≤ 55295 ∨ (57344 ≤ n ∧ n ≤ 1114111))))
def letB (c : Int) : Bool := decide (97 ≤ c ∧ c ≤ 122 ∨ 65 ≤ c ∧ c ≤ 90 ∨ c = 95)
def digB (c : Int) : Bool := decide (48 ≤ c ∧ c ≤ 57)
def morB (c : Int) : Bool := decide (48 ≤ c ∧ c ≤ 57 ∨ c = 45 ∨ c = 46 ∨ c = 58)
def gonB (c : Int) : Bool := letB c || morB c

theorem ret_bool {a b : Bool} (h : a = b) : Ending.returned (.bool a) = .returned (.bool b) := by rw [h]
theorem rsz_pos {n : Int} (h : 0 < ut.rsz n) : 0 ≤ n ∧ n ≤ 1114111 ∧ (n < 55296 ∨ 57343 < n) := by
  by_cases g : n < 0 ∨ 1114111 < n ∨ (55296 ≤ n ∧ n ≤ 57343)
  · rw [ut.rsz_no g] at h; omega
  · omega
theorem rsz_zero {n : Int} (h : ¬ 0 < ut.rsz n) : n < 0 ∨ 1114111 < n ∨ (55296 ≤ n ∧ n ≤ 57343) := by
  by_cases g : n < 0 ∨ 1114111 < n ∨ (55296 ≤ n ∧ n ≤ 57343)
  · exact g
  · exfalso; apply h; rw [ut.rsz_yes (by omega) (by omega) (by omega)]; (repeat' split) <;> omega


set_option maxHeartbeats 1000000 in
theorem spec_xr (n : Int) (w : World) : Calls Tryz.prog 47 #[.int .i64 n] w fun e w' => e = .returned (.bool (xr n)) ∧ w' = w := by
  by_cases h9 : n = 9
  · subst h9
    go_enter Tryz.func47, Tryz.ntmps47
    go_wp2
    all_goals (go_ret; exact ⟨rfl, rfl⟩)
  by_cases h10 : n = 10
  · subst h10
    go_enter Tryz.func47, Tryz.ntmps47
    go_wp2
    all_goals (go_ret; exact ⟨rfl, rfl⟩)
  by_cases h13 : n = 13
  · subst h13
    go_enter Tryz.func47, Tryz.ntmps47
    go_wp2
    all_goals (go_ret; exact ⟨rfl, rfl⟩)
  have b9 : (n == 9) = false := beq_eq_false_iff_ne.2 h9
  have b10 : (n == 10) = false := beq_eq_false_iff_ne.2 h10
  have b13 : (n == 13) = false := beq_eq_false_iff_ne.2 h13
  by_cases h : n < 32
  · have hd : decide (32 ≤ n) = false := decide_eq_false (by omega)
    go_enter Tryz.func47, Tryz.ntmps47
    go_wp2
    all_goals (go_ret; exact ⟨ret_bool (by symm; simp [xr]; omega), rfl⟩)
  · have hd : decide (32 ≤ n) = true := decide_eq_true (by omega)
    go_enter Tryz.func47, Tryz.ntmps47
    go_wp2_with fail
    refine (ut.scalar_any n _).mono ?_
    rintro e w' ⟨rfl, rfl⟩
    cases hz : ut.scB n
    · have hp : ¬ (n ≤ 55295 ∨ (57344 ≤ n ∧ n ≤ 1114111)) := by simp [ut.scB, ut.inB] at hz; omega
      go_wp2
      all_goals (go_ret; exact ⟨ret_bool (by symm; simp [xr]; omega), rfl⟩)
    · have hp : (n ≤ 55295 ∨ (57344 ≤ n ∧ n ≤ 1114111)) := by simp [ut.scB, ut.inB] at hz; omega
      go_wp2
      all_goals (go_ret; exact ⟨ret_bool (by rw [Bool.eq_iff_iff]; simp [xr]; omega), rfl⟩)
end Go.Proofs.YtbokolpjdaamiaaGreatDoor.xm

namespace Go.Proofs.YtbokolpjdaamiaaGreatDoor.xm
open Go.RowKit
set_option linter.unusedVariables false

def gon (c : UInt8) : Bool := gonB (c.toNat : Int)
/-- A list of bytes is a name of XML. -/
def okName (l : List UInt8) : Bool := decide (1 ≤ l.length ∧ l.length ≤ 40) && letB ((l.getD 0 0).toNat : Int) && l.all gon

theorem take_snoc (s : ByteArray) (k : Nat) (h : k < s.size) : s.data.toList.take (k + 1) = s.data.toList.take k ++ [s[k]] := by
  have hl : k < s.data.toList.length := by rw [← Lib.size_eq]; exact h
  rw [List.take_succ_eq_append_getElem hl]
  rfl
theorem take_all (s : ByteArray) (k : Nat) (h : s.size ≤ k) : s.data.toList.take k = s.data.toList := List.take_of_length_le (by rw [← Lib.size_eq]; exact h)
theorem all_step {s : ByteArray} {p : UInt8 → Bool} {k : Nat} (h : k < s.size) (ha : (s.data.toList.take k).all p = true) (hp : p s[k] = true) : (s.data.toList.take (k + 1)).all p = true := by
  rw [take_snoc s k h, List.all_append, ha]; simp [hp]
theorem all_no {s : ByteArray} {p : UInt8 → Bool} {k : Nat} (h : k < s.size) (hp : p s[k] = false) : s.data.toList.all p = false := by
  cases hc : s.data.toList.all p
  · rfl
  · have hm : s[k] ∈ s.data.toList := by
      have hl : k < s.data.toList.length := by rw [← Lib.size_eq]; exact h
      have : s[k] = s.data.toList[k] := rfl
      rw [this]; exact List.getElem_mem hl
    rw [List.all_eq_true.1 hc _ hm] at hp; cases hp
theorem head_at (s : ByteArray) (h : 0 < s.size) : s.data.toList.getD 0 0 = s[0] := by
  have hl : 0 < s.data.toList.length := by rw [← Lib.size_eq]; exact h
  rw [List.getD_eq_getElem?_getD, List.getElem?_eq_getElem hl]
  rfl
theorem no_size {s : ByteArray} (h : s.size = 0 ∨ 40 < s.size) : okName s.data.toList = false := by
  have : ¬ (1 ≤ s.data.toList.length ∧ s.data.toList.length ≤ 40) := by rw [← Lib.size_eq]; omega
  unfold okName; rw [decide_eq_false this]; rfl
theorem no_head {s : ByteArray} (h : 0 < s.size) (hb : letB ((s[0]'h).toNat : Int) = false) : okName s.data.toList = false := by
  unfold okName; rw [head_at s h, hb]; simp
theorem no_byte {s : ByteArray} {k : Nat} (h : k < s.size) (hb : gon s[k] = false) : okName s.data.toList = false := by
  unfold okName; rw [all_no h hb]; simp
theorem yes_name {s : ByteArray} (h0 : 0 < s.size) (h1 : s.size ≤ 40) (hb : letB ((s[0]'h0).toNat : Int) = true) (ha : s.data.toList.all gon = true) : okName s.data.toList = true := by
  have : 1 ≤ s.data.toList.length ∧ s.data.toList.length ≤ 40 := by rw [← Lib.size_eq]; omega
  unfold okName; rw [head_at s h0, hb, ha]; simp only [this]; rfl

end Go.Proofs.YtbokolpjdaamiaaGreatDoor.xm

namespace Go.Proofs.YtbokolpjdaamiaaGreatDoor.xm
open Go.RowKit
set_option linter.unusedVariables false

theorem F_le (n k b0 b1 b2 b3 : Nat) (h0 : b0 < 256) : (ut.decF n k b0 b1 b2 b3).1 ≤ 1114111 := by
  unfold ut.decF
  split
  · simp; omega
  split
  · split <;> simp <;> omega
  split
  · split <;> simp <;> omega
  split
  · split
    · rename_i g
      simp [Utf8.valid] at g
      simp
      omega
    · simp
  · simp
theorem dec_le (s : ByteArray) (k : Nat) : (Utf8.decode s k).1 ≤ 1114111 := by rw [ut.dec_eq]; exact F_le _ _ _ _ _ _ (UInt8.toNat_lt _)

/-- No rune of XML begins at this place. -/
def xbad (s : ByteArray) (k : Nat) : Prop := ut.badAt s k ∨ xr ((Utf8.decode s k).1 : Int) = false
/-- So far, and no further, a text is made of runes of XML. -/
def GoodTo (s : ByteArray) (g : Nat) : Prop := ∃ n, g = ut.pos s n ∧ g ≤ s.size ∧ (∀ m, m < n → ¬ xbad s (ut.pos s m)) ∧ (g = s.size ∨ (g < s.size ∧ xbad s g))

theorem good_lt {s : ByteArray} {n n' : Nat} (h : ut.pos s n ≤ s.size) (h' : ut.pos s n' ≤ s.size) (hb : ∀ m, m < n' → ¬ xbad s (ut.pos s m)) (he : ut.pos s n = s.size ∨ (ut.pos s n < s.size ∧ xbad s (ut.pos s n))) (hlt : n < n') : ut.pos s n = ut.pos s n' := by
  rcases he with he | ⟨_, he⟩
  · have := ut.pos_mono s n (n' - n)
    rw [show n + (n' - n) = n' from by omega] at this
    omega
  · exact absurd he (hb n hlt)
theorem good_one {s : ByteArray} {g g' : Nat} (h : GoodTo s g) (h' : GoodTo s g') : g = g' := by
  obtain ⟨n, rfl, hs, hb, he⟩ := h
  obtain ⟨n', rfl, hs', hb', he'⟩ := h'
  rcases Nat.lt_trichotomy n n' with hlt | rfl | hlt
  · exact good_lt hs hs' hb' he hlt
  · rfl
  · exact (good_lt hs' hs hb he' hlt).symm
theorem good_step {s : ByteArray} {n : Nat} (hg : ∀ m, m < n → ¬ xbad s (ut.pos s m)) (h : ¬ xbad s (ut.pos s n)) : ∀ m, m < n + 1 → ¬ xbad s (ut.pos s m) := by
  intro m hm
  by_cases e : m = n
  · subst e; exact h
  · exact hg m (by omega)


set_option maxHeartbeats 1000000 in
theorem spec_good (s : ByteArray) (w : World) (hs : s.size ≤ 1048576) :
    Calls Tryz.prog 23 #[.string s] w fun e w' => (∃ g : Nat, GoodTo s g ∧ e = .returned (.int .i64 (if g = s.size then -1 else (g : Int)))) ∧ w' = w := by
  go_enter Tryz.func23, Tryz.ntmps23
  go_wp2
  go_loop [3, 4, 5, 6] (fun i _ _ _ => ∃ n : Nat, ut.pos s n ≤ s.size ∧ i = .int .i64 (ut.pos s n) ∧ ∀ m, m < n → ¬ xbad s (ut.pos s m)) (fun i _ _ _ => s.size - (intOf i).toNat)
  case atStart => exact ⟨0, Nat.zero_le _, rfl, fun j hj => absurd hj (Nat.not_lt_zero _)⟩
  case round =>
    obtain ⟨n, hn, rfl, hg⟩ := hrel
    have HG : Hid (∀ m, m < n → ¬ xbad s (ut.pos s m)) := hg
    clear hg
    obtain ⟨p, hp⟩ : ∃ p, p = ut.pos s n := ⟨_, rfl⟩
    rw [← hp] at hn ⊢
    have HP : Hid (p = ut.pos s n) := hp
    clear hp
    by_cases hlt : p < s.size
    · go_wp2_with fail
      refine (ut.rune_any s p _ hs hlt).mono ?_
      rintro e w' ⟨hr, rfl⟩
      rcases hr with ⟨hb, rfl⟩ | ⟨hb, rfl⟩
      · have HB : Hid (ut.badAt s p) := hb
        clear hb
        go_wp2
        go_ret
        exact ⟨⟨p, ⟨n, HP.out, hn, HG.out, .inr ⟨hlt, .inl HB.out⟩⟩, by rw [if_neg (by omega)]; rfl⟩, rfl⟩
      · have HB : Hid (¬ ut.badAt s p) := hb
        clear hb
        have hw := ut.wide s p hlt
        cases hx : xr ((Utf8.decode s p).1 : Int)
        case false =>
          have HX : Hid (xr ((Utf8.decode s p).1 : Int) = false) := hx
          go_wp2_with (go_at_call 47; refine (spec_xr _ _).mono ?_; rintro e w' ⟨rfl, rfl⟩; rw [hx])
          go_ret
          exact ⟨⟨p, ⟨n, HP.out, hn, HG.out, .inr ⟨hlt, .inr HX.out⟩⟩, by rw [if_neg (by omega)]; rfl⟩, rfl⟩
        case true =>
          have HX : Hid (xr ((Utf8.decode s p).1 : Int) = true) := hx
          go_wp2_with (go_at_call 47; refine (spec_xr _ _).mono ?_; rintro e w' ⟨rfl, rfl⟩; rw [hx])
          go_round
          case rel => exact ⟨n + 1, by rw [ut.pos, ← HP.out]; exact (ut.wide s p hlt).2, by rw [ut.pos, ← HP.out]; go_num, good_step HG.out (by rw [← HP.out]; rintro (h | h); exact HB.out h; rw [HX.out] at h; cases h)⟩
          case measure => have := ut.wide s p hlt; simp [intOf]; omega
    · go_wp2
      go_ret
      exact ⟨⟨s.size, ⟨n, by have := HP.out; omega, Nat.le_refl _, HG.out, .inl rfl⟩, by rw [if_pos rfl]; rfl⟩, rfl⟩
end Go.Proofs.YtbokolpjdaamiaaGreatDoor.xm
