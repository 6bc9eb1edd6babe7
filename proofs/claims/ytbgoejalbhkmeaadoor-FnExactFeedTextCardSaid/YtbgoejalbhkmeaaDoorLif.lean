/-
  Plain facts on texts in one line: runs of blanks are one blank, none at an end; such a text stays as it is.
-/
namespace Go.Proofs.YtbgoejalbhkmeaaDoor.li
set_option linter.unusedVariables false

def blk (c : UInt8) : Bool := c == 9 || c == 10 || c == 13 || c == 32
/-- What was told so far, and whether the last byte was a blank. -/
def step (x : List UInt8 × Bool) (c : UInt8) : List UInt8 × Bool :=
  if blk c then (x.1, true) else (if x.1.isEmpty = false && x.2 then x.1 ++ [32, c] else x.1 ++ [c], false)
def one (b : Bool) : Nat := cond b 1 0
def st (l : List UInt8) : List UInt8 × Bool := l.foldl step ([], false)
/-- A text in one line. -/
def line (l : List UInt8) : List UInt8 := (st l).1
theorem st_snoc (l : List UInt8) (c : UInt8) : st (l ++ [c]) = step (st l) c := by simp [st]
theorem step_blank {c : UInt8} (x : List UInt8 × Bool) (h : blk c = true) : step x c = (x.1, true) := by simp [step, h]
theorem step_other {c : UInt8} (x : List UInt8 × Bool) (h : blk c = false) : step x c = (if x.1.isEmpty = false && x.2 then x.1 ++ [32, c] else x.1 ++ [c], false) := by simp [step, h]
theorem step_two {c : UInt8} {x : List UInt8 × Bool} (h : blk c = false) (h1 : x.1 ≠ []) (h2 : x.2 = true) : step x c = (x.1 ++ [32, c], false) := by
  rw [step_other x h, if_pos]
  simp [h2, h1]
theorem step_one {c : UInt8} {x : List UInt8 × Bool} (h : blk c = false) (h1 : x.1 = [] ∨ x.2 = false) : step x c = (x.1 ++ [c], false) := by
  rw [step_other x h, if_neg]
  rcases h1 with h1 | h1 <;> simp [h1]
theorem step_prev (x : List UInt8 × Bool) (c : UInt8) : (step x c).2 = blk c := by
  cases h : blk c
  · rw [step_other x h]
  · rw [step_blank x h]
theorem step_len (x : List UInt8 × Bool) (c : UInt8) : (step x c).1.length + one (step x c).2 ≤ x.1.length + one x.2 + 1 := by
  cases h : blk c
  · by_cases h1 : x.1 ≠ [] ∧ x.2 = true
    · rw [step_two h h1.1 h1.2]; simp [h1.2, one]
    · rw [step_one h (by by_cases e : x.1 = []; exact .inl e; right; simpa [e] using h1)]; simp [one]
  · rw [step_blank x h]; simp [one]
theorem st_len (l : List UInt8) : ∀ x, (l.foldl step x).1.length + one (l.foldl step x).2 ≤ x.1.length + one x.2 + l.length := by
  induction l with
  | nil => intro x; simp
  | cons c l ih =>
    intro x
    have h1 := ih (step x c)
    have h2 := step_len x c
    simp only [List.foldl_cons, List.length_cons]
    omega
theorem line_len (l : List UInt8) : (line l).length ≤ l.length := by
  have := st_len l ([], false)
  simp only [line, st]
  simp [one] at this
  omega

/-- Blanks stand alone, between others. -/
def Nice (o : List UInt8) : Prop := ∀ i, i < o.length → blk (o.getD i 0) = true → o.getD i 0 = 32 ∧ 0 < i ∧ i + 1 < o.length ∧ blk (o.getD (i - 1) 0) = false
theorem get_left {a b : List UInt8} {i : Nat} (h : i < a.length) : (a ++ b).getD i 0 = a.getD i 0 := by
  simp only [List.getD_eq_getElem?_getD]; rw [List.getElem?_append_left h]
theorem get_right {a b : List UInt8} {i : Nat} : (a ++ b).getD (a.length + i) 0 = b.getD i 0 := by
  simp only [List.getD_eq_getElem?_getD]; rw [List.getElem?_append_right (by omega)]; simp
theorem nice_last {o : List UInt8} (h : Nice o) (h0 : o ≠ []) : blk (o.getD (o.length - 1) 0) = false := by
  have hl : 0 < o.length := List.length_pos_iff.2 h0
  cases hb : blk (o.getD (o.length - 1) 0)
  · rfl
  · have := h (o.length - 1) (by omega) hb
    omega
theorem nice_one {o : List UInt8} {c : UInt8} (h : Nice o) (hc : blk c = false) : Nice (o ++ [c]) := by
  intro i hi hb
  rw [List.length_append, List.length_singleton] at hi
  by_cases e : i < o.length
  · rw [get_left e] at hb ⊢
    obtain ⟨h1, h2, h3, h4⟩ := h i e hb
    rw [get_left (by omega)]
    exact ⟨h1, h2, by simp; omega, h4⟩
  · obtain rfl : i = o.length := by omega
    have := get_right (a := o) (b := [c]) (i := 0)
    rw [Nat.add_zero] at this
    rw [this] at hb
    simp [hc] at hb
theorem nice_two {o : List UInt8} {c : UInt8} (h : Nice o) (h0 : o ≠ []) (hc : blk c = false) : Nice (o ++ [32, c]) := by
  have hl : 0 < o.length := List.length_pos_iff.2 h0
  intro i hi hb
  rw [List.length_append] at hi
  simp at hi
  by_cases e : i < o.length
  · rw [get_left e] at hb ⊢
    obtain ⟨h1, h2, h3, h4⟩ := h i e hb
    rw [get_left (by omega)]
    exact ⟨h1, h2, by simp; omega, h4⟩
  · by_cases e2 : i = o.length
    · subst e2
      have := get_right (a := o) (b := [32, c]) (i := 0)
      rw [Nat.add_zero] at this
      rw [this, get_left (by omega)]
      exact ⟨rfl, hl, by simp, nice_last h h0⟩
    · obtain rfl : i = o.length + 1 := by omega
      rw [get_right] at hb
      simp [hc] at hb
theorem nice_step {x : List UInt8 × Bool} {c : UInt8} (h : Nice x.1) : Nice (step x c).1 := by
  cases hb : blk c
  · by_cases h1 : x.1 ≠ [] ∧ x.2 = true
    · rw [step_two hb h1.1 h1.2]; exact nice_two h h1.1 hb
    · rw [step_one hb (by by_cases e : x.1 = []; exact .inl e; right; simpa [e] using h1)]; exact nice_one h hb
  · rw [step_blank x hb]; exact h
theorem nice_fold (l : List UInt8) : ∀ x : List UInt8 × Bool, Nice x.1 → Nice (l.foldl step x).1 := by
  induction l with
  | nil => intro x h; exact h
  | cons c l ih => intro x h; exact ih _ (nice_step h)
theorem nice_st (l : List UInt8) : Nice (st l).1 := nice_fold l ([], false) (fun i hi => absurd hi (Nat.not_lt_zero _))
theorem nice_line (l : List UInt8) : Nice (line l) := nice_st l

/-- The state behind a beginning of a text that is in one line. -/
def At (o : List UInt8) (k : Nat) : List UInt8 × Bool := if k = 0 then ([], false) else if blk (o.getD (k - 1) 0) then (o.take (k - 1), true) else (o.take k, false)
theorem take_one (o : List UInt8) (k : Nat) (h : k < o.length) : o.take (k + 1) = o.take k ++ [o.getD k 0] := by
  rw [List.take_add_one, List.getElem?_eq_getElem h]
  simp [List.getD_eq_getElem?_getD, h]
theorem st_at {o : List UInt8} (h : Nice o) : ∀ k, k ≤ o.length → st (o.take k) = At o k := by
  intro k
  induction k with
  | zero => intro _; simp [st, At]
  | succ k ih =>
    intro hk
    rw [take_one o k (by omega), st_snoc, ih (by omega)]
    unfold At
    rw [if_neg (Nat.succ_ne_zero k), Nat.add_sub_cancel]
    cases hb : blk (o.getD k 0)
    · simp only [Bool.false_eq_true, if_false]
      by_cases h0 : k = 0
      · subst h0
        rw [if_pos rfl, step_one hb (.inl rfl)]
        rw [take_one o 0 (by omega)]
        simp
      · rw [if_neg h0]
        cases hp : blk (o.getD (k - 1) 0)
        · simp only [Bool.false_eq_true, if_false]
          rw [step_one hb (.inr rfl), take_one o k (by omega)]
        · simp only [if_true]
          obtain ⟨h1, h2, h3, h4⟩ := h (k - 1) (by omega) hp
          rw [step_two hb (by intro e; have := congrArg List.length e; rw [List.length_take] at this; simp only [List.length_nil] at this; omega) rfl, take_one o k (by omega)]
          have := take_one o (k - 1) (by omega)
          rw [show k - 1 + 1 = k from by omega] at this
          rw [this, h1]
          simp
    · simp only [if_true]
      rw [step_blank _ hb]
      obtain ⟨h1, h2, h3, h4⟩ := h k (by omega) hb
      rw [if_neg (by omega), h4]
      simp
/-- What is in one line stays as it is. -/
theorem line_nice {o : List UInt8} (h : Nice o) : line o = o := by
  have := st_at h o.length (Nat.le_refl _)
  rw [List.take_length] at this
  unfold line
  rw [this]
  unfold At
  by_cases h0 : o = []
  · subst h0; rfl
  · rw [if_neg (by intro e; exact h0 (List.eq_nil_of_length_eq_zero e)), nice_last h h0]
    simp
theorem line_line (l : List UInt8) : line (line l) = line l := line_nice (nice_line l)

/-- What the specification holds so far. -/
def spo (x : List UInt8 × Bool) : List UInt8 := if x.1.isEmpty = false && x.2 then x.1 ++ [32] else x.1
theorem spo_other {c : UInt8} (x : List UInt8 × Bool) (h : blk c = false) : spo (step x c) = spo x ++ [c] := by
  by_cases h1 : x.1 ≠ [] ∧ x.2 = true
  · rw [step_two h h1.1 h1.2]; simp [spo, h1.1, h1.2]
  · have e : x.1 = [] ∨ x.2 = false := by by_cases e : x.1 = []; exact .inl e; right; simpa [e] using h1
    rw [step_one h e]
    unfold spo
    rw [if_neg (by simp), if_neg (by rcases e with e | e <;> simp [e])]
theorem spo_nil {x : List UInt8 × Bool} (h : x.1 = []) : spo x = [] := by simp [spo, h]
theorem spo_has {x : List UInt8 × Bool} (h : x.1 ≠ []) (h2 : x.2 = true) : spo x = x.1 ++ [32] := by simp [spo, h, h2]
theorem spo_no {x : List UInt8 × Bool} (h2 : x.2 = false) : spo x = x.1 := by simp [spo, h2]
/-- The three ways in which a blank is met, and in which the end is. -/
theorem spo_cases {x : List UInt8 × Bool} (h : Nice x.1) : (spo x = [] ∧ x.1 = []) ∨ (spo x = x.1 ++ [32] ∧ x.1 ≠ []) ∨ (spo x = x.1 ∧ x.1 ≠ [] ∧ (x.1.getD (x.1.length - 1) 0 == 32) = false) := by
  by_cases h1 : x.1 = []
  · exact .inl ⟨spo_nil h1, h1⟩
  · cases h2 : x.2
    · refine .inr (.inr ⟨spo_no h2, h1, ?_⟩)
      have := nice_last h h1
      simp only [blk, Bool.or_eq_false_iff] at this
      exact this.2
    · exact .inr (.inl ⟨spo_has h1 h2, h1⟩)
theorem spo_blank {x : List UInt8 × Bool} {c : UInt8} (hb : blk c = true) (h : x.1 ≠ []) : spo (step x c) = x.1 ++ [32] := by rw [step_blank x hb]; exact spo_has h rfl
theorem spo_blank0 {x : List UInt8 × Bool} {c : UInt8} (hb : blk c = true) (h : x.1 = []) : spo (step x c) = [] := by rw [step_blank x hb]; exact spo_nil h
theorem spo_len (x : List UInt8 × Bool) : (spo x).length ≤ x.1.length + one x.2 := by
  unfold spo
  split
  · rename_i h
    simp at h
    simp [h.2, one]
  · omega
theorem spo_le (l : List UInt8) : (spo (st l)).length ≤ l.length := by
  have h1 := spo_len (st l)
  have h2 := st_len l ([], false)
  unfold st at h1 ⊢
  simp only [List.length_nil, Nat.zero_add] at h2
  have h4 : one false = 0 := rfl
  omega
end Go.Proofs.YtbgoejalbhkmeaaDoor.li
