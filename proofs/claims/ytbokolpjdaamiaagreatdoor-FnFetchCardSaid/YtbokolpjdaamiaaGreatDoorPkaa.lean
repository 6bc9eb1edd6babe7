/-
  Plain facts on mails: lines of characters below 128, each ended by CRLF.
  Plain facts on a mail's header: fields, each up to an end of a line that no blank follows, an empty line, the body.
-/
import Derived.Lib.IndexMore
import Derived.Lib.IndexLaws

namespace Go.Proofs.YtbokolpjdaamiaaGreatDoor.ml
open Go
set_option linter.unusedVariables false

/-- A character that may stand in no line. -/
def bad (c : UInt8) : Bool := c == 0 || decide (127 < c.toNat) || c == 13 || c == 10
/-- Whether a text, behind some characters of a line, is lines of a mail. -/
def mok : Nat → List UInt8 → Bool
  | w, [] => w == 0
  | w, [c] => false
  | w, a :: b :: r => if a = 13 ∧ b = 10 then mok 0 r else if bad a = true ∨ 998 < w + 1 then false else mok (w + 1) (b :: r)
def nl : List UInt8 := [13, 10]
def good (l : List UInt8) : Bool := l.all fun c => !bad c
theorem good_iff {l : List UInt8} : good l = true ↔ ∀ c ∈ l, bad c = false := by simp [good]

theorem mok_end (w : Nat) (r : List UInt8) : mok w (13 :: 10 :: r) = mok 0 r := by rw [mok, if_pos ⟨rfl, rfl⟩]
/-- A character that begins no end of a line. -/
theorem mok_cons {w : Nat} {c : UInt8} {r : List UInt8} (h : ¬ (c = 13 ∧ r.head? = some 10)) : mok w (c :: r) = (decide (bad c = false ∧ w + 1 ≤ 998) && mok (w + 1) r) := by
  match r with
  | [] =>
    rw [mok, mok]
    simp
  | b :: r =>
    rw [mok, if_neg (by simpa using h)]
    by_cases h1 : bad c = true ∨ 998 < w + 1
    · rw [if_pos h1, decide_eq_false (by rintro ⟨h2, h3⟩; rcases h1 with h1 | h1; rw [h2] at h1; cases h1; omega)]
      rfl
    · rw [if_neg h1, decide_eq_true ⟨by simpa using fun e => h1 (.inl e), by omega⟩]
      rfl
theorem mok_bad {w : Nat} {c : UInt8} {r : List UInt8} (h : ¬ (c = 13 ∧ r.head? = some 10)) (hb : bad c = true ∨ 998 < w + 1) : mok w (c :: r) = false := by
  rw [mok_cons h, decide_eq_false (by rintro ⟨h2, h3⟩; rcases hb with h1 | h1; rw [h2] at h1; cases h1; omega)]
  rfl
theorem mok_good {w : Nat} {c : UInt8} {r : List UInt8} (h : ¬ (c = 13 ∧ r.head? = some 10)) (hb : bad c = false) (hw : w + 1 ≤ 998) : mok w (c :: r) = mok (w + 1) r := by
  rw [mok_cons h, decide_eq_true ⟨hb, hw⟩]
  rfl
theorem head_pre {c : UInt8} {r : List UInt8} : nl.isPrefixOf (c :: r) = true ↔ c = 13 ∧ r.head? = some 10 := by
  unfold nl
  match r with
  | [] => simp
  | a :: q =>
    simp only [List.isPrefixOf, Bool.and_eq_true, beq_iff_eq, List.head?_cons, Option.some.injEq, and_true]
    exact ⟨fun h => ⟨h.1.symm, h.2.symm⟩, fun h => ⟨h.1.symm, h.2.symm⟩⟩
theorem index_cons (c : UInt8) (r : List UInt8) : Lib.index (c :: r) nl = if nl.isPrefixOf (c :: r) then 0 else if Lib.index r nl == -1 then -1 else Lib.index r nl + 1 := by rw [Lib.index]
/-- Without an end of a line no text but the empty one is lines. -/
theorem mok_none : ∀ (l : List UInt8) (w : Nat), Lib.index l nl = -1 → (w ≠ 0 ∨ l ≠ []) → mok w l = false
  | [], w, _, h => by
    rw [mok]
    have : w ≠ 0 := h.resolve_right (fun h => h rfl)
    simpa using this
  | c :: r, w, hi, _ => by
    rw [index_cons] at hi
    by_cases hp : nl.isPrefixOf (c :: r) = true
    · rw [if_pos hp] at hi; cases hi
    · rw [if_neg hp] at hi
      have hr : Lib.index r nl = -1 := by
        by_cases e : Lib.index r nl = -1
        · exact e
        · rw [if_neg (by simpa using e)] at hi
          have := Lib.index_ge r nl
          omega
      rw [mok_cons (fun h => hp (head_pre.2 h)), mok_none r (w + 1) hr (.inl (by omega)), Bool.and_false]
/-- A line, its end and the rest. -/
theorem mok_line : ∀ (l : List UInt8) (w i : Nat), Lib.index l nl = i → mok w l = (decide (good (l.take i) = true ∧ w + i ≤ 998 ∨ i = 0) && mok 0 (l.drop (i + 2)))
  | [], w, i, h => by simp [Lib.index, nl] at h
  | c :: r, w, i, h => by
    rw [index_cons] at h
    by_cases hp : nl.isPrefixOf (c :: r) = true
    · rw [if_pos hp] at h
      obtain rfl : i = 0 := by omega
      obtain ⟨rfl, h2⟩ := head_pre.1 hp
      match r, h2 with
      | b :: q, h2 =>
        cases h2
        rw [mok_end, decide_eq_true (.inr rfl)]
        rfl
    · rw [if_neg hp] at h
      have hge := Lib.index_ge r nl
      by_cases h1 : Lib.index r nl = -1
      · rw [if_pos (by rw [h1]; rfl)] at h
        omega
      · rw [if_neg (by simpa using h1)] at h
        obtain ⟨j, rfl⟩ : ∃ j, i = j + 1 := ⟨i - 1, by omega⟩
        rw [mok_cons (fun h => hp (head_pre.2 h)), mok_line r (w + 1) j (by omega), ← Bool.and_assoc]
        congr 1
        rw [← Bool.decide_and]
        apply decide_eq_decide.2
        simp only [List.take_succ_cons, good_iff, List.mem_cons, forall_eq_or_imp]
        constructor
        · rintro ⟨⟨h1, h2⟩, ⟨h3, h4⟩ | h3⟩
          · exact .inl ⟨⟨h1, h3⟩, by omega⟩
          · subst h3
            exact .inl ⟨⟨h1, by simp⟩, by omega⟩
        · rintro (⟨⟨h1, h2⟩, h3⟩ | h3)
          · exact ⟨⟨h1, by omega⟩, .inl ⟨h2, by omega⟩⟩
          · omega
theorem mok_zero {l : List UInt8} {i : Nat} (h : Lib.index l nl = i) : mok 0 l = (decide (good (l.take i) = true ∧ i ≤ 998) && mok 0 (l.drop (i + 2))) := by
  rw [mok_line l 0 i h]
  congr 1
  apply decide_eq_decide.2
  constructor
  · rintro (⟨h1, h2⟩ | rfl)
    · exact ⟨h1, by omega⟩
    · exact ⟨by simp [good], by omega⟩
  · rintro ⟨h1, h2⟩
    exact .inl ⟨h1, by omega⟩
end Go.Proofs.YtbokolpjdaamiaaGreatDoor.ml

namespace Go.Proofs.YtbokolpjdaamiaaGreatDoor.ml
open Go
set_option linter.unusedVariables false

abbrev B := List UInt8
/-- An end of a line at a place, which no blank follows. -/
def EndAt (l : B) (k : Nat) : Prop := (l.drop k).take 2 = nl ∧ (l.drop (k + 2)).head? ≠ some 32
/-- The first field's text, and what is behind it. -/
def Chunk (l f r : B) : Prop := ∃ k, f = l.take (k + 2) ∧ r = l.drop (k + 2) ∧ EndAt l k ∧ ∀ j, j < k → ¬ EndAt l j
def Pre (l : B) : Prop := l.take 2 = nl
/-- The fields at a text's beginning, and what is behind them. -/
def Run (F : B → B → B → Prop) : List (B × B) → B → B → Prop
  | [], l, r => l = r
  | x :: fs, l, r => ¬ Pre l ∧ ∃ f q, Chunk l f q ∧ F f x.1 x.2 ∧ Run F fs q r
def RunE (F : B → B → B → Prop) : List (B × B) → B → B → Prop
  | [], l, r => l = r
  | x :: fs, l, r => ∃ f q, Chunk l f q ∧ F f x.1 x.2 ∧ RunE F fs q r
/-- Fields, an empty line, the body. -/
def Par (F : B → B → B → Prop) (fs : List (B × B)) (l b : B) : Prop := ∃ r, Run F fs l r ∧ Pre r ∧ b = r.drop 2
def One (F : B → B → B → Prop) : Prop := ∀ l a b a' b', F l a b → F l a' b' → a = a' ∧ b = b'

theorem len_end {l : B} {k : Nat} (h : (l.drop k).take 2 = nl) : k + 2 ≤ l.length := by
  have := congrArg List.length h
  rw [List.length_take, List.length_drop] at this
  have e : nl.length = 2 := rfl
  omega
theorem chunk_one {l f r f' r' : B} (h : Chunk l f r) (h' : Chunk l f' r') : f = f' ∧ r = r' := by
  obtain ⟨k, rfl, rfl, h1, h2⟩ := h
  obtain ⟨k', rfl, rfl, h1', h2'⟩ := h'
  obtain rfl : k = k' := by
    rcases Nat.lt_trichotomy k k' with h | h | h
    · exact absurd h1 (h2' k h)
    · exact h
    · exact absurd h1' (h2 k' h)
  exact ⟨rfl, rfl⟩
theorem run_snoc {F : B → B → B → Prop} {x : B × B} {f q : B} : ∀ {fs : List (B × B)} {l r : B}, Run F fs l r → ¬ Pre r → Chunk r f q → F f x.1 x.2 → Run F (fs ++ [x]) l q
  | [], l, r, h, h1, h2, h3 => by
    cases h
    exact ⟨h1, f, q, h2, h3, rfl⟩
  | y :: fs, l, r, ⟨h0, f', q', hc, hf, hr⟩, h1, h2, h3 => ⟨h0, f', q', hc, hf, run_snoc hr h1 h2 h3⟩
theorem runE_snoc {F : B → B → B → Prop} {x : B × B} {f q : B} : ∀ {fs : List (B × B)} {l r : B}, RunE F fs l r → Chunk r f q → F f x.1 x.2 → RunE F (fs ++ [x]) l q
  | [], l, r, h, h2, h3 => by
    cases h
    exact ⟨f, q, h2, h3, rfl⟩
  | y :: fs, l, r, ⟨f', q', hc, hf, hr⟩, h2, h3 => ⟨f', q', hc, hf, runE_snoc hr h2 h3⟩
/-- Whatever fields a text has, they go on from those that were read. -/
theorem run_par {F : B → B → B → Prop} (hF : One F) : ∀ {fs fs' : List (B × B)} {l r b : B}, Run F fs l r → Par F fs' l b → ∃ gs, fs' = fs ++ gs ∧ Par F gs r b
  | [], fs', l, r, b, h, hp => by
    cases h
    exact ⟨fs', rfl, hp⟩
  | x :: fs, [], l, r, b, ⟨h0, _⟩, ⟨r', h1, h2, _⟩ => by
    cases h1
    exact absurd h2 h0
  | x :: fs, y :: fs', l, r, b, ⟨h0, f, q, hc, hf, hr⟩, ⟨r', ⟨h0', f', q', hc', hf', hr'⟩, h2, h3⟩ => by
    obtain ⟨rfl, rfl⟩ := chunk_one hc hc'
    obtain ⟨e1, e2⟩ := hF _ _ _ _ _ hf hf'
    obtain rfl : x = y := Prod.ext e1 e2
    obtain ⟨gs, rfl, hg⟩ := run_par hF hr ⟨r', hr', h2, h3⟩
    exact ⟨gs, rfl, hg⟩
theorem par_one {F : B → B → B → Prop} (hF : One F) {fs fs' : List (B × B)} {l b b' : B} (h : Par F fs l b) (h' : Par F fs' l b') : fs = fs' ∧ b = b' := by
  obtain ⟨r, h1, h2, rfl⟩ := h
  obtain ⟨gs, rfl, r', h3, h4, rfl⟩ := run_par hF h1 h'
  match gs, h3 with
  | [], h3 => cases h3; exact ⟨by simp, rfl⟩
  | x :: gs, h3 => exact absurd h2 h3.1
/-- Where the next field is none, or one too many, there is no mail. -/
theorem no_par {F : B → B → B → Prop} (hF : One F) {fs : List (B × B)} {l r : B} (h : Run F fs l r) (hp : ¬ Pre r) (hn : fs.length = 40 ∨ ∀ f q, Chunk r f q → ¬ ∃ a v, F f a v) : ¬ ∃ fs' b, Par F fs' l b ∧ fs'.length ≤ 40 := by
  rintro ⟨fs', b, hP, hl⟩
  obtain ⟨gs, rfl, r', h1, h2, _⟩ := run_par hF h hP
  match gs, h1 with
  | [], h1 => cases h1; exact hp h2
  | x :: gs, ⟨_, f, q, hc, hf, _⟩ =>
    rcases hn with hn | hn
    · simp at hl; omega
    · exact hn f q hc ⟨_, _, hf⟩

/-- A text that ends with an end of a line, or is empty. -/
def Ends (l : B) : Prop := l = [] ∨ ∃ x, l = x ++ nl
theorem get_two {l : B} {k : Nat} (h : (l.drop k).take 2 = nl) : l[k]? = some 13 ∧ l[k + 1]? = some 10 := by
  have h0 : ((l.drop k).take 2)[0]? = some 13 := by rw [h]; rfl
  have h1 : ((l.drop k).take 2)[1]? = some 10 := by rw [h]; rfl
  rw [List.getElem?_take, if_pos (by omega), List.getElem?_drop] at h0 h1
  exact ⟨h0, h1⟩
theorem two_of {l : B} {k : Nat} (h0 : l[k]? = some 13) (h1 : l[k + 1]? = some 10) : (l.drop k).take 2 = nl := by
  obtain ⟨k0, e0⟩ := List.getElem?_eq_some_iff.1 h0
  obtain ⟨k1, e1⟩ := List.getElem?_eq_some_iff.1 h1
  rw [List.drop_eq_getElem_cons k0, List.drop_eq_getElem_cons k1, e0, e1]
  rfl
theorem ends_drop {l : B} {k : Nat} (h : Ends l) (hk : (l.drop k).take 2 = nl) : Ends (l.drop (k + 2)) := by
  have hl := len_end hk
  rcases h with rfl | ⟨x, rfl⟩
  · simp at hl
  rw [List.length_append] at hl
  have e : nl.length = 2 := rfl
  by_cases h1 : k + 2 ≤ x.length
  · exact .inr ⟨x.drop (k + 2), by rw [List.drop_append_of_le_length h1]⟩
  · by_cases h2 : k + 1 = x.length
    · have := (get_two hk).2
      rw [h2, List.getElem?_append_right (Nat.le_refl _), Nat.sub_self] at this
      cases this
    · exact .inl (List.drop_eq_nil_of_le (by rw [List.length_append]; omega))
/-- A line that begins with something ends somewhere. -/
theorem index_some {l : B} (h : Ends l) (h0 : l ≠ []) (h1 : l.length ≠ 1) : ∃ i : Nat, Lib.index l nl = i := by
  rcases Lib.index_spec l nl with ⟨_, hno⟩ | ⟨i, hi, _⟩
  · exfalso
    rcases h with h | ⟨x, rfl⟩
    · exact h0 h
    · have := hno x.length (by simp)
      rw [Bool.eq_false_iff] at this
      apply this
      unfold Lib.occAt
      rw [List.drop_left]
      simp
  · exact ⟨i, hi⟩
theorem ends_len {l : B} (h : Ends l) : l.length ≠ 1 := by
  rcases h with rfl | ⟨x, rfl⟩
  · simp
  · rw [List.length_append]; have e : nl.length = 2 := rfl; omega
theorem occ_iff {l : B} {k : Nat} : Lib.occAt l nl k = true ↔ (l.drop k).take 2 = nl := by
  unfold Lib.occAt
  rw [List.isPrefixOf_iff_prefix]
  constructor
  · rintro ⟨t, ht⟩
    rw [← ht]
    rfl
  · intro h
    exact ⟨(l.drop k).drop 2, by rw [← h, List.take_append_drop]⟩
theorem index_at {l : B} {i : Nat} (h : Lib.index l nl = i) : (l.drop i).take 2 = nl ∧ ∀ j, j < i → ¬ (l.drop j).take 2 = nl := by
  rcases Lib.index_spec l nl with ⟨h1, _⟩ | ⟨i', h1, h2, h3, h4⟩
  · rw [h1] at h; omega
  · obtain rfl : i' = i := by rw [h1] at h; omega
    refine ⟨occ_iff.1 h3, fun j hj hh => ?_⟩
    have := h4 j hj
    rw [occ_iff.2 hh] at this
    cases this
/-- How the end of a field is looked for: ends of lines that a blank follows are passed by. -/
def Seek (l : B) (p : Nat) : Prop := ∃ j, p = j + 2 ∧ (l.drop j).take 2 = nl ∧ ∀ i, i < j → ¬ EndAt l i
theorem seek_first {l : B} {i : Nat} (h : Lib.index l nl = i) : Seek l (i + 2) := ⟨i, rfl, (index_at h).1, fun j hj hE => (index_at h).2 j hj hE.1⟩
theorem seek_next {l : B} {p i : Nat} (h : Seek l p) (hb : (l.drop p).head? = some 32) (hi : Lib.index (l.drop p) nl = i) : Seek l (p + (i + 2)) := by
  obtain ⟨j, rfl, h1, h2⟩ := h
  obtain ⟨h3, h4⟩ := index_at hi
  rw [List.drop_drop] at h3
  refine ⟨j + 2 + i, by omega, h3, fun q hq hE => ?_⟩
  by_cases c1 : q < j
  · exact h2 q c1 hE
  · by_cases c2 : q = j
    · subst c2
      exact hE.2 hb
    · by_cases c3 : q = j + 1
      · subst c3
        have a := (get_two h1).2
        have b := (get_two hE.1).1
        rw [a] at b
        cases b
      · have := h4 (q - (j + 2)) (by omega)
        rw [List.drop_drop, show j + 2 + (q - (j + 2)) = q from by omega] at this
        exact this hE.1
theorem seek_end {l : B} {p : Nat} (h : Seek l p) (hb : (l.drop p).head? ≠ some 32) : Chunk l (l.take p) (l.drop p) := by
  obtain ⟨j, rfl, h1, h2⟩ := h
  exact ⟨j, rfl, rfl, ⟨h1, hb⟩, h2⟩
theorem seek_ends {l : B} {p : Nat} (h : Seek l p) (hE : Ends l) : Ends (l.drop p) := by
  obtain ⟨j, rfl, h1, h2⟩ := h
  exact ends_drop hE h1
theorem seek_le {l : B} {p : Nat} (h : Seek l p) : p ≤ l.length := by
  obtain ⟨j, rfl, h1, h2⟩ := h
  exact len_end h1

/-- Where the header ends: the first end of a line right behind another one, or at the beginning. -/
def HeadAt (t : B) (n : Nat) : Prop := n ≤ t.length ∧ Pre (t.drop n) ∧ Ends (t.take n) ∧ ∀ p, p < n → ((nl ++ t).drop p).take 2 = nl → ¬ Pre (t.drop p)
theorem four_iff {u : B} {k : Nat} : Lib.occAt u (nl ++ nl) k = true ↔ (u.drop k).take 2 = nl ∧ (u.drop (k + 2)).take 2 = nl := by
  unfold Lib.occAt
  rw [List.isPrefixOf_iff_prefix]
  constructor
  · rintro ⟨t, ht⟩
    rw [← List.drop_drop, ← ht]
    exact ⟨rfl, rfl⟩
  · rintro ⟨h1, h2⟩
    refine ⟨(u.drop (k + 2)).drop 2, ?_⟩
    have e1 := List.take_append_drop 2 (u.drop k)
    have e2 := List.take_append_drop 2 (u.drop (k + 2))
    rw [h1, List.drop_drop] at e1
    rw [h2] at e2
    rw [List.append_assoc, e2, e1]
theorem shift (t : B) (k : Nat) : (nl ++ t).drop (k + 2) = t.drop k := by
  show List.drop (k + 2) (13 :: 10 :: t) = _
  rfl
theorem head_at {t : B} {n : Nat} (h : Lib.index (nl ++ t) (nl ++ nl) = n) : HeadAt t n := by
  rcases Lib.index_spec (nl ++ t) (nl ++ nl) with ⟨h1, _⟩ | ⟨i, h1, h2, h3, h4⟩
  · rw [h1] at h; omega
  obtain rfl : i = n := by rw [h1] at h; omega
  obtain ⟨h5, h6⟩ := four_iff.1 h3
  rw [shift] at h6
  have hlen := len_end h6
  refine ⟨by omega, h6, ?_, fun p hp hq hP => ?_⟩
  · match i, h5 with
    | 0, _ => exact .inl (List.take_zero)
    | 1, h5 => exact absurd (get_two h5).1 (by show (10 :: t)[0]? ≠ _; simp)
    | i + 2, h5 =>
      rw [shift] at h5
      refine .inr ⟨t.take i, ?_⟩
      rw [List.take_add, h5]
  · have := h4 p hp
    rw [four_iff.2 ⟨hq, by rw [shift]; exact hP⟩] at this
    cases this
theorem no_head {t : B} (h : Lib.index (nl ++ t) (nl ++ nl) = -1) {p : Nat} (hq : ((nl ++ t).drop p).take 2 = nl) : ¬ Pre (t.drop p) := by
  intro hP
  rcases Lib.index_spec (nl ++ t) (nl ++ nl) with ⟨_, h1⟩ | ⟨i, h1, _⟩
  · have := h1 p (by have := len_end hq; omega)
    rw [four_iff.2 ⟨hq, by rw [shift]; exact hP⟩] at this
    cases this
  · rw [h1] at h; omega
/-- Where a field of a text begins an end of a line is ahead. -/
theorem run_at {F : B → B → B → Prop} {t : B} : ∀ {fs : List (B × B)} {p : Nat} {r : B}, ((nl ++ t).drop p).take 2 = nl → Run F fs (t.drop p) r → ∃ q, p ≤ q ∧ ((nl ++ t).drop q).take 2 = nl ∧ r = t.drop q
  | [], p, r, h, hr => by cases hr; exact ⟨p, Nat.le_refl _, h, rfl⟩
  | x :: fs, p, r, h, ⟨_, f, q, hc, hf, hr⟩ => by
    obtain ⟨k, rfl, rfl, hE, _⟩ := hc
    rw [List.drop_drop] at hr
    obtain ⟨q, h1, h2, h3⟩ := run_at (p := p + (k + 2)) (by rw [show p + (k + 2) = p + k + 2 from by omega, shift]; have := hE.1; rwa [List.drop_drop] at this) hr
    exact ⟨q, by omega, h2, h3⟩
theorem start (t : B) : ((nl ++ t).drop 0).take 2 = nl := rfl
theorem no_empty_line {F : B → B → B → Prop} {t : B} (h : Lib.index (nl ++ t) (nl ++ nl) = -1) : ¬ ∃ fs b, Par F fs t b ∧ fs.length ≤ 40 := by
  rintro ⟨fs, b, ⟨r, h1, h2, _⟩, _⟩
  obtain ⟨q, _, h3, rfl⟩ := run_at (p := 0) (start t) h1
  exact no_head h h3 h2
theorem drop_take_eq {t : B} {n p : Nat} (hp : p ≤ n) (hn : n ≤ t.length) : t.drop p = (t.take n).drop p ++ t.drop n := by
  have := List.take_append_drop n t
  have e : t.drop p = (t.take n ++ t.drop n).drop p := by rw [this]
  rw [e, List.drop_append_of_le_length (by rw [List.length_take]; omega)]
theorem take_app {a b : B} {k : Nat} (h : k + 2 ≤ a.length) : ((a ++ b).drop k).take 2 = (a.drop k).take 2 := by
  rw [List.drop_append_of_le_length (by omega), List.take_append_of_le_length (by rw [List.length_drop]; omega)]
/-- A field within the header is one of the text. -/
theorem chunk_lift {a b f q : B} (hb : b.head? ≠ some 32) (h : Chunk a f q) : Chunk (a ++ b) f (q ++ b) := by
  obtain ⟨k, rfl, rfl, ⟨h1, h2⟩, h3⟩ := h
  have hk := len_end h1
  refine ⟨k, by rw [List.take_append_of_le_length hk], by rw [List.drop_append_of_le_length hk], ⟨by rw [take_app hk]; exact h1, ?_⟩, fun j hj hE => h3 j hj ⟨by rw [← take_app (b := b) (by omega)]; exact hE.1, ?_⟩⟩
  · rw [List.drop_append_of_le_length hk]
    cases hq : a.drop (k + 2) with
    | nil => exact hb
    | cons x y => rw [hq] at h2; exact h2
  · have h4 := hE.2
    rw [List.drop_append_of_le_length (by omega)] at h4
    cases hq : a.drop (j + 2) with
    | nil => simp
    | cons x y => rw [hq] at h4; exact h4
theorem pre_head {l : B} (h : Pre l) : l.head? ≠ some 32 := by
  match l, h with
  | a :: b :: r, h =>
    have : a = 13 := (List.cons.inj h).1
    subst this
    simp
  | [], h => simp
  | [a], h => cases h
theorem run_lift {F : B → B → B → Prop} {t : B} {n : Nat} (hh : HeadAt t n) : ∀ {fs : List (B × B)} {p : Nat} {r : B}, p ≤ n → ((nl ++ t).drop p).take 2 = nl → RunE F fs ((t.take n).drop p) r → Run F fs (t.drop p) (r ++ t.drop n)
  | [], p, r, hp, h, hr => by
    cases hr
    exact drop_take_eq hp hh.1
  | x :: fs, p, r, hp, h, ⟨f, q, hc, hf, hr⟩ => by
    have hc' := chunk_lift (b := t.drop n) (pre_head hh.2.1) hc
    rw [← drop_take_eq hp hh.1] at hc'
    obtain ⟨k, rfl, rfl, ⟨h1, h2⟩, h3⟩ := hc
    have hk := len_end h1
    rw [List.length_drop, List.length_take] at hk
    have hk' : p + (k + 2) ≤ n := by omega
    rw [List.drop_drop] at h1 hr
    have hg : ((nl ++ t).drop (p + (k + 2))).take 2 = nl := by
      rw [show p + (k + 2) = p + k + 2 from by omega, shift, drop_take_eq (n := n) (by omega) hh.1, List.take_append_of_le_length (by rw [List.length_drop, List.length_take]; omega)]
      exact h1
    have ih := run_lift hh hk' hg hr
    refine ⟨hh.2.2.2 p (by omega) h, _, _, hc', hf, ?_⟩
    rw [List.drop_drop, ← drop_take_eq hk' hh.1]
    exact ih
/-- The header's fields, the empty line, the body. -/
theorem par_of {F : B → B → B → Prop} {t : B} {n : Nat} (hh : HeadAt t n) {fs : List (B × B)} (h : RunE F fs (t.take n) []) : Par F fs t (t.drop (n + 2)) := by
  have := run_lift hh (p := 0) (Nat.zero_le _) (start t) h
  rw [List.nil_append, List.drop_zero] at this
  exact ⟨_, this, hh.2.1, by rw [List.drop_drop]⟩
theorem no_par_of {F : B → B → B → Prop} (hF : One F) {t : B} {n : Nat} (hh : HeadAt t n) {fs : List (B × B)} {r f q : B} (h : RunE F fs (t.take n) r) (hc : Chunk r f q) (hn : fs.length = 40 ∨ ¬ ∃ a v, F f a v) : ¬ ∃ fs' b, Par F fs' t b ∧ fs'.length ≤ 40 := by
  have hr := run_lift hh (p := 0) (Nat.zero_le _) (start t) h
  rw [List.drop_zero] at hr
  have hc' := chunk_lift (b := t.drop n) (pre_head hh.2.1) hc
  refine no_par hF hr ?_ (hn.imp id fun hn f' q' h' => ?_)
  · obtain ⟨p, _, h2, h3⟩ := run_at (p := 0) (start t) hr
    have hlen := congrArg List.length h3
    rw [List.length_append, List.length_drop, List.length_drop] at hlen
    have hr0 : 0 < r.length := by
      obtain ⟨k, _, _, hE, _⟩ := hc
      have := len_end hE.1
      omega
    have := hh.1
    rw [h3]
    exact hh.2.2.2 p (by omega) h2
  · obtain ⟨rfl, rfl⟩ := chunk_one hc' h'
    exact hn

/-- What is behind an end of a line is lines, where all is. -/
theorem mok_drop : ∀ (k : Nat) (w : Nat) (l : B), mok w l = true → (l.drop k).take 2 = nl → mok 0 (l.drop (k + 2)) = true
  | 0, w, l, h, hk => by
    match l, hk with
    | a :: b :: r, hk =>
      obtain ⟨rfl, h2⟩ := List.cons.inj hk
      obtain ⟨rfl, _⟩ := List.cons.inj h2
      rw [mok_end] at h
      exact h
    | [], hk => cases hk
    | [a], hk => cases hk
  | k + 1, w, [], h, hk => by simp [nl] at hk
  | k + 1, w, c :: r, h, hk => by
    by_cases hp : c = 13 ∧ r.head? = some 10
    · obtain ⟨rfl, hr⟩ := hp
      match r, hr with
      | b :: q, hr =>
        cases hr
        rw [mok_end] at h
        match k, hk with
        | 0, hk => cases hk
        | k + 1, hk => exact mok_drop k 0 q h hk
    · rw [mok_cons hp, Bool.and_eq_true] at h
      exact mok_drop k (w + 1) r h.2 hk
theorem par_mok {F : B → B → B → Prop} {fs : List (B × B)} {t b : B} (h : Par F fs t b) (hm : mok 0 t = true) : mok 0 b = true := by
  obtain ⟨r, h1, h2, rfl⟩ := h
  obtain ⟨q, _, _, rfl⟩ := run_at (p := 0) (start t) h1
  have := mok_drop q 0 t hm h2
  rwa [List.drop_drop]
theorem par_len {F : B → B → B → Prop} {fs : List (B × B)} {t b : B} (h : Par F fs t b) : ∃ n, n ≤ t.length ∧ b = t.drop n := by
  obtain ⟨r, h1, h2, rfl⟩ := h
  obtain ⟨q, _, _, rfl⟩ := run_at (p := 0) (start t) h1
  have := len_end (k := q) h2
  exact ⟨q + 2, by omega, by rw [List.drop_drop]⟩
end Go.Proofs.YtbokolpjdaamiaaGreatDoor.ml
