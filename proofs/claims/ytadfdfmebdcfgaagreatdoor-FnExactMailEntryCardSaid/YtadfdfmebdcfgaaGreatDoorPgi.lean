/-
  Plain facts on mails: lines of characters below 128, each ended by CRLF.
  Plain facts on a mail's header: fields, each up to an end of a line that no blank follows, an empty line, the body.
  Contracts of both MailOK functions: whether a text is lines of a mail.
  The contract of the program's MailOK.
  The contract of the program's fieldSize: how many bytes the first field of a header has.
  Plain facts on unfolding: ends of lines ahead of blanks are taken away; the parts of a field.
  The contract of the program's UnfoldHeader.
  The contract of the program's fieldsOf: the fields of a header.
  The contract of the program's readLetter: a mail's fields and its body.
-/
import Derived.Lib.IndexMore
import Derived.Lib.IndexLaws
import Derived.Test.YtadfdfmebdcfgaaGreatDoorShf
import Derived.Test.YtadfdfmebdcfgaaGreatDoorRows
import Derived.Lib.Strings
import Derived.Below
import Derived.WalkKit
import Derived.WalkLawsBesides
import Derived.Test.YtadfdfmebdcfgaaGreatDoorHdf
import Derived.Lib.ReplaceLaws
import Derived.Test.YtadfdfmebdcfgaaGreatDoorPge
import Derived.Test.YtadfdfmebdcfgaaGreatDoorOwn
import Derived.Laws.AppendOwn
import Derived.Test.YtadfdfmebdcfgaaGreatDoorPga

namespace Go.Proofs.YtadfdfmebdcfgaaGreatDoor.ml
open Go
set_option linter.unusedVariables false

/-- A character that may stand in no line. -/
def bad (c : UInt8) : Bool := c == 0 || decide (127 < c.toNat) || c == 13 || c == 10
/-- Whether a text, behind some characters of a line, is lines of a mail. -/
def mok : Nat → List UInt8 → Bool
  | w, [] => w == 0
  | w, [c] => false
  | w, a :: b :: r => if a = 13 ∧ b = 10 then mok 0 r else if bad a = true ∨ 998 < w + 1 then false else mok (w + 1) (b :: r)
def nl : List UInt8 := [13, 10]
def good (l : List UInt8) : Bool := l.all fun c => !bad c
theorem good_iff {l : List UInt8} : good l = true ↔ ∀ c ∈ l, bad c = false := by simp [good]

theorem mok_end (w : Nat) (r : List UInt8) : mok w (13 :: 10 :: r) = mok 0 r := by rw [mok, if_pos ⟨rfl, rfl⟩]
/-- A character that begins no end of a line. -/
theorem mok_cons {w : Nat} {c : UInt8} {r : List UInt8} (h : ¬ (c = 13 ∧ r.head? = some 10)) : mok w (c :: r) = (decide (bad c = false ∧ w + 1 ≤ 998) && mok (w + 1) r) := by
  match r with
  | [] =>
    rw [mok, mok]
    simp
  | b :: r =>
    rw [mok, if_neg (by simpa using h)]
    by_cases h1 : bad c = true ∨ 998 < w + 1
    · rw [if_pos h1, decide_eq_false (by rintro ⟨h2, h3⟩; rcases h1 with h1 | h1; rw [h2] at h1; cases h1; omega)]
      rfl
    · rw [if_neg h1, decide_eq_true ⟨by simpa using fun e => h1 (.inl e), by omega⟩]
      rfl
theorem mok_bad {w : Nat} {c : UInt8} {r : List UInt8} (h : ¬ (c = 13 ∧ r.head? = some 10)) (hb : bad c = true ∨ 998 < w + 1) : mok w (c :: r) = false := by
  rw [mok_cons h, decide_eq_false (by rintro ⟨h2, h3⟩; rcases hb with h1 | h1; rw [h2] at h1; cases h1; omega)]
  rfl
theorem mok_good {w : Nat} {c : UInt8} {r : List UInt8} (h : ¬ (c = 13 ∧ r.head? = some 10)) (hb : bad c = false) (hw : w + 1 ≤ 998) : mok w (c :: r) = mok (w + 1) r := by
  rw [mok_cons h, decide_eq_true ⟨hb, hw⟩]
  rfl
theorem head_pre {c : UInt8} {r : List UInt8} : nl.isPrefixOf (c :: r) = true ↔ c = 13 ∧ r.head? = some 10 := by
  unfold nl
  match r with
  | [] => simp
  | a :: q =>
    simp only [List.isPrefixOf, Bool.and_eq_true, beq_iff_eq, List.head?_cons, Option.some.injEq, and_true]
    exact ⟨fun h => ⟨h.1.symm, h.2.symm⟩, fun h => ⟨h.1.symm, h.2.symm⟩⟩
theorem index_cons (c : UInt8) (r : List UInt8) : Lib.index (c :: r) nl = if nl.isPrefixOf (c :: r) then 0 else if Lib.index r nl == -1 then -1 else Lib.index r nl + 1 := by rw [Lib.index]
/-- Without an end of a line no text but the empty one is lines. -/
theorem mok_none : ∀ (l : List UInt8) (w : Nat), Lib.index l nl = -1 → (w ≠ 0 ∨ l ≠ []) → mok w l = false
  | [], w, _, h => by
    rw [mok]
    have : w ≠ 0 := h.resolve_right (fun h => h rfl)
    simpa using this
  | c :: r, w, hi, _ => by
    rw [index_cons] at hi
    by_cases hp : nl.isPrefixOf (c :: r) = true
    · rw [if_pos hp] at hi; cases hi
    · rw [if_neg hp] at hi
      have hr : Lib.index r nl = -1 := by
        by_cases e : Lib.index r nl = -1
        · exact e
        · rw [if_neg (by simpa using e)] at hi
          have := Lib.index_ge r nl
          omega
      rw [mok_cons (fun h => hp (head_pre.2 h)), mok_none r (w + 1) hr (.inl (by omega)), Bool.and_false]
/-- A line, its end and the rest. -/
theorem mok_line : ∀ (l : List UInt8) (w i : Nat), Lib.index l nl = i → mok w l = (decide (good (l.take i) = true ∧ w + i ≤ 998 ∨ i = 0) && mok 0 (l.drop (i + 2)))
  | [], w, i, h => by simp [Lib.index, nl] at h
  | c :: r, w, i, h => by
    rw [index_cons] at h
    by_cases hp : nl.isPrefixOf (c :: r) = true
    · rw [if_pos hp] at h
      obtain rfl : i = 0 := by omega
      obtain ⟨rfl, h2⟩ := head_pre.1 hp
      match r, h2 with
      | b :: q, h2 =>
        cases h2
        rw [mok_end, decide_eq_true (.inr rfl)]
        rfl
    · rw [if_neg hp] at h
      have hge := Lib.index_ge r nl
      by_cases h1 : Lib.index r nl = -1
      · rw [if_pos (by rw [h1]; rfl)] at h
        omega
      · rw [if_neg (by simpa using h1)] at h
        obtain ⟨j, rfl⟩ : ∃ j, i = j + 1 := ⟨i - 1, by omega⟩
        rw [mok_cons (fun h => hp (head_pre.2 h)), mok_line r (w + 1) j (by omega), ← Bool.and_assoc]
        congr 1
        rw [← Bool.decide_and]
        apply decide_eq_decide.2
        simp only [List.take_succ_cons, good_iff, List.mem_cons, forall_eq_or_imp]
        constructor
        · rintro ⟨⟨h1, h2⟩, ⟨h3, h4⟩ | h3⟩
          · exact .inl ⟨⟨h1, h3⟩, by omega⟩
          · subst h3
            exact .inl ⟨⟨h1, by simp⟩, by omega⟩
        · rintro (⟨⟨h1, h2⟩, h3⟩ | h3)
          · exact ⟨⟨h1, by omega⟩, .inl ⟨h2, by omega⟩⟩
          · omega
theorem mok_zero {l : List UInt8} {i : Nat} (h : Lib.index l nl = i) : mok 0 l = (decide (good (l.take i) = true ∧ i ≤ 998) && mok 0 (l.drop (i + 2))) := by
  rw [mok_line l 0 i h]
  congr 1
  apply decide_eq_decide.2
  constructor
  · rintro (⟨h1, h2⟩ | rfl)
    · exact ⟨h1, by omega⟩
    · exact ⟨by simp [good], by omega⟩
  · rintro ⟨h1, h2⟩
    exact .inl ⟨h1, by omega⟩
end Go.Proofs.YtadfdfmebdcfgaaGreatDoor.ml

namespace Go.Proofs.YtadfdfmebdcfgaaGreatDoor.ml
open Go
set_option linter.unusedVariables false

abbrev B := List UInt8
/-- An end of a line at a place, which no blank follows. -/
def EndAt (l : B) (k : Nat) : Prop := (l.drop k).take 2 = nl ∧ (l.drop (k + 2)).head? ≠ some 32
/-- The first field's text, and what is behind it. -/
def Chunk (l f r : B) : Prop := ∃ k, f = l.take (k + 2) ∧ r = l.drop (k + 2) ∧ EndAt l k ∧ ∀ j, j < k → ¬ EndAt l j
def Pre (l : B) : Prop := l.take 2 = nl
/-- The fields at a text's beginning, and what is behind them. -/
def Run (F : B → B → B → Prop) : List (B × B) → B → B → Prop
  | [], l, r => l = r
  | x :: fs, l, r => ¬ Pre l ∧ ∃ f q, Chunk l f q ∧ F f x.1 x.2 ∧ Run F fs q r
def RunE (F : B → B → B → Prop) : List (B × B) → B → B → Prop
  | [], l, r => l = r
  | x :: fs, l, r => ∃ f q, Chunk l f q ∧ F f x.1 x.2 ∧ RunE F fs q r
/-- Fields, an empty line, the body. -/
def Par (F : B → B → B → Prop) (fs : List (B × B)) (l b : B) : Prop := ∃ r, Run F fs l r ∧ Pre r ∧ b = r.drop 2
def One (F : B → B → B → Prop) : Prop := ∀ l a b a' b', F l a b → F l a' b' → a = a' ∧ b = b'

theorem len_end {l : B} {k : Nat} (h : (l.drop k).take 2 = nl) : k + 2 ≤ l.length := by
  have := congrArg List.length h
  rw [List.length_take, List.length_drop] at this
  have e : nl.length = 2 := rfl
  omega
theorem chunk_one {l f r f' r' : B} (h : Chunk l f r) (h' : Chunk l f' r') : f = f' ∧ r = r' := by
  obtain ⟨k, rfl, rfl, h1, h2⟩ := h
  obtain ⟨k', rfl, rfl, h1', h2'⟩ := h'
  obtain rfl : k = k' := by
    rcases Nat.lt_trichotomy k k' with h | h | h
    · exact absurd h1 (h2' k h)
    · exact h
    · exact absurd h1' (h2 k' h)
  exact ⟨rfl, rfl⟩
theorem run_snoc {F : B → B → B → Prop} {x : B × B} {f q : B} : ∀ {fs : List (B × B)} {l r : B}, Run F fs l r → ¬ Pre r → Chunk r f q → F f x.1 x.2 → Run F (fs ++ [x]) l q
  | [], l, r, h, h1, h2, h3 => by
    cases h
    exact ⟨h1, f, q, h2, h3, rfl⟩
  | y :: fs, l, r, ⟨h0, f', q', hc, hf, hr⟩, h1, h2, h3 => ⟨h0, f', q', hc, hf, run_snoc hr h1 h2 h3⟩
theorem runE_snoc {F : B → B → B → Prop} {x : B × B} {f q : B} : ∀ {fs : List (B × B)} {l r : B}, RunE F fs l r → Chunk r f q → F f x.1 x.2 → RunE F (fs ++ [x]) l q
  | [], l, r, h, h2, h3 => by
    cases h
    exact ⟨f, q, h2, h3, rfl⟩
  | y :: fs, l, r, ⟨f', q', hc, hf, hr⟩, h2, h3 => ⟨f', q', hc, hf, runE_snoc hr h2 h3⟩
/-- Whatever fields a text has, they go on from those that were read. -/
theorem run_par {F : B → B → B → Prop} (hF : One F) : ∀ {fs fs' : List (B × B)} {l r b : B}, Run F fs l r → Par F fs' l b → ∃ gs, fs' = fs ++ gs ∧ Par F gs r b
  | [], fs', l, r, b, h, hp => by
    cases h
    exact ⟨fs', rfl, hp⟩
  | x :: fs, [], l, r, b, ⟨h0, _⟩, ⟨r', h1, h2, _⟩ => by
    cases h1
    exact absurd h2 h0
  | x :: fs, y :: fs', l, r, b, ⟨h0, f, q, hc, hf, hr⟩, ⟨r', ⟨h0', f', q', hc', hf', hr'⟩, h2, h3⟩ => by
    obtain ⟨rfl, rfl⟩ := chunk_one hc hc'
    obtain ⟨e1, e2⟩ := hF _ _ _ _ _ hf hf'
    obtain rfl : x = y := Prod.ext e1 e2
    obtain ⟨gs, rfl, hg⟩ := run_par hF hr ⟨r', hr', h2, h3⟩
    exact ⟨gs, rfl, hg⟩
theorem par_one {F : B → B → B → Prop} (hF : One F) {fs fs' : List (B × B)} {l b b' : B} (h : Par F fs l b) (h' : Par F fs' l b') : fs = fs' ∧ b = b' := by
  obtain ⟨r, h1, h2, rfl⟩ := h
  obtain ⟨gs, rfl, r', h3, h4, rfl⟩ := run_par hF h1 h'
  match gs, h3 with
  | [], h3 => cases h3; exact ⟨by simp, rfl⟩
  | x :: gs, h3 => exact absurd h2 h3.1
/-- Where the next field is none, or one too many, there is no mail. -/
theorem no_par {F : B → B → B → Prop} (hF : One F) {fs : List (B × B)} {l r : B} (h : Run F fs l r) (hp : ¬ Pre r) (hn : fs.length = 40 ∨ ∀ f q, Chunk r f q → ¬ ∃ a v, F f a v) : ¬ ∃ fs' b, Par F fs' l b ∧ fs'.length ≤ 40 := by
  rintro ⟨fs', b, hP, hl⟩
  obtain ⟨gs, rfl, r', h1, h2, _⟩ := run_par hF h hP
  match gs, h1 with
  | [], h1 => cases h1; exact hp h2
  | x :: gs, ⟨_, f, q, hc, hf, _⟩ =>
    rcases hn with hn | hn
    · simp at hl; omega
    · exact hn f q hc ⟨_, _, hf⟩

/-- A text that ends with an end of a line, or is empty. -/
def Ends (l : B) : Prop := l = [] ∨ ∃ x, l = x ++ nl
theorem get_two {l : B} {k : Nat} (h : (l.drop k).take 2 = nl) : l[k]? = some 13 ∧ l[k + 1]? = some 10 := by
  have h0 : ((l.drop k).take 2)[0]? = some 13 := by rw [h]; rfl
  have h1 : ((l.drop k).take 2)[1]? = some 10 := by rw [h]; rfl
  rw [List.getElem?_take, if_pos (by omega), List.getElem?_drop] at h0 h1
  exact ⟨h0, h1⟩
theorem two_of {l : B} {k : Nat} (h0 : l[k]? = some 13) (h1 : l[k + 1]? = some 10) : (l.drop k).take 2 = nl := by
  obtain ⟨k0, e0⟩ := List.getElem?_eq_some_iff.1 h0
  obtain ⟨k1, e1⟩ := List.getElem?_eq_some_iff.1 h1
  rw [List.drop_eq_getElem_cons k0, List.drop_eq_getElem_cons k1, e0, e1]
  rfl
theorem ends_drop {l : B} {k : Nat} (h : Ends l) (hk : (l.drop k).take 2 = nl) : Ends (l.drop (k + 2)) := by
  have hl := len_end hk
  rcases h with rfl | ⟨x, rfl⟩
  · simp at hl
  rw [List.length_append] at hl
  have e : nl.length = 2 := rfl
  by_cases h1 : k + 2 ≤ x.length
  · exact .inr ⟨x.drop (k + 2), by rw [List.drop_append_of_le_length h1]⟩
  · by_cases h2 : k + 1 = x.length
    · have := (get_two hk).2
      rw [h2, List.getElem?_append_right (Nat.le_refl _), Nat.sub_self] at this
      cases this
    · exact .inl (List.drop_eq_nil_of_le (by rw [List.length_append]; omega))
/-- A line that begins with something ends somewhere. -/
theorem index_some {l : B} (h : Ends l) (h0 : l ≠ []) (h1 : l.length ≠ 1) : ∃ i : Nat, Lib.index l nl = i := by
  rcases Lib.index_spec l nl with ⟨_, hno⟩ | ⟨i, hi, _⟩
  · exfalso
    rcases h with h | ⟨x, rfl⟩
    · exact h0 h
    · have := hno x.length (by simp)
      rw [Bool.eq_false_iff] at this
      apply this
      unfold Lib.occAt
      rw [List.drop_left]
      simp
  · exact ⟨i, hi⟩
theorem ends_len {l : B} (h : Ends l) : l.length ≠ 1 := by
  rcases h with rfl | ⟨x, rfl⟩
  · simp
  · rw [List.length_append]; have e : nl.length = 2 := rfl; omega
theorem occ_iff {l : B} {k : Nat} : Lib.occAt l nl k = true ↔ (l.drop k).take 2 = nl := by
  unfold Lib.occAt
  rw [List.isPrefixOf_iff_prefix]
  constructor
  · rintro ⟨t, ht⟩
    rw [← ht]
    rfl
  · intro h
    exact ⟨(l.drop k).drop 2, by rw [← h, List.take_append_drop]⟩
theorem index_at {l : B} {i : Nat} (h : Lib.index l nl = i) : (l.drop i).take 2 = nl ∧ ∀ j, j < i → ¬ (l.drop j).take 2 = nl := by
  rcases Lib.index_spec l nl with ⟨h1, _⟩ | ⟨i', h1, h2, h3, h4⟩
  · rw [h1] at h; omega
  · obtain rfl : i' = i := by rw [h1] at h; omega
    refine ⟨occ_iff.1 h3, fun j hj hh => ?_⟩
    have := h4 j hj
    rw [occ_iff.2 hh] at this
    cases this
/-- How the end of a field is looked for: ends of lines that a blank follows are passed by. -/
def Seek (l : B) (p : Nat) : Prop := ∃ j, p = j + 2 ∧ (l.drop j).take 2 = nl ∧ ∀ i, i < j → ¬ EndAt l i
theorem seek_first {l : B} {i : Nat} (h : Lib.index l nl = i) : Seek l (i + 2) := ⟨i, rfl, (index_at h).1, fun j hj hE => (index_at h).2 j hj hE.1⟩
theorem seek_next {l : B} {p i : Nat} (h : Seek l p) (hb : (l.drop p).head? = some 32) (hi : Lib.index (l.drop p) nl = i) : Seek l (p + (i + 2)) := by
  obtain ⟨j, rfl, h1, h2⟩ := h
  obtain ⟨h3, h4⟩ := index_at hi
  rw [List.drop_drop] at h3
  refine ⟨j + 2 + i, by omega, h3, fun q hq hE => ?_⟩
  by_cases c1 : q < j
  · exact h2 q c1 hE
  · by_cases c2 : q = j
    · subst c2
      exact hE.2 hb
    · by_cases c3 : q = j + 1
      · subst c3
        have a := (get_two h1).2
        have b := (get_two hE.1).1
        rw [a] at b
        cases b
      · have := h4 (q - (j + 2)) (by omega)
        rw [List.drop_drop, show j + 2 + (q - (j + 2)) = q from by omega] at this
        exact this hE.1
theorem seek_end {l : B} {p : Nat} (h : Seek l p) (hb : (l.drop p).head? ≠ some 32) : Chunk l (l.take p) (l.drop p) := by
  obtain ⟨j, rfl, h1, h2⟩ := h
  exact ⟨j, rfl, rfl, ⟨h1, hb⟩, h2⟩
theorem seek_ends {l : B} {p : Nat} (h : Seek l p) (hE : Ends l) : Ends (l.drop p) := by
  obtain ⟨j, rfl, h1, h2⟩ := h
  exact ends_drop hE h1
theorem seek_le {l : B} {p : Nat} (h : Seek l p) : p ≤ l.length := by
  obtain ⟨j, rfl, h1, h2⟩ := h
  exact len_end h1

/-- Where the header ends: the first end of a line right behind another one, or at the beginning. -/
def HeadAt (t : B) (n : Nat) : Prop := n ≤ t.length ∧ Pre (t.drop n) ∧ Ends (t.take n) ∧ ∀ p, p < n → ((nl ++ t).drop p).take 2 = nl → ¬ Pre (t.drop p)
theorem four_iff {u : B} {k : Nat} : Lib.occAt u (nl ++ nl) k = true ↔ (u.drop k).take 2 = nl ∧ (u.drop (k + 2)).take 2 = nl := by
  unfold Lib.occAt
  rw [List.isPrefixOf_iff_prefix]
  constructor
  · rintro ⟨t, ht⟩
    rw [← List.drop_drop, ← ht]
    exact ⟨rfl, rfl⟩
  · rintro ⟨h1, h2⟩
    refine ⟨(u.drop (k + 2)).drop 2, ?_⟩
    have e1 := List.take_append_drop 2 (u.drop k)
    have e2 := List.take_append_drop 2 (u.drop (k + 2))
    rw [h1, List.drop_drop] at e1
    rw [h2] at e2
    rw [List.append_assoc, e2, e1]
theorem shift (t : B) (k : Nat) : (nl ++ t).drop (k + 2) = t.drop k := by
  show List.drop (k + 2) (13 :: 10 :: t) = _
  rfl
theorem head_at {t : B} {n : Nat} (h : Lib.index (nl ++ t) (nl ++ nl) = n) : HeadAt t n := by
  rcases Lib.index_spec (nl ++ t) (nl ++ nl) with ⟨h1, _⟩ | ⟨i, h1, h2, h3, h4⟩
  · rw [h1] at h; omega
  obtain rfl : i = n := by rw [h1] at h; omega
  obtain ⟨h5, h6⟩ := four_iff.1 h3
  rw [shift] at h6
  have hlen := len_end h6
  refine ⟨by omega, h6, ?_, fun p hp hq hP => ?_⟩
  · match i, h5 with
    | 0, _ => exact .inl (List.take_zero)
    | 1, h5 => exact absurd (get_two h5).1 (by show (10 :: t)[0]? ≠ _; simp)
    | i + 2, h5 =>
      rw [shift] at h5
      refine .inr ⟨t.take i, ?_⟩
      rw [List.take_add, h5]
  · have := h4 p hp
    rw [four_iff.2 ⟨hq, by rw [shift]; exact hP⟩] at this
    cases this
theorem no_head {t : B} (h : Lib.index (nl ++ t) (nl ++ nl) = -1) {p : Nat} (hq : ((nl ++ t).drop p).take 2 = nl) : ¬ Pre (t.drop p) := by
  intro hP
  rcases Lib.index_spec (nl ++ t) (nl ++ nl) with ⟨_, h1⟩ | ⟨i, h1, _⟩
  · have := h1 p (by have := len_end hq; omega)
    rw [four_iff.2 ⟨hq, by rw [shift]; exact hP⟩] at this
    cases this
  · rw [h1] at h; omega
/-- Where a field of a text begins an end of a line is ahead. -/
theorem run_at {F : B → B → B → Prop} {t : B} : ∀ {fs : List (B × B)} {p : Nat} {r : B}, ((nl ++ t).drop p).take 2 = nl → Run F fs (t.drop p) r → ∃ q, p ≤ q ∧ ((nl ++ t).drop q).take 2 = nl ∧ r = t.drop q
  | [], p, r, h, hr => by cases hr; exact ⟨p, Nat.le_refl _, h, rfl⟩
  | x :: fs, p, r, h, ⟨_, f, q, hc, hf, hr⟩ => by
    obtain ⟨k, rfl, rfl, hE, _⟩ := hc
    rw [List.drop_drop] at hr
    obtain ⟨q, h1, h2, h3⟩ := run_at (p := p + (k + 2)) (by rw [show p + (k + 2) = p + k + 2 from by omega, shift]; have := hE.1; rwa [List.drop_drop] at this) hr
    exact ⟨q, by omega, h2, h3⟩
theorem start (t : B) : ((nl ++ t).drop 0).take 2 = nl := rfl
theorem no_empty_line {F : B → B → B → Prop} {t : B} (h : Lib.index (nl ++ t) (nl ++ nl) = -1) : ¬ ∃ fs b, Par F fs t b ∧ fs.length ≤ 40 := by
  rintro ⟨fs, b, ⟨r, h1, h2, _⟩, _⟩
  obtain ⟨q, _, h3, rfl⟩ := run_at (p := 0) (start t) h1
  exact no_head h h3 h2
theorem drop_take_eq {t : B} {n p : Nat} (hp : p ≤ n) (hn : n ≤ t.length) : t.drop p = (t.take n).drop p ++ t.drop n := by
  have := List.take_append_drop n t
  have e : t.drop p = (t.take n ++ t.drop n).drop p := by rw [this]
  rw [e, List.drop_append_of_le_length (by rw [List.length_take]; omega)]
theorem take_app {a b : B} {k : Nat} (h : k + 2 ≤ a.length) : ((a ++ b).drop k).take 2 = (a.drop k).take 2 := by
  rw [List.drop_append_of_le_length (by omega), List.take_append_of_le_length (by rw [List.length_drop]; omega)]
/-- A field within the header is one of the text. -/
theorem chunk_lift {a b f q : B} (hb : b.head? ≠ some 32) (h : Chunk a f q) : Chunk (a ++ b) f (q ++ b) := by
  obtain ⟨k, rfl, rfl, ⟨h1, h2⟩, h3⟩ := h
  have hk := len_end h1
  refine ⟨k, by rw [List.take_append_of_le_length hk], by rw [List.drop_append_of_le_length hk], ⟨by rw [take_app hk]; exact h1, ?_⟩, fun j hj hE => h3 j hj ⟨by rw [← take_app (b := b) (by omega)]; exact hE.1, ?_⟩⟩
  · rw [List.drop_append_of_le_length hk]
    cases hq : a.drop (k + 2) with
    | nil => exact hb
    | cons x y => rw [hq] at h2; exact h2
  · have h4 := hE.2
    rw [List.drop_append_of_le_length (by omega)] at h4
    cases hq : a.drop (j + 2) with
    | nil => simp
    | cons x y => rw [hq] at h4; exact h4
theorem pre_head {l : B} (h : Pre l) : l.head? ≠ some 32 := by
  match l, h with
  | a :: b :: r, h =>
    have : a = 13 := (List.cons.inj h).1
    subst this
    simp
  | [], h => simp
  | [a], h => cases h
theorem run_lift {F : B → B → B → Prop} {t : B} {n : Nat} (hh : HeadAt t n) : ∀ {fs : List (B × B)} {p : Nat} {r : B}, p ≤ n → ((nl ++ t).drop p).take 2 = nl → RunE F fs ((t.take n).drop p) r → Run F fs (t.drop p) (r ++ t.drop n)
  | [], p, r, hp, h, hr => by
    cases hr
    exact drop_take_eq hp hh.1
  | x :: fs, p, r, hp, h, ⟨f, q, hc, hf, hr⟩ => by
    have hc' := chunk_lift (b := t.drop n) (pre_head hh.2.1) hc
    rw [← drop_take_eq hp hh.1] at hc'
    obtain ⟨k, rfl, rfl, ⟨h1, h2⟩, h3⟩ := hc
    have hk := len_end h1
    rw [List.length_drop, List.length_take] at hk
    have hk' : p + (k + 2) ≤ n := by omega
    rw [List.drop_drop] at h1 hr
    have hg : ((nl ++ t).drop (p + (k + 2))).take 2 = nl := by
      rw [show p + (k + 2) = p + k + 2 from by omega, shift, drop_take_eq (n := n) (by omega) hh.1, List.take_append_of_le_length (by rw [List.length_drop, List.length_take]; omega)]
      exact h1
    have ih := run_lift hh hk' hg hr
    refine ⟨hh.2.2.2 p (by omega) h, _, _, hc', hf, ?_⟩
    rw [List.drop_drop, ← drop_take_eq hk' hh.1]
    exact ih
/-- The header's fields, the empty line, the body. -/
theorem par_of {F : B → B → B → Prop} {t : B} {n : Nat} (hh : HeadAt t n) {fs : List (B × B)} (h : RunE F fs (t.take n) []) : Par F fs t (t.drop (n + 2)) := by
  have := run_lift hh (p := 0) (Nat.zero_le _) (start t) h
  rw [List.nil_append, List.drop_zero] at this
  exact ⟨_, this, hh.2.1, by rw [List.drop_drop]⟩
theorem no_par_of {F : B → B → B → Prop} (hF : One F) {t : B} {n : Nat} (hh : HeadAt t n) {fs : List (B × B)} {r f q : B} (h : RunE F fs (t.take n) r) (hc : Chunk r f q) (hn : fs.length = 40 ∨ ¬ ∃ a v, F f a v) : ¬ ∃ fs' b, Par F fs' t b ∧ fs'.length ≤ 40 := by
  have hr := run_lift hh (p := 0) (Nat.zero_le _) (start t) h
  rw [List.drop_zero] at hr
  have hc' := chunk_lift (b := t.drop n) (pre_head hh.2.1) hc
  refine no_par hF hr ?_ (hn.imp id fun hn f' q' h' => ?_)
  · obtain ⟨p, _, h2, h3⟩ := run_at (p := 0) (start t) hr
    have hlen := congrArg List.length h3
    rw [List.length_append, List.length_drop, List.length_drop] at hlen
    have hr0 : 0 < r.length := by
      obtain ⟨k, _, _, hE, _⟩ := hc
      have := len_end hE.1
      omega
    have := hh.1
    rw [h3]
    exact hh.2.2.2 p (by omega) h2
  · obtain ⟨rfl, rfl⟩ := chunk_one hc' h'
    exact hn

/-- What is behind an end of a line is lines, where all is. -/
theorem mok_drop : ∀ (k : Nat) (w : Nat) (l : B), mok w l = true → (l.drop k).take 2 = nl → mok 0 (l.drop (k + 2)) = true
  | 0, w, l, h, hk => by
    match l, hk with
    | a :: b :: r, hk =>
      obtain ⟨rfl, h2⟩ := List.cons.inj hk
      obtain ⟨rfl, _⟩ := List.cons.inj h2
      rw [mok_end] at h
      exact h
    | [], hk => cases hk
    | [a], hk => cases hk
  | k + 1, w, [], h, hk => by simp [nl] at hk
  | k + 1, w, c :: r, h, hk => by
    by_cases hp : c = 13 ∧ r.head? = some 10
    · obtain ⟨rfl, hr⟩ := hp
      match r, hr with
      | b :: q, hr =>
        cases hr
        rw [mok_end] at h
        match k, hk with
        | 0, hk => cases hk
        | k + 1, hk => exact mok_drop k 0 q h hk
    · rw [mok_cons hp, Bool.and_eq_true] at h
      exact mok_drop k (w + 1) r h.2 hk
theorem par_mok {F : B → B → B → Prop} {fs : List (B × B)} {t b : B} (h : Par F fs t b) (hm : mok 0 t = true) : mok 0 b = true := by
  obtain ⟨r, h1, h2, rfl⟩ := h
  obtain ⟨q, _, _, rfl⟩ := run_at (p := 0) (start t) h1
  have := mok_drop q 0 t hm h2
  rwa [List.drop_drop]
theorem par_len {F : B → B → B → Prop} {fs : List (B × B)} {t b : B} (h : Par F fs t b) : ∃ n, n ≤ t.length ∧ b = t.drop n := by
  obtain ⟨r, h1, h2, rfl⟩ := h
  obtain ⟨q, _, _, rfl⟩ := run_at (p := 0) (start t) h1
  have := len_end (k := q) h2
  exact ⟨q + 2, by omega, by rw [List.drop_drop]⟩
end Go.Proofs.YtadfdfmebdcfgaaGreatDoor.ml

namespace Go.Proofs.YtadfdfmebdcfgaaGreatDoor.ml
open Go.RowKit
set_option linter.unusedVariables false

theorem take_snoc (s : ByteArray) (k : Nat) (h : k < s.size) : s.data.toList.take (k + 1) = s.data.toList.take k ++ [s[k]] := by
  rw [List.take_succ_eq_append_getElem (by simpa using h)]; rfl
theorem take_all (s : ByteArray) (k : Nat) (h : s.size ≤ k) : s.data.toList.take k = s.data.toList := List.take_of_length_le (by rw [← Lib.size_eq]; exact h)
theorem drop_at (s : ByteArray) (i : Nat) (h : i < s.size) : s.data.toList.drop i = s[i] :: s.data.toList.drop (i + 1) := by
  rw [List.drop_eq_getElem_cons (by simpa using h)]
  rfl
theorem drop_end (s : ByteArray) (i : Nat) (h : s.size ≤ i) : s.data.toList.drop i = [] := List.drop_eq_nil_of_le (by rw [← Lib.size_eq]; exact h)
theorem is_byte {c : UInt8} {n : Nat} (hn : n < 256) (h : (c.toNat : Int) = n) : c = UInt8.ofNat n := by
  rw [← UInt8.toNat_inj, UInt8.toNat_ofNat']; omega
theorem bad_iff (c : UInt8) : bad c = true ↔ ((c.toNat : Int) = 0 ∨ 127 < (c.toNat : Int) ∨ (c.toNat : Int) = 13 ∨ (c.toNat : Int) = 10) := by
  unfold bad
  simp only [Bool.or_eq_true, beq_iff_eq, decide_eq_true_iff, ← UInt8.toNat_inj]
  show ((c.toNat = 0 ∨ 127 < c.toNat) ∨ c.toNat = 13) ∨ c.toNat = 10 ↔ _
  omega
theorem bad_no {c : UInt8} (h : ¬ bad c = true) : bad c = false := by simpa using h
theorem good_step {s : ByteArray} {k : Nat} (hk : k < s.size) (h : good (s.data.toList.take k) = true) (hc : bad s[k] = false) : good (s.data.toList.take (k + 1)) = true := by
  rw [take_snoc s k hk, good_iff]
  intro c hm
  rcases List.mem_append.1 hm with e | e
  · exact good_iff.1 h c e
  · rw [List.mem_singleton] at e
    rw [e]; exact hc
theorem not_good {s : ByteArray} {k : Nat} (hk : k < s.size) (hc : bad s[k] = true) : good s.data.toList = false := by
  rw [Bool.eq_false_iff]
  intro h
  have := good_iff.1 h s[k] (by show s.data[k] ∈ _; exact Array.getElem_mem_toList _)
  rw [this] at hc
  cases hc

def lineOK (l : List UInt8) : Bool := good l && decide (l.length ≤ 998)
set_option maxHeartbeats 1000000 in
theorem line_any (s : ByteArray) (w : World) (hs : s.size ≤ maxLen) :
    Calls Tryz.prog 31 #[.string s] w fun e w' => e = .returned (.bool (lineOK s.data.toList)) ∧ w' = w := by
  unfold maxLen at hs
  go_enter Tryz.func31, Tryz.ntmps31
  go_wp2
  go_loop [7] (fun i => ∃ k : Nat, k ≤ s.size ∧ i = .int .i64 k ∧ good (s.data.toList.take k) = true) (fun i => s.size - (intOf i).toNat)
  case atStart => exact ⟨0, Nat.zero_le _, rfl, rfl⟩
  case round =>
    obtain ⟨k, hk, rfl, hg⟩ := hrel
    have HG : Hid (good (s.data.toList.take k) = true) := hg
    clear hg
    by_cases hlt : k < s.size
    · by_cases hbad : bad s[k] = true
      · have HF : Hid (lineOK s.data.toList = false) := (show lineOK s.data.toList = false by rw [lineOK, not_good hlt hbad]; rfl)
        have hb := (bad_iff _).1 hbad
        clear hbad
        have HB : Hid (((s[k]'hlt).toNat : Int) = 0 ∨ 127 < ((s[k]'hlt).toNat : Int) ∨ ((s[k]'hlt).toNat : Int) = 13 ∨ ((s[k]'hlt).toNat : Int) = 10) := hb
        clear hb
        by_cases c1 : ((s[k]'hlt).toNat : Int) = 0
        · have d1 : (((s[k]'hlt).toNat : Int) == 0) = true := beq_iff_eq.2 c1
          clear c1
          go_wp2
          go_ret
          exact ⟨by rw [HF.out]; rfl, rfl⟩
        have d1 : (((s[k]'hlt).toNat : Int) == 0) = false := beq_eq_false_iff_ne.2 c1
        by_cases c2 : 127 < ((s[k]'hlt).toNat : Int)
        · have d2 : decide (127 < ((s[k]'hlt).toNat : Int)) = true := decide_eq_true c2
          go_wp2
          go_ret
          exact ⟨by rw [HF.out]; rfl, rfl⟩
        have d2 : decide (127 < ((s[k]'hlt).toNat : Int)) = false := decide_eq_false c2
        by_cases c3 : ((s[k]'hlt).toNat : Int) = 13
        · have d3 : (((s[k]'hlt).toNat : Int) == 13) = true := beq_iff_eq.2 c3
          clear c3 c1 c2
          go_wp2
          go_ret
          exact ⟨by rw [HF.out]; rfl, rfl⟩
        have d3 : (((s[k]'hlt).toNat : Int) == 13) = false := beq_eq_false_iff_ne.2 c3
        have c4 : ((s[k]'hlt).toNat : Int) = 10 := by have := HB.out; omega
        have d4 : (((s[k]'hlt).toNat : Int) == 10) = true := beq_iff_eq.2 c4
        clear c4 c3 c1 c2 HB
        go_wp2
        go_ret
        exact ⟨by rw [HF.out]; rfl, rfl⟩
      · have hg := bad_no hbad
        have hb : ¬ (((s[k]'hlt).toNat : Int) = 0 ∨ 127 < ((s[k]'hlt).toNat : Int) ∨ ((s[k]'hlt).toNat : Int) = 13 ∨ ((s[k]'hlt).toNat : Int) = 10) := fun h => hbad ((bad_iff _).2 h)
        have HN : Hid (bad (s[k]'hlt) = false) := hg
        have d1 : (((s[k]'hlt).toNat : Int) == 0) = false := beq_eq_false_iff_ne.2 (by omega)
        have d2 : decide (127 < ((s[k]'hlt).toNat : Int)) = false := decide_eq_false (by omega)
        have d3 : (((s[k]'hlt).toNat : Int) == 13) = false := beq_eq_false_iff_ne.2 (by omega)
        have d4 : (((s[k]'hlt).toNat : Int) == 10) = false := beq_eq_false_iff_ne.2 (by omega)
        clear hb hbad hg
        go_wp2
        go_round
        case rel => exact ⟨k + 1, by omega, by go_num, good_step hlt HG.out HN.out⟩
        case measure => simp [intOf]; omega
    · have hg : good s.data.toList = true := by have := HG.out; rwa [take_all s k (by omega)] at this
      have HE : Hid (lineOK s.data.toList = decide ((s.size : Int) ≤ 998)) := (show lineOK s.data.toList = decide ((s.size : Int) ≤ 998) by
        rw [lineOK, hg, Bool.true_and, ← Lib.size_eq]
        apply decide_eq_decide.2
        omega)
      clear hg
      go_wp2
      go_ret
      exact ⟨by rw [HE.out]; rfl, rfl⟩

set_option maxHeartbeats 2000000 in
theorem spec_mok (s : ByteArray) (w : World) (hs : s.size ≤ maxLen) :
    Calls Tryz.prog 72 #[.string s] w fun e w' => e = .returned (.bool (decide (s.size ≤ 65536) && mok 0 s.data.toList)) ∧ w' = w := by
  unfold maxLen at hs
  by_cases hl : s.size ≤ 65536
  case neg =>
    have hl' : (65536 : Int) < (s.size : Int) := by omega
    rw [decide_eq_false hl, Bool.false_and]
    go_enter Tryz.func72, Tryz.ntmps72
    go_wp2
    go_ret
    exact ⟨rfl, rfl⟩
  have hl' : (s.size : Int) ≤ 65536 := by omega
  rw [decide_eq_true hl, Bool.true_and]
  obtain ⟨R, hR⟩ : ∃ R, R = mok 0 s.data.toList := ⟨_, rfl⟩
  rw [← hR]
  have HR : Hid (R = mok 0 s.data.toList) := hR
  clear hR
  go_enter Tryz.func72, Tryz.ntmps72
  go_wp2
  go_loop [3, 4] (fun q i => ∃ k n : Nat, k ≤ s.size ∧ n ≤ 998 ∧ i = .int .i64 k ∧ q = .int .i64 n ∧ R = mok n (s.data.toList.drop k)) (fun _ i => s.size - (intOf i).toNat)
  case atStart => exact ⟨0, 0, Nat.zero_le _, by omega, rfl, rfl, by rw [List.drop_zero]; exact HR.out⟩
  case round =>
    obtain ⟨k, n, hk, hn, rfl, rfl, hm⟩ := hrel
    have HM : Hid (R = mok n (s.data.toList.drop k)) := hm
    clear hm
    by_cases hlt : k < s.size
    · have hdk := drop_at s k hlt
      by_cases c1 : ((s[k]'hlt).toNat : Int) = 13
      · have d1 : (((s[k]'hlt).toNat : Int) == 13) = true := beq_iff_eq.2 c1
        by_cases hlt2 : k + 1 < s.size
        · have hlt2' : (k : Int) + 1 < (s.size : Int) := by omega
          have hdk2 := drop_at s (k + 1) hlt2
          by_cases c2 : ((s[k + 1]'hlt2).toNat : Int) = 10
          · have d2 : (((s[k + 1]'hlt2).toNat : Int) == 10) = true := beq_iff_eq.2 c2
            have HE : Hid (R = mok 0 (s.data.toList.drop (k + 1 + 1))) := (show R = _ by
              rw [HM.out, hdk, hdk2, is_byte (n := 13) (by decide) c1, is_byte (n := 10) (by decide) c2]
              exact mok_end _ _)
            clear c1 c2 hdk hdk2
            go_wp2
            go_round
            case rel => exact ⟨k + 1 + 1, 0, by omega, by omega, by go_num, rfl, HE.out⟩
            case measure => simp [intOf]; omega
          · have d2 : (((s[k + 1]'hlt2).toNat : Int) == 10) = false := beq_eq_false_iff_ne.2 c2
            have HE : Hid (R = false) := (show R = _ by
              rw [HM.out, hdk]
              refine mok_bad ?_ (.inl ((bad_iff _).2 (by omega)))
              rw [hdk2]
              rintro ⟨_, h⟩
              rw [List.head?_cons, Option.some.injEq] at h
              rw [h] at c2
              exact c2 rfl)
            clear c1 c2 hdk hdk2
            go_wp2
            go_ret
            exact ⟨by rw [HE.out]; rfl, rfl⟩
        · have hlt2' : ¬ (k : Int) + 1 < (s.size : Int) := by omega
          have HE : Hid (R = false) := (show R = _ by
            rw [HM.out, hdk]
            refine mok_bad ?_ (.inl ((bad_iff _).2 (by omega)))
            rw [drop_end s (k + 1) (by omega)]
            rintro ⟨_, h⟩
            cases h)
          clear c1 hdk
          go_wp2
          go_ret
          exact ⟨by rw [HE.out]; rfl, rfl⟩
      · have d1 : (((s[k]'hlt).toNat : Int) == 13) = false := beq_eq_false_iff_ne.2 c1
        have hno : ¬ (s[k]'hlt = 13 ∧ (s.data.toList.drop (k + 1)).head? = some 10) := by
          rintro ⟨h, _⟩
          rw [h] at c1
          exact c1 rfl
        by_cases hbad : bad s[k] = true ∨ 998 < n + 1
        · have HE : Hid (R = false) := (show R = _ by rw [HM.out, hdk]; exact mok_bad hno hbad)
          clear hdk hno
          have HB : Hid (((s[k]'hlt).toNat : Int) = 0 ∨ 127 < ((s[k]'hlt).toNat : Int) ∨ ((s[k]'hlt).toNat : Int) = 13 ∨ ((s[k]'hlt).toNat : Int) = 10 ∨ 998 < (n : Int) + 1) := (show _ ∨ _ by
            rcases hbad with h | h
            · have := (bad_iff _).1 h; omega
            · omega)
          clear hbad
          by_cases c2 : ((s[k]'hlt).toNat : Int) = 10
          · have d2 : (((s[k]'hlt).toNat : Int) == 10) = true := beq_iff_eq.2 c2
            clear c1 c2
            go_wp2
            go_ret
            exact ⟨by rw [HE.out]; rfl, rfl⟩
          have d2 : (((s[k]'hlt).toNat : Int) == 10) = false := beq_eq_false_iff_ne.2 c2
          by_cases c3 : ((s[k]'hlt).toNat : Int) = 0
          · have d3 : (((s[k]'hlt).toNat : Int) == 0) = true := beq_iff_eq.2 c3
            clear c1 c2 c3
            go_wp2
            go_ret
            exact ⟨by rw [HE.out]; rfl, rfl⟩
          have d3 : (((s[k]'hlt).toNat : Int) == 0) = false := beq_eq_false_iff_ne.2 c3
          by_cases c4 : 127 < ((s[k]'hlt).toNat : Int)
          · have d4 : decide (127 < ((s[k]'hlt).toNat : Int)) = true := decide_eq_true c4
            clear c1 c2 c3
            go_wp2
            go_ret
            exact ⟨by rw [HE.out]; rfl, rfl⟩
          have d4 : decide (127 < ((s[k]'hlt).toNat : Int)) = false := decide_eq_false c4
          have c5 : 998 < (n : Int) + 1 := by have := HB.out; omega
          have d5 : decide (998 < (n : Int) + 1) = true := decide_eq_true c5
          clear c1 c2 c3 HB
          go_wp2
          go_ret
          exact ⟨by rw [HE.out]; rfl, rfl⟩
        · have hb : bad s[k] = false := bad_no (fun h => hbad (.inl h))
          have hn1 : n + 1 ≤ 998 := by omega
          have HE : Hid (R = mok (n + 1) (s.data.toList.drop (k + 1))) := (show R = _ by rw [HM.out, hdk]; exact mok_good hno hb hn1)
          have hq : ¬ (((s[k]'hlt).toNat : Int) = 0 ∨ 127 < ((s[k]'hlt).toNat : Int) ∨ ((s[k]'hlt).toNat : Int) = 13 ∨ ((s[k]'hlt).toNat : Int) = 10) := fun h => hbad (.inl ((bad_iff _).2 h))
          have d2 : (((s[k]'hlt).toNat : Int) == 10) = false := beq_eq_false_iff_ne.2 (by omega)
          have d3 : (((s[k]'hlt).toNat : Int) == 0) = false := beq_eq_false_iff_ne.2 (by omega)
          have d4 : decide (127 < ((s[k]'hlt).toNat : Int)) = false := decide_eq_false (by omega)
          have d5 : decide (998 < (n : Int) + 1) = false := decide_eq_false (by omega)
          clear hdk hno hbad hb hq c1
          go_wp2
          go_round
          case rel => exact ⟨k + 1, n + 1, by omega, hn1, by go_num, by go_num, HE.out⟩
          case measure => simp [intOf]; omega
    · have HE : Hid (R = ((n : Int) == 0)) := (show R = _ by
        rw [HM.out, drop_end s k (by omega), mok, Bool.eq_iff_iff, beq_iff_eq, beq_iff_eq]
        omega)
      go_wp2
      go_ret
      exact ⟨by rw [HE.out]; rfl, rfl⟩
end Go.Proofs.YtadfdfmebdcfgaaGreatDoor.ml

namespace Go.Proofs.YtadfdfmebdcfgaaGreatDoor.ml
open Go.RowKit
set_option linter.unusedVariables false

theorem mk_list (r : ByteArray) : r = ⟨r.data.toList.toArray⟩ := by cases r; simp
theorem mk_size (l : List UInt8) : (⟨l.toArray⟩ : ByteArray).size = l.length := by rw [Lib.size_eq]
theorem isEmpty_no {l : List UInt8} (h : l ≠ []) : l.isEmpty = false := by cases l; exact absurd rfl h; rfl
theorem cut_hit {l : List UInt8} {i : Nat} (h : Lib.index l nl = i) : Lib.cut l nl = (l.take i, l.drop (i + 2), true) := by
  unfold Lib.cut
  rw [if_pos (by rw [h]; omega), h]
  rfl
theorem cut_miss {l : List UInt8} (h : Lib.index l nl = -1) : Lib.cut l nl = (l, [], false) := by
  unfold Lib.cut
  rw [if_neg (by rw [h]; decide)]
theorem drewN_add (w : World) (a b : Nat) : (w.drewN a).drewN b = w.drewN (a + b) := by simp

set_option maxHeartbeats 2000000 in
set_option maxRecDepth 100000 in
theorem impl_mok (s : ByteArray) (w : World) (m : Int) (hm : w.cell? ⟨4, 0, none⟩ = some (.int .i64 m)) (hs : s.size ≤ 1048576) :
    Calls Tryz.prog 11 #[.string s] w fun e w' => e = .returned (.bool (decide (s.size ≤ 65536) && mok 0 s.data.toList)) ∧ ∃ n, w' = w.drewN n := by
  by_cases hl : s.size ≤ 65536
  case neg =>
    have hl' : (65536 : Int) < (s.size : Int) := by omega
    rw [decide_eq_false hl, Bool.false_and]
    clear hm
    go_enter Tryz.func11, Tryz.ntmps11
    go_wp2
    go_ret
    exact ⟨rfl, 0, rfl⟩
  have hl' : (s.size : Int) ≤ 65536 := by omega
  rw [decide_eq_true hl, Bool.true_and]
  obtain ⟨R, hR⟩ : ∃ R, R = mok 0 s.data.toList := ⟨_, rfl⟩
  rw [← hR]
  have HR : Hid (R = mok 0 s.data.toList) := hR
  have HMX : Hid (∀ n, (w.drewN n).cell? ⟨4, 0, none⟩ = some (.int .i64 m)) := fun n => hm
  clear hR hm
  go_enter Tryz.func11, Tryz.ntmps11
  go_wp2
  go_loopw [0] (fun t wr => ∃ (r : ByteArray) (n : Nat), t = .string r ∧ r.size ≤ 65536 ∧ wr = w.drewN n ∧ R = mok 0 r.data.toList) (fun t _ => (match t with | .string r => r.size | _ => 0))
  case atStart => exact ⟨s, 0, rfl, hl, rfl, HR.out⟩
  case round =>
    obtain ⟨r, n, rfl, hrl, rfl, hm⟩ := hrel
    have HM : Hid (R = mok 0 r.data.toList) := hm
    clear hm
    by_cases h0 : r.data.toList = []
    · have hr0 : r = ⟨#[]⟩ := by rw [mk_list r, h0]
      subst hr0
      have HE : Hid (R = true) := (show R = true by rw [HM.out]; rfl)
      go_wp2
      go_ret
      exact ⟨by rw [HE.out]; rfl, n, rfl⟩
    have he : r.toList.isEmpty = false := by rw [Lib.toList_data]; exact isEmpty_no h0
    have hC := (Tryz.strings_Cut r ⟨#[13, 10]⟩ m (w.drewN n) (by omega) (HMX.out n))
    rw [show (⟨#[13, 10]⟩ : ByteArray).data.toList = nl from rfl] at hC
    rcases Lib.index_spec r.data.toList nl with ⟨hi, _⟩ | ⟨i, hi, hil, _⟩
    · rw [cut_miss hi] at hC
      have HE : Hid (R = false) := (show R = false by rw [HM.out]; exact mok_none _ _ hi (.inr h0))
      have HC : Hid (Calls Tryz.prog 30 #[.string r, .string ⟨#[13, 10]⟩] (w.drewN n) fun e w' => e = .returned (.tuple #[.string r, .string ⟨#[]⟩, .bool false]) ∧ ∃ q, w' = (w.drewN n).drewN q) := (show Calls _ _ _ _ _ from hC.mono fun e w' ⟨h1, h2⟩ => ⟨by rw [h1, ← mk_list], h2⟩)
      clear hC hi h0
      go_wp2_with fail
      refine HC.out.mono ?_
      rintro e w1 ⟨rfl, q, rfl⟩
      go_wp2
      go_ret
      exact ⟨by rw [HE.out]; rfl, n + q, by first | rfl | exact drewN_add _ _ _⟩
    · have hroom := Lib.index_room r.data.toList nl (by rw [hi]; omega)
      rw [hi, ← Lib.size_eq] at hroom
      have hroom' : i + 2 ≤ r.size := by have : nl.length = 2 := rfl; omega
      rw [cut_hit hi] at hC
      obtain ⟨A, hA⟩ : ∃ A : ByteArray, A = ⟨(r.data.toList.take i).toArray⟩ := ⟨_, rfl⟩
      obtain ⟨B, hB⟩ : ∃ B : ByteArray, B = ⟨(r.data.toList.drop (i + 2)).toArray⟩ := ⟨_, rfl⟩
      have hAl : A.data.toList = r.data.toList.take i := by rw [hA]
      have hBl : B.data.toList = r.data.toList.drop (i + 2) := by rw [hB]
      have hAs : A.size = i := by rw [Lib.size_eq, hAl, List.length_take, ← Lib.size_eq]; omega
      have hBs : B.size = r.size - (i + 2) := by rw [Lib.size_eq, hBl, List.length_drop, ← Lib.size_eq]
      rw [← hA, ← hB] at hC
      have hz := mok_zero hi
      rw [← hAl, ← hBl] at hz
      have hline : lineOK A.data.toList = decide (good A.data.toList = true ∧ i ≤ 998) := by
        rw [lineOK, ← Lib.size_eq, hAs]
        cases good A.data.toList <;> simp
      rw [← hline] at hz
      have HZ : Hid (R = (lineOK A.data.toList && mok 0 B.data.toList)) := (show R = _ by rw [HM.out]; exact hz)
      have HC : Hid (Calls Tryz.prog 30 #[.string r, .string ⟨#[13, 10]⟩] (w.drewN n) fun e w' => e = .returned (.tuple #[.string A, .string B, .bool true]) ∧ ∃ q, w' = (w.drewN n).drewN q) := hC
      have hAm : A.size ≤ maxLen := by unfold maxLen; omega
      clear hC hi hA hB hAl hBl hz hline h0
      cases hLO : lineOK A.data.toList with
      | false =>
        have HE : Hid (R = false) := (show R = false by rw [HZ.out, hLO]; rfl)
        have HLI : Hid (∀ W, Calls Tryz.prog 31 #[.string A] W fun e w' => e = .returned (.bool false) ∧ w' = W) := fun W => by have := line_any A W hAm; rwa [hLO] at this
        clear hLO
        go_wp2_with fail
        refine HC.out.mono ?_
        rintro e w1 ⟨rfl, q, rfl⟩
        go_wp2_with (go_at_call 31; refine (HLI.out _).mono ?_; rintro e w' ⟨rfl, rfl⟩)
        go_ret
        exact ⟨by rw [HE.out]; rfl, n + q, by first | rfl | exact drewN_add _ _ _⟩
      | true =>
        have HE : Hid (R = mok 0 B.data.toList) := (show R = _ by rw [HZ.out, hLO]; rfl)
        have HLI : Hid (∀ W, Calls Tryz.prog 31 #[.string A] W fun e w' => e = .returned (.bool true) ∧ w' = W) := fun W => by have := line_any A W hAm; rwa [hLO] at this
        clear hLO
        go_wp2_with fail
        refine HC.out.mono ?_
        rintro e w1 ⟨rfl, q, rfl⟩
        go_wp2_with (go_at_call 31; refine (HLI.out _).mono ?_; rintro e w' ⟨rfl, rfl⟩)
        go_roundw
        case rel => exact ⟨B, n + q, rfl, by omega, by first | rfl | exact drewN_add _ _ _, HE.out⟩
        case measure => simp; omega
end Go.Proofs.YtadfdfmebdcfgaaGreatDoor.ml

namespace Go.Proofs.YtadfdfmebdcfgaaGreatDoor.ml
open Go.RowKit
set_option linter.unusedVariables false

theorem ext_list (s : ByteArray) (a b : Nat) : (s.extract a b).data.toList = (s.data.toList.drop a).take (b - a) := by rw [← Lib.toList_data, Lib.extract_toList]
theorem ext_tail (s : ByteArray) (a : Nat) : (s.extract a s.size).data.toList = s.data.toList.drop a := by
  rw [ext_list, List.take_of_length_le (by rw [List.length_drop, ← Lib.size_eq]; omega)]
theorem ext_front (s : ByteArray) (b : Nat) : (s.extract 0 b).data.toList = s.data.toList.take b := by rw [ext_list]; rfl
theorem ext_size (s : ByteArray) (a b : Nat) (h : b ≤ s.size) : (s.extract a b).size = b - a := by
  rw [Lib.size_eq, ext_list, List.length_take, List.length_drop, ← Lib.size_eq]; omega
theorem has_blank (l : B) : Lib.hasPrefix l [32] = decide (l.head? = some 32) := by
  unfold Lib.hasPrefix
  match l with
  | [] => rfl
  | c :: r =>
    rw [Bool.eq_iff_iff]
    simp only [List.isPrefixOf, Bool.and_true, beq_iff_eq, List.head?_cons, decide_eq_true_iff, Option.some.injEq]
    exact eq_comm
theorem blank_ne {l : B} (h : l.head? = some 32) : l ≠ [] := fun e => by rw [e] at h; cases h

set_option maxHeartbeats 2000000 in
set_option maxRecDepth 100000 in
theorem fieldSize_any (s : ByteArray) (w : World) (m : Int) (hm : w.cell? ⟨4, 0, none⟩ = some (.int .i64 m)) (hs : s.size ≤ 65536) (hE : Ends s.data.toList) (h0 : s.data.toList ≠ []) :
    Calls Tryz.prog 116 #[.string s] w fun e w' => (∃ p : Nat, e = .returned (.int .i64 p) ∧ Seek s.data.toList p ∧ (s.data.toList.drop p).head? ≠ some 32) ∧ ∃ n, w' = w.drewN n := by
  have HMX : Hid (∀ n, (w.drewN n).cell? ⟨4, 0, none⟩ = some (.int .i64 m)) := fun n => hm
  obtain ⟨i, hi⟩ := index_some hE h0 (ends_len hE)
  have hC := Tryz.strings_Index s ⟨#[13, 10]⟩ m w (by omega) hm
  rw [show (⟨#[13, 10]⟩ : ByteArray).data.toList = nl from rfl, hi] at hC
  have hsk := seek_first hi
  have hlen := seek_le hsk
  rw [← Lib.size_eq] at hlen
  have HS0 : Hid (Seek s.data.toList (i + 2)) := hsk
  have HE : Hid (Ends s.data.toList) := hE
  have HC : Hid (Calls Tryz.prog 65 #[.string s, .string ⟨#[13, 10]⟩] w fun e w' => e = .returned (.int .i64 (i : Int)) ∧ w' = w) := hC
  clear hC hi hsk hE h0 hm
  go_enter Tryz.func116, Tryz.ntmps116
  go_wp2_with fail
  refine HC.out.mono ?_
  rintro e w1 ⟨rfl, rfl⟩
  go_wp2
  go_loopw [3] (fun q wr => ∃ p n : Nat, q = .int .i64 p ∧ p ≤ s.size ∧ Seek s.data.toList p ∧ wr = w1.drewN n) (fun q _ => s.size - (intOf q).toNat)
  case atStart => exact ⟨i + 2, 0, by go_num, hlen, HS0.out, rfl⟩
  case round =>
    obtain ⟨p, n, rfl, hp, hsk, rfl⟩ := hrel
    clear HC HS0 hlen
    have hp' : (p : Int) ≤ (s.size : Int) := by omega
    have hp0 : (0 : Int) ≤ (p : Int) := by omega
    have HH := Tryz.strings_HasPrefix (s.extract p s.size) ⟨#[32]⟩ (w1.drewN n)
    rw [show (⟨#[32]⟩ : ByteArray).data.toList = [32] from rfl, ext_tail, has_blank] at HH
    by_cases hb : (s.data.toList.drop p).head? = some 32
    · rw [decide_eq_true hb] at HH
      have hE2 := seek_ends hsk HE.out
      obtain ⟨j, hj⟩ := index_some hE2 (blank_ne hb) (ends_len hE2)
      have hnx := seek_next hsk hb hj
      have hle := seek_le hnx
      rw [← Lib.size_eq] at hle
      have HI := Tryz.strings_Index (s.extract p s.size) ⟨#[13, 10]⟩ m (w1.drewN n) (by rw [ext_size _ _ _ (Nat.le_refl _)]; omega) (HMX.out n)
      rw [show (⟨#[13, 10]⟩ : ByteArray).data.toList = nl from rfl, ext_tail, hj] at HI
      have HI' : Hid (Calls Tryz.prog 65 #[.string (s.extract p s.size), .string ⟨#[13, 10]⟩] (w1.drewN n) fun e w' => e = .returned (.int .i64 (j : Int)) ∧ w' = w1.drewN n) := HI
      have HN : Hid (Seek s.data.toList (p + (j + 2))) := hnx
      have HH' : Hid (Calls Tryz.prog 94 #[.string (s.extract p s.size), .string ⟨#[32]⟩] (w1.drewN n) fun e w' => e = .returned (.bool true) ∧ w' = w1.drewN n) := HH
      clear HI HH hnx hsk hb hE2 hj
      go_wp2_with fail
      refine HH'.out.mono ?_
      rintro e w2 ⟨rfl, rfl⟩
      go_wp2_with fail
      refine HI'.out.mono ?_
      rintro e w2 ⟨rfl, rfl⟩
      go_wp2
      go_roundw
      case rel => exact ⟨p + (j + 2), n, by go_num, hle, HN.out, rfl⟩
      case measure => simp [intOf]; omega
    · rw [decide_eq_false hb] at HH
      have HB : Hid (¬ (s.data.toList.drop p).head? = some 32) := hb
      have HK : Hid (Seek s.data.toList p) := hsk
      have HH' : Hid (Calls Tryz.prog 94 #[.string (s.extract p s.size), .string ⟨#[32]⟩] (w1.drewN n) fun e w' => e = .returned (.bool false) ∧ w' = w1.drewN n) := HH
      clear HH hsk hb
      go_wp2_with fail
      refine HH'.out.mono ?_
      rintro e w2 ⟨rfl, rfl⟩
      go_wp2
      go_ret
      exact ⟨⟨p, rfl, HK.out, HB.out⟩, n, rfl⟩
end Go.Proofs.YtadfdfmebdcfgaaGreatDoor.ml

namespace Go.Proofs.YtadfdfmebdcfgaaGreatDoor.uf
open Go
set_option linter.unusedVariables false

/-- A text without its ends of lines that a blank follows; none where a byte 13 stands elsewhere. -/
def unf : Bool → List UInt8 → Option (List UInt8)
  | _, [] => some []
  | true, _ :: r => unf false r
  | false, c :: r => if c = 13 then (if r.head? = some 10 ∧ r.tail.head? = some 32 then unf true r else none) else (unf false r).map (c :: ·)
def fw : List UInt8 := [13, 10, 32]
/-- Each end of line with the blank behind it, replaced by a blank. -/
def rep : Nat → List UInt8 → List UInt8
  | _, [] => []
  | n + 1, _ :: r => rep n r
  | 0, c :: r => if fw.isPrefixOf (c :: r) then 32 :: rep 2 r else c :: rep 0 r

theorem pre_iff {c : UInt8} {r : List UInt8} : fw.isPrefixOf (c :: r) = true ↔ c = 13 ∧ r.head? = some 10 ∧ r.tail.head? = some 32 := by
  unfold fw
  match r with
  | [] => simp
  | [a] => simp
  | a :: b :: q =>
    simp only [List.isPrefixOf, Bool.and_eq_true, beq_iff_eq, List.head?_cons, List.tail_cons, Option.some.injEq, and_true]
    exact ⟨fun h => ⟨h.1.symm, h.2.1.symm, h.2.2.symm⟩, fun h => ⟨h.1.symm, h.2.1.symm, h.2.2.symm⟩⟩
theorem rep_fw (r : List UInt8) : rep 0 (13 :: 10 :: 32 :: r) = 32 :: rep 0 r := by
  rw [rep, if_pos (by simp [fw])]
  rfl
theorem unf_fw (r : List UInt8) : unf false (13 :: 10 :: 32 :: r) = (unf false r).map (32 :: ·) := by
  rw [unf, if_pos rfl, if_pos (by simp), unf, unf, if_neg (by decide)]
theorem shape {c : UInt8} {r : List UInt8} (h : fw.isPrefixOf (c :: r) = true) : ∃ q, c :: r = 13 :: 10 :: 32 :: q := by
  obtain ⟨rfl, h1, h2⟩ := pre_iff.1 h
  match r, h1, h2 with
  | a :: b :: q, h1, h2 =>
    cases h1
    cases h2
    exact ⟨q, rfl⟩
  | [a], h1, h2 => simp at h2
/-- What is replaced is what is unfolded; where nothing can be unfolded a byte 13 stays. -/
theorem unf_rep : ∀ (n : Nat) (x : List UInt8), x.length ≤ n → (∀ v, unf false x = some v → rep 0 x = v) ∧ (unf false x = none → 13 ∈ rep 0 x)
  | 0, x, h => by
    obtain rfl : x = [] := List.eq_nil_of_length_eq_zero (by omega)
    exact ⟨fun v h => (by cases h; rfl), fun h => (by cases h)⟩
  | n + 1, [], h => ⟨fun v h => (by cases h; rfl), fun h => (by cases h)⟩
  | n + 1, c :: r, h => by
    by_cases hp : fw.isPrefixOf (c :: r) = true
    · obtain ⟨q, hq⟩ := shape hp
      rw [hq] at h ⊢
      have ih := unf_rep n q (by simp at h; omega)
      rw [unf_fw, rep_fw]
      constructor
      · intro v hv
        cases hu : unf false q with
        | none => rw [hu] at hv; cases hv
        | some u => rw [hu] at hv; cases hv; rw [ih.1 u hu]
      · intro hv
        cases hu : unf false q with
        | none => exact List.mem_cons_of_mem _ (ih.2 hu)
        | some u => rw [hu] at hv; cases hv
    · have ih := unf_rep n r (by simp at h; omega)
      rw [rep, if_neg hp, unf]
      by_cases hc : c = 13
      · rw [if_pos hc, if_neg (fun x => hp (pre_iff.2 ⟨hc, x⟩))]
        exact ⟨fun v h => (by cases h), fun _ => (by rw [hc]; exact List.mem_cons_self)⟩
      · rw [if_neg hc]
        constructor
        · intro v hv
          cases hu : unf false r with
          | none => rw [hu] at hv; cases hv
          | some u => rw [hu] at hv; cases hv; rw [ih.1 u hu]
        · intro hv
          cases hu : unf false r with
          | none => exact List.mem_cons_of_mem _ (ih.2 hu)
          | some u => rw [hu] at hv; cases hv
theorem rep_hit : ∀ (x : List UInt8) (i : Nat), Lib.index x fw = i → rep 0 x = x.take i ++ [32] ++ rep 0 (x.drop (i + 3))
  | [], i, h => by simp [Lib.index, fw] at h
  | c :: r, i, h => by
    rw [Lib.index] at h
    by_cases hp : fw.isPrefixOf (c :: r) = true
    · rw [if_pos hp] at h
      obtain rfl : i = 0 := by omega
      obtain ⟨q, hq⟩ := shape hp
      rw [hq, rep_fw]
      rfl
    · rw [if_neg hp] at h
      have hge := Lib.index_ge r fw
      by_cases h1 : Lib.index r fw = -1
      · rw [if_pos (by rw [h1]; rfl)] at h
        omega
      · rw [if_neg (by simpa using h1)] at h
        obtain ⟨j, rfl⟩ : ∃ j, i = j + 1 := ⟨i - 1, by omega⟩
        rw [rep, if_neg hp, rep_hit r j (by omega)]
        simp [Nat.add_right_comm j 1 3]
theorem rep_miss : ∀ (x : List UInt8), Lib.index x fw = -1 → rep 0 x = x
  | [], h => rfl
  | c :: r, h => by
    rw [Lib.index] at h
    by_cases hp : fw.isPrefixOf (c :: r) = true
    · rw [if_pos hp] at h
      cases h
    · rw [if_neg hp] at h
      by_cases h1 : Lib.index r fw = -1
      · rw [rep, if_neg hp, rep_miss r h1]
      · rw [if_neg (by simpa using h1)] at h
        have := Lib.index_ge r fw
        omega
theorem repK : ∀ (n : Nat) (x : List UInt8), x.length ≤ n → Lib.replaceK fw [32] (Lib.count x fw) x = rep 0 x
  | n, x, hn => by
    by_cases h : Lib.index x fw = -1
    · rw [Lib.count_miss h, rep_miss x h]
      rfl
    · obtain ⟨i, hi⟩ : ∃ i : Nat, Lib.index x fw = i := ⟨(Lib.index x fw).toNat, by have := Lib.index_ge x fw; omega⟩
      have hr := Lib.index_room x fw (by rw [hi]; omega)
      rw [hi] at hr
      match n with
      | 0 => simp [fw] at hr; omega
      | n + 1 =>
        have hc := Lib.count_hit (s := x) (sub := fw) (i := i) (by simp [fw]) hi
        rw [hc, Nat.add_comm, Lib.replaceK_hit _ _ _ _ i hi, rep_hit x i hi]
        rw [show fw.length = 3 from rfl, repK n (x.drop (i + 3)) (by rw [List.length_drop]; simp [fw] at hr; omega)]
theorem replaceAll_rep (x : List UInt8) : Lib.replaceAll x fw [32] = rep 0 x := by
  unfold Lib.replaceAll Lib.replace Lib.replaceNum
  rw [if_neg (by simp [fw]), if_pos (.inl (by decide))]
  exact repK x.length x (Nat.le_refl _)
theorem safe_no13 {l : List UInt8} (h : 13 ∈ l) : ¬ hd.Safe l := fun x => by have := hd.ascii x 13 h; simp at this
/-- The program's value is safe just if the text can be unfolded to a safe one. -/
theorem value_iff (x : List UInt8) : hd.Safe (Lib.replaceAll x fw [32]) ↔ ∃ v, unf false x = some v ∧ hd.Safe v := by
  rw [replaceAll_rep]
  have h := unf_rep x.length x (Nat.le_refl _)
  cases hu : unf false x with
  | none => exact ⟨fun hs => absurd hs (safe_no13 (h.2 hu)), fun ⟨v, hv, _⟩ => by cases hv⟩
  | some v =>
    rw [h.1 v hu]
    exact ⟨fun hs => ⟨v, rfl, hs⟩, fun ⟨v', hv, hs⟩ => by cases hv; exact hs⟩
theorem value_eq {x v : List UInt8} (h : unf false x = some v) : Lib.replaceAll x fw [32] = v := by rw [replaceAll_rep]; exact (unf_rep x.length x (Nat.le_refl _)).1 v h

theorem rep_len : ∀ (n : Nat) (x : List UInt8), x.length ≤ n → (rep 0 x).length ≤ x.length
  | 0, x, h => by
    obtain rfl : x = [] := List.eq_nil_of_length_eq_zero (by omega)
    exact Nat.le_refl _
  | n + 1, [], h => Nat.le_refl _
  | n + 1, c :: r, h => by
    by_cases hp : fw.isPrefixOf (c :: r) = true
    · obtain ⟨q, hq⟩ := shape hp
      rw [hq] at h ⊢
      have ih := rep_len n q (by simp at h; omega)
      rw [rep_fw]
      simp
      omega
    · have ih := rep_len n r (by simp at h; omega)
      rw [rep, if_neg hp]
      simp
      omega
/-- A field's name and what is behind its colon and blank, without the end of its line. -/
def Parts (l nm x : List UInt8) : Prop := l = nm ++ (58 :: 32 :: (x ++ [13, 10])) ∧ 58 ∉ nm
theorem colon_one : ∀ (a a' b b' : List UInt8), 58 ∉ a → 58 ∉ a' → a ++ 58 :: b = a' ++ 58 :: b' → a = a' ∧ b = b'
  | [], [], b, b', _, _, h => by cases h; exact ⟨rfl, rfl⟩
  | [], y :: a', b, b', _, h2, h => by cases h; exact absurd (List.mem_cons_self) h2
  | y :: a, [], b, b', h1, _, h => by cases h; exact absurd (List.mem_cons_self) h1
  | y :: a, z :: a', b, b', h1, h2, h => by
    simp only [List.cons_append, List.cons.injEq] at h
    have := colon_one a a' b b' (fun m => h1 (List.mem_cons_of_mem _ m)) (fun m => h2 (List.mem_cons_of_mem _ m)) h.2
    exact ⟨by rw [h.1, this.1], this.2⟩
theorem parts_one {l nm x nm' x' : List UInt8} (h : Parts l nm x) (h' : Parts l nm' x') : nm = nm' ∧ x = x' := by
  have h1 := colon_one _ _ _ _ h.2 h'.2 (h.1.symm.trans h'.1)
  refine ⟨h1.1, ?_⟩
  have h2 : x ++ [13, 10] = x' ++ [13, 10] := (List.cons.inj h1.2).2
  exact List.append_cancel_right h2
/-- A text is a field of this name and value. -/
def Field (IsName : ByteArray → Prop) (l nm v : List UInt8) : Prop := ∃ x, Parts l nm x ∧ IsName ⟨nm.toArray⟩ ∧ unf false x = some v ∧ hd.Safe v
theorem field_one {P : ByteArray → Prop} {l nm v nm' v' : List UInt8} (h : Field P l nm v) (h' : Field P l nm' v') : nm = nm' ∧ v = v' := by
  obtain ⟨x, hx, _, hu, _⟩ := h
  obtain ⟨x', hx', _, hu', _⟩ := h'
  obtain ⟨rfl, rfl⟩ := parts_one hx hx'
  rw [hu] at hu'
  cases hu'
  exact ⟨rfl, rfl⟩
end Go.Proofs.YtadfdfmebdcfgaaGreatDoor.uf

namespace Go.Proofs.YtadfdfmebdcfgaaGreatDoor.uf
open Go.RowKit
set_option linter.unusedVariables false

/-- What both UnfoldHeader functions answer. -/
def UhRet (s : ByteArray) (e : Ending) : Prop :=
  (65536 < s.size ∧ e = .returned (.tuple #[.string ⟨#[]⟩, .string ⟨#[]⟩, .int .i64 2])) ∨
  (s.size ≤ 65536 ∧ (¬ ∃ nm v, Field hn.IsName s.data.toList nm v) ∧ e = .returned (.tuple #[.string ⟨#[]⟩, .string ⟨#[]⟩, .int .i64 3])) ∨
  (s.size ≤ 65536 ∧ ∃ nm v : List UInt8, Field hn.IsName s.data.toList nm v ∧ e = .returned (.tuple #[.string ⟨nm.toArray⟩, .string ⟨v.toArray⟩, .int .i64 0]))
theorem uh_ex {s : ByteArray} {e : Ending} (h : UhRet s e) : ∃ (a b : ByteArray) (c : Int), e = .returned (.tuple #[.string a, .string b, .int .i64 c]) := by
  rcases h with ⟨_, rfl⟩ | ⟨_, _, rfl⟩ | ⟨_, _, _, _, rfl⟩ <;> exact ⟨_, _, _, rfl⟩
theorem uh_same {s a b a' b' : ByteArray} {c c' : Int} (h : UhRet s (.returned (.tuple #[.string a, .string b, .int .i64 c]))) (h' : UhRet s (.returned (.tuple #[.string a', .string b', .int .i64 c']))) : a = a' ∧ b = b' ∧ c = c' := by
  rcases h with ⟨x, h⟩ | ⟨x, x2, h⟩ | ⟨x, nm, v, hf, h⟩ <;>
  rcases h' with ⟨y, h'⟩ | ⟨y, y2, h'⟩ | ⟨y, nm', v', hf', h'⟩ <;>
  cases h <;> cases h' <;>
  first | exact ⟨rfl, rfl, rfl⟩ | (exfalso; omega) | (exfalso; exact x2 ⟨_, _, hf'⟩) | (exfalso; exact y2 ⟨_, _, hf⟩) | (obtain ⟨rfl, rfl⟩ := field_one hf hf'; exact ⟨rfl, rfl, rfl⟩)
theorem index_colon : ∀ (l : List UInt8), (Lib.index l [58] = -1 ∧ 58 ∉ l) ∨ ∃ i : Nat, Lib.index l [58] = i ∧ l = l.take i ++ 58 :: l.drop (i + 1) ∧ 58 ∉ l.take i
  | [] => .inl ⟨rfl, by simp⟩
  | c :: r => by
    by_cases hc : c = 58
    · refine .inr ⟨0, ?_, by rw [hc]; rfl, by simp⟩
      rw [Lib.index, if_pos (by simp [hc])]
      rfl
    · have hp : ¬ [58].isPrefixOf (c :: r) = true := by simp; exact fun e => hc e.symm
      rcases index_colon r with ⟨h1, h2⟩ | ⟨i, h1, h2, h3⟩
      · refine .inl ⟨?_, ?_⟩
        · rw [Lib.index, if_neg hp, if_pos (by rw [h1]; rfl)]
        · intro hm
          rcases List.mem_cons.1 hm with e | e
          · exact hc e.symm
          · exact h2 e
      · refine .inr ⟨i + 1, ?_, ?_, ?_⟩
        · rw [Lib.index, if_neg hp, if_neg (by rw [h1]; simp), h1]
          simp
        · simp only [List.take_succ_cons, List.drop_succ_cons, List.cons_append, List.cons.injEq, true_and]
          exact h2
        · intro hm
          rw [List.take_succ_cons] at hm
          rcases List.mem_cons.1 hm with e | e
          · exact hc e.symm
          · exact h3 e
/-- What a cut at the first colon gives. -/
def CutIs (l a r : List UInt8) (b : Bool) : Prop := (b = true ∧ l = a ++ 58 :: r ∧ 58 ∉ a) ∨ (b = false ∧ 58 ∉ l ∧ r = [])
theorem cut_is (l : List UInt8) : CutIs l (Lib.cut l [58]).1 (Lib.cut l [58]).2.1 (Lib.cut l [58]).2.2 := by
  rcases index_colon l with ⟨h1, h2⟩ | ⟨i, h1, h2, h3⟩
  · have e : Lib.cut l [58] = (l, [], false) := by
      unfold Lib.cut
      rw [if_neg (by rw [h1]; decide)]
    rw [e]
    exact .inr ⟨rfl, h2, rfl⟩
  · have e : Lib.cut l [58] = (l.take i, l.drop (i + 1), true) := by
      unfold Lib.cut
      rw [if_pos (by rw [h1]; omega), h1]
      rfl
    rw [e]
    exact .inl ⟨rfl, h2, h3⟩
def PreIs (l r : List UInt8) (b : Bool) : Prop := (b = true ∧ l = 32 :: r) ∨ (b = false ∧ ∀ q, l ≠ 32 :: q)
theorem pre_is (l : List UInt8) : PreIs l (Lib.trimPrefix l [32]) (Lib.hasPrefix l [32]) := by
  unfold Lib.trimPrefix Lib.hasPrefix
  match l with
  | [] => exact .inr ⟨rfl, fun q h => by cases h⟩
  | c :: r =>
    by_cases hc : c = 32
    · subst hc
      exact .inl ⟨rfl, rfl⟩
    · have hp : [32].isPrefixOf (c :: r) = false := by
        rw [Bool.eq_false_iff]
        intro h
        simp only [List.isPrefixOf, Bool.and_true, beq_iff_eq] at h
        exact hc h.symm
      rw [hp]
      exact .inr ⟨rfl, fun q h => hc (List.cons.inj h).1⟩
def SufIs (l r : List UInt8) (b : Bool) : Prop := (b = true ∧ l = r ++ [13, 10]) ∨ (b = false ∧ ∀ q, l ≠ q ++ [13, 10])
theorem suf_is (l : List UInt8) : SufIs l (Lib.trimSuffix l [13, 10]) (Lib.hasSuffix l [13, 10]) := by
  unfold Lib.trimSuffix Lib.hasSuffix
  cases h : [13, 10].isSuffixOf l with
  | false =>
    refine .inr ⟨rfl, fun q hq => ?_⟩
    have : [13, 10].isSuffixOf l = true := List.isSuffixOf_iff_suffix.2 ⟨q, hq.symm⟩
    rw [h] at this
    cases this
  | true =>
    obtain ⟨q, hq⟩ := List.isSuffixOf_iff_suffix.1 h
    refine .inl ⟨rfl, ?_⟩
    rw [if_pos rfl, ← hq]
    simp
theorem no_colon {P : ByteArray → Prop} {l : List UInt8} (h : 58 ∉ l) : ¬ ∃ nm v, Field P l nm v := by
  rintro ⟨nm, v, x, ⟨hx, _⟩, _⟩
  rw [hx] at h
  simp at h
theorem no_blank {P : ByteArray → Prop} {l a r : List UInt8} (h : l = a ++ 58 :: r) (ha : 58 ∉ a) (hr : ∀ q, r ≠ 32 :: q) : ¬ ∃ nm v, Field P l nm v := by
  rintro ⟨nm, v, x, ⟨hx, hm⟩, _⟩
  exact hr _ (colon_one _ _ _ _ ha hm (h.symm.trans hx)).2
theorem no_end {P : ByteArray → Prop} {l a r : List UInt8} (h : l = a ++ 58 :: 32 :: r) (ha : 58 ∉ a) (hr : ∀ q, r ≠ q ++ [13, 10]) : ¬ ∃ nm v, Field P l nm v := by
  rintro ⟨nm, v, x, ⟨hx, hm⟩, _⟩
  have := (colon_one _ _ _ _ ha hm (h.symm.trans hx)).2
  exact hr _ (List.cons.inj this).2
theorem no_name {P : ByteArray → Prop} {l a x : List UInt8} (h : Parts l a x) (hn : ¬ P ⟨a.toArray⟩) : ¬ ∃ nm v, Field P l nm v := by
  rintro ⟨nm, v, x', hx, hP, _⟩
  obtain ⟨rfl, rfl⟩ := parts_one h hx
  exact hn hP
theorem no_value {P : ByteArray → Prop} {l a x : List UInt8} (h : Parts l a x) (hn : ¬ ∃ v, unf false x = some v ∧ hd.Safe v) : ¬ ∃ nm v, Field P l nm v := by
  rintro ⟨nm, v, x', hx, _, hu, hs⟩
  obtain ⟨rfl, rfl⟩ := parts_one h hx
  exact hn ⟨v, hu, hs⟩

theorem name_true {p : Prop} {e : Ending} (h : hn.Says p e) (hp : p) : e = .returned (.bool true) := by
  obtain ⟨b, rfl, hb⟩ := h
  rw [hb.2 hp]
theorem name_false {p : Prop} {e : Ending} (h : hn.Says p e) (hp : ¬ p) : e = .returned (.bool false) := by
  obtain ⟨b, rfl, hb⟩ := h
  cases b
  · rfl
  · exact absurd (hb.1 rfl) hp
theorem bdrew {B : Nat} {a w : World} (h : Below B a w) (n : Nat) : Below B a (w.drewN n) := ⟨h.os, h.tape, h.output, h.size, h.block⟩

theorem clone_uf (s : ByteArray) (w : World) (hs : s.size ≤ 1048576) :
    Calls Tryz.prog 149 #[.string s] w fun e w' => e = .returned (.string s) ∧ Below w.heap.size w w' := by
  go_enter Tryz.func149, Tryz.ntmps149
  go_wp2_with fail
  refine (Tryz.stringslite_Clone s _ (by omega)).mono ?_
  rintro e w' ⟨rfl, hb⟩
  go_wp2
  go_ret
  exact ⟨rfl, hb⟩

set_option maxHeartbeats 4000000 in
set_option maxRecDepth 100000 in
theorem implUh_any (s : ByteArray) (w : World) (m : Int) (hm : w.cell? ⟨4, 0, none⟩ = some (.int .i64 m)) (hs : s.size ≤ 1048576) :
    Calls Tryz.prog 117 #[.string s] w fun e w' => UhRet s e ∧ Below w.heap.size w w' := by
  by_cases h : s.size ≤ 65536
  case neg =>
    have h' : (65536 : Int) < (s.size : Int) := by omega
    clear hm
    go_enter Tryz.func117, Tryz.ntmps117
    go_wp2
    go_ret3
    exact ⟨.inl ⟨by omega, rfl⟩, Below.refl _ _⟩
  have h' : (s.size : Int) ≤ 65536 := by omega
  have hgl := World.block_lt_of_cell? _ _ hm
  have HM : Hid (∀ W, Below w.heap.size w W → W.cell? ⟨4, 0, none⟩ = some (.int .i64 m)) := fun W hW => (hW.cell (p := ⟨4, 0, none⟩) hgl).trans hm
  clear hm hgl
  go_enter Tryz.func117, Tryz.ntmps117
  go_wp2_with fail
  refine (Tryz.strings_Cut s ⟨#[58]⟩ m _ (by omega) (HM.out _ (Below.refl _ _))).mono ?_
  rw [show (⟨#[58]⟩ : ByteArray).data.toList = [58] from rfl]
  have hC := cut_is s.data.toList
  obtain ⟨a, ha⟩ : ∃ a, a = (Lib.cut s.data.toList [58]).1 := ⟨_, rfl⟩
  obtain ⟨r1, hr1⟩ : ∃ r, r = (Lib.cut s.data.toList [58]).2.1 := ⟨_, rfl⟩
  obtain ⟨b1, hb1⟩ : ∃ b, b = (Lib.cut s.data.toList [58]).2.2 := ⟨_, rfl⟩
  rw [← ha, ← hr1, ← hb1] at hC ⊢
  rintro e w1 ⟨rfl, q1, hw1⟩
  have bw1 : Below w.heap.size w w1 := by rw [hw1]; exact bdrew (Below.refl _ _) _
  clear hw1 ha hr1 hb1
  have hl1 : r1.length ≤ 65536 := by
    rcases hC with ⟨_, hC, _⟩ | ⟨_, _, hC⟩
    · have := congrArg List.length hC
      rw [← Lib.size_eq] at this
      simp at this
      omega
    · rw [hC]; simp
  have hla : b1 = true → a.length ≤ 65536 := fun hb => by
    rcases hC with ⟨_, hC, _⟩ | ⟨hC, _⟩
    · have := congrArg List.length hC
      rw [← Lib.size_eq] at this
      simp at this
      omega
    · rw [hb] at hC; cases hC
  have HC : Hid (CutIs s.data.toList a r1 b1) := hC
  have HLA : Hid (b1 = true → a.length ≤ 65536) := hla
  clear hC hla
  obtain ⟨A, hA⟩ : ∃ A : ByteArray, A = ⟨a.toArray⟩ := ⟨_, rfl⟩
  obtain ⟨R1, hR1⟩ : ∃ R : ByteArray, R = ⟨r1.toArray⟩ := ⟨_, rfl⟩
  have hR1l : R1.data.toList = r1 := by rw [hR1]
  rw [← hA, ← hR1]
  have HA : Hid (A = ⟨a.toArray⟩) := hA
  clear hA hR1
  go_wp2_with fail
  refine (Tryz.strings_CutPrefix R1 ⟨#[32]⟩ _).mono ?_
  rw [show (⟨#[32]⟩ : ByteArray).data.toList = [32] from rfl, hR1l]
  have hC := pre_is r1
  obtain ⟨r2, hr2⟩ : ∃ r, r = Lib.trimPrefix r1 [32] := ⟨_, rfl⟩
  obtain ⟨b2, hb2⟩ : ∃ b, b = Lib.hasPrefix r1 [32] := ⟨_, rfl⟩
  have hl2 : r2.length ≤ 65536 := by rw [hr2]; unfold Lib.trimPrefix; split; rw [List.length_drop]; omega; exact hl1
  rw [← hr2, ← hb2] at hC ⊢
  rintro e w2 ⟨rfl, hw2⟩
  rw [hw2]
  have HP : Hid (PreIs r1 r2 b2) := hC
  obtain ⟨R2, hR2⟩ : ∃ R : ByteArray, R = ⟨r2.toArray⟩ := ⟨_, rfl⟩
  have hR2l : R2.data.toList = r2 := by rw [hR2]
  have hR2s : R2.size ≤ 65536 := by rw [Lib.size_eq, hR2l]; exact hl2
  rw [← hR2]
  clear hw2 hC hr2 hb2 hR2 hR1l hl1
  go_wp2_with fail
  refine (Tryz.strings_CutSuffix R2 ⟨#[13, 10]⟩ _ (by omega)).mono ?_
  rw [show (⟨#[13, 10]⟩ : ByteArray).data.toList = [13, 10] from rfl, hR2l]
  have hC := suf_is r2
  obtain ⟨x, hx⟩ : ∃ r, r = Lib.trimSuffix r2 [13, 10] := ⟨_, rfl⟩
  obtain ⟨b3, hb3⟩ : ∃ b, b = Lib.hasSuffix r2 [13, 10] := ⟨_, rfl⟩
  have hlx : x.length ≤ 65536 := by rw [hx]; unfold Lib.trimSuffix; split; rw [List.length_take]; omega; exact hl2
  rw [← hx, ← hb3] at hC ⊢
  rintro e w3 ⟨rfl, hw3⟩
  rw [hw3]
  have HF : Hid (SufIs r2 x b3) := hC
  obtain ⟨X, hX⟩ : ∃ R : ByteArray, R = ⟨x.toArray⟩ := ⟨_, rfl⟩
  have hXl : X.data.toList = x := by rw [hX]
  have hXs : X.size ≤ 65536 := by rw [Lib.size_eq, hXl]; exact hlx
  rw [← hX]
  clear hw3 hC hx hb3 hX hR2l hl2
  cases b1 with
  | false =>
    have HN : Hid (¬ ∃ nm v, Field hn.IsName s.data.toList nm v) := no_colon (by rcases HC.out with ⟨e, _⟩ | ⟨_, e, _⟩; cases e; exact e)
    go_wp2
    go_ret3
    exact ⟨.inr (.inl ⟨h, HN.out, rfl⟩), bw1⟩
  | true =>
    have HC1 : Hid (s.data.toList = a ++ 58 :: r1 ∧ 58 ∉ a) := by rcases HC.out with ⟨_, e⟩ | ⟨e, _⟩; exact e; cases e
    have hal := HLA.out rfl
    cases b2 with
    | false =>
      have HN : Hid (¬ ∃ nm v, Field hn.IsName s.data.toList nm v) := no_blank HC1.out.1 HC1.out.2 (by rcases HP.out with ⟨e, _⟩ | ⟨_, e⟩; cases e; exact e)
      go_wp2
      go_ret3
      exact ⟨.inr (.inl ⟨h, HN.out, rfl⟩), bw1⟩
    | true =>
      have HP1 : Hid (r1 = 32 :: r2) := by rcases HP.out with ⟨_, e⟩ | ⟨e, _⟩; exact e; cases e
      cases b3 with
      | false =>
        have HN : Hid (¬ ∃ nm v, Field hn.IsName s.data.toList nm v) := no_end (by rw [HC1.out.1, HP1.out]) HC1.out.2 (by rcases HF.out with ⟨e, _⟩ | ⟨_, e⟩; cases e; exact e)
        go_wp2
        go_ret3
        exact ⟨.inr (.inl ⟨h, HN.out, rfl⟩), bw1⟩
      | true =>
        have HF1 : Hid (r2 = x ++ [13, 10]) := by rcases HF.out with ⟨_, e⟩ | ⟨e, _⟩; exact e; cases e
        have HPA : Hid (Parts s.data.toList a x) := ⟨by rw [HC1.out.1, HP1.out, HF1.out], HC1.out.2⟩
        clear HC HP HF HC1 HP1 HF1
        go_wp2_with fail
        refine (Tryz.strings_ReplaceAll X ⟨#[13, 10, 32]⟩ ⟨#[32]⟩ m _ (by omega) (HM.out _ bw1) (by decide) (by have := Lib.countB_mul_le ⟨#[13, 10, 32]⟩ (by decide) X.size X (Nat.le_refl _); have e1 : (⟨#[13, 10, 32]⟩ : ByteArray).size = 3 := rfl; have e2 : (⟨#[32]⟩ : ByteArray).size = 1 := rfl; rw [e1] at this; rw [e2]; omega)).mono ?_
        rw [show (⟨#[13, 10, 32]⟩ : ByteArray).data.toList = fw from rfl, show (⟨#[32]⟩ : ByteArray).data.toList = [32] from rfl, hXl]
        rintro e w4 ⟨rfl, b4⟩
        have bw4 := bw1.trans (b4.mono bw1.size)
        obtain ⟨V, hV⟩ : ∃ V : ByteArray, V = ⟨(Lib.replaceAll x fw [32]).toArray⟩ := ⟨_, rfl⟩
        have hVl : V.data.toList = Lib.replaceAll x fw [32] := by rw [hV]
        rw [← hV]
        have HV : Hid (V = ⟨(Lib.replaceAll x fw [32]).toArray⟩) := hV
        have HVL : Hid (V.data.toList = Lib.replaceAll x fw [32]) := hVl
        clear hV hVl b4
        have hAs : A.size ≤ 65536 := by rw [HA.out, Lib.size_eq]; exact hal
        go_wp2_with fail
        refine (hn.impl_any A _ (by unfold maxLen; omega)).mono ?_
        rintro e w5 ⟨hsn, hw5⟩
        rw [hw5]
        clear hw5
        by_cases hname : hn.IsName A
        case neg =>
          obtain rfl := name_false hsn hname
          have HN : Hid (¬ ∃ nm v, Field hn.IsName s.data.toList nm v) := no_name HPA.out (by rw [← HA.out]; exact hname)
          clear hsn hname
          go_wp2
          go_ret3
          exact ⟨.inr (.inl ⟨h, HN.out, rfl⟩), bw4⟩
        obtain rfl := name_true hsn hname
        have HNM : Hid (hn.IsName A) := hname
        clear hsn hname
        by_cases hVs : V.size ≤ maxLen
        case neg =>
          exfalso
          apply hVs
          rw [Lib.size_eq, HVL.out, replaceAll_rep]
          have := rep_len x.length x (Nat.le_refl _)
          unfold maxLen
          omega
        go_wp2_with fail
        refine (sv.impl_any V _ hVs).mono ?_
        rintro e w6 ⟨hsv, hw6⟩
        rw [hw6]
        clear hw6
        rw [HVL.out] at hsv
        by_cases hsafe : hd.Safe (Lib.replaceAll x fw [32])
        case neg =>
          obtain rfl := sv.says_false hsv hsafe
          have HN : Hid (¬ ∃ nm v, Field hn.IsName s.data.toList nm v) := no_value HPA.out (fun e => hsafe ((value_iff x).2 e))
          clear hsv hsafe
          go_wp2
          go_ret3
          exact ⟨.inr (.inl ⟨h, HN.out, rfl⟩), bw4⟩
        obtain rfl := sv.says_true hsv hsafe
        have hVz : V.size ≤ 2000 := by rw [Lib.size_eq, HVL.out]; exact hsafe.1
        obtain ⟨v, hu, hvs⟩ := (value_iff x).1 hsafe
        have HU : Hid (unf false x = some v ∧ hd.Safe v) := ⟨hu, hvs⟩
        clear hsv hsafe hu hvs
        go_wp2_with fail
        refine (clone_uf A _ (by omega)).mono ?_
        rintro e w7 ⟨rfl, b7⟩
        go_wp2_with fail
        refine (clone_uf V _ (by omega)).mono ?_
        rintro e w8 ⟨rfl, b8⟩
        have bw8 := (bw4.trans (b7.mono bw4.size)).trans (b8.mono (bw4.trans (b7.mono bw4.size)).size)
        go_wp2
        go_ret3
        refine ⟨.inr (.inr ⟨h, a, v, ⟨x, HPA.out, by rw [← HA.out]; exact HNM.out, HU.out.1, HU.out.2⟩, ?_⟩), bw8⟩
        rw [HA.out, HV.out, value_eq HU.out.1]
        rfl
end Go.Proofs.YtadfdfmebdcfgaaGreatDoor.uf

namespace Go.Proofs.YtadfdfmebdcfgaaGreatDoor.ml
open Go.RowKit
set_option linter.unusedVariables false

theorem infoField : (Tryz.prog.info? 81).map (fun i => (i.zero, i.size, i.bytes)) = some (some (.agg #[.string ⟨#[]⟩, .string ⟨#[]⟩]), 2, 32) := by kernel_rfl
/-- A field of a name and a value. -/
def F : B → B → B → Prop := uf.Field hn.IsName
theorem F_one : One F := fun l a b a' b' h h' => uf.field_one h h'
/-- A text as a value, the cells of fields. -/
def tv (l : B) : Value := .string ⟨l.toArray⟩
def fcells : List (B × B) → List Value
  | [] => []
  | x :: fs => tv x.1 :: tv x.2 :: fcells fs
theorem fcells_snoc (fs : List (B × B)) (x : B × B) : fcells (fs ++ [x]) = fcells fs ++ [tv x.1, tv x.2] := by
  induction fs with
  | nil => rfl
  | cons y fs ih => simp [fcells, ih]
theorem fcells_len (fs : List (B × B)) : (fcells fs).length = fs.length * 2 := by
  induction fs with
  | nil => rfl
  | cons y fs ih => simp [fcells, ih]; omega
/-- Fields in memory that the call made. -/
def FieldsAt (w : World) (base : Nat) (v : Value) (fs : List (B × B)) : Prop := w.ownsRow base 81 2 v fs.length (fcells fs)
theorem fields_form {w : World} {base : Nat} {v : Value} {fs : List (B × B)} (h : FieldsAt w base v fs) : ∃ a cap, v = .slice a fs.length cap := by
  rcases h.2 with ⟨rfl, h0⟩ | ⟨g, cap, cur, rfl, _⟩
  · exact ⟨none, 0, by rw [h0]⟩
  · exact ⟨_, cap, rfl⟩
theorem fields_nil (w : World) (base : Nat) : FieldsAt w base (.slice none 0 0) [] := World.ownsRow_nil _ _ _ _

def FoRet (l : B) (base : Nat) (e : Ending) (w' : World) : Prop :=
  (∃ fs v, e = .returned (.tuple #[v, .bool true]) ∧ RunE F fs l [] ∧ fs.length ≤ 40 ∧ FieldsAt w' base v fs) ∨
  (e = .returned (.tuple #[.slice none 0 0, .bool false]) ∧ ∃ fs r f q, RunE F fs l r ∧ Chunk r f q ∧ (fs.length = 40 ∨ ¬ ∃ a v, F f a v))

set_option maxHeartbeats 4000000 in
set_option maxRecDepth 100000 in
theorem fieldsOf_any (s : ByteArray) (w : World) (m : Int) (hm : w.cell? ⟨4, 0, none⟩ = some (.int .i64 m)) (hs : s.size ≤ 65536) (hE : Ends s.data.toList) :
    Calls Tryz.prog 66 #[.string s] w fun e w' => FoRet s.data.toList w.heap.size e w' ∧ Below w.heap.size w w' := by
  obtain ⟨i0, hi, hz0, hz1, hz2⟩ := info_parts infoField
  have hgl := World.block_lt_of_cell? _ _ hm
  have HM : Hid (∀ W, Below w.heap.size w W → W.cell? ⟨4, 0, none⟩ = some (.int .i64 m)) := fun W hW => (hW.cell (p := ⟨4, 0, none⟩) hgl).trans hm
  have HE : Hid (Ends s.data.toList) := hE
  clear hm hgl hE
  go_enter Tryz.func66, Tryz.ntmps66
  go_wp2
  go_loopw [0, 4] (fun t v wr => ∃ (r : ByteArray) (fs : List (B × B)), t = .string r ∧ r.size ≤ 65536 ∧ Ends r.data.toList ∧ RunE F fs s.data.toList r.data.toList ∧ fs.length ≤ 40 ∧ FieldsAt wr w.heap.size v fs ∧ Below w.heap.size w wr) (fun t _ _ => (match t with | .string r => r.size | _ => 0))
  case atStart => exact ⟨s, [], rfl, hs, HE.out, rfl, by simp, fields_nil _ _, Below.refl _ _⟩
  case round =>
    obtain ⟨r, fs, rfl, hrl, hEr, hrun, hfl, hfa, hbw⟩ := hrel
    have HRUN : Hid (RunE F fs s.data.toList r.data.toList) := hrun
    have HBW : Hid (Below w.heap.size w wr) := hbw
    have hBs := hbw.size
    obtain ⟨a, cap, rfl⟩ := fields_form hfa
    have HFA : Hid (FieldsAt wr w.heap.size (.slice a fs.length cap) fs) := hfa
    clear hrun hfa
    by_cases h0 : r.data.toList = []
    · have hr0 : r = ⟨#[]⟩ := by rw [mk_list r, h0]
      subst hr0
      go_wp2
      go_ret2
      exact ⟨.inl ⟨fs, _, rfl, HRUN.out, hfl, HFA.out⟩, HBW.out⟩
    have he : r.toList.isEmpty = false := by rw [Lib.toList_data]; exact isEmpty_no h0
    have HFS : Hid (Calls Tryz.prog 116 #[.string r] wr fun e w' => (∃ p : Nat, e = .returned (.int .i64 p) ∧ Seek r.data.toList p ∧ (r.data.toList.drop p).head? ≠ some 32) ∧ ∃ n, w' = wr.drewN n) := (show Calls _ _ _ _ _ from fieldSize_any r wr m (HM.out _ hbw) hrl hEr h0)
    have HEr : Hid (Ends r.data.toList) := hEr
    clear hbw hEr h0
    go_wp2_with fail
    refine HFS.out.mono ?_
    rintro e w1 ⟨⟨p, rfl, hsk, hnb⟩, n1, hw1⟩
    have hple := seek_le hsk
    rw [← Lib.size_eq] at hple
    have hch := seek_end hsk hnb
    have hpz : 2 ≤ p := by obtain ⟨j, hj, _⟩ := hsk; omega
    have hE2 := seek_ends hsk HEr.out
    have HB1 : Hid (Below w.heap.size w w1) := (show Below _ _ _ by rw [hw1]; exact uf.bdrew HBW.out n1)
    have HF1 : Hid (FieldsAt w1 w.heap.size (.slice a fs.length cap) fs) := (show FieldsAt _ _ _ _ by rw [hw1]; exact ow.own_below HFA.out (uf.bdrew (Below.refl _ _) n1))
    have hBs1 : w.heap.size ≤ w1.heap.size := HB1.out.size
    have hp1 : (0 : Int) ≤ (p : Int) := by omega
    have hp2 : (p : Int) ≤ (r.size : Int) := by omega
    have HUN := uf.implUh_any (r.extract 0 p) w1 m (HM.out _ HB1.out) (by rw [ext_size _ _ _ hple]; omega)
    have HCH : Hid (Chunk r.data.toList (r.data.toList.take p) (r.data.toList.drop p)) := hch
    have HE2 : Hid (Ends (r.data.toList.drop p)) := hE2
    clear hw1 hsk hnb hch hE2 HFS HFA HBW
    go_wp2_with fail
    refine HUN.mono ?_
    rintro e w2 ⟨hur, hb2⟩
    have HB2 : Hid (Below w.heap.size w w2) := HB1.out.trans (hb2.mono hBs1)
    have HF2 : Hid (FieldsAt w2 w.heap.size (.slice a fs.length cap) fs) := ow.own_below HF1.out hb2
    have hBs2 : w.heap.size ≤ w2.heap.size := HB2.out.size
    clear hb2 HUN HB1 HF1
    rcases hur with ⟨hbig, _⟩ | ⟨_, hno, rfl⟩ | ⟨_, nm, v, hf, rfl⟩
    · rw [ext_size _ _ _ hple] at hbig
      omega
    · have HN : Hid (¬ ∃ a v, F (r.data.toList.take p) a v) := (show ¬ _ by rw [ext_front] at hno; exact hno)
      clear hno
      go_wp2
      go_ret2
      exact ⟨.inr ⟨rfl, fs, _, _, _, HRUN.out, HCH.out, .inr HN.out⟩, HB2.out⟩
    · have HFF : Hid (F (r.data.toList.take p) nm v) := (show F _ _ _ by rw [ext_front] at hf; exact hf)
      clear hf
      by_cases h40 : fs.length = 40
      · have d40 : ((fs.length : Int) == 40) = true := beq_iff_eq.2 (by omega)
        have H40 : Hid (fs.length = 40) := h40
        clear h40
        go_wp2
        go_ret2
        exact ⟨.inr ⟨rfl, fs, _, _, _, HRUN.out, HCH.out, .inl H40.out⟩, HB2.out⟩
      · have d40 : ((fs.length : Int) == 40) = false := beq_eq_false_iff_ne.2 (by omega)
        have hown := HF2.out
        unfold FieldsAt at hown
        generalize hnb' : (⟨nm.toArray⟩ : ByteArray) = NM
        generalize hvb' : (⟨v.toArray⟩ : ByteArray) = VV
        have HNM : Hid (tv nm = .string NM ∧ tv v = .string VV) := (show _ ∧ _ by rw [← hnb', ← hvb']; exact ⟨rfl, rfl⟩)
        clear hnb' hvb'
        go_wp2_with (at_builtin; go_loud (refine wpList_append_own _ rfl _ _ 40 rfl w.heap.size 81 i0 _ 2 32 Tryz.underlying40 hi hz0 hz1 hz2 rfl (by decide) _ _ _ rfl (hown.alloc _) ⟨w2.heap.size, 0, none⟩ 1 1 [Value.string NM, Value.string VV] rfl rfl (by have hh := ow.cells_new w2 [Value.string NM, Value.string VV] 81; simpa using hh) (by simp [Value.oneCell']) (by unfold maxLen; omega) (by omega) (by simp; omega) ?_); intro v' w6 hown' hgrow _)
        have hb6 : Below w.heap.size w w6 := Below.grown (HB2.out.alloc hBs2 _) hgrow (by simp; omega) (ow.own_lt hown)
        have HB6 : Hid (Below w.heap.size w w6) := hb6
        have HF6 : Hid (FieldsAt w6 w.heap.size v' (fs ++ [(nm, v)])) := (show FieldsAt _ _ _ _ by
          unfold FieldsAt
          rw [fcells_snoc, List.length_append, HNM.out.1, HNM.out.2]
          exact hown')
        clear hown' hgrow hb6 hown
        go_wp2
        go_roundw
        case rel =>
          refine ⟨r.extract p r.size, fs ++ [(nm, v)], rfl, by rw [ext_size _ _ _ (Nat.le_refl _)]; omega, by rw [ext_tail]; exact HE2.out, ?_, by simp; omega, HF6.out, HB6.out⟩
          rw [ext_tail]
          exact runE_snoc HRUN.out HCH.out HFF.out
        case measure => simp [ext_size r p r.size (Nat.le_refl _)]; omega
end Go.Proofs.YtadfdfmebdcfgaaGreatDoor.ml

namespace Go.Proofs.YtadfdfmebdcfgaaGreatDoor.ml
open Go.RowKit
set_option linter.unusedVariables false

/-- A text is a mail of these fields and this body. -/
def IsMail (l : B) (fs : List (B × B)) (b : B) : Prop := mok 0 l = true ∧ Par F fs l b ∧ fs.length ≤ 40
theorem isMail_one {l : B} {fs fs' : List (B × B)} {b b' : B} (h : IsMail l fs b) (h' : IsMail l fs' b') : fs = fs' ∧ b = b' := par_one F_one h.2.1 h'.2.1
/-- A mail as a value. -/
def MV (v : Value) (b : B) : Value := .agg #[v, tv b]
def noMV : Value := .agg #[.slice none 0 0, .string ⟨#[]⟩]
def RlRet (l : B) (base : Nat) (e : Ending) (w' : World) : Prop :=
  (65536 < l.length ∧ e = .returned (.tuple #[noMV, .int .i64 2])) ∨
  (l.length ≤ 65536 ∧ (¬ ∃ fs b, IsMail l fs b) ∧ e = .returned (.tuple #[noMV, .int .i64 3])) ∨
  (l.length ≤ 65536 ∧ ∃ fs b v, IsMail l fs b ∧ e = .returned (.tuple #[MV v b, .int .i64 0]) ∧ FieldsAt w' base v fs)

theorem box_cell (w : World) (xs : Array Value) (t : TypeId) (j : Nat) (u : Value) (h : xs[j]? = some u) : (w.alloc (.cells xs t)).cell? ⟨w.heap.size, j, none⟩ = some u := by
  have := ow.cell_new w xs.toList t j u (by simpa using h)
  simpa using this
theorem kept {w W W' : World} {b : Nat} {j : Nat} {u : Value} (hb : Below W.heap.size W W') (h : W.cell? ⟨b, j, none⟩ = some u) : W'.cell? ⟨b, j, none⟩ = some u :=
  (hb.cell (p := ⟨b, j, none⟩) (World.block_lt_of_cell? W _ h)).trans h
theorem app_list (a b : ByteArray) : (a ++ b).data.toList = a.data.toList ++ b.data.toList := by rw [ByteArray.data_append, Array.toList_append]

set_option maxHeartbeats 1000000 in
theorem newLetter_any (b : ByteArray) (a : Option Addr) (n c : Nat) (w : World) : Calls Tryz.prog 49 #[.string b, .slice a n c] w fun e w' => e = .returned (.agg #[.slice a n c, .string b]) ∧ Below w.heap.size w w' := by
  go_enter Tryz.func49, Tryz.ntmps49
  go_wp2
  refine bodyPost_ret (v := .agg #[.slice a n c, .string b]) (by simp [results, Tryz.results49, go_sem]) rfl ⟨rfl, ?_⟩
  exact (Below.refl _ w).alloc (Nat.le_refl _) _

set_option maxHeartbeats 4000000 in
set_option maxRecDepth 100000 in
theorem readLetter_any (s : ByteArray) (w : World) (m : Int) (hm : w.cell? ⟨4, 0, none⟩ = some (.int .i64 m)) (hs : s.size ≤ 1048576) :
    Calls Tryz.prog 24 #[.string s] w fun e w' => RlRet s.data.toList w.heap.size e w' ∧ Below w.heap.size w w' := by
  by_cases hl : s.size ≤ 65536
  case neg =>
    have hl' : (65536 : Int) < (s.size : Int) := by omega
    clear hm
    go_enter Tryz.func24, Tryz.ntmps24
    go_wp2
    refine bodyPost_ret (v := .tuple #[noMV, .int .i64 2]) (by simp [results, Tryz.results24, go_sem, noMV]) rfl ⟨.inl ⟨by rw [← Lib.size_eq]; omega, rfl⟩, ?_⟩
    exact (Below.refl _ w).alloc (Nat.le_refl _) _
  have hl' : (s.size : Int) ≤ 65536 := by omega
  have HL : Hid (s.data.toList.length ≤ 65536) := (show _ ≤ _ by rw [← Lib.size_eq]; exact hl)
  have hgl := World.block_lt_of_cell? _ _ hm
  have HM : Hid (∀ W, Below w.heap.size w W → W.cell? ⟨4, 0, none⟩ = some (.int .i64 m)) := fun W hW => (hW.cell (p := ⟨4, 0, none⟩) hgl).trans hm
  clear hm hgl
  go_enter Tryz.func24, Tryz.ntmps24
  go_wp2_with fail
  generalize hW0 : World.alloc _ _ = W0
  have L0 : b2.Box W0 w.heap.size 43 (.slice none 0 0) (.string ⟨#[]⟩) := by rw [← hW0]; exact b2.new _ _ _ _
  have b0 : Below w.heap.size w W0 := by rw [← hW0]; exact (Below.refl _ w).alloc (Nat.le_refl _) _
  clear hW0
  have HB0 : Hid (Below w.heap.size w W0) := b0
  have HL0 : Hid (b2.Box W0 w.heap.size 43 (.slice none 0 0) (.string ⟨#[]⟩)) := L0
  have hIX := Tryz.strings_Index (⟨#[13, 10]⟩ ++ s) ⟨#[13, 10, 13, 10]⟩ m W0 (by rw [ByteArray.size_append]; show 2 + _ < _; omega) (HM.out _ b0)
  rw [app_list, show (⟨#[13, 10]⟩ : ByteArray).data.toList = nl from rfl, show (⟨#[13, 10, 13, 10]⟩ : ByteArray).data.toList = nl ++ nl from rfl] at hIX
  have HOK : Hid (∀ W, Below w.heap.size w W → Calls Tryz.prog 11 #[.string s] W fun e w' => e = .returned (.bool (mok 0 s.data.toList)) ∧ ∃ n, w' = W.drewN n) := fun W hW => by
    have := impl_mok s W m (HM.out W hW) (by omega)
    rwa [decide_eq_true hl, Bool.true_and] at this
  rcases Lib.index_spec (nl ++ s.data.toList) (nl ++ nl) with ⟨hi, _⟩ | ⟨n, hi, hnl, _⟩
  · rw [hi] at hIX
    have HNO : Hid (¬ ∃ fs b, IsMail s.data.toList fs b) := (show ¬ _ from fun ⟨fs, b, h⟩ => no_empty_line hi ⟨fs, b, h.2.1, h.2.2⟩)
    have HIX : Hid (Calls Tryz.prog 65 #[.string (⟨#[13, 10]⟩ ++ s), .string ⟨#[13, 10, 13, 10]⟩] W0 fun e w' => e = .returned (.int .i64 (-1)) ∧ w' = W0) := hIX
    clear hIX hi b0
    refine HIX.out.mono ?_
    rintro e w1 ⟨rfl, rfl⟩
    have c0 := HL0.out.c0
    have c1 := HL0.out.c1
    have f0 := HL0.out.f 0
    have f1 := HL0.out.f 1
    clear L0
    go_wp2
    have L2 := HL0.out.put (a' := .slice none 0 0) (b' := .string ⟨#[]⟩)
    have b3 := b2.put_below (a := .slice none 0 0) (b := .string ⟨#[]⟩) HB0.out (Nat.le_refl _)
    clear c0 c1 f0 f1
    unfold b2.put at L2 b3
    generalize hX : World.setCell _ _ _ = X at L2 b3 ⊢
    clear hX
    have c0 := L2.c0
    have c1 := L2.c1
    refine bodyPost_ret (v := .tuple #[noMV, .int .i64 3]) (by simp [results, Tryz.results24, go_sem, noMV, c0, c1]) rfl ⟨.inr (.inl ⟨HL.out, HNO.out, rfl⟩), b3⟩
  · rw [hi] at hIX
    have hh := head_at hi
    have HIX : Hid (Calls Tryz.prog 65 #[.string (⟨#[13, 10]⟩ ++ s), .string ⟨#[13, 10, 13, 10]⟩] W0 fun e w' => e = .returned (.int .i64 (n : Int)) ∧ w' = W0) := hIX
    have hns : n + 2 ≤ s.size := by have := len_end (k := n) hh.2.1; rwa [← Lib.size_eq] at this
    have HH : Hid (HeadAt s.data.toList n) := hh
    have HO0 := HOK.out W0 b0
    clear hIX hi b0 hh hnl
    have hn0 : ¬ (n : Int) < 0 := by omega
    cases hmk : mok 0 s.data.toList with
    | false =>
      rw [hmk] at HO0
      have HO1 : Hid (Calls Tryz.prog 11 #[.string s] W0 fun e w' => e = .returned (.bool false) ∧ ∃ n, w' = W0.drewN n) := HO0
      have HNO : Hid (¬ ∃ fs b, IsMail s.data.toList fs b) := (show ¬ _ from fun ⟨fs, b, h⟩ => by have := h.1; rw [hmk] at this; cases this)
      clear HO0 hmk HOK
      refine HIX.out.mono ?_
      rintro e w1 ⟨rfl, rfl⟩
      go_wp2_with (go_at_call 11; refine HO1.out.mono ?_; rintro e w2 ⟨rfl, k2, rfl⟩; have c0 := HL0.out.c0; have c1 := HL0.out.c1; have f0 := HL0.out.f 0; have f1 := HL0.out.f 1)
      have L2 := (HL0.out.below (uf.bdrew (Below.refl _ _) k2)).put (a' := .slice none 0 0) (b' := .string ⟨#[]⟩)
      have b3 := b2.put_below (a := .slice none 0 0) (b := .string ⟨#[]⟩) (uf.bdrew HB0.out k2) (Nat.le_refl _)
      unfold b2.put at L2 b3
      generalize hX : World.setCell _ _ _ = X at L2 b3 ⊢
      clear hX
      have c0 := L2.c0
      have c1 := L2.c1
      refine bodyPost_ret (v := .tuple #[noMV, .int .i64 3]) (by simp [results, Tryz.results24, go_sem, noMV, c0, c1]) rfl ⟨.inr (.inl ⟨HL.out, HNO.out, rfl⟩), b3⟩
    | true =>
      rw [hmk] at HO0
      have HO1 : Hid (Calls Tryz.prog 11 #[.string s] W0 fun e w' => e = .returned (.bool true) ∧ ∃ n, w' = W0.drewN n) := HO0
      have HMK : Hid (mok 0 s.data.toList = true) := hmk
      clear HO0 hmk HOK
      refine HIX.out.mono ?_
      rintro e w1 ⟨rfl, rfl⟩
      have hn1 : (0 : Int) ≤ (n : Int) := by omega
      have hn2 : (n : Int) ≤ (s.size : Int) := by omega
      clear L0
      go_wp2_with (go_at_call 11; refine HO1.out.mono ?_; rintro e w2 ⟨rfl, k2, hw2⟩; have HB2 : Hid (Below w.heap.size w w2) := (show Below _ _ _ by rw [hw2]; exact uf.bdrew HB0.out k2); have HL2 : Hid (b2.Box w2 w.heap.size 43 (.slice none 0 0) (.string ⟨#[]⟩)) := (show b2.Box _ _ _ _ _ by rw [hw2]; exact HL0.out.below (uf.bdrew (Below.refl _ _) k2)); clear hw2)
      have hFO := fieldsOf_any (s.extract 0 n) w2 m (HM.out _ HB2.out) (by rw [ext_size _ _ _ (by omega)]; omega) (by rw [ext_front]; exact HH.out.2.2.1)
      rw [ext_front] at hFO
      refine hFO.mono ?_
      rintro e w3 ⟨hr, hb3⟩
      have HB3 : Hid (Below w.heap.size w w3) := HB2.out.trans (hb3.mono HB2.out.size)
      have HL3 : Hid (b2.Box w3 w.heap.size 43 (.slice none 0 0) (.string ⟨#[]⟩)) := HL2.out.below hb3
      have hz2 := HB2.out.size
      clear hFO hb3 HL2 HB2 HL0 HB0
      rcases hr with ⟨fs, v, rfl, hrun, hfl, hfa⟩ | ⟨rfl, fs, r, f, q, hrun, hch, hwhy⟩
      · have HP : Hid (IsMail s.data.toList fs (s.data.toList.drop (n + 2))) := (show IsMail _ _ _ from ⟨HMK.out, par_of HH.out hrun, hfl⟩)
        have HFA : Hid (FieldsAt w3 w.heap.size v fs) := ow.own_base hfa hz2
        obtain ⟨a, cap, rfl⟩ := fields_form hfa
        clear hrun hfl hfa
        have hn3 : (n : Int) + 2 ≤ (s.size : Int) := by omega
        generalize hln : fs.length = ln at *
        go_wp2_with fail
        refine (newLetter_any (s.extract (n + 2) s.size) a ln cap w3).mono ?_
        rintro e w4 ⟨rfl, hb4⟩
        have HB4 : Hid (Below w.heap.size w w4) := HB3.out.trans (hb4.mono HB3.out.size)
        have L4 := HL3.out.below hb4
        have HFA4 : Hid (FieldsAt w4 w.heap.size (.slice a ln cap) fs) := ow.own_below HFA.out hb4
        have c0 := L4.c0
        have c1 := L4.c1
        have f0 := L4.f 0
        have f1 := L4.f 1
        have HL4 : Hid (b2.Box w4 w.heap.size 43 (.slice none 0 0) (.string ⟨#[]⟩)) := L4
        clear L4 hb4
        go_wp2
        have L5 := HL4.out.put (a' := .slice a ln cap) (b' := .string (s.extract (n + 2) s.size))
        have b5 := b2.put_below (a := .slice a ln cap) (b := .string (s.extract (n + 2) s.size)) HB4.out (Nat.le_refl _)
        have o5 : FieldsAt (b2.put w4 w.heap.size (.slice a ln cap) (.string (s.extract (n + 2) s.size))) w.heap.size (.slice a ln cap) fs := b2.own_put HL4.out (by decide) HFA4.out
        clear c0 c1 f0 f1
        unfold b2.put at L5 b5 o5
        generalize hX : World.setCell _ _ _ = X at L5 b5 o5 ⊢
        clear hX
        have c0 := L5.c0
        have c1 := L5.c1
        have eb : tv (s.data.toList.drop (n + 2)) = .string (s.extract (n + 2) s.size) := by
          unfold tv
          rw [← ext_tail, ← mk_list]
        refine bodyPost_ret (v := .tuple #[MV (.slice a ln cap) (s.data.toList.drop (n + 2)), .int .i64 0]) (by simp [results, Tryz.results24, go_sem, MV, eb, c0, c1]) rfl ⟨.inr (.inr ⟨HL.out, fs, _, _, HP.out, rfl, o5⟩), b5⟩
      · have HNO : Hid (¬ ∃ fs b, IsMail s.data.toList fs b) := (show ¬ _ from fun ⟨fs, b, h⟩ => no_par_of F_one HH.out hrun hch hwhy ⟨fs, b, h.2.1, h.2.2⟩)
        clear hrun hch hwhy
        have c0 := HL3.out.c0
        have c1 := HL3.out.c1
        have f0 := HL3.out.f 0
        have f1 := HL3.out.f 1
        go_wp2
        have L2 := HL3.out.put (a' := .slice none 0 0) (b' := .string ⟨#[]⟩)
        have b3 := b2.put_below (a := .slice none 0 0) (b := .string ⟨#[]⟩) HB3.out (Nat.le_refl _)
        clear c0 c1 f0 f1
        unfold b2.put at L2 b3
        generalize hX : World.setCell _ _ _ = X at L2 b3 ⊢
        clear hX
        have c0 := L2.c0
        have c1 := L2.c1
        refine bodyPost_ret (v := .tuple #[noMV, .int .i64 3]) (by simp [results, Tryz.results24, go_sem, noMV, c0, c1]) rfl ⟨.inr (.inl ⟨HL.out, HNO.out, rfl⟩), b3⟩
end Go.Proofs.YtadfdfmebdcfgaaGreatDoor.ml
