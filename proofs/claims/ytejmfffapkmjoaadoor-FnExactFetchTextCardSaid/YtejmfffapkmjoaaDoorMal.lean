/-
  Plain facts on mails: lines of characters below 128, each ended by CRLF.
-/
import Derived.Lib.IndexMore
import Derived.Lib.IndexLaws
namespace Go.Proofs.YtejmfffapkmjoaaDoor.ml
open Go
set_option linter.unusedVariables false

/-- A character that may stand in no line. -/
def bad (c : UInt8) : Bool := c == 0 || decide (127 < c.toNat) || c == 13 || c == 10
/-- Whether a text, behind some characters of a line, is lines of a mail. -/
def mok : Nat → List UInt8 → Bool
  | w, [] => w == 0
  | w, [c] => false
  | w, a :: b :: r => if a = 13 ∧ b = 10 then mok 0 r else if bad a = true ∨ 998 < w + 1 then false else mok (w + 1) (b :: r)
def nl : List UInt8 := [13, 10]
def good (l : List UInt8) : Bool := l.all fun c => !bad c
theorem good_iff {l : List UInt8} : good l = true ↔ ∀ c ∈ l, bad c = false := by simp [good]

theorem mok_end (w : Nat) (r : List UInt8) : mok w (13 :: 10 :: r) = mok 0 r := by rw [mok, if_pos ⟨rfl, rfl⟩]
/-- A character that begins no end of a line. -/
theorem mok_cons {w : Nat} {c : UInt8} {r : List UInt8} (h : ¬ (c = 13 ∧ r.head? = some 10)) : mok w (c :: r) = (decide (bad c = false ∧ w + 1 ≤ 998) && mok (w + 1) r) := by
  match r with
  | [] =>
    rw [mok, mok]
    simp
  | b :: r =>
    rw [mok, if_neg (by simpa using h)]
    by_cases h1 : bad c = true ∨ 998 < w + 1
    · rw [if_pos h1, decide_eq_false (by rintro ⟨h2, h3⟩; rcases h1 with h1 | h1; rw [h2] at h1; cases h1; omega)]
      rfl
    · rw [if_neg h1, decide_eq_true ⟨by simpa using fun e => h1 (.inl e), by omega⟩]
      rfl
theorem mok_bad {w : Nat} {c : UInt8} {r : List UInt8} (h : ¬ (c = 13 ∧ r.head? = some 10)) (hb : bad c = true ∨ 998 < w + 1) : mok w (c :: r) = false := by
  rw [mok_cons h, decide_eq_false (by rintro ⟨h2, h3⟩; rcases hb with h1 | h1; rw [h2] at h1; cases h1; omega)]
  rfl
theorem mok_good {w : Nat} {c : UInt8} {r : List UInt8} (h : ¬ (c = 13 ∧ r.head? = some 10)) (hb : bad c = false) (hw : w + 1 ≤ 998) : mok w (c :: r) = mok (w + 1) r := by
  rw [mok_cons h, decide_eq_true ⟨hb, hw⟩]
  rfl
theorem head_pre {c : UInt8} {r : List UInt8} : nl.isPrefixOf (c :: r) = true ↔ c = 13 ∧ r.head? = some 10 := by
  unfold nl
  match r with
  | [] => simp
  | a :: q =>
    simp only [List.isPrefixOf, Bool.and_eq_true, beq_iff_eq, List.head?_cons, Option.some.injEq, and_true]
    exact ⟨fun h => ⟨h.1.symm, h.2.symm⟩, fun h => ⟨h.1.symm, h.2.symm⟩⟩
theorem index_cons (c : UInt8) (r : List UInt8) : Lib.index (c :: r) nl = if nl.isPrefixOf (c :: r) then 0 else if Lib.index r nl == -1 then -1 else Lib.index r nl + 1 := by rw [Lib.index]
/-- Without an end of a line no text but the empty one is lines. -/
theorem mok_none : ∀ (l : List UInt8) (w : Nat), Lib.index l nl = -1 → (w ≠ 0 ∨ l ≠ []) → mok w l = false
  | [], w, _, h => by
    rw [mok]
    have : w ≠ 0 := h.resolve_right (fun h => h rfl)
    simpa using this
  | c :: r, w, hi, _ => by
    rw [index_cons] at hi
    by_cases hp : nl.isPrefixOf (c :: r) = true
    · rw [if_pos hp] at hi; cases hi
    · rw [if_neg hp] at hi
      have hr : Lib.index r nl = -1 := by
        by_cases e : Lib.index r nl = -1
        · exact e
        · rw [if_neg (by simpa using e)] at hi
          have := Lib.index_ge r nl
          omega
      rw [mok_cons (fun h => hp (head_pre.2 h)), mok_none r (w + 1) hr (.inl (by omega)), Bool.and_false]
/-- A line, its end and the rest. -/
theorem mok_line : ∀ (l : List UInt8) (w i : Nat), Lib.index l nl = i → mok w l = (decide (good (l.take i) = true ∧ w + i ≤ 998 ∨ i = 0) && mok 0 (l.drop (i + 2)))
  | [], w, i, h => by simp [Lib.index, nl] at h
  | c :: r, w, i, h => by
    rw [index_cons] at h
    by_cases hp : nl.isPrefixOf (c :: r) = true
    · rw [if_pos hp] at h
      obtain rfl : i = 0 := by omega
      obtain ⟨rfl, h2⟩ := head_pre.1 hp
      match r, h2 with
      | b :: q, h2 =>
        cases h2
        rw [mok_end, decide_eq_true (.inr rfl)]
        rfl
    · rw [if_neg hp] at h
      have hge := Lib.index_ge r nl
      by_cases h1 : Lib.index r nl = -1
      · rw [if_pos (by rw [h1]; rfl)] at h
        omega
      · rw [if_neg (by simpa using h1)] at h
        obtain ⟨j, rfl⟩ : ∃ j, i = j + 1 := ⟨i - 1, by omega⟩
        rw [mok_cons (fun h => hp (head_pre.2 h)), mok_line r (w + 1) j (by omega), ← Bool.and_assoc]
        congr 1
        rw [← Bool.decide_and]
        apply decide_eq_decide.2
        simp only [List.take_succ_cons, good_iff, List.mem_cons, forall_eq_or_imp]
        constructor
        · rintro ⟨⟨h1, h2⟩, ⟨h3, h4⟩ | h3⟩
          · exact .inl ⟨⟨h1, h3⟩, by omega⟩
          · subst h3
            exact .inl ⟨⟨h1, by simp⟩, by omega⟩
        · rintro (⟨⟨h1, h2⟩, h3⟩ | h3)
          · exact ⟨⟨h1, by omega⟩, .inl ⟨h2, by omega⟩⟩
          · omega
theorem mok_zero {l : List UInt8} {i : Nat} (h : Lib.index l nl = i) : mok 0 l = (decide (good (l.take i) = true ∧ i ≤ 998) && mok 0 (l.drop (i + 2))) := by
  rw [mok_line l 0 i h]
  congr 1
  apply decide_eq_decide.2
  constructor
  · rintro (⟨h1, h2⟩ | rfl)
    · exact ⟨h1, by omega⟩
    · exact ⟨by simp [good], by omega⟩
  · rintro ⟨h1, h2⟩
    exact .inl ⟨h1, by omega⟩
end Go.Proofs.YtejmfffapkmjoaaDoor.ml
