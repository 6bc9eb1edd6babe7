/-
  The contracts of the specification's ParseMail and of both MailLines functions.
-/
import Derived.Test.YtejmfffapkmjoaaDoorPad
namespace Go.Proofs.YtejmfffapkmjoaaDoor.ml
open Go.RowKit
set_option linter.unusedVariables false


/-- How many ends of lines a text has. -/
def tens (l : B) : Nat := (l.filter (· == 10)).length
theorem tens_app (a b : B) : tens (a ++ b) = tens a + tens b := by simp [tens]
theorem tens_good {l : B} (h : good l = true) : tens l = 0 := by
  unfold tens
  rw [List.length_eq_zero_iff, List.filter_eq_nil_iff]
  intro c hc h10
  have := good_iff.1 h c hc
  rw [beq_iff_eq] at h10
  subst h10
  cases this
theorem count_tens : ∀ (n : Nat) (l : B), l.length ≤ n → mok 0 l = true → Lib.count l nl = tens l
  | n, l, hn, hm => by
    rcases Lib.index_spec l nl with ⟨h, _⟩ | ⟨i, h, _⟩
    · by_cases h0 : l = []
      · subst h0
        rw [Lib.count_miss h]
        rfl
      · rw [mok_none l 0 h (.inr h0)] at hm
        cases hm
    · have hr := Lib.index_room l nl (by rw [h]; omega)
      rw [h] at hr
      have e2 : nl.length = 2 := rfl
      match n with
      | 0 => omega
      | n + 1 =>
        rw [mok_zero h, Bool.and_eq_true, decide_eq_true_iff] at hm
        have ih := count_tens n (l.drop (i + 2)) (by rw [List.length_drop]; omega) hm.2
        have hc := Lib.count_hit (s := l) (sub := nl) (i := i) (by simp [nl]) h
        have hs : l = l.take i ++ (nl ++ l.drop (i + 2)) := by
          have h1 := List.take_append_drop i l
          have h2 := List.take_append_drop 2 (l.drop i)
          rw [(index_at h).1, List.drop_drop] at h2
          rw [h2, h1]
        rw [hc, show i + nl.length = i + 2 from rfl, ih]
        have : tens l = tens (l.take i ++ (nl ++ l.drop (i + 2))) := by rw [← hs]
        rw [this, tens_app, tens_app, tens_good hm.1.1]
        show _ = 0 + (1 + _)
        omega
theorem tens_take (s : ByteArray) (k : Nat) (h : k < s.size) : tens (s.data.toList.take (k + 1)) = tens (s.data.toList.take k) + (if ((s[k]'h).toNat : Int) = 10 then 1 else 0) := by
  rw [take_snoc s k h, tens_app]
  congr 1
  by_cases e : ((s[k]'h).toNat : Int) = 10
  · rw [if_pos e, is_byte (n := 10) (by decide) e]
    rfl
  · rw [if_neg e]
    unfold tens
    rw [List.length_eq_zero_iff, List.filter_eq_nil_iff]
    intro c hc
    rw [List.mem_singleton] at hc
    subst hc
    intro h10
    rw [beq_iff_eq] at h10
    rw [h10] at e
    exact e rfl
theorem tens_le (l : B) : tens l ≤ l.length := List.length_filter_le _ _
def MlRet (l : B) (e : Ending) : Prop :=
  (65536 < l.length ∧ e = .returned (.tuple #[.int .i64 0, .int .i64 2])) ∨
  (l.length ≤ 65536 ∧ (¬ ∃ fs b, IsMail l fs b) ∧ e = .returned (.tuple #[.int .i64 0, .int .i64 3])) ∨
  (l.length ≤ 65536 ∧ ∃ fs b, IsMail l fs b ∧ e = .returned (.tuple #[.int .i64 (tens b : Nat), .int .i64 0]))
theorem ml_ex {l : B} {e : Ending} (h : MlRet l e) : ∃ a c : Int, e = .returned (.tuple #[.int .i64 a, .int .i64 c]) := by
  rcases h with ⟨_, rfl⟩ | ⟨_, _, rfl⟩ | ⟨_, _, _, _, rfl⟩ <;> exact ⟨_, _, rfl⟩
theorem ml_same {l : B} {a c a' c' : Int} (h : MlRet l (.returned (.tuple #[.int .i64 a, .int .i64 c]))) (h' : MlRet l (.returned (.tuple #[.int .i64 a', .int .i64 c']))) : a = a' ∧ c = c' := by
  rcases h with ⟨x, h⟩ | ⟨x, x2, h⟩ | ⟨x, fs, b, hf, h⟩ <;>
  rcases h' with ⟨y, h'⟩ | ⟨y, y2, h'⟩ | ⟨y, fs', b', hf', h'⟩ <;>
  cases h <;> cases h' <;>
  first | exact ⟨rfl, rfl⟩ | (exfalso; omega) | (exfalso; exact x2 ⟨_, _, hf'⟩) | (exfalso; exact y2 ⟨_, _, hf⟩) | (obtain ⟨rfl, rfl⟩ := isMail_one hf hf'; exact ⟨rfl, rfl⟩)
theorem isMail_body {l b : B} {fs : List (B × B)} (h : IsMail l fs b) (hl : l.length ≤ 65536) : mok 0 b = true ∧ b.length ≤ 65536 := by
  obtain ⟨n, h1, h2⟩ := par_len h.2.1
  refine ⟨par_mok h.2.1 h.1, ?_⟩
  rw [h2, List.length_drop]
  omega
theorem countB_tens (s : ByteArray) (h : mok 0 s.data.toList = true) : Lib.countB s ⟨#[13, 10]⟩ = (tens s.data.toList : Nat) := by
  rw [← count_tens _ s.data.toList (Nat.le_refl _) h]
  rfl
end Go.Proofs.YtejmfffapkmjoaaDoor.ml
