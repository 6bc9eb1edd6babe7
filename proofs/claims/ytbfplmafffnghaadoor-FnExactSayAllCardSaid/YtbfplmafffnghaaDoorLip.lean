/-
  What a line says of what follows it: facts.
-/
import Derived.Test.YtbfplmafffnghaaDoorNuw
import Derived.Test.YtbfplmafffnghaaDoorShf
import Derived.Lib.Strings
namespace Go.Proofs.YtbfplmafffnghaaDoor.li
open Go.RowKit
open nu
set_option linter.unusedVariables false

def LitIs (l : List UInt8) (n : Nat) : Prop := ∃ u, l = u ++ 123 :: (Lib.decDigits n ++ [125]) ∧ (Lib.decDigits n).length ≤ 6
def SaidIs (l : List UInt8) (n : Nat) : Prop := l = 123 :: (Lib.decDigits n ++ [125]) ∧ (Lib.decDigits n).length ≤ 6
def GL (P : Nat → Prop) (v : Int) (B : Bool) : Prop := (B = true ∧ ∃ n : Nat, v = n ∧ P n) ∨ (B = false ∧ ∀ n, ¬ P n)
def LR (P : Nat → Prop) (e : Ending) : Prop := ∃ (v : Int) (B : Bool), e = .returned (.tuple #[.int .i64 v, .bool B]) ∧ GL P v B
theorem gl_iff {P Q : Nat → Prop} {v : Int} {B : Bool} (h : ∀ n, P n ↔ Q n) (g : GL P v B) : GL Q v B := by
  rcases g with ⟨rfl, n, e, g⟩ | ⟨rfl, g⟩
  · exact .inl ⟨rfl, n, e, (h n).1 g⟩
  · exact .inr ⟨rfl, fun n y => g n ((h n).2 y)⟩
theorem dig_ne (n : Nat) : ∀ b ∈ Lib.decDigits n ++ [125], b ≠ 123 := by
  intro b hb e
  subst e
  rcases List.mem_append.1 hb with hb | hb
  · exact absurd ((dec_facts n).1 123 hb) (by decide)
  · simp at hb
theorem split_last (c : UInt8) : ∀ {u u' d d' : List UInt8}, u ++ c :: d = u' ++ c :: d' → (∀ b ∈ d, b ≠ c) → (∀ b ∈ d', b ≠ c) → u = u' ∧ d = d'
  | [], [], d, d', e, _, _ => by
    injection e with _ e
    exact ⟨rfl, e⟩
  | [], a :: t, d, d', e, h, _ => by
    injection e with _ e
    exact absurd rfl (h c (by rw [e]; simp))
  | a :: t, [], d, d', e, _, h => by
    injection e with _ e
    exact absurd rfl (h c (by rw [← e]; simp))
  | a :: t, a' :: t', d, d', e, h, h' => by
    injection e with e1 e2
    obtain ⟨x, y⟩ := split_last c e2 h h'
    exact ⟨by rw [e1, x], y⟩
theorem lit_drop {l r : List UInt8} {i : Nat} (hd : l.drop i = 123 :: r) (hr : ∀ b ∈ r, b ≠ 123) (n : Nat) : SaidIs (l.drop i) n ↔ LitIs l n := by
  have hl : l = l.take i ++ 123 :: r := by rw [← hd]; exact (List.take_append_drop i l).symm
  constructor
  · rintro ⟨e, h⟩
    exact ⟨l.take i, by rw [← e]; exact (List.take_append_drop i l).symm, h⟩
  · rintro ⟨u, e, h⟩
    have e2 := hl
    rw [e] at e2
    obtain ⟨_, x⟩ := split_last 123 e2 (dig_ne n) hr
    exact ⟨by rw [hd, x], h⟩
theorem lit_none {l : List UInt8} (h : ∀ b ∈ l, b ≠ 123) (n : Nat) : ¬ LitIs l n := by
  rintro ⟨u, rfl, _⟩
  exact h 123 (by simp) rfl
theorem occ_iff (l : List UInt8) (j : Nat) : Lib.occAt l [123] j = true ↔ ∃ r, l.drop j = 123 :: r := by
  unfold Lib.occAt
  cases h : l.drop j with
  | nil => simp
  | cons a t =>
    constructor
    · intro e
      have : (123 : UInt8) = a := by simpa [List.isPrefixOf] using e
      exact ⟨t, by rw [this]⟩
    · rintro ⟨r, e⟩
      injection e with e1 e2
      subst e1
      simp [List.isPrefixOf]
theorem last_cases (l : List UInt8) : (Lib.lastIndex l [123] = -1 ∧ ∀ b ∈ l, b ≠ 123) ∨ ∃ (i : Nat) (r : List UInt8), Lib.lastIndex l [123] = i ∧ i < l.length ∧ l.drop i = 123 :: r ∧ ∀ b ∈ r, b ≠ 123 := by
  by_cases hl : l = []
  · subst hl
    exact .inl ⟨rfl, fun b hb => absurd hb List.not_mem_nil⟩
  have hlen : 1 ≤ l.length := List.length_pos_iff.2 hl
  have e0 : Lib.lastIndex l [123] = Lib.lastOcc l [123] (l.length - 1 + 1) := by
    unfold Lib.lastIndex
    rw [if_pos (by simpa using hlen)]
    rfl
  rw [e0, show l.length - 1 + 1 = l.length by omega]
  have at_ : ∀ b ∈ l, b = 123 → ∃ j, j < l.length ∧ Lib.occAt l [123] j = true := by
    intro b hb e
    obtain ⟨j, hj, hbj⟩ := List.getElem_of_mem hb
    exact ⟨j, hj, (occ_iff l j).2 ⟨l.drop (j + 1), by rw [List.drop_eq_getElem_cons hj, hbj, e]⟩⟩
  rcases Lib.lastOcc_spec l [123] l.length with ⟨e, h⟩ | ⟨i, hi, e, ho, h⟩
  · refine .inl ⟨e, fun b hb eb => ?_⟩
    obtain ⟨j, hj, hj2⟩ := at_ b hb eb
    rw [h j hj] at hj2
    cases hj2
  · obtain ⟨r, hr⟩ := (occ_iff l i).1 ho
    refine .inr ⟨i, r, e, hi, hr, fun b hb eb => ?_⟩
    obtain ⟨j, hj, hbj⟩ := List.getElem_of_mem hb
    have hd : l.drop (i + 1) = r := by
      have := congrArg List.tail hr
      simpa [List.tail_drop] using this
    have hlen2 : r.length = l.length - (i + 1) := by rw [← hd, List.length_drop]
    have := h (i + 1 + j) (by omega) (by omega)
    have h2 : Lib.occAt l [123] (i + 1 + j) = true := (occ_iff _ _).2 ⟨r.drop (j + 1), by rw [← List.drop_drop, hd, List.drop_eq_getElem_cons hj, hbj, eb]⟩
    rw [h2] at this
    cases this
/-- How strconv.Atoi's number lies. -/
theorem atoi_in {l : List UInt8} {v : Int} (h : Lib.atoiAll l = .ok v) : -9223372036854775808 ≤ v ∧ v ≤ 9223372036854775807 := by
  cases l with
  | nil => cases h
  | cons c r =>
    simp only [Lib.atoiAll] at h
    split at h
    · cases h
    · cases h
    · split at h
      · cases h
      · rename_i h1
        split at h
        · cases h
        · rename_i h2
          injection h with h
          subst h
          by_cases hc : c.toNat = 45
          · rw [if_pos hc]
            have : ¬ 9223372036854775808 < _ := fun y => h2 ⟨hc, y⟩
            omega
          · rw [if_neg hc]
            have : ¬ 9223372036854775808 ≤ _ := fun y => h1 ⟨hc, y⟩
            omega
end Go.Proofs.YtbfplmafffnghaaDoor.li
