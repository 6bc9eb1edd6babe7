/-
  Plain facts on quoted text: its characters, one by one.
-/
import Derived.Test.YtpbmofofigkpjaaDoorQul
namespace Go.Proofs.YtpbmofofigkpjaaDoor.qu
set_option linter.unusedVariables false

/-- Characters from 32 to 126 and ends of lines, no blank ahead of an end. -/
def good : List UInt8 → Prop
  | [] => True
  | [c] => okc c ∧ c ≠ 32
  | a :: b :: r => (a = 13 ∧ b = 10 ∧ good r) ∨ (okc a ∧ (a = 32 → b ≠ 13) ∧ good (b :: r))

theorem good_cons {c : UInt8} {x : List UInt8} (hc : okc c) (hx : good x) (h32 : c = 32 → ∃ b r, x = b :: r ∧ b ≠ 13) : good (c :: x) := by
  cases x with
  | nil => exact ⟨hc, fun e => by obtain ⟨b, r, h, _⟩ := h32 e; cases h⟩
  | cons b r =>
    refine .inr ⟨hc, fun e => ?_, hx⟩
    obtain ⟨b', r', h, hb⟩ := h32 e
    obtain ⟨rfl, rfl⟩ := List.cons.inj h
    exact hb
theorem good_crlf {x : List UInt8} (hx : good x) : good (13 :: 10 :: x) := .inl ⟨rfl, rfl, hx⟩

/-- What a text that goes on begins with. -/
theorem qt_head {w : Nat} {c : UInt8} {r : List UInt8} (h : crlf (c :: r) = false) : ∃ b t, qt w (c :: r) = b :: t ∧ b ≠ 13 := by
  have hok := form_ok c (lastb r)
  have hf := form_len c (lastb r)
  by_cases h2 : lim (lastb r) < w + (form c (lastb r)).length
  · rw [qt_soft h h2]
    exact ⟨_, _, rfl, by decide⟩
  · rw [qt_on h h2]
    cases hh : form c (lastb r) with
    | nil => rw [hh] at hf; simp at hf
    | cons a t => exact ⟨a, _, rfl, (okc_ne (hok a (by rw [hh]; simp))).1⟩
theorem good_form {c : UInt8} {r x : List UInt8} (hx : good x) (hh : lastb r = false → ∃ b t, x = b :: t ∧ b ≠ 13) : good (form c (lastb r) ++ x) := by
  have hl := c.toNat_lt
  have hok := form_ok c (lastb r)
  obtain ⟨_, _, _, a3, a4⟩ := hv_hx' ⟨c.toNat / 16, by omega⟩
  obtain ⟨_, _, _, b3, b4⟩ := hv_hx' ⟨c.toNat % 16, by omega⟩
  simp only at a3 a4 b3 b4
  unfold form at hok ⊢
  by_cases h : plain c (lastb r) = true
  · rw [if_pos h] at hok ⊢
    refine good_cons (hok c (by simp)) hx (fun e => hh ?_)
    subst e
    unfold plain at h
    cases hb : lastb r with
    | false => rfl
    | true => rw [hb] at h; revert h; decide
  · rw [if_neg h] at hok ⊢
    have n32 : ∀ y : UInt8, 48 ≤ y.toNat → y ≠ 32 := fun y hy e => by rw [e] at hy; exact absurd hy (by decide)
    refine good_cons (hok 61 (by simp)) (good_cons (hok _ (by simp)) (good_cons (hok _ (by simp)) hx (fun e => absurd e (n32 _ b3))) (fun e => absurd e (n32 _ a3))) (fun e => absurd e (by decide))
theorem good_qt_n : ∀ (n : Nat) (w : Nat) (l : List UInt8), l.length ≤ n → good (qt w l) := by
  intro n
  induction n with
  | zero =>
    intro w l h
    obtain rfl : l = [] := List.eq_nil_of_length_eq_zero (by omega)
    rw [qt_nil]
    exact trivial
  | succ n ih =>
    intro w l h
    match l, h with
    | [], _ => rw [qt_nil]; exact trivial
    | c :: r, h =>
      have hr : r.length ≤ n := by simp at h; omega
      by_cases hc : crlf (c :: r) = true
      · obtain ⟨r', hr'⟩ := crlf_iff.1 hc
        obtain ⟨rfl, rfl⟩ := List.cons.inj hr'
        rw [qt_crlf]
        exact good_crlf (ih 0 r' (by simp at hr; omega))
      · have hcf : crlf (c :: r) = false := by simpa using hc
        have hhd : ∀ w', lastb r = false → ∃ b t, qt w' r = b :: t ∧ b ≠ 13 := by
          intro w' hl
          cases r with
          | nil => cases hl
          | cons a t =>
            unfold lastb at hl
            exact qt_head (by simpa using hl)
        by_cases h2 : lim (lastb r) < w + (form c (lastb r)).length
        · rw [qt_soft hcf h2]
          exact good_cons (by unfold okc; decide) (good_crlf (good_form (ih _ r hr) (hhd _))) (fun e => absurd e (by decide))
        · rw [qt_on hcf h2]
          exact good_form (ih _ r hr) (hhd _)
theorem good_qt (l : List UInt8) : good (qt 0 l) := good_qt_n l.length 0 l (Nat.le_refl _)

/-- What the law asks of each character. -/
def Okay (l : List UInt8) (i : Nat) : Prop :=
  (okc (l.getD i 0) ∨ (l.getD i 0 = 13 ∧ i + 1 < l.length ∧ l.getD (i + 1) 0 = 10) ∨ (l.getD i 0 = 10 ∧ 0 < i ∧ l.getD (i - 1) 0 = 13)) ∧
  (l.getD i 0 = 32 → i + 1 < l.length ∧ l.getD (i + 1) 0 ≠ 13)
theorem okay_shift {l : List UInt8} {a : UInt8} {i : Nat} (h : Okay l i) : Okay (a :: l) (i + 1) := by
  obtain ⟨h1, h2⟩ := h
  refine ⟨?_, fun e => ?_⟩
  · rcases h1 with h1 | ⟨x, y, z⟩ | ⟨x, y, z⟩
    · exact .inl h1
    · exact .inr (.inl ⟨x, by simp; omega, z⟩)
    · refine .inr (.inr ⟨x, by omega, ?_⟩)
      obtain ⟨j, rfl⟩ : ∃ j, i = j + 1 := ⟨i - 1, by omega⟩
      exact z
  · obtain ⟨p, q⟩ := h2 e
    exact ⟨by simp; omega, q⟩
theorem okay_all : ∀ (n : Nat) (l : List UInt8), l.length ≤ n → good l → ∀ i, i < l.length → Okay l i := by
  intro n
  induction n with
  | zero => intro l h _ i hi; omega
  | succ n ih =>
    intro l h hg i hi
    match l, h, hg with
    | [], _, _ => simp at hi
    | [c], _, hg =>
      obtain rfl : i = 0 := by simp at hi; omega
      exact ⟨.inl hg.1, fun e => absurd e hg.2⟩
    | a :: b :: r, h, hg =>
      rcases hg with ⟨rfl, rfl, hr⟩ | ⟨hok, h32, hr⟩
      · match i, hi with
        | 0, _ => exact ⟨.inr (.inl ⟨rfl, by simp, rfl⟩), fun e => absurd (show (13 : UInt8) = 32 from e) (by decide)⟩
        | 1, _ => exact ⟨.inr (.inr ⟨rfl, by decide, rfl⟩), fun e => absurd (show (10 : UInt8) = 32 from e) (by decide)⟩
        | j + 2, hi => exact okay_shift (okay_shift (ih r (by simp at h; omega) hr j (by simp at hi; omega)))
      · match i, hi with
        | 0, _ => exact ⟨.inl hok, fun e => ⟨by simp, h32 e⟩⟩
        | j + 1, hi => exact okay_shift (ih (b :: r) (by simp at h ⊢; omega) hr j (by simp at hi ⊢; omega))
theorem okay_qt (l : List UInt8) (i : Nat) (h : i < (qt 0 l).length) : Okay (qt 0 l) i := okay_all _ _ (Nat.le_refl _) (good_qt l) i h
end Go.Proofs.YtpbmofofigkpjaaDoor.qu
