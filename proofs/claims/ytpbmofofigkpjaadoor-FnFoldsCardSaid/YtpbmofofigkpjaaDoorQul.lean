/-
  Plain facts on quoted text: its lines have at most 76 characters, from 32 to 126, and no blank at an end.
-/
import Derived.Test.YtpbmofofigkpjaaDoorQuf
namespace Go.Proofs.YtpbmofofigkpjaaDoor.qu
set_option linter.unusedVariables false

/-- The longest line behind w characters of one, b being the longest so far; of an end of line the second byte is passed by. -/
def llS : Bool → Nat → Nat → List UInt8 → Nat
  | _, _, b, [] => b
  | true, _, b, _ :: r => llS false 0 b r
  | false, w, b, c :: r => if crlf (c :: r) then llS true 0 b r else llS false (w + 1) (max b (w + 1)) r
def llw (w b : Nat) (l : List UInt8) : Nat := llS false w b l
theorem llw_nil (w b : Nat) : llw w b [] = b := by rw [llw, llS]
theorem llw_crlf (w b : Nat) (r : List UInt8) : llw w b (13 :: 10 :: r) = llw 0 b r := by
  rw [llw, llS, if_pos (by simp [crlf]), llS, llw]
theorem llw_no {w b : Nat} {c : UInt8} {r : List UInt8} (h : crlf (c :: r) = false) : llw w b (c :: r) = llw (w + 1) (max b (w + 1)) r := by
  rw [llw, llS, if_neg (by rw [h]; decide), llw]
theorem llw_on {w b : Nat} {c : UInt8} {r : List UInt8} (h : c ≠ 13) : llw w b (c :: r) = llw (w + 1) (max b (w + 1)) r := by
  refine llw_no ?_
  rw [Bool.eq_false_iff]
  intro e
  obtain ⟨t, ht⟩ := crlf_iff.1 e
  exact h (List.cons.inj ht).1

/-- A character of a line. -/
def okc (c : UInt8) : Prop := 32 ≤ c.toNat ∧ c.toNat ≤ 126
theorem okc_ne {c : UInt8} (h : okc c) : c ≠ 13 ∧ c ≠ 10 := by
  refine ⟨fun e => ?_, fun e => ?_⟩ <;> (rw [e] at h; exact absurd h.1 (by decide))
theorem form_ok (c : UInt8) (la : Bool) : ∀ x ∈ form c la, okc x := by
  have hl := c.toNat_lt
  obtain ⟨_, _, _, a3, a4⟩ := hv_hx' ⟨c.toNat / 16, by omega⟩
  obtain ⟨_, _, _, b3, b4⟩ := hv_hx' ⟨c.toNat % 16, by omega⟩
  simp only at a3 a4 b3 b4
  intro x hx'
  unfold form at hx'
  split at hx'
  · rename_i h
    simp only [List.mem_singleton] at hx'
    subst hx'
    unfold plain at h
    rw [Bool.or_eq_true] at h
    rcases h with h | h
    · simp only [Bool.and_eq_true, decide_eq_true_eq, bne_iff_ne] at h
      exact ⟨by omega, h.1.2⟩
    · simp only [Bool.and_eq_true, beq_iff_eq] at h
      rw [h.1]
      unfold okc
      decide
  · simp only [List.mem_cons, List.not_mem_nil, or_false] at hx'
    rcases hx' with rfl | rfl | rfl
    · unfold okc; decide
    · exact ⟨by omega, by omega⟩
    · exact ⟨by omega, by omega⟩
theorem llw_form : ∀ (f : List UInt8) (w b : Nat) (x : List UInt8), (∀ y ∈ f, okc y) → ∃ b', llw w b (f ++ x) = llw (w + f.length) b' x ∧ b ≤ b' ∧ b' ≤ max b (w + f.length) := by
  intro f
  induction f with
  | nil => intro w b x h; exact ⟨b, rfl, Nat.le_refl _, Nat.le_max_left _ _⟩
  | cons a t ih =>
    intro w b x h
    have ha := (okc_ne (h a (by simp))).1
    rw [List.cons_append, llw_on ha]
    obtain ⟨b', e, h1, h2⟩ := ih (w + 1) (max b (w + 1)) x (fun y hy => h y (by simp [hy]))
    refine ⟨b', ?_, by omega, ?_⟩
    · rw [e]
      congr 1
      simp
      omega
    · simp only [List.length_cons]
      omega
theorem ll_qt_n : ∀ (n : Nat) (w b : Nat) (l : List UInt8), l.length ≤ n → b ≤ 76 → (lastb l = true ∨ w ≤ 75) → llw w b (qt w l) ≤ 76 := by
  intro n
  induction n with
  | zero =>
    intro w b l h hb hw
    obtain rfl : l = [] := List.eq_nil_of_length_eq_zero (by omega)
    rw [qt_nil, llw_nil]
    exact hb
  | succ n ih =>
    intro w b l h hb hw
    match l, h, hw with
    | [], _, _ => rw [qt_nil, llw_nil]; exact hb
    | c :: r, h, hw =>
      have hr : r.length ≤ n := by simp at h; omega
      by_cases hc : crlf (c :: r) = true
      · obtain ⟨r', hr'⟩ := crlf_iff.1 hc
        obtain ⟨rfl, rfl⟩ := List.cons.inj hr'
        rw [qt_crlf, llw_crlf]
        exact ih 0 b r' (by simp at hr; omega) hb (.inr (by decide))
      · have hcf : crlf (c :: r) = false := by simpa using hc
        have hw75 : w ≤ 75 := by
          rcases hw with h1 | h1
          · unfold lastb at h1
            rw [hcf] at h1
            simp at h1
          · exact h1
        have hf := form_len c (lastb r)
        have hok := form_ok c (lastb r)
        have hlim : lastb r = true ∧ lim (lastb r) = 76 ∨ lastb r = false ∧ lim (lastb r) = 75 := by
          cases lastb r
          · exact .inr ⟨rfl, rfl⟩
          · exact .inl ⟨rfl, rfl⟩
        by_cases h2 : lim (lastb r) < w + (form c (lastb r)).length
        · rw [qt_soft hcf h2, llw_on (by decide), llw_crlf]
          obtain ⟨b', e, h3, h4⟩ := llw_form (form c (lastb r)) 0 (max b (w + 1)) (qt (form c (lastb r)).length r) hok
          rw [e, Nat.zero_add]
          exact ih _ b' r hr (by omega) (.inr (by omega))
        · rw [qt_on hcf h2]
          obtain ⟨b', e, h3, h4⟩ := llw_form (form c (lastb r)) w b (qt (w + (form c (lastb r)).length) r) hok
          rw [e]
          refine ih _ b' r hr (by rcases hlim with h5 | h5 <;> omega) ?_
          rcases hlim with h5 | h5
          · exact .inl h5.1
          · exact .inr (by omega)
/-- The lines of a quoted text have at most 76 characters. -/
theorem ll_qt (l : List UInt8) : llw 0 0 (qt 0 l) ≤ 76 := ll_qt_n l.length 0 0 l (Nat.le_refl _) (by decide) (.inr (by decide))
end Go.Proofs.YtpbmofofigkpjaaDoor.qu
