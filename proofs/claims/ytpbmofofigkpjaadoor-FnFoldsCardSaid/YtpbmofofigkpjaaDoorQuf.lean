/-
  Plain facts on quoted text: bytes are read back from it.
-/
import Derived.Test.YtpbmofofigkpjaaDoorUnq
namespace Go.Proofs.YtpbmofofigkpjaaDoor.qu
set_option linter.unusedVariables false

theorem hv_hx' : ∀ k : Fin 16, hv (hx k.val) = (k.val : Int) ∧ hx k.val ≠ 13 ∧ hx k.val ≠ 10 ∧ 48 ≤ (hx k.val).toNat ∧ (hx k.val).toNat ≤ 70 := by decide +kernel
theorem fq_soft (r : List UInt8) : fq (61 :: 13 :: 10 :: r) = some ([], 3) := by
  unfold fq
  rw [if_pos (soft_iff.2 ⟨r, rfl⟩)]
theorem fq_crlf (r : List UInt8) : fq (13 :: 10 :: r) = some ([13, 10], 2) := by
  unfold fq
  rw [if_neg (by rw [soft_iff]; rintro ⟨t, ht⟩; have := (List.cons.inj ht).1; exact absurd this (by decide)), if_pos (crlf_iff.2 ⟨r, rfl⟩)]
theorem fq_plain {c : UInt8} {la : Bool} (h : plain c la = true) (r : List UInt8) : fq (c :: r) = some ([c], 1) := by
  have hc : 32 ≤ c.toNat ∧ c.toNat ≤ 126 ∧ c ≠ 61 := by
    unfold plain at h
    rw [Bool.or_eq_true] at h
    rcases h with h | h
    · simp only [Bool.and_eq_true, decide_eq_true_eq, bne_iff_ne] at h
      exact ⟨by omega, h.1.2, h.2⟩
    · simp only [Bool.and_eq_true, beq_iff_eq] at h
      rw [h.1]
      decide
  unfold fq
  rw [if_neg (by rw [soft_iff]; rintro ⟨t, ht⟩; exact hc.2.2 (List.cons.inj ht).1), if_neg (by rw [crlf_iff]; rintro ⟨t, ht⟩; have h1 := (List.cons.inj ht).1; rw [h1] at hc; exact absurd hc.1 (by decide))]
  rw [if_neg (show ¬ (c :: r).getD 0 0 = 61 from hc.2.2), if_pos (show 32 ≤ ((c :: r).getD 0 0).toNat ∧ ((c :: r).getD 0 0).toNat ≤ 126 from ⟨hc.1, hc.2.1⟩)]
  rfl
theorem fq_hex (c : UInt8) (r : List UInt8) : fq (61 :: hx (c.toNat / 16) :: hx (c.toNat % 16) :: r) = some ([c], 3) := by
  have hl := c.toNat_lt
  obtain ⟨a1, a2, _, _⟩ := hv_hx' ⟨c.toNat / 16, by omega⟩
  obtain ⟨b1, _, _, _⟩ := hv_hx' ⟨c.toNat % 16, by omega⟩
  simp only at a1 a2 b1
  unfold fq
  rw [if_neg (by rw [soft_iff]; rintro ⟨t, ht⟩; exact a2 (List.cons.inj (List.cons.inj ht).2).1), if_neg (by rw [crlf_iff]; rintro ⟨t, ht⟩; have := (List.cons.inj ht).1; exact absurd this (by decide))]
  rw [if_pos (show (61 :: hx (c.toNat / 16) :: hx (c.toNat % 16) :: r).getD 0 0 = 61 from rfl)]
  show (if (61 :: hx (c.toNat / 16) :: hx (c.toNat % 16) :: r).length < 3 ∨ hv (hx (c.toNat / 16)) < 0 ∨ hv (hx (c.toNat % 16)) < 0 then none else some ([UInt8.ofNat ((hv (hx (c.toNat / 16))).toNat * 16 + (hv (hx (c.toNat % 16))).toNat)], 3)) = some ([c], 3)
  rw [a1, b1, if_neg (by simp; omega)]
  congr 3
  apply UInt8.toNat_inj.1
  rw [UInt8.toNat_ofNat']
  simp only [Int.toNat_natCast]
  omega
theorem uq_form (c : UInt8) (la : Bool) (x : List UInt8) : uq (form c la ++ x) = (uq x).map ([c] ++ ·) := by
  unfold form
  by_cases h : plain c la = true
  · rw [if_pos h]
    exact uq_some (by simp) (fq_plain h x)
  · rw [if_neg h]
    exact uq_some (l := 61 :: hx (c.toNat / 16) :: hx (c.toNat % 16) :: x) (by simp) (fq_hex c x)
theorem uq_qt_n : ∀ (n : Nat) (w : Nat) (l : List UInt8), l.length ≤ n → uq (qt w l) = some l := by
  intro n
  induction n with
  | zero =>
    intro w l h
    obtain rfl : l = [] := List.eq_nil_of_length_eq_zero (by omega)
    rw [qt_nil]
    rfl
  | succ n ih =>
    intro w l h
    match l, h with
    | [], _ => rw [qt_nil]; rfl
    | c :: r, h =>
      have hr : r.length ≤ n := by simp at h; omega
      by_cases hc : crlf (c :: r) = true
      · obtain ⟨r', hr'⟩ := crlf_iff.1 hc
        obtain ⟨rfl, rfl⟩ := List.cons.inj hr'
        rw [qt_crlf, uq_some (by simp) (fq_crlf _)]
        show (uq (qt 0 r')).map ([13, 10] ++ ·) = _
        rw [ih 0 r' (by simp at hr; omega)]
        rfl
      · have hcf : crlf (c :: r) = false := by simpa using hc
        by_cases h2 : lim (lastb r) < w + (form c (lastb r)).length
        · rw [qt_soft hcf h2, uq_some (by simp) (fq_soft _)]
          show (uq (form c (lastb r) ++ qt (form c (lastb r)).length r)).map ([] ++ ·) = _
          rw [uq_form, ih _ r hr]
          rfl
        · rw [qt_on hcf h2, uq_form, ih _ r hr]
          rfl
/-- Bytes are read back from their quoted text. -/
theorem uq_qt (w : Nat) (l : List UInt8) : uq (qt w l) = some l := uq_qt_n l.length w l (Nat.le_refl _)
end Go.Proofs.YtpbmofofigkpjaaDoor.qu
