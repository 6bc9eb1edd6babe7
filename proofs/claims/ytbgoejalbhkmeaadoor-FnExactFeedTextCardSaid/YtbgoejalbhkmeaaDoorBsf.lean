/-
  Plain facts on base 64: the text of bytes, the reading of a text, that each leads back to the other.
-/
namespace Go.Proofs.YtbgoejalbhkmeaaDoor.b6
set_option linter.unusedVariables false

def alpha : List UInt8 := [65, 66, 67, 68, 69, 70, 71, 72, 73, 74, 75, 76, 77, 78, 79, 80, 81, 82, 83, 84, 85, 86, 87, 88, 89, 90, 97, 98, 99, 100, 101, 102, 103, 104, 105, 106, 107, 108, 109, 110, 111, 112, 113, 114, 115, 116, 117, 118, 119, 120, 121, 122, 48, 49, 50, 51, 52, 53, 54, 55, 56, 57, 43, 47]
def vals : List Int := [(-1), (-1), (-1), (-1), (-1), (-1), (-1), (-1), (-1), (-1), (-1), (-1), (-1), (-1), (-1), (-1), (-1), (-1), (-1), (-1), (-1), (-1), (-1), (-1), (-1), (-1), (-1), (-1), (-1), (-1), (-1), (-1), (-1), (-1), (-1), (-1), (-1), (-1), (-1), (-1), (-1), (-1), (-1), 62, (-1), (-1), (-1), 63, 52, 53, 54, 55, 56, 57, 58, 59, 60, 61, (-1), (-1), (-1), (-1), (-1), (-1), (-1), 0, 1, 2, 3, 4, 5, 6, 7, 8, 9, 10, 11, 12, 13, 14, 15, 16, 17, 18, 19, 20, 21, 22, 23, 24, 25, (-1), (-1), (-1), (-1), (-1), (-1), 26, 27, 28, 29, 30, 31, 32, 33, 34, 35, 36, 37, 38, 39, 40, 41, 42, 43, 44, 45, 46, 47, 48, 49, 50, 51, (-1), (-1), (-1), (-1), (-1)]
/-- The character of six bits. -/
def L (n : Nat) : UInt8 := alpha.getD n 0
/-- The six bits of a character, -1 of one that has none. -/
def V (c : UInt8) : Int := vals.getD c.toNat (-1)

theorem V_L_all : ∀ n : Fin 64, V (L n.val) = (n.val : Int) := by decide +kernel
theorem V_L (n : Nat) (h : n < 64) : V (L n) = (n : Int) := V_L_all ⟨n, h⟩
theorem L_V_all : ∀ n : Fin 256, V (UInt8.ofNat n.val) = -1 ∨ (0 ≤ V (UInt8.ofNat n.val) ∧ V (UInt8.ofNat n.val) < 64 ∧ L (V (UInt8.ofNat n.val)).toNat = UInt8.ofNat n.val) := by decide +kernel
theorem byte_all {p : UInt8 → Prop} (h : ∀ n : Fin 256, p (UInt8.ofNat n.val)) (c : UInt8) : p c := by
  have := h ⟨c.toNat, c.toNat_lt⟩
  simpa using this
theorem V_cases (c : UInt8) : V c = -1 ∨ (0 ≤ V c ∧ V c < 64 ∧ L (V c).toNat = c) := byte_all (p := fun c => V c = -1 ∨ (0 ≤ V c ∧ V c < 64 ∧ L (V c).toNat = c)) L_V_all c
theorem V_pad : V 61 = -1 := by decide +kernel
theorem L_ne_pad_all : ∀ n : Fin 64, L n.val ≠ 61 := by decide +kernel
theorem L_ne_pad (n : Nat) (h : n < 64) : L n ≠ 61 := L_ne_pad_all ⟨n, h⟩

/-- The text of bytes. -/
def enc : List UInt8 → List UInt8
  | [] => []
  | [a] => [L (a.toNat / 4), L (a.toNat % 4 * 16), 61, 61]
  | [a, b] => [L (a.toNat / 4), L (a.toNat % 4 * 16 + b.toNat / 16), L (b.toNat % 16 * 4), 61]
  | a :: b :: c :: r => L (a.toNat / 4) :: L (a.toNat % 4 * 16 + b.toNat / 16) :: L (b.toNat % 16 * 4 + c.toNat / 64) :: L (c.toNat % 64) :: enc r

theorem enc_len : ∀ (n : Nat) (l : List UInt8), l.length ≤ n → (enc l).length = (l.length + 2) / 3 * 4 := by
  intro n
  induction n with
  | zero =>
    intro l h
    obtain rfl : l = [] := List.eq_nil_of_length_eq_zero (by omega)
    rfl
  | succ n ih =>
    intro l h
    match l, h with
    | [], _ => rfl
    | [a], _ => simp [enc]
    | [a, b], _ => simp [enc]
    | a :: b :: c :: r, h =>
      have := ih r (by simp at h; omega)
      simp only [enc, List.length_cons, this]
      omega
theorem enc_length (l : List UInt8) : (enc l).length = (l.length + 2) / 3 * 4 := enc_len l.length l (Nat.le_refl _)

/-- The value of a group of four. -/
def num (a b c d : UInt8) : Nat := (((V a).toNat * 64 + (V b).toNat) * 64 + (V c).toNat) * 64 + (V d).toNat
def by2 (n : Nat) : UInt8 := UInt8.ofNat (n / 65536)
def by1 (n : Nat) : UInt8 := UInt8.ofNat (n / 256)
def by0 (n : Nat) : UInt8 := UInt8.ofNat n
/-- The reading of a text, group by group. -/
def dec : List UInt8 → Option (List UInt8)
  | a :: b :: c :: d :: r =>
    if V a < 0 ∨ V b < 0 then none
    else if r = [] ∧ c = 61 ∧ d = 61 then (if (V b).toNat % 16 = 0 then some [by2 (num a b 65 65)] else none)
    else if V c < 0 then none
    else if r = [] ∧ d = 61 then (if (V c).toNat % 4 = 0 then some [by2 (num a b c 65), by1 (num a b c 65)] else none)
    else if V d < 0 then none
    else (dec r).map fun x => by2 (num a b c d) :: by1 (num a b c d) :: by0 (num a b c d) :: x
  | [] => some []
  | _ => none

theorem VA : V 65 = 0 := by decide +kernel

theorem dec_enc_n : ∀ (n : Nat) (l : List UInt8), l.length ≤ n → dec (enc l) = some l := by
  intro n
  induction n with
  | zero =>
    intro l h
    obtain rfl : l = [] := List.eq_nil_of_length_eq_zero (by omega)
    rfl
  | succ n ih =>
    intro l h
    match l, h with
    | [], _ => rfl
    | [a], _ =>
      have ha := a.toNat_lt
      have e1 := V_L (a.toNat / 4) (by omega)
      have e2 := V_L (a.toNat % 4 * 16) (by omega)
      simp only [enc, dec]
      rw [if_neg (by rw [e1, e2]; omega), if_pos (by simp), if_pos (by rw [e2]; omega)]
      congr 2
      apply UInt8.toNat_inj.1
      simp only [by2, num, e1, e2, VA, UInt8.toNat_ofNat', Int.toNat_natCast, Int.toNat_zero]
      omega
    | [a, b], _ =>
      have ha := a.toNat_lt
      have hb := b.toNat_lt
      have e1 := V_L (a.toNat / 4) (by omega)
      have e2 := V_L (a.toNat % 4 * 16 + b.toNat / 16) (by omega)
      have e3 := V_L (b.toNat % 16 * 4) (by omega)
      simp only [enc, dec]
      rw [if_neg (by rw [e1, e2]; omega), if_neg (fun h => L_ne_pad _ (by omega) h.2.1), if_neg (by rw [e3]; omega), if_pos (by simp), if_pos (by rw [e3]; omega)]
      congr 2
      · apply UInt8.toNat_inj.1
        simp only [by2, num, e1, e2, e3, VA, UInt8.toNat_ofNat', Int.toNat_natCast, Int.toNat_zero]
        omega
      · congr 1
        apply UInt8.toNat_inj.1
        simp only [by1, num, e1, e2, e3, VA, UInt8.toNat_ofNat', Int.toNat_natCast, Int.toNat_zero]
        omega
    | a :: b :: c :: r, h =>
      have ha := a.toNat_lt
      have hb := b.toNat_lt
      have hc := c.toNat_lt
      have e1 := V_L (a.toNat / 4) (by omega)
      have e2 := V_L (a.toNat % 4 * 16 + b.toNat / 16) (by omega)
      have e3 := V_L (b.toNat % 16 * 4 + c.toNat / 64) (by omega)
      have e4 := V_L (c.toNat % 64) (by omega)
      simp only [enc, dec]
      rw [if_neg (by rw [e1, e2]; omega), if_neg (fun h => L_ne_pad _ (by omega) h.2.1), if_neg (by rw [e3]; omega), if_neg (fun h => L_ne_pad _ (by omega) h.2), if_neg (by rw [e4]; omega), ih r (by simp at h; omega)]
      simp only [Option.map_some]
      congr 2
      · apply UInt8.toNat_inj.1
        simp only [by2, num, e1, e2, e3, e4, UInt8.toNat_ofNat', Int.toNat_natCast]
        omega
      · congr 1
        · apply UInt8.toNat_inj.1
          simp only [by1, num, e1, e2, e3, e4, UInt8.toNat_ofNat', Int.toNat_natCast]
          omega
        · congr 1
          apply UInt8.toNat_inj.1
          simp only [by0, num, e1, e2, e3, e4, UInt8.toNat_ofNat', Int.toNat_natCast]
          omega
/-- Bytes are read back from their text. -/
theorem dec_enc (l : List UInt8) : dec (enc l) = some l := dec_enc_n l.length l (Nat.le_refl _)

theorem L_of {c : UInt8} {n : Nat} (h : ¬ V c < 0) (e : n = (V c).toNat) : L n = c := by
  rcases V_cases c with h1 | ⟨_, _, h3⟩
  · omega
  · rw [e, h3]
theorem V_lt (c : UInt8) : (V c).toNat < 64 := by
  rcases V_cases c with h1 | ⟨_, h2, _⟩
  · rw [h1]; decide
  · omega

theorem enc_dec_n : ∀ (n : Nat) (t l : List UInt8), t.length ≤ n → dec t = some l → enc l = t := by
  intro n
  induction n with
  | zero =>
    intro t l h hd
    obtain rfl : t = [] := List.eq_nil_of_length_eq_zero (by omega)
    simp only [dec, Option.some.injEq] at hd
    rw [← hd]
    rfl
  | succ n ih =>
    intro t l h hd
    match t, h, hd with
    | [], _, hd =>
      simp only [dec, Option.some.injEq] at hd
      rw [← hd]
      rfl
    | [_], _, hd => simp [dec] at hd
    | [_, _], _, hd => simp [dec] at hd
    | [_, _, _], _, hd => simp [dec] at hd
    | a :: b :: c :: d :: r, h, hd =>
      have la := V_lt a
      have lb := V_lt b
      have lc := V_lt c
      have ld := V_lt d
      simp only [dec] at hd
      split at hd
      · cases hd
      rename_i h1
      split at hd
      · rename_i h2
        obtain ⟨rfl, rfl, rfl⟩ := h2
        split at hd
        · rename_i h3
          simp only [Option.some.injEq] at hd
          rw [← hd]
          simp only [enc, by2, num, VA, UInt8.toNat_ofNat', Int.toNat_zero]
          rw [L_of (c := a) (by omega) (by omega), L_of (c := b) (by omega) (by omega)]
        · cases hd
      rename_i h2
      split at hd
      · cases hd
      rename_i h3
      split at hd
      · rename_i h4
        obtain ⟨rfl, rfl⟩ := h4
        split at hd
        · rename_i h5
          simp only [Option.some.injEq] at hd
          rw [← hd]
          simp only [enc, by2, by1, num, VA, UInt8.toNat_ofNat', Int.toNat_zero]
          rw [L_of (c := a) (by omega) (by omega), L_of (c := b) (by omega) (by omega), L_of (c := c) (by omega) (by omega)]
        · cases hd
      rename_i h4
      split at hd
      · cases hd
      rename_i h5
      obtain ⟨x, hx, rfl⟩ := Option.map_eq_some_iff.1 hd
      have := ih r x (by simp at h; omega) hx
      simp only [enc, this, by2, by1, by0, num, UInt8.toNat_ofNat']
      rw [L_of (c := a) (by omega) (by omega), L_of (c := b) (by omega) (by omega), L_of (c := c) (by omega) (by omega), L_of (c := d) (by omega) (by omega)]
/-- A text that is read is the text of what was read. -/
theorem enc_dec {t l : List UInt8} (h : dec t = some l) : enc l = t := enc_dec_n t.length t l (Nat.le_refl _) h
end Go.Proofs.YtbgoejalbhkmeaaDoor.b6
