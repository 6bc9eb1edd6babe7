/-
  Plain facts on reading quoted text, step by step.
-/
import Derived.Test.YtbokolpjdaamiaaGreatDoorPkah

namespace Go.Proofs.YtbokolpjdaamiaaGreatDoor.qu
set_option linter.unusedVariables false

/-- The value of a digit, -1 of what is none. -/
def hv (c : UInt8) : Int := if 48 ≤ c.toNat ∧ c.toNat ≤ 57 then (c.toNat : Int) - 48 else if 65 ≤ c.toNat ∧ c.toNat ≤ 70 then (c.toNat : Int) - 55 else -1
theorem hv_cases (c : UInt8) : hv c = -1 ∨ (0 ≤ hv c ∧ hv c < 16) := by
  unfold hv
  split
  · right; omega
  · split
    · right; omega
    · left; rfl
def soft (l : List UInt8) : Bool := l.head? == some 61 && crlf l.tail
/-- What the beginning stands for, and how many bytes say it. -/
def fq (l : List UInt8) : Option (List UInt8 × Nat) :=
  if soft l then some ([], 3)
  else if crlf l then some ([13, 10], 2)
  else if l.getD 0 0 = 61 then (if l.length < 3 ∨ hv (l.getD 1 0) < 0 ∨ hv (l.getD 2 0) < 0 then none else some ([UInt8.ofNat ((hv (l.getD 1 0)).toNat * 16 + (hv (l.getD 2 0)).toNat)], 3))
  else if 32 ≤ (l.getD 0 0).toNat ∧ (l.getD 0 0).toNat ≤ 126 then some ([l.getD 0 0], 1)
  else none
/-- The bytes of a quoted text; the number bounds the steps. -/
def uqn : Nat → List UInt8 → Option (List UInt8)
  | _, [] => some []
  | 0, _ => none
  | n + 1, l => (fq l).bind fun p => (uqn n (l.drop p.2)).map (p.1 ++ ·)
def uq (l : List UInt8) : Option (List UInt8) := uqn l.length l

theorem soft_iff {l : List UInt8} : soft l = true ↔ ∃ r, l = 61 :: 13 :: 10 :: r := by
  match l with
  | [] => simp [soft]
  | a :: t =>
    unfold soft
    rw [Bool.and_eq_true]
    simp only [List.tail_cons, List.head?_cons, beq_iff_eq, Option.some.injEq, crlf_iff]
    constructor
    · rintro ⟨rfl, r, rfl⟩
      exact ⟨r, rfl⟩
    · rintro ⟨r, hr⟩
      obtain ⟨rfl, rfl⟩ := List.cons.inj hr
      exact ⟨rfl, r, rfl⟩
theorem fq_size {l : List UInt8} {p : List UInt8} {n : Nat} (h : fq l = some (p, n)) (hl : l ≠ []) : 1 ≤ n ∧ n ≤ l.length ∧ p.length ≤ n := by
  have h1 : 1 ≤ l.length := by
    cases l with
    | nil => exact absurd rfl hl
    | cons => simp
  unfold fq at h
  split at h
  · rename_i hs
    obtain ⟨r, rfl⟩ := soft_iff.1 hs
    simp only [Option.some.injEq, Prod.mk.injEq] at h
    obtain ⟨rfl, rfl⟩ := h
    simp
  · split at h
    · rename_i hs
      obtain ⟨r, rfl⟩ := crlf_iff.1 hs
      simp only [Option.some.injEq, Prod.mk.injEq] at h
      obtain ⟨rfl, rfl⟩ := h
      simp
    · split at h
      · split at h
        · cases h
        · rename_i h3
          simp only [Option.some.injEq, Prod.mk.injEq] at h
          obtain ⟨rfl, rfl⟩ := h
          simp
          omega
      · split at h
        · simp only [Option.some.injEq, Prod.mk.injEq] at h
          obtain ⟨rfl, rfl⟩ := h
          simp
          omega
        · cases h
theorem uqn_more : ∀ (m n : Nat) (l : List UInt8), l.length ≤ m → l.length ≤ n → uqn m l = uqn n l := by
  intro m
  induction m with
  | zero =>
    intro n l h1 h2
    obtain rfl : l = [] := List.eq_nil_of_length_eq_zero (by omega)
    cases n <;> rfl
  | succ m ih =>
    intro n l h1 h2
    cases l with
    | nil => cases n <;> rfl
    | cons a t =>
      cases n with
      | zero => simp at h2
      | succ n =>
        show ((fq (a :: t)).bind fun p => (uqn m ((a :: t).drop p.2)).map (p.1 ++ ·)) = ((fq (a :: t)).bind fun p => (uqn n ((a :: t).drop p.2)).map (p.1 ++ ·))
        cases hf : fq (a :: t) with
        | none => rfl
        | some p =>
          obtain ⟨p, k⟩ := p
          obtain ⟨k1, k2, _⟩ := fq_size hf (by simp)
          simp only [Option.bind_some]
          rw [ih n _ (by rw [List.length_drop]; omega) (by rw [List.length_drop]; omega)]
theorem uq_nil : uq [] = some [] := rfl
theorem uq_none {l : List UInt8} (hl : l ≠ []) (h : fq l = none) : uq l = none := by
  unfold uq
  cases l with
  | nil => exact absurd rfl hl
  | cons a t =>
    show ((fq (a :: t)).bind fun p => (uqn t.length ((a :: t).drop p.2)).map (p.1 ++ ·)) = none
    rw [h]
    rfl
theorem uq_some {l p : List UInt8} {n : Nat} (hl : l ≠ []) (h : fq l = some (p, n)) : uq l = (uq (l.drop n)).map (p ++ ·) := by
  obtain ⟨k1, k2, _⟩ := fq_size h hl
  unfold uq
  cases l with
  | nil => exact absurd rfl hl
  | cons a t =>
    show ((fq (a :: t)).bind fun p => (uqn t.length ((a :: t).drop p.2)).map (p.1 ++ ·)) = _
    rw [h]
    simp only [Option.bind_some]
    rw [uqn_more t.length ((a :: t).drop n).length _ (by rw [List.length_drop]; simp at k2 ⊢; omega) (Nat.le_refl _)]
theorem uq_len_n : ∀ (m : Nat) (l o : List UInt8), l.length ≤ m → uq l = some o → o.length ≤ l.length := by
  intro m
  induction m with
  | zero =>
    intro l o h hu
    obtain rfl : l = [] := List.eq_nil_of_length_eq_zero (by omega)
    rw [uq_nil] at hu
    cases hu
    exact Nat.le_refl _
  | succ m ih =>
    intro l o h hu
    by_cases hl : l = []
    · subst hl
      rw [uq_nil] at hu
      cases hu
      exact Nat.le_refl _
    cases hf : fq l with
    | none => rw [uq_none hl hf] at hu; cases hu
    | some p =>
      obtain ⟨p, n⟩ := p
      obtain ⟨k1, k2, k3⟩ := fq_size hf hl
      rw [uq_some hl hf] at hu
      obtain ⟨x, hx, rfl⟩ := Option.map_eq_some_iff.1 hu
      have := ih (l.drop n) x (by rw [List.length_drop]; omega) hx
      rw [List.length_drop] at this
      rw [List.length_append]
      omega
theorem uq_len {l o : List UInt8} (h : uq l = some o) : o.length ≤ l.length := uq_len_n l.length l o (Nat.le_refl _) h
theorem u_more {q p : List UInt8} {l : List UInt8} {n : Nat} {r : Option (List UInt8)} (hl : l ≠ []) (h : (uq l).map (q ++ ·) = r) (e : fq l = some (p, n)) : (uq (l.drop n)).map ((q ++ p) ++ ·) = r := by
  rw [← h, uq_some hl e, Option.map_map]
  congr 1
  funext x
  simp
theorem u_fall {q : List UInt8} {l : List UInt8} {r : Option (List UInt8)} (hl : l ≠ []) (h : (uq l).map (q ++ ·) = r) (e : fq l = none) : r = none := by
  rw [← h, uq_none hl e]
  rfl
/-- The bytes and the code that are answered to a text. -/
def ul (s : ByteArray) : List UInt8 := if s.size ≤ 65536 then (uq s.data.toList).getD [] else []
def uc (s : ByteArray) : Int := if s.size ≤ 65536 then (if (uq s.data.toList).isSome then 0 else 3) else 2
theorem ul_none {s : ByteArray} (hl : s.size ≤ 65536) (h : uq s.data.toList = none) : ul s = [] ∧ uc s = 3 := by
  unfold ul uc
  rw [if_pos hl, if_pos hl, h]
  exact ⟨rfl, rfl⟩
theorem ul_some {s : ByteArray} {o : List UInt8} (hl : s.size ≤ 65536) (h : uq s.data.toList = some o) : ul s = o ∧ uc s = 0 := by
  unfold ul uc
  rw [if_pos hl, if_pos hl, h]
  exact ⟨rfl, rfl⟩
theorem ul_len (s : ByteArray) : (ul s).length ≤ 65536 := by
  unfold ul
  split
  · rename_i h
    cases hd : uq s.data.toList with
    | none => simp
    | some o =>
      have e := uq_len hd
      have : s.data.toList.length = s.size := rfl
      simp only [Option.getD_some]
      omega
  · simp
end Go.Proofs.YtbokolpjdaamiaaGreatDoor.qu
