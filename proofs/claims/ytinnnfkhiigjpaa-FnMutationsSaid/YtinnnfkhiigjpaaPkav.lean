/-
  Plain facts on the texts that an entry is drawn out of: each is right as a field, or as a content.
  Plain facts on reading quoted text, step by step.
  Plain facts on quoted text: bytes are read back from it.
  Plain facts on quoted text: its lines have at most 76 characters, from 32 to 126, and no blank at an end.
  Plain facts on the longest line of a text: its pieces between ends of lines.
-/
import Derived.Test.YtinnnfkhiigjpaaPkam
import Derived.Test.YtinnnfkhiigjpaaPkap
import Derived.Lib.IndexMore
import Derived.Lib.IndexLaws

namespace Go.Proofs.Ytinnnfkhiigjpaa.en
open Go.RowKit
set_option linter.unusedVariables false
/-- Whether no rune of XML stands at a place. -/
def xbadB (s : ByteArray) (k : Nat) : Bool := decide (Utf8.decode s k = (65533, 1)) || !xm.xr ((Utf8.decode s k).1 : Int)
theorem xbadB_no {s : ByteArray} {k : Nat} (h : xbadB s k = false) : ¬ xm.xbad s k := by
  unfold xbadB at h
  rw [Bool.or_eq_false_iff] at h
  rintro (h1 | h1)
  · exact of_decide_eq_false h.1 h1
  · rw [h1] at h; cases h.2
/-- Whether a text is n runes of XML. -/
def allGood (s : ByteArray) (n : Nat) : Bool := decide (ut.pos s n = s.size) && (List.range n).all fun m => !xbadB s (ut.pos s m)
theorem good_of {s : ByteArray} {n : Nat} (h : allGood s n = true) : xm.GoodTo s s.size := by
  unfold allGood at h
  rw [Bool.and_eq_true, List.all_eq_true] at h
  refine ⟨n, (of_decide_eq_true h.1).symm, Nat.le_refl _, fun m hm => ?_, .inl rfl⟩
  have := h.2 m (List.mem_range.2 hm)
  rw [Bool.not_eq_true'] at this
  exact xbadB_no this
theorem fld_of {s : ByteArray} (n : Nat) (h : (decide (s.size ≤ 200) && allGood s n && decide (li.line s.data.toList = s.data.toList)) = true) : fld s = true := by
  simp only [Bool.and_eq_true] at h
  exact ow.dt ⟨of_decide_eq_true h.1.1, good_of h.1.2, of_decide_eq_true h.2⟩
theorem ofx_of {s : ByteArray} (n : Nat) (h : (decide (s.size ≤ 1000) && allGood s n) = true) : ofx s 1000 = true := by
  simp only [Bool.and_eq_true] at h
  exact ow.dt ⟨of_decide_eq_true h.1, good_of h.2⟩
/-- The names, titles and links that are drawn. -/
def idL : List ByteArray := [⟨#[105, 100, 49]⟩, ⟨#[105, 100, 50]⟩, ⟨#[105, 100, 51]⟩, ⟨#[117, 114, 110, 58, 120, 32, 38, 32, 121]⟩, ⟨#[105, 100, 32, 195, 164]⟩]
def fldL : List ByteArray := [⟨#[]⟩, ⟨#[116, 105, 116, 108, 101]⟩, ⟨#[97, 32, 38, 32, 98]⟩, ⟨#[195, 164, 195, 182, 32, 226, 130, 172]⟩, ⟨#[60, 120, 62]⟩, ⟨#[111, 110, 101, 32, 116, 119, 111]⟩, ⟨#[61, 63, 117, 116, 102, 45, 56, 63, 81, 63, 120, 63, 61]⟩, ⟨#[240, 159, 152, 128]⟩]
theorem idL_ok : ∀ s ∈ idL, fld s = true ∧ s.size ≠ 0 := by
  intro s hs
  simp only [idL, List.mem_cons, List.not_mem_nil, or_false] at hs
  rcases hs with rfl | rfl | rfl | rfl | rfl
  · exact ⟨fld_of 3 (by decide +kernel), by decide⟩
  · exact ⟨fld_of 3 (by decide +kernel), by decide⟩
  · exact ⟨fld_of 3 (by decide +kernel), by decide⟩
  · exact ⟨fld_of 9 (by decide +kernel), by decide⟩
  · exact ⟨fld_of 4 (by decide +kernel), by decide⟩
theorem fldL_ok : ∀ s ∈ fldL, fld s = true := by
  intro s hs
  simp only [fldL, List.mem_cons, List.not_mem_nil, or_false] at hs
  rcases hs with rfl | rfl | rfl | rfl | rfl | rfl | rfl | rfl
  · exact fld_of 0 (by decide +kernel)
  · exact fld_of 5 (by decide +kernel)
  · exact fld_of 5 (by decide +kernel)
  · exact fld_of 4 (by decide +kernel)
  · exact fld_of 3 (by decide +kernel)
  · exact fld_of 7 (by decide +kernel)
  · exact fld_of 13 (by decide +kernel)
  · exact fld_of 1 (by decide +kernel)
def linkL : List ByteArray := [⟨#[]⟩, ⟨#[104, 116, 116, 112, 58, 47, 47, 97, 47, 98, 63, 99, 61, 100, 38, 101]⟩, ⟨#[108, 105, 110, 107]⟩]
def conL : List ByteArray := [⟨#[]⟩, ⟨#[116, 101, 120, 116]⟩, ⟨#[116, 119, 111, 10, 108, 105, 110, 101, 115, 10]⟩, ⟨#[97, 13, 98, 13, 10]⟩, ⟨#[46, 10, 46, 46, 10]⟩, ⟨#[195, 164, 32, 60, 98, 62]⟩, ⟨#[116, 114, 97, 105, 108, 105, 110, 103, 32, 10, 61, 32, 120]⟩, ⟨#[48, 49, 50, 51, 52, 53, 54, 55, 56, 57, 48, 49, 50, 51, 52, 53, 54, 55, 56, 57, 48, 49, 50, 51, 52, 53, 54, 55, 56, 57, 48, 49, 50, 51, 52, 53, 54, 55, 56, 57, 48, 49, 50, 51, 52, 53, 54, 55, 56, 57, 48, 49, 50, 51, 52, 53, 54, 55, 56, 57, 48, 49, 50, 51, 52, 53, 54, 55, 56, 57, 48, 49, 50, 51, 52, 53, 54, 55, 56, 57, 48, 49, 50, 51, 52, 53, 54, 55, 56, 57, 48]⟩]
theorem linkL_ok : ∀ s ∈ linkL, fld s = true := by
  intro s hs
  simp only [linkL, List.mem_cons, List.not_mem_nil, or_false] at hs
  rcases hs with rfl | rfl | rfl
  · exact fld_of 0 (by decide +kernel)
  · exact fld_of 16 (by decide +kernel)
  · exact fld_of 4 (by decide +kernel)
theorem conL_ok : ∀ s ∈ conL, ofx s 1000 = true := by
  intro s hs
  simp only [conL, List.mem_cons, List.not_mem_nil, or_false] at hs
  rcases hs with rfl | rfl | rfl | rfl | rfl | rfl | rfl | rfl
  · exact ofx_of 0 (by decide +kernel)
  · exact ofx_of 4 (by decide +kernel)
  · exact ofx_of 10 (by decide +kernel)
  · exact ofx_of 5 (by decide +kernel)
  · exact ofx_of 5 (by decide +kernel)
  · exact ofx_of 5 (by decide +kernel)
  · exact ofx_of 13 (by decide +kernel)
  · exact ofx_of 91 (by decide +kernel)
/-- An entry that is drawn is right. -/
theorem drawn_ok {i t l a c : ByteArray} {d : Int} (hi : i ∈ idL) (ht : t ∈ fldL) (hl : l ∈ linkL) (ha : a ∈ fldL) (hc : c ∈ conL) (d0 : 0 ≤ d) (d1 : d ≤ 4102444799) : eok ⟨i, t, l, a, d, c⟩ = true := by
  obtain ⟨h1, h2⟩ := idL_ok i hi
  have h3 : stamp d = true := decide_eq_true ⟨d0, d1⟩
  simp [eok, h1, h2, h3, fldL_ok t ht, linkL_ok l hl, fldL_ok a ha, conL_ok c hc]
end Go.Proofs.Ytinnnfkhiigjpaa.en

namespace Go.Proofs.Ytinnnfkhiigjpaa.qu
set_option linter.unusedVariables false

/-- The value of a digit, -1 of what is none. -/
def hv (c : UInt8) : Int := if 48 ≤ c.toNat ∧ c.toNat ≤ 57 then (c.toNat : Int) - 48 else if 65 ≤ c.toNat ∧ c.toNat ≤ 70 then (c.toNat : Int) - 55 else -1
theorem hv_cases (c : UInt8) : hv c = -1 ∨ (0 ≤ hv c ∧ hv c < 16) := by
  unfold hv
  split
  · right; omega
  · split
    · right; omega
    · left; rfl
def soft (l : List UInt8) : Bool := l.head? == some 61 && crlf l.tail
/-- What the beginning stands for, and how many bytes say it. -/
def fq (l : List UInt8) : Option (List UInt8 × Nat) :=
  if soft l then some ([], 3)
  else if crlf l then some ([13, 10], 2)
  else if l.getD 0 0 = 61 then (if l.length < 3 ∨ hv (l.getD 1 0) < 0 ∨ hv (l.getD 2 0) < 0 then none else some ([UInt8.ofNat ((hv (l.getD 1 0)).toNat * 16 + (hv (l.getD 2 0)).toNat)], 3))
  else if 32 ≤ (l.getD 0 0).toNat ∧ (l.getD 0 0).toNat ≤ 126 then some ([l.getD 0 0], 1)
  else none
/-- The bytes of a quoted text; the number bounds the steps. -/
def uqn : Nat → List UInt8 → Option (List UInt8)
  | _, [] => some []
  | 0, _ => none
  | n + 1, l => (fq l).bind fun p => (uqn n (l.drop p.2)).map (p.1 ++ ·)
def uq (l : List UInt8) : Option (List UInt8) := uqn l.length l

theorem soft_iff {l : List UInt8} : soft l = true ↔ ∃ r, l = 61 :: 13 :: 10 :: r := by
  match l with
  | [] => simp [soft]
  | a :: t =>
    unfold soft
    rw [Bool.and_eq_true]
    simp only [List.tail_cons, List.head?_cons, beq_iff_eq, Option.some.injEq, crlf_iff]
    constructor
    · rintro ⟨rfl, r, rfl⟩
      exact ⟨r, rfl⟩
    · rintro ⟨r, hr⟩
      obtain ⟨rfl, rfl⟩ := List.cons.inj hr
      exact ⟨rfl, r, rfl⟩
theorem fq_size {l : List UInt8} {p : List UInt8} {n : Nat} (h : fq l = some (p, n)) (hl : l ≠ []) : 1 ≤ n ∧ n ≤ l.length ∧ p.length ≤ n := by
  have h1 : 1 ≤ l.length := by
    cases l with
    | nil => exact absurd rfl hl
    | cons => simp
  unfold fq at h
  split at h
  · rename_i hs
    obtain ⟨r, rfl⟩ := soft_iff.1 hs
    simp only [Option.some.injEq, Prod.mk.injEq] at h
    obtain ⟨rfl, rfl⟩ := h
    simp
  · split at h
    · rename_i hs
      obtain ⟨r, rfl⟩ := crlf_iff.1 hs
      simp only [Option.some.injEq, Prod.mk.injEq] at h
      obtain ⟨rfl, rfl⟩ := h
      simp
    · split at h
      · split at h
        · cases h
        · rename_i h3
          simp only [Option.some.injEq, Prod.mk.injEq] at h
          obtain ⟨rfl, rfl⟩ := h
          simp
          omega
      · split at h
        · simp only [Option.some.injEq, Prod.mk.injEq] at h
          obtain ⟨rfl, rfl⟩ := h
          simp
          omega
        · cases h
theorem uqn_more : ∀ (m n : Nat) (l : List UInt8), l.length ≤ m → l.length ≤ n → uqn m l = uqn n l := by
  intro m
  induction m with
  | zero =>
    intro n l h1 h2
    obtain rfl : l = [] := List.eq_nil_of_length_eq_zero (by omega)
    cases n <;> rfl
  | succ m ih =>
    intro n l h1 h2
    cases l with
    | nil => cases n <;> rfl
    | cons a t =>
      cases n with
      | zero => simp at h2
      | succ n =>
        show ((fq (a :: t)).bind fun p => (uqn m ((a :: t).drop p.2)).map (p.1 ++ ·)) = ((fq (a :: t)).bind fun p => (uqn n ((a :: t).drop p.2)).map (p.1 ++ ·))
        cases hf : fq (a :: t) with
        | none => rfl
        | some p =>
          obtain ⟨p, k⟩ := p
          obtain ⟨k1, k2, _⟩ := fq_size hf (by simp)
          simp only [Option.bind_some]
          rw [ih n _ (by rw [List.length_drop]; omega) (by rw [List.length_drop]; omega)]
theorem uq_nil : uq [] = some [] := rfl
theorem uq_none {l : List UInt8} (hl : l ≠ []) (h : fq l = none) : uq l = none := by
  unfold uq
  cases l with
  | nil => exact absurd rfl hl
  | cons a t =>
    show ((fq (a :: t)).bind fun p => (uqn t.length ((a :: t).drop p.2)).map (p.1 ++ ·)) = none
    rw [h]
    rfl
theorem uq_some {l p : List UInt8} {n : Nat} (hl : l ≠ []) (h : fq l = some (p, n)) : uq l = (uq (l.drop n)).map (p ++ ·) := by
  obtain ⟨k1, k2, _⟩ := fq_size h hl
  unfold uq
  cases l with
  | nil => exact absurd rfl hl
  | cons a t =>
    show ((fq (a :: t)).bind fun p => (uqn t.length ((a :: t).drop p.2)).map (p.1 ++ ·)) = _
    rw [h]
    simp only [Option.bind_some]
    rw [uqn_more t.length ((a :: t).drop n).length _ (by rw [List.length_drop]; simp at k2 ⊢; omega) (Nat.le_refl _)]
theorem uq_len_n : ∀ (m : Nat) (l o : List UInt8), l.length ≤ m → uq l = some o → o.length ≤ l.length := by
  intro m
  induction m with
  | zero =>
    intro l o h hu
    obtain rfl : l = [] := List.eq_nil_of_length_eq_zero (by omega)
    rw [uq_nil] at hu
    cases hu
    exact Nat.le_refl _
  | succ m ih =>
    intro l o h hu
    by_cases hl : l = []
    · subst hl
      rw [uq_nil] at hu
      cases hu
      exact Nat.le_refl _
    cases hf : fq l with
    | none => rw [uq_none hl hf] at hu; cases hu
    | some p =>
      obtain ⟨p, n⟩ := p
      obtain ⟨k1, k2, k3⟩ := fq_size hf hl
      rw [uq_some hl hf] at hu
      obtain ⟨x, hx, rfl⟩ := Option.map_eq_some_iff.1 hu
      have := ih (l.drop n) x (by rw [List.length_drop]; omega) hx
      rw [List.length_drop] at this
      rw [List.length_append]
      omega
theorem uq_len {l o : List UInt8} (h : uq l = some o) : o.length ≤ l.length := uq_len_n l.length l o (Nat.le_refl _) h
theorem u_more {q p : List UInt8} {l : List UInt8} {n : Nat} {r : Option (List UInt8)} (hl : l ≠ []) (h : (uq l).map (q ++ ·) = r) (e : fq l = some (p, n)) : (uq (l.drop n)).map ((q ++ p) ++ ·) = r := by
  rw [← h, uq_some hl e, Option.map_map]
  congr 1
  funext x
  simp
theorem u_fall {q : List UInt8} {l : List UInt8} {r : Option (List UInt8)} (hl : l ≠ []) (h : (uq l).map (q ++ ·) = r) (e : fq l = none) : r = none := by
  rw [← h, uq_none hl e]
  rfl
/-- The bytes and the code that are answered to a text. -/
def ul (s : ByteArray) : List UInt8 := if s.size ≤ 65536 then (uq s.data.toList).getD [] else []
def uc (s : ByteArray) : Int := if s.size ≤ 65536 then (if (uq s.data.toList).isSome then 0 else 3) else 2
theorem ul_none {s : ByteArray} (hl : s.size ≤ 65536) (h : uq s.data.toList = none) : ul s = [] ∧ uc s = 3 := by
  unfold ul uc
  rw [if_pos hl, if_pos hl, h]
  exact ⟨rfl, rfl⟩
theorem ul_some {s : ByteArray} {o : List UInt8} (hl : s.size ≤ 65536) (h : uq s.data.toList = some o) : ul s = o ∧ uc s = 0 := by
  unfold ul uc
  rw [if_pos hl, if_pos hl, h]
  exact ⟨rfl, rfl⟩
theorem ul_len (s : ByteArray) : (ul s).length ≤ 65536 := by
  unfold ul
  split
  · rename_i h
    cases hd : uq s.data.toList with
    | none => simp
    | some o =>
      have e := uq_len hd
      have : s.data.toList.length = s.size := rfl
      simp only [Option.getD_some]
      omega
  · simp
end Go.Proofs.Ytinnnfkhiigjpaa.qu

namespace Go.Proofs.Ytinnnfkhiigjpaa.qu
set_option linter.unusedVariables false

theorem hv_hx' : ∀ k : Fin 16, hv (hx k.val) = (k.val : Int) ∧ hx k.val ≠ 13 ∧ hx k.val ≠ 10 ∧ 48 ≤ (hx k.val).toNat ∧ (hx k.val).toNat ≤ 70 := by decide +kernel
theorem fq_soft (r : List UInt8) : fq (61 :: 13 :: 10 :: r) = some ([], 3) := by
  unfold fq
  rw [if_pos (soft_iff.2 ⟨r, rfl⟩)]
theorem fq_crlf (r : List UInt8) : fq (13 :: 10 :: r) = some ([13, 10], 2) := by
  unfold fq
  rw [if_neg (by rw [soft_iff]; rintro ⟨t, ht⟩; have := (List.cons.inj ht).1; exact absurd this (by decide)), if_pos (crlf_iff.2 ⟨r, rfl⟩)]
theorem fq_plain {c : UInt8} {la : Bool} (h : plain c la = true) (r : List UInt8) : fq (c :: r) = some ([c], 1) := by
  have hc : 32 ≤ c.toNat ∧ c.toNat ≤ 126 ∧ c ≠ 61 := by
    unfold plain at h
    rw [Bool.or_eq_true] at h
    rcases h with h | h
    · simp only [Bool.and_eq_true, decide_eq_true_eq, bne_iff_ne] at h
      exact ⟨by omega, h.1.2, h.2⟩
    · simp only [Bool.and_eq_true, beq_iff_eq] at h
      rw [h.1]
      decide
  unfold fq
  rw [if_neg (by rw [soft_iff]; rintro ⟨t, ht⟩; exact hc.2.2 (List.cons.inj ht).1), if_neg (by rw [crlf_iff]; rintro ⟨t, ht⟩; have h1 := (List.cons.inj ht).1; rw [h1] at hc; exact absurd hc.1 (by decide))]
  rw [if_neg (show ¬ (c :: r).getD 0 0 = 61 from hc.2.2), if_pos (show 32 ≤ ((c :: r).getD 0 0).toNat ∧ ((c :: r).getD 0 0).toNat ≤ 126 from ⟨hc.1, hc.2.1⟩)]
  rfl
theorem fq_hex (c : UInt8) (r : List UInt8) : fq (61 :: hx (c.toNat / 16) :: hx (c.toNat % 16) :: r) = some ([c], 3) := by
  have hl := c.toNat_lt
  obtain ⟨a1, a2, _, _⟩ := hv_hx' ⟨c.toNat / 16, by omega⟩
  obtain ⟨b1, _, _, _⟩ := hv_hx' ⟨c.toNat % 16, by omega⟩
  simp only at a1 a2 b1
  unfold fq
  rw [if_neg (by rw [soft_iff]; rintro ⟨t, ht⟩; exact a2 (List.cons.inj (List.cons.inj ht).2).1), if_neg (by rw [crlf_iff]; rintro ⟨t, ht⟩; have := (List.cons.inj ht).1; exact absurd this (by decide))]
  rw [if_pos (show (61 :: hx (c.toNat / 16) :: hx (c.toNat % 16) :: r).getD 0 0 = 61 from rfl)]
  show (if (61 :: hx (c.toNat / 16) :: hx (c.toNat % 16) :: r).length < 3 ∨ hv (hx (c.toNat / 16)) < 0 ∨ hv (hx (c.toNat % 16)) < 0 then none else some ([UInt8.ofNat ((hv (hx (c.toNat / 16))).toNat * 16 + (hv (hx (c.toNat % 16))).toNat)], 3)) = some ([c], 3)
  rw [a1, b1, if_neg (by simp; omega)]
  congr 3
  apply UInt8.toNat_inj.1
  rw [UInt8.toNat_ofNat']
  simp only [Int.toNat_natCast]
  omega
theorem uq_form (c : UInt8) (la : Bool) (x : List UInt8) : uq (form c la ++ x) = (uq x).map ([c] ++ ·) := by
  unfold form
  by_cases h : plain c la = true
  · rw [if_pos h]
    exact uq_some (by simp) (fq_plain h x)
  · rw [if_neg h]
    exact uq_some (l := 61 :: hx (c.toNat / 16) :: hx (c.toNat % 16) :: x) (by simp) (fq_hex c x)
theorem uq_qt_n : ∀ (n : Nat) (w : Nat) (l : List UInt8), l.length ≤ n → uq (qt w l) = some l := by
  intro n
  induction n with
  | zero =>
    intro w l h
    obtain rfl : l = [] := List.eq_nil_of_length_eq_zero (by omega)
    rw [qt_nil]
    rfl
  | succ n ih =>
    intro w l h
    match l, h with
    | [], _ => rw [qt_nil]; rfl
    | c :: r, h =>
      have hr : r.length ≤ n := by simp at h; omega
      by_cases hc : crlf (c :: r) = true
      · obtain ⟨r', hr'⟩ := crlf_iff.1 hc
        obtain ⟨rfl, rfl⟩ := List.cons.inj hr'
        rw [qt_crlf, uq_some (by simp) (fq_crlf _)]
        show (uq (qt 0 r')).map ([13, 10] ++ ·) = _
        rw [ih 0 r' (by simp at hr; omega)]
        rfl
      · have hcf : crlf (c :: r) = false := by simpa using hc
        by_cases h2 : lim (lastb r) < w + (form c (lastb r)).length
        · rw [qt_soft hcf h2, uq_some (by simp) (fq_soft _)]
          show (uq (form c (lastb r) ++ qt (form c (lastb r)).length r)).map ([] ++ ·) = _
          rw [uq_form, ih _ r hr]
          rfl
        · rw [qt_on hcf h2, uq_form, ih _ r hr]
          rfl
/-- Bytes are read back from their quoted text. -/
theorem uq_qt (w : Nat) (l : List UInt8) : uq (qt w l) = some l := uq_qt_n l.length w l (Nat.le_refl _)
end Go.Proofs.Ytinnnfkhiigjpaa.qu

namespace Go.Proofs.Ytinnnfkhiigjpaa.qu
set_option linter.unusedVariables false

/-- The longest line behind w characters of one, b being the longest so far; of an end of line the second byte is passed by. -/
def llS : Bool → Nat → Nat → List UInt8 → Nat
  | _, _, b, [] => b
  | true, _, b, _ :: r => llS false 0 b r
  | false, w, b, c :: r => if crlf (c :: r) then llS true 0 b r else llS false (w + 1) (max b (w + 1)) r
def llw (w b : Nat) (l : List UInt8) : Nat := llS false w b l
theorem llw_nil (w b : Nat) : llw w b [] = b := by rw [llw, llS]
theorem llw_crlf (w b : Nat) (r : List UInt8) : llw w b (13 :: 10 :: r) = llw 0 b r := by
  rw [llw, llS, if_pos (by simp [crlf]), llS, llw]
theorem llw_no {w b : Nat} {c : UInt8} {r : List UInt8} (h : crlf (c :: r) = false) : llw w b (c :: r) = llw (w + 1) (max b (w + 1)) r := by
  rw [llw, llS, if_neg (by rw [h]; decide), llw]
theorem llw_on {w b : Nat} {c : UInt8} {r : List UInt8} (h : c ≠ 13) : llw w b (c :: r) = llw (w + 1) (max b (w + 1)) r := by
  refine llw_no ?_
  rw [Bool.eq_false_iff]
  intro e
  obtain ⟨t, ht⟩ := crlf_iff.1 e
  exact h (List.cons.inj ht).1

/-- A character of a line. -/
def okc (c : UInt8) : Prop := 32 ≤ c.toNat ∧ c.toNat ≤ 126
theorem okc_ne {c : UInt8} (h : okc c) : c ≠ 13 ∧ c ≠ 10 := by
  refine ⟨fun e => ?_, fun e => ?_⟩ <;> (rw [e] at h; exact absurd h.1 (by decide))
theorem form_ok (c : UInt8) (la : Bool) : ∀ x ∈ form c la, okc x := by
  have hl := c.toNat_lt
  obtain ⟨_, _, _, a3, a4⟩ := hv_hx' ⟨c.toNat / 16, by omega⟩
  obtain ⟨_, _, _, b3, b4⟩ := hv_hx' ⟨c.toNat % 16, by omega⟩
  simp only at a3 a4 b3 b4
  intro x hx'
  unfold form at hx'
  split at hx'
  · rename_i h
    simp only [List.mem_singleton] at hx'
    subst hx'
    unfold plain at h
    rw [Bool.or_eq_true] at h
    rcases h with h | h
    · simp only [Bool.and_eq_true, decide_eq_true_eq, bne_iff_ne] at h
      exact ⟨by omega, h.1.2⟩
    · simp only [Bool.and_eq_true, beq_iff_eq] at h
      rw [h.1]
      unfold okc
      decide
  · simp only [List.mem_cons, List.not_mem_nil, or_false] at hx'
    rcases hx' with rfl | rfl | rfl
    · unfold okc; decide
    · exact ⟨by omega, by omega⟩
    · exact ⟨by omega, by omega⟩
theorem llw_form : ∀ (f : List UInt8) (w b : Nat) (x : List UInt8), (∀ y ∈ f, okc y) → ∃ b', llw w b (f ++ x) = llw (w + f.length) b' x ∧ b ≤ b' ∧ b' ≤ max b (w + f.length) := by
  intro f
  induction f with
  | nil => intro w b x h; exact ⟨b, rfl, Nat.le_refl _, Nat.le_max_left _ _⟩
  | cons a t ih =>
    intro w b x h
    have ha := (okc_ne (h a (by simp))).1
    rw [List.cons_append, llw_on ha]
    obtain ⟨b', e, h1, h2⟩ := ih (w + 1) (max b (w + 1)) x (fun y hy => h y (by simp [hy]))
    refine ⟨b', ?_, by omega, ?_⟩
    · rw [e]
      congr 1
      simp
      omega
    · simp only [List.length_cons]
      omega
theorem ll_qt_n : ∀ (n : Nat) (w b : Nat) (l : List UInt8), l.length ≤ n → b ≤ 76 → (lastb l = true ∨ w ≤ 75) → llw w b (qt w l) ≤ 76 := by
  intro n
  induction n with
  | zero =>
    intro w b l h hb hw
    obtain rfl : l = [] := List.eq_nil_of_length_eq_zero (by omega)
    rw [qt_nil, llw_nil]
    exact hb
  | succ n ih =>
    intro w b l h hb hw
    match l, h, hw with
    | [], _, _ => rw [qt_nil, llw_nil]; exact hb
    | c :: r, h, hw =>
      have hr : r.length ≤ n := by simp at h; omega
      by_cases hc : crlf (c :: r) = true
      · obtain ⟨r', hr'⟩ := crlf_iff.1 hc
        obtain ⟨rfl, rfl⟩ := List.cons.inj hr'
        rw [qt_crlf, llw_crlf]
        exact ih 0 b r' (by simp at hr; omega) hb (.inr (by decide))
      · have hcf : crlf (c :: r) = false := by simpa using hc
        have hw75 : w ≤ 75 := by
          rcases hw with h1 | h1
          · unfold lastb at h1
            rw [hcf] at h1
            simp at h1
          · exact h1
        have hf := form_len c (lastb r)
        have hok := form_ok c (lastb r)
        have hlim : lastb r = true ∧ lim (lastb r) = 76 ∨ lastb r = false ∧ lim (lastb r) = 75 := by
          cases lastb r
          · exact .inr ⟨rfl, rfl⟩
          · exact .inl ⟨rfl, rfl⟩
        by_cases h2 : lim (lastb r) < w + (form c (lastb r)).length
        · rw [qt_soft hcf h2, llw_on (by decide), llw_crlf]
          obtain ⟨b', e, h3, h4⟩ := llw_form (form c (lastb r)) 0 (max b (w + 1)) (qt (form c (lastb r)).length r) hok
          rw [e, Nat.zero_add]
          exact ih _ b' r hr (by omega) (.inr (by omega))
        · rw [qt_on hcf h2]
          obtain ⟨b', e, h3, h4⟩ := llw_form (form c (lastb r)) w b (qt (w + (form c (lastb r)).length) r) hok
          rw [e]
          refine ih _ b' r hr (by rcases hlim with h5 | h5 <;> omega) ?_
          rcases hlim with h5 | h5
          · exact .inl h5.1
          · exact .inr (by omega)
/-- The lines of a quoted text have at most 76 characters. -/
theorem ll_qt (l : List UInt8) : llw 0 0 (qt 0 l) ≤ 76 := ll_qt_n l.length 0 0 l (Nat.le_refl _) (by decide) (.inr (by decide))
end Go.Proofs.Ytinnnfkhiigjpaa.qu

namespace Go.Proofs.Ytinnnfkhiigjpaa.ln
open Go
set_option linter.unusedVariables false

def cr : List UInt8 := [13, 10]
theorem pre_iff {l : List UInt8} : cr.isPrefixOf l = qu.crlf l := by
  unfold cr qu.crlf
  match l with
  | [] => rfl
  | [a] => simp [List.isPrefixOf]
  | a :: b :: r =>
    rw [Bool.eq_iff_iff]
    simp only [List.isPrefixOf, Bool.and_eq_true, beq_iff_eq, List.head?_cons, List.tail_cons, Option.some.injEq, Bool.and_true]
    exact ⟨fun h => ⟨h.1.symm, h.2.symm⟩, fun h => ⟨h.1.symm, h.2.symm⟩⟩
theorem all_of : ∀ (l : List UInt8) (w b : Nat), w ≤ b → Lib.index l cr = -1 → qu.llw w b l = max b (w + l.length)
  | [], w, b, hw, _ => by rw [qu.llw_nil, List.length_nil]; omega
  | c :: r, w, b, hw, h => by
    rw [Lib.index] at h
    by_cases hp : cr.isPrefixOf (c :: r) = true
    · rw [if_pos hp] at h
      cases h
    · rw [if_neg hp] at h
      have h1 : Lib.index r cr = -1 := by
        by_cases h1 : Lib.index r cr = -1
        · exact h1
        · rw [if_neg (by simpa using h1)] at h
          have := Lib.index_ge r cr
          omega
      rw [pre_iff] at hp
      rw [qu.llw_no (by simpa using hp), all_of r (w + 1) _ (by omega) h1, List.length_cons]
      omega
theorem first_of : ∀ (l : List UInt8) (w b i : Nat), w ≤ b → Lib.index l cr = i → qu.llw w b l = qu.llw 0 (max b (w + i)) (l.drop (i + 2))
  | [], w, b, i, hw, h => by simp [Lib.index, cr] at h
  | c :: r, w, b, i, hw, h => by
    rw [Lib.index] at h
    by_cases hp : cr.isPrefixOf (c :: r) = true
    · rw [if_pos hp] at h
      obtain rfl : i = 0 := by omega
      rw [pre_iff] at hp
      obtain ⟨q, hq⟩ := qu.crlf_iff.1 hp
      rw [hq, qu.llw_crlf]
      simp only [List.drop_succ_cons, List.drop_zero]
      rw [show max b (w + 0) = b from by omega]
    · rw [if_neg hp] at h
      by_cases h1 : Lib.index r cr = -1
      · rw [if_pos (by rw [h1]; rfl)] at h
        omega
      · rw [if_neg (by simpa using h1)] at h
        have := Lib.index_ge r cr
        obtain ⟨j, rfl⟩ : ∃ j, i = j + 1 := ⟨i - 1, by omega⟩
        rw [pre_iff] at hp
        rw [qu.llw_no (by simpa using hp), first_of r (w + 1) _ j (by omega) (by omega), show j + 1 + 2 = j + 2 + 1 from by omega, List.drop_succ_cons]
        congr 1
        omega
theorem more : ∀ (l : List UInt8) (f : Bool) (w b c : Nat), qu.llS f w (max b c) l = max b (qu.llS f w c l)
  | [], f, w, b, c => by rw [qu.llS, qu.llS]
  | x :: r, true, w, b, c => by rw [qu.llS, qu.llS, more r]
  | x :: r, false, w, b, c => by
    rw [qu.llS, qu.llS]
    split
    · rw [more r]
    · rw [Nat.max_assoc, more r]
def ll (l : List UInt8) : Nat := qu.llw 0 0 l
theorem ll_all {l : List UInt8} (h : Lib.index l cr = -1) : ll l = l.length := by
  unfold ll
  rw [all_of l 0 0 (Nat.le_refl _) h]
  omega
theorem ll_first {l : List UInt8} {i : Nat} (h : Lib.index l cr = i) : ll l = max i (ll (l.drop (i + 2))) := by
  unfold ll
  rw [first_of l 0 0 i (Nat.le_refl _) h]
  have := more (l.drop (i + 2)) false 0 i 0
  unfold qu.llw
  rw [← this]
  congr 1
  omega
/-- The longest of some texts. -/
def mx (xs : List ByteArray) : Nat := xs.foldl (fun m x => max m x.size) 0
theorem mx_snoc (xs : List ByteArray) (x : ByteArray) : mx (xs ++ [x]) = max (mx xs) x.size := by simp [mx]
end Go.Proofs.Ytinnnfkhiigjpaa.ln
