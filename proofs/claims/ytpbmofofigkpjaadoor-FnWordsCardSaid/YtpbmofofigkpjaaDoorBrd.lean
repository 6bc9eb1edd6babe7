/-
  Plain facts on reading base 64: bit by bit without the signs at the end, and group by group, come to the same.
-/
import Derived.Test.YtpbmofofigkpjaaDoorBsf
import Derived.Lib.Strings
namespace Go.Proofs.YtpbmofofigkpjaaDoor.b6
set_option linter.unusedVariables false

/-- Reading character by character: h are the bits that are held, c how many. -/
def rd (h c : Nat) : List UInt8 → Option (List UInt8)
  | [] => if h = 0 then some [] else none
  | x :: r => if V x < 0 then none
    else if 2 ≤ c then (rd ((h * 64 + (V x).toNat) % 2 ^ (c - 2)) (c - 2) r).map fun o => UInt8.ofNat ((h * 64 + (V x).toNat) / 2 ^ (c - 2)) :: o
    else rd (h * 64 + (V x).toNat) (c + 6) r

theorem rd_nil (h c : Nat) : rd h c [] = if h = 0 then some [] else none := rfl
theorem rd_no {h c : Nat} {x : UInt8} {r : List UInt8} (hx : V x < 0) : rd h c (x :: r) = none := by
  rw [rd, if_pos hx]
theorem rd_full {h c : Nat} {x : UInt8} {r : List UInt8} (hx : ¬ V x < 0) (hc : 2 ≤ c) : rd h c (x :: r) = (rd ((h * 64 + (V x).toNat) % 2 ^ (c - 2)) (c - 2) r).map fun o => UInt8.ofNat ((h * 64 + (V x).toNat) / 2 ^ (c - 2)) :: o := by
  rw [rd, if_neg hx, if_pos hc]
theorem rd_part {h : Nat} {x : UInt8} {r : List UInt8} (hx : ¬ V x < 0) : rd h 0 (x :: r) = rd (h * 64 + (V x).toNat) 6 r := by
  rw [rd, if_neg hx, if_neg (by decide)]

theorem rd2 {a b : UInt8} {s : List UInt8} (ha : ¬ V a < 0) (hb : ¬ V b < 0) : rd 0 0 (a :: b :: s) = (rd ((V b).toNat % 16) 4 s).map fun o => UInt8.ofNat (((V a).toNat * 64 + (V b).toNat) / 16) :: o := by
  rw [rd_part ha, rd_full hb (by decide)]
  simp only [Nat.zero_mul, Nat.zero_add, show (6 - 2 : Nat) = 4 from rfl, show (2 ^ 4 : Nat) = 16 from rfl]
  rw [show ((V a).toNat * 64 + (V b).toNat) % 16 = (V b).toNat % 16 from by omega]
theorem rd3 {h : Nat} {c : UInt8} {s : List UInt8} (hc : ¬ V c < 0) : rd h 4 (c :: s) = (rd ((V c).toNat % 4) 2 s).map fun o => UInt8.ofNat ((h * 64 + (V c).toNat) / 4) :: o := by
  rw [rd_full hc (by decide)]
  simp only [show (4 - 2 : Nat) = 2 from rfl, show (2 ^ 2 : Nat) = 4 from rfl]
  rw [show (h * 64 + (V c).toNat) % 4 = (V c).toNat % 4 from by omega]
theorem rd4 {h : Nat} {d : UInt8} {s : List UInt8} (hd : ¬ V d < 0) : rd h 2 (d :: s) = (rd 0 0 s).map fun o => UInt8.ofNat (h * 64 + (V d).toNat) :: o := by
  rw [rd_full hd (by decide)]
  simp only [show (2 - 2 : Nat) = 0 from rfl, Nat.pow_zero, Nat.mod_one, Nat.div_one]

/-- A sign at the end is left out. -/
def trim1 (t : List UInt8) : List UInt8 := if t.getLast? = some 61 then t.dropLast else t
def strip (t : List UInt8) : List UInt8 := trim1 (trim1 t)
theorem trim1_cons (x : UInt8) {r : List UInt8} (h : r ≠ []) : trim1 (x :: r) = x :: trim1 r := by
  unfold trim1
  rw [List.getLast?_cons, List.getLast?_eq_some_getLast h]
  simp only [Option.getD_some, Option.some.injEq]
  split
  · rw [List.dropLast_cons_of_ne_nil h]
  · rfl
theorem trim1_len (t : List UInt8) : t.length ≤ (trim1 t).length + 1 := by
  unfold trim1
  split
  · simp; omega
  · omega
theorem strip_cons (x : UInt8) {r : List UInt8} (h : 2 ≤ r.length) : strip (x :: r) = x :: strip r := by
  unfold strip
  have h1 : r ≠ [] := by intro e; rw [e] at h; simp at h
  have h2 : trim1 r ≠ [] := by intro e; have := trim1_len r; rw [e] at this; simp at this; omega
  rw [trim1_cons x h1, trim1_cons x h2]
theorem strip_len (t : List UInt8) : (strip t).length ≤ t.length := by
  have : ∀ t : List UInt8, (trim1 t).length ≤ t.length := by
    intro t
    unfold trim1
    split
    · simp
    · exact Nat.le_refl _
  exact Nat.le_trans (this _) (this _)
theorem lib_trim (t : List UInt8) : Lib.trimSuffix t [61] = trim1 t := by
  unfold Lib.trimSuffix trim1 Lib.hasSuffix
  by_cases h : t.getLast? = some 61
  · rw [if_pos h]
    have hs : [61].isSuffixOf t = true := by
      rw [List.isSuffixOf_iff_suffix]
      obtain ⟨ys, rfl⟩ := List.getLast?_eq_some_iff.1 h
      exact ⟨ys, rfl⟩
    rw [if_pos hs, List.dropLast_eq_take]
    rfl
  · rw [if_neg h]
    have hs : ¬ [61].isSuffixOf t = true := by
      rw [List.isSuffixOf_iff_suffix]
      rintro ⟨ys, rfl⟩
      exact h (by simp)
    rw [if_neg hs]

theorem strip4 (a b c d : UInt8) : strip [a, b, c, d] = if d = 61 then (if c = 61 then [a, b] else [a, b, c]) else [a, b, c, d] := by
  unfold strip trim1
  by_cases hd : d = 61
  · subst hd
    by_cases hc : c = 61
    · subst hc
      simp
    · simp [hc]
  · simp [hd]

theorem b2 {a b c d : UInt8} : by2 (num a b c d) = UInt8.ofNat (((V a).toNat * 64 + (V b).toNat) / 16) := by
  have ha := V_lt a
  have hb := V_lt b
  have hc := V_lt c
  have hd := V_lt d
  apply UInt8.toNat_inj.1
  simp only [by2, num, UInt8.toNat_ofNat']
  omega
theorem b1 {a b c d : UInt8} : by1 (num a b c d) = UInt8.ofNat (((V b).toNat % 16 * 64 + (V c).toNat) / 4) := by
  have ha := V_lt a
  have hb := V_lt b
  have hc := V_lt c
  have hd := V_lt d
  apply UInt8.toNat_inj.1
  simp only [by1, num, UInt8.toNat_ofNat']
  omega
theorem b0 {a b c d : UInt8} : by0 (num a b c d) = UInt8.ofNat ((V c).toNat % 4 * 64 + (V d).toNat) := by
  have ha := V_lt a
  have hb := V_lt b
  have hc := V_lt c
  have hd := V_lt d
  apply UInt8.toNat_inj.1
  simp only [by0, num, UInt8.toNat_ofNat']
  omega

theorem rd_dec_n : ∀ (n : Nat) (t : List UInt8), t.length = 4 * n → rd 0 0 (strip t) = dec t := by
  intro n
  induction n with
  | zero =>
    intro t h
    obtain rfl : t = [] := List.eq_nil_of_length_eq_zero (by omega)
    rfl
  | succ n ih =>
    intro t h
    match t, h with
    | [], h => simp at h
    | [_], h => simp at h; omega
    | [_, _], h => simp at h; omega
    | [_, _, _], h => simp at h; omega
    | a :: b :: c :: d :: r, h =>
      have hr : r.length = 4 * n := by simp at h; omega
      by_cases hn : r = []
      · subst hn
        rw [strip4]
        simp only [dec]
        by_cases h1 : V a < 0 ∨ V b < 0
        · rw [if_pos h1]
          have key : ∀ s, rd 0 0 (a :: b :: s) = none := by
            intro s
            by_cases ha : V a < 0
            · exact rd_no ha
            · rw [rd_part ha, rd_no (by rcases h1 with h1 | h1; exact absurd h1 ha; exact h1)]
          split
          · split <;> exact key _
          · exact key _
        rw [if_neg h1]
        have ha : ¬ V a < 0 := fun x => h1 (.inl x)
        have hb : ¬ V b < 0 := fun x => h1 (.inr x)
        by_cases hd : d = 61
        · subst hd
          rw [if_pos rfl]
          by_cases hc : c = 61
          · subst hc
            rw [if_pos rfl, if_pos (by simp), rd2 ha hb, rd_nil]
            by_cases hz : (V b).toNat % 16 = 0
            · rw [if_pos hz, if_pos hz, b2]; rfl
            · rw [if_neg hz, if_neg hz]; rfl
          · rw [if_neg hc, if_neg (fun x => hc x.2.1)]
            by_cases hvc : V c < 0
            · rw [if_pos hvc, rd2 ha hb, rd_no hvc]; rfl
            · rw [if_neg hvc, if_pos (by simp), rd2 ha hb, rd3 hvc, rd_nil]
              by_cases hz : (V c).toNat % 4 = 0
              · rw [if_pos hz, if_pos hz, b2, b1]; rfl
              · rw [if_neg hz, if_neg hz]; rfl
        · rw [if_neg hd, if_neg (fun x => hd x.2.2)]
          by_cases hvc : V c < 0
          · rw [if_pos hvc, rd2 ha hb, rd_no hvc]; rfl
          · rw [if_neg hvc, if_neg (fun x => hd x.2), rd2 ha hb, rd3 hvc]
            by_cases hvd : V d < 0
            · rw [if_pos hvd, rd_no hvd]; rfl
            · rw [if_neg hvd, rd4 hvd, rd_nil, if_pos rfl, b2, b1, b0]; rfl
      · have hr4 : 4 ≤ r.length := by
          have : r.length ≠ 0 := fun e => hn (List.eq_nil_of_length_eq_zero e)
          omega
        rw [strip_cons a (by simp), strip_cons b (by simp), strip_cons c (by simp; omega), strip_cons d (by omega)]
        simp only [dec]
        by_cases h1 : V a < 0 ∨ V b < 0
        · rw [if_pos h1]
          by_cases ha : V a < 0
          · exact rd_no ha
          · rw [rd_part ha, rd_no (by rcases h1 with h1 | h1; exact absurd h1 ha; exact h1)]
        rw [if_neg h1, if_neg (fun x => hn x.1)]
        have ha : ¬ V a < 0 := fun x => h1 (.inl x)
        have hb : ¬ V b < 0 := fun x => h1 (.inr x)
        by_cases hvc : V c < 0
        · rw [if_pos hvc, rd2 ha hb, rd_no hvc]; rfl
        rw [if_neg hvc, if_neg (fun x => hn x.1), rd2 ha hb, rd3 hvc]
        by_cases hvd : V d < 0
        · rw [if_pos hvd, rd_no hvd]; rfl
        rw [if_neg hvd, rd4 hvd, ih r hr, b2, b1, b0]
        cases dec r <;> rfl
/-- Bit by bit, without the signs at the end, is group by group. -/
theorem rd_dec {t : List UInt8} (h : t.length % 4 = 0) : rd 0 0 (strip t) = dec t := rd_dec_n (t.length / 4) t (by omega)

/-- The number and the signs of a group's first characters. -/
def gst (last : Prop) [Decidable last] (ch : Nat → UInt8) : Nat → Option (Nat × Nat)
  | 0 => some (0, 0)
  | m + 1 => (gst last ch m).bind fun p => if ch m = 61 ∧ last ∧ 2 ≤ m then some (p.1 * 64, p.2 + 1) else if V (ch m) < 0 ∨ 0 < p.2 then none else some (p.1 * 64 + (V (ch m)).toNat, p.2)
end Go.Proofs.YtpbmofofigkpjaaDoor.b6
