/-
  Plain facts on reading base 64 group by group: what a group's number and signs say of the whole.
-/
import Derived.Test.YtpbmofofigkpjaaDoorBrd
namespace Go.Proofs.YtpbmofofigkpjaaDoor.b6
set_option linter.unusedVariables false

theorem gst_succ (last : Prop) [Decidable last] (ch : Nat → UInt8) (m : Nat) : gst last ch (m + 1) = (gst last ch m).bind fun p => if ch m = 61 ∧ last ∧ 2 ≤ m then some (p.1 * 64, p.2 + 1) else if V (ch m) < 0 ∨ 0 < p.2 then none else some (p.1 * 64 + (V (ch m)).toNat, p.2) := rfl
theorem gst_pad {last : Prop} [Decidable last] {ch : Nat → UInt8} {m n f : Nat} (h : gst last ch m = some (n, f)) (h1 : ch m = 61) (h2 : last) (h3 : 2 ≤ m) : gst last ch (m + 1) = some (n * 64, f + 1) := by
  rw [gst_succ, h, Option.bind_some, if_pos ⟨h1, h2, h3⟩]
theorem gst_no {last : Prop} [Decidable last] {ch : Nat → UInt8} {m n f : Nat} (h : gst last ch m = some (n, f)) (h1 : ¬ (ch m = 61 ∧ last ∧ 2 ≤ m)) (h2 : V (ch m) < 0 ∨ 0 < f) : gst last ch (m + 1) = none := by
  rw [gst_succ, h, Option.bind_some, if_neg h1, if_pos h2]
theorem gst_on {last : Prop} [Decidable last] {ch : Nat → UInt8} {m n f : Nat} (h : gst last ch m = some (n, f)) (h1 : ¬ (ch m = 61 ∧ last ∧ 2 ≤ m)) (h2 : ¬ (V (ch m) < 0 ∨ 0 < f)) : gst last ch (m + 1) = some (n * 64 + (V (ch m)).toNat, f) := by
  rw [gst_succ, h, Option.bind_some, if_neg h1, if_neg h2]
theorem gst_none {last : Prop} [Decidable last] {ch : Nat → UInt8} {m : Nat} (h : gst last ch m = none) : ∀ k, gst last ch (m + k) = none := by
  intro k
  induction k with
  | zero => exact h
  | succ k ih => rw [← Nat.add_assoc, gst_succ, ih]; rfl
theorem gst_lt {last : Prop} [Decidable last] {ch : Nat → UInt8} : ∀ (m n f : Nat), gst last ch m = some (n, f) → n < 64 ^ m ∧ f ≤ m - 2 ∧ (0 < f → last) := by
  intro m
  induction m with
  | zero =>
    intro n f h
    simp only [gst, Option.some.injEq, Prod.mk.injEq] at h
    obtain ⟨rfl, rfl⟩ := h
    exact ⟨by decide, by decide, fun h => absurd h (by decide)⟩
  | succ m ih =>
    intro n f h
    rw [gst_succ] at h
    cases hg : gst last ch m with
    | none => rw [hg] at h; cases h
    | some p =>
      obtain ⟨n0, f0⟩ := p
      obtain ⟨i1, i2, i3⟩ := ih n0 f0 hg
      have hv := V_lt (ch m)
      rw [hg, Option.bind_some] at h
      split at h
      · rename_i h1
        simp only [Option.some.injEq, Prod.mk.injEq] at h
        obtain ⟨rfl, rfl⟩ := h
        refine ⟨by rw [Nat.pow_succ]; omega, by omega, fun _ => h1.2.1⟩
      · split at h
        · cases h
        · simp only [Option.some.injEq, Prod.mk.injEq] at h
          obtain ⟨rfl, rfl⟩ := h
          exact ⟨by rw [Nat.pow_succ]; omega, by omega, i3⟩

/-- What a group that has been read, with f signs, comes to. -/
def grp (n f : Nat) (r : List UInt8) : Option (List UInt8) :=
  if (f = 0 ∨ by0 n = 0) ∧ (f ≤ 1 ∨ by1 n = 0) then (dec r).map (fun x => [by2 n, by1 n, by0 n].take (3 - f) ++ x) else none

theorem ofNat_zero (n : Nat) : UInt8.ofNat n = 0 ↔ n % 256 = 0 := by
  rw [← UInt8.toNat_inj, UInt8.toNat_ofNat']
  simp

theorem dec_gst (a b c d : UInt8) (r : List UInt8) (ch : Nat → UInt8) (h0 : ch 0 = a) (h1 : ch 1 = b) (h2 : ch 2 = c) (h3 : ch 3 = d) :
    dec (a :: b :: c :: d :: r) = (gst (r = []) ch 4).bind fun p => grp p.1 p.2 r := by
  have la := V_lt a
  have lb := V_lt b
  have lc := V_lt c
  have ld := V_lt d
  have g0 : gst (r = []) ch 0 = some (0, 0) := rfl
  simp only [dec]
  by_cases ha : V a < 0
  · rw [if_pos (.inl ha)]
    have := gst_none (gst_no g0 (fun x => absurd x.2.2 (by decide)) (.inl (by rw [h0]; exact ha))) 3
    rw [show 4 = 0 + 1 + 3 from rfl, this]
    rfl
  have g1 := gst_on g0 (fun x => absurd x.2.2 (by decide)) (by rw [h0]; omega)
  rw [h0] at g1
  by_cases hb : V b < 0
  · rw [if_pos (.inr hb)]
    have := gst_none (gst_no g1 (fun x => absurd x.2.2 (by decide)) (.inl (by rw [h1]; exact hb))) 2
    rw [show 4 = 0 + 1 + 1 + 2 from rfl, this]
    rfl
  rw [if_neg (by omega)]
  have g2 := gst_on g1 (fun x => absurd x.2.2 (by decide)) (by rw [h1]; omega)
  rw [h1] at g2
  by_cases hp : c = 61 ∧ r = []
  · obtain ⟨rfl, rfl⟩ := hp
    have g3 := gst_pad g2 h2 rfl (by decide)
    by_cases hd : d = 61
    · subst hd
      have g4 := gst_pad g3 h3 rfl (by decide)
      rw [if_pos (by simp), show 4 = 0 + 1 + 1 + 1 + 1 from rfl, g4, Option.bind_some]
      simp only [grp]
      have e0 : by0 (((0 * 64 + (V a).toNat) * 64 + (V b).toNat) * 64 * 64) = 0 := by
        rw [by0, ofNat_zero]; omega
      have e1 : by1 (((0 * 64 + (V a).toNat) * 64 + (V b).toNat) * 64 * 64) = 0 ↔ (V b).toNat % 16 = 0 := by
        rw [by1, ofNat_zero]; omega
      have e2 : by2 (((0 * 64 + (V a).toNat) * 64 + (V b).toNat) * 64 * 64) = by2 (num a b 65 65) := by
        simp only [num, VA, Int.toNat_zero, Nat.add_zero, Nat.zero_mul, Nat.zero_add]
      by_cases hz : (V b).toNat % 16 = 0
      · rw [if_pos hz, if_pos ⟨.inr e0, .inr (e1.2 hz)⟩, e2]
        rfl
      · rw [if_neg hz, if_neg (fun x => by rcases x.2 with y | y; exact absurd y (by decide); exact hz (e1.1 y))]
    · have g4 := gst_no g3 (fun x => hd (h3.symm.trans x.1)) (.inr (by decide))
      rw [if_neg (fun x => hd x.2.2), if_pos (by rw [V_pad]; decide), show 4 = 0 + 1 + 1 + 1 + 1 from rfl, g4]
      rfl
  rw [if_neg (fun x => hp ⟨x.2.1, x.1⟩)]
  have hp' : ¬ (ch (0 + 1 + 1) = 61 ∧ r = [] ∧ 2 ≤ 0 + 1 + 1) := fun x => hp ⟨h2.symm.trans x.1, x.2.1⟩
  by_cases hc : V c < 0
  · have g3 := gst_none (gst_no g2 hp' (.inl (by rw [show 0 + 1 + 1 = 2 from rfl, h2]; exact hc))) 1
    rw [if_pos hc, show 4 = 0 + 1 + 1 + 1 + 1 from rfl, g3]
    rfl
  rw [if_neg hc]
  have g3 := gst_on g2 hp' (by rw [show 0 + 1 + 1 = 2 from rfl, h2]; omega)
  rw [show ch (0 + 1 + 1) = c from h2] at g3
  by_cases hq : r = [] ∧ d = 61
  · obtain ⟨rfl, rfl⟩ := hq
    have g4 := gst_pad g3 h3 rfl (by decide)
    rw [if_pos (by simp), show 4 = 0 + 1 + 1 + 1 + 1 from rfl, g4, Option.bind_some]
    simp only [grp]
    have e0 : by0 ((((0 * 64 + (V a).toNat) * 64 + (V b).toNat) * 64 + (V c).toNat) * 64) = 0 ↔ (V c).toNat % 4 = 0 := by
      rw [by0, ofNat_zero]; omega
    have e2 : (((0 * 64 + (V a).toNat) * 64 + (V b).toNat) * 64 + (V c).toNat) * 64 = num a b c 65 := by
      simp only [num, VA, Int.toNat_zero, Nat.add_zero, Nat.zero_mul, Nat.zero_add]
    by_cases hz : (V c).toNat % 4 = 0
    · rw [if_pos hz, if_pos ⟨.inr (e0.2 hz), .inl (by decide)⟩, e2]
      rfl
    · rw [if_neg hz, if_neg (fun x => by rcases x.1 with y | y; exact absurd y (by decide); exact hz (e0.1 y))]
  rw [if_neg hq]
  have hq' : ¬ (ch (0 + 1 + 1 + 1) = 61 ∧ r = [] ∧ 2 ≤ 0 + 1 + 1 + 1) := fun x => hq ⟨x.2.1, h3.symm.trans x.1⟩
  by_cases hd : V d < 0
  · have g4 := gst_no g3 hq' (.inl (by rw [show 0 + 1 + 1 + 1 = 3 from rfl, h3]; exact hd))
    rw [if_pos hd, show 4 = 0 + 1 + 1 + 1 + 1 from rfl, g4]
    rfl
  rw [if_neg hd]
  have g4 := gst_on g3 hq' (by rw [show 0 + 1 + 1 + 1 = 3 from rfl, h3]; omega)
  rw [show ch (0 + 1 + 1 + 1) = d from h3] at g4
  have e2 : (((0 * 64 + (V a).toNat) * 64 + (V b).toNat) * 64 + (V c).toNat) * 64 + (V d).toNat = num a b c d := by
    simp only [num, Nat.zero_mul, Nat.zero_add]
  rw [show 4 = 0 + 1 + 1 + 1 + 1 from rfl, g4, Option.bind_some, e2]
  simp only [grp]
  rw [if_pos (by simp)]
  rfl
end Go.Proofs.YtpbmofofigkpjaaDoor.b6
