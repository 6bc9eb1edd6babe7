/-
  Numbers and their digits: plain facts.
-/
import Derived.Test.YtbfplmafffnghaaDoorDig
import Derived.Lib.AtoiAll
namespace Go.Proofs.YtbfplmafffnghaaDoor.nu
open Go.RowKit
set_option linter.unusedVariables false

abbrev IsDig (b : UInt8) : Prop := 48 ≤ b.toNat ∧ b.toNat ≤ 57
def val (acc : Nat) (l : List UInt8) : Nat := l.foldl (fun a b => a * 10 + (b.toNat - 48)) acc
theorem val_snoc (acc : Nat) (l : List UInt8) (b : UInt8) : val acc (l ++ [b]) = val acc l * 10 + (b.toNat - 48) := by
  unfold val
  rw [List.foldl_append]
  rfl
theorem dig_nat {d : Nat} (h : d < 10) : (UInt8.ofNat (48 + d)).toNat = 48 + d := by
  rw [UInt8.toNat_ofNat_of_lt' (by show 48 + d < 256; omega)]
theorem dec_facts (n : Nat) : (∀ b ∈ Lib.decDigits n, IsDig b) ∧ val 0 (Lib.decDigits n) = n ∧ Lib.decDigits n ≠ [] ∧ (1 ≤ n → ∀ b r, Lib.decDigits n = b :: r → b.toNat ≠ 48) := by
  induction n using Nat.strongRecOn with
  | _ n ih =>
    rw [Lib.decDigits]
    by_cases h : n < 10
    · rw [dif_pos h]
      have hd := dig_nat h
      refine ⟨fun b hb => ?_, ?_, by simp, fun h1 b r e => ?_⟩
      · rw [List.mem_singleton] at hb
        subst hb
        exact ⟨by omega, by omega⟩
      · show 0 * 10 + ((UInt8.ofNat (48 + n)).toNat - 48) = n
        omega
      · cases e
        omega
    · rw [dif_neg h]
      obtain ⟨i1, i2, i3, i4⟩ := ih (n / 10) (by omega)
      have hd := dig_nat (d := n % 10) (by omega)
      refine ⟨fun b hb => ?_, ?_, by simp, fun h1 b r e => ?_⟩
      · rcases List.mem_append.1 hb with hb | hb
        · exact i1 b hb
        · rw [List.mem_singleton] at hb
          subst hb
          exact ⟨by omega, by omega⟩
      · rw [val_snoc, i2, hd]
        omega
      · cases hq : Lib.decDigits (n / 10) with
        | nil => exact absurd hq i3
        | cons c t =>
          rw [hq, List.cons_append] at e
          cases e
          exact i4 (by omega) _ _ hq
theorem val_pos : ∀ (l : List UInt8) (acc : Nat), 1 ≤ acc → 1 ≤ val acc l
  | [], acc, h => h
  | b :: l, acc, h => val_pos l (acc * 10 + (b.toNat - 48)) (by omega)
theorem dec_of_val (l : List UInt8) : l ≠ [] → (∀ b ∈ l, IsDig b) → (l.length = 1 ∨ ∀ b r, l = b :: r → b.toNat ≠ 48) → Lib.decDigits (val 0 l) = l := by
  suffices H : ∀ (n : Nat) (l : List UInt8), l.length = n → l ≠ [] → (∀ b ∈ l, IsDig b) → (l.length = 1 ∨ ∀ b r, l = b :: r → b.toNat ≠ 48) → Lib.decDigits (val 0 l) = l from H l.length l rfl
  intro n
  induction n with
  | zero => intro l hl h; exact absurd (List.length_eq_zero_iff.1 hl) h
  | succ n ih =>
    intro l hl hne hd hh
    rcases List.eq_nil_or_concat l with rfl | ⟨r, b, rfl⟩
    · exact absurd rfl hne
    · rw [List.concat_eq_append] at *
      have hb : IsDig b := hd b (by simp)
      have eb : UInt8.ofNat (48 + (b.toNat - 48)) = b := by
        apply UInt8.toNat_inj.1
        rw [dig_nat (by have := hb.2; omega)]
        have := hb.1
        omega
      rw [val_snoc]
      by_cases hr : r = []
      · subst hr
        have e0 : val 0 ([] : List UInt8) = 0 := rfl
        rw [e0, Nat.zero_mul, Nat.zero_add, Lib.decDigits_one (by have := hb.2; omega), eb]
        rfl
      · have hlen : r.length = n := by simpa using hl
        have hhr : ∀ c t, r = c :: t → c.toNat ≠ 48 := by
          intro c t e
          rcases hh with h1 | h1
          · exfalso
            have : r.length ≠ 0 := fun y => hr (List.length_eq_zero_iff.1 y)
            rw [List.length_append, List.length_singleton] at h1
            omega
          · exact h1 c (t ++ [b]) (by rw [e]; rfl)
        have hv : 1 ≤ val 0 r := by
          cases r with
          | nil => exact absurd rfl hr
          | cons c t =>
            have hc := hd c (by simp)
            have hc0 := hhr c t rfl
            exact val_pos t (0 * 10 + (c.toNat - 48)) (by have := hc.1; omega)
        have ihr := ih r hlen hr (fun x hx => hd x (by simp [hx])) (.inr hhr)
        rw [Lib.decDigits, dif_neg (by omega)]
        rw [show (val 0 r * 10 + (b.toNat - 48)) / 10 = val 0 r from by have := hb.2; omega, show (val 0 r * 10 + (b.toNat - 48)) % 10 = b.toNat - 48 from by have := hb.2; omega, ihr, eb]
/-- An end's text, and its number. -/
def EndIs (l : List UInt8) (n : Int) : Prop := (l = [42] ∧ n = 0) ∨ (1 ≤ n ∧ n ≤ 4294967295 ∧ l = Lib.decDigits n.toNat)
theorem end_one {l : List UInt8} {n m : Int} (h : EndIs l n) (h' : EndIs l m) : n = m := by
  rcases h with ⟨e, rfl⟩ | ⟨a, b, e⟩
  · rcases h' with ⟨_, rfl⟩ | ⟨a', b', e'⟩
    · rfl
    · exfalso
      rw [e] at e'
      have := (dec_facts m.toNat).1 42 (by rw [← e']; simp)
      exact absurd this (by decide)
  · rcases h' with ⟨e', rfl⟩ | ⟨a', b', e'⟩
    · exfalso
      rw [e'] at e
      have := (dec_facts n.toNat).1 42 (by rw [← e]; simp)
      exact absurd this (by decide)
    · have h1 := (dec_facts n.toNat).2.1
      have h2 := (dec_facts m.toNat).2.1
      rw [← e] at h1
      rw [← e', h1] at h2
      omega
def one (l : List UInt8) : Option Int := if l = [42] then some 0 else if 1 ≤ val 0 l ∧ val 0 l ≤ 4294967295 ∧ l = Lib.decDigits (val 0 l) then some ((val 0 l : Nat) : Int) else none
theorem one_some {l : List UInt8} {n : Int} (h : EndIs l n) : one l = some n := by
  rcases h with ⟨rfl, rfl⟩ | ⟨h1, h2, e⟩
  · rfl
  · have hv : val 0 l = n.toNat := by rw [e]; exact (dec_facts n.toNat).2.1
    have hne : l ≠ [42] := by
      intro e2
      have := (dec_facts n.toNat).1 42 (by rw [← e, e2]; simp)
      exact absurd this (by decide)
    unfold one
    rw [if_neg hne, if_pos ⟨by omega, by omega, by rw [hv]; exact e⟩, hv]
    congr 1
    omega
theorem one_of {l : List UInt8} {n : Int} (h : one l = some n) : EndIs l n := by
  unfold one at h
  split at h
  · rename_i e
    injection h with h
    exact .inl ⟨e, h.symm⟩
  · split at h
    · rename_i hx
      injection h with h
      refine .inr ⟨by omega, by omega, ?_⟩
      rw [← h, Int.toNat_natCast]
      exact hx.2.2
    · cases h
theorem one_none {l : List UInt8} (h : ∀ n, ¬ EndIs l n) : one l = none := by
  cases e : one l with
  | none => rfl
  | some n => exact absurd (one_of e) (h n)
/-- No end's text has a colon. -/
theorem end_sign {l : List UInt8} {n : Int} (h : EndIs l n) : ∀ b ∈ l, b ≠ 58 := by
  intro b hb e
  subst e
  rcases h with ⟨rfl, _⟩ | ⟨_, _, rfl⟩
  · simp at hb
  · exact absurd ((dec_facts n.toNat).1 58 hb) (by decide)
theorem val_le : ∀ (l : List UInt8) (acc : Nat), acc ≤ val acc l
  | [], acc => Nat.le_refl _
  | b :: l, acc => Nat.le_trans (by omega) (val_le l (acc * 10 + (b.toNat - 48)))
theorem parse_val : ∀ (l : List UInt8) (acc : Nat), (∀ b ∈ l, IsDig b) → val acc l ≤ 4294967295 → Lib.parseUint10 acc l = .ok (val acc l)
  | [], acc, _, _ => rfl
  | b :: l, acc, hd, hv => by
    have h1 := val_le l (acc * 10 + (b.toNat - 48))
    have hv' : val (acc * 10 + (b.toNat - 48)) l ≤ 4294967295 := hv
    rw [Lib.parseUint10, if_pos (hd b List.mem_cons_self), if_neg (by omega), if_neg (by omega)]
    exact parse_val l _ (fun x hx => hd x (List.mem_cons_of_mem _ hx)) hv'
theorem atoi_dec {n : Nat} (h1 : 1 ≤ n) (h2 : n ≤ 4294967295) : Lib.atoiAll (Lib.decDigits n) = .ok (n : Int) := by
  obtain ⟨f1, f2, f3, f4⟩ := dec_facts n
  have hp : Lib.parseMag (Lib.decDigits n) = .ok n := by
    unfold Lib.parseMag
    rw [if_neg f3, parse_val _ 0 f1 (by omega), f2]
  cases hl : Lib.decDigits n with
  | nil => exact absurd hl f3
  | cons c r =>
    have hc : IsDig c := f1 c (by rw [hl]; exact List.mem_cons_self)
    rw [hl] at hp
    simp only [Lib.atoiAll]
    rw [if_neg (show ¬ (c.toNat = 43 ∨ c.toNat = 45) by have := hc.1; omega), hp]
    simp only
    rw [if_neg (by omega), if_neg (by have := hc.1; omega), if_neg (by have := hc.1; omega)]
theorem dec_inj {n m : Nat} (h : Lib.decDigits n = Lib.decDigits m) : n = m := by
  have h1 := (dec_facts n).2.1
  rw [h, (dec_facts m).2.1] at h1
  exact h1.symm
end Go.Proofs.YtbfplmafffnghaaDoor.nu
