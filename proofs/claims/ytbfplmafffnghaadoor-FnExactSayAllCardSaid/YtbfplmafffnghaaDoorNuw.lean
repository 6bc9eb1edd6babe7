/-
  A number's text, with its sign: plain facts.
-/
import Derived.Test.YtbfplmafffnghaaDoorNup
import Derived.Lib.ItoaMem
namespace Go.Proofs.YtbfplmafffnghaaDoor.nu
open Go.RowKit
set_option linter.unusedVariables false

/-- A number's text: at most 18 digits, told as strconv tells it. -/
def NumIs (l : List UInt8) (n : Int) : Prop := -1000000000000000000 < n ∧ n < 1000000000000000000 ∧ l = Lib.itoa n
theorem ndig_le : ∀ (k u : Nat), 1 ≤ k → u < 10 ^ k → Lib.nDigits u ≤ k := by
  intro k
  induction k with
  | zero => intro u h; omega
  | succ k ih =>
    intro u _ hu
    by_cases h : u < 10
    · rw [Lib.nDigits_small h]; omega
    · rw [Lib.nDigits_big h]
      have hk : 1 ≤ k := by
        rcases Nat.eq_zero_or_pos k with rfl | hk
        · exact absurd hu (by simpa using h)
        · exact hk
      have := ih (u / 10) hk (by rw [Nat.pow_succ] at hu; omega)
      omega
theorem dec_len18 {n : Nat} (h : n < 1000000000000000000) : (Lib.decDigits n).length ≤ 18 := by
  rw [Lib.decDigits_length]
  exact ndig_le 18 n (by decide) h
theorem itoa_pos {n : Int} (h : 0 ≤ n) : Lib.itoa n = Lib.decDigits n.toNat := by
  have := Lib.itoa_nonneg n.toNat
  rwa [Int.toNat_of_nonneg h] at this
theorem itoa_min {n : Int} (h : n < 0) : Lib.itoa n = 45 :: Lib.decDigits n.natAbs := by
  have := Lib.itoa_neg n.natAbs (by omega)
  rwa [show -((n.natAbs : Nat) : Int) = n by omega] at this
theorem num_plus {l : List UInt8} {n : Int} (h : NumIs l n) (hm : ∀ b r, l = b :: r → b.toNat ≠ 45) : l = Lib.decDigits n.toNat ∧ n.toNat < 1000000000000000000 := by
  obtain ⟨h1, h2, h3⟩ := h
  by_cases h0 : 0 ≤ n
  · exact ⟨by rw [h3, itoa_pos h0], by omega⟩
  · exfalso
    rw [itoa_min (by omega)] at h3
    exact hm _ _ h3 (by decide)
theorem num_min {l t : List UInt8} {n : Int} (h : NumIs l n) (hl : l = 45 :: t) : ∃ m : Nat, 1 ≤ m ∧ m < 1000000000000000000 ∧ n = -(m : Int) ∧ t = Lib.decDigits m := by
  obtain ⟨h1, h2, h3⟩ := h
  by_cases h0 : 0 ≤ n
  · exfalso
    rw [itoa_pos h0, hl] at h3
    exact absurd ((dec_facts n.toNat).1 45 (by rw [← h3]; simp)) (by decide)
  · rw [itoa_min (by omega), hl] at h3
    injection h3 with _ h3
    exact ⟨n.natAbs, by omega, by omega, by omega, h3⟩
theorem lead0 {n : Nat} {c : UInt8} {t l : List UInt8} (e : l = Lib.decDigits n) (hc : l = c :: t) (h : c.toNat = 48) (hs : 1 < l.length) : False := by
  by_cases h1 : 1 ≤ n
  · exact (dec_facts n).2.2.2 h1 c t (by rw [← e, hc]) h
  · have h0 : n = 0 := by omega
    subst h0
    rw [e, Lib.decDigits_one (by decide)] at hs
    exact absurd hs (by decide)
theorem num_of_pos {l : List UInt8} (h0 : l ≠ []) (h1 : ∀ b ∈ l, IsDig b) (h2 : l.length = 1 ∨ ∀ b r, l = b :: r → b.toNat ≠ 48) (h3 : val 0 l < 1000000000000000000) : NumIs l (val 0 l : Nat) := by
  refine ⟨by omega, by omega, ?_⟩
  rw [itoa_pos (by omega), Int.toNat_natCast]
  exact (dec_of_val l h0 h1 h2).symm
theorem num_of_min {s l : List UInt8} (hs : s = 45 :: l) (h0 : l ≠ []) (h1 : ∀ b ∈ l, IsDig b) (h2 : ∀ b r, l = b :: r → b.toNat ≠ 48) (h3 : val 0 l < 1000000000000000000) : NumIs s (-(val 0 l : Nat)) := by
  have hv : 1 ≤ val 0 l := by
    cases l with
    | nil => exact absurd rfl h0
    | cons c t =>
      have hc := h1 c (by simp)
      have hc0 := h2 c t rfl
      exact val_pos t (0 * 10 + (c.toNat - 48)) (by have := hc.1; omega)
  refine ⟨by omega, by omega, ?_⟩
  rw [itoa_min (by omega), hs, show (-((val 0 l : Nat) : Int)).natAbs = val 0 l from by omega, dec_of_val l h0 h1 (.inr h2)]
theorem parse18 : ∀ (l : List UInt8) (acc : Nat), (∀ b ∈ l, IsDig b) → val acc l < 1000000000000000000 → Lib.parseUint10 acc l = .ok (val acc l)
  | [], acc, _, _ => rfl
  | b :: l, acc, hd, hv => by
    have h1 := val_le l (acc * 10 + (b.toNat - 48))
    have hv' : val (acc * 10 + (b.toNat - 48)) l < 1000000000000000000 := hv
    rw [Lib.parseUint10, if_pos (hd b List.mem_cons_self), if_neg (by omega), if_neg (by omega)]
    exact parse18 l _ (fun x hx => hd x (List.mem_cons_of_mem _ hx)) hv'
theorem mag18 {n : Nat} (h : n < 1000000000000000000) : Lib.parseMag (Lib.decDigits n) = .ok n := by
  obtain ⟨f1, f2, f3, f4⟩ := dec_facts n
  unfold Lib.parseMag
  rw [if_neg f3, parse18 _ 0 f1 (by omega), f2]
theorem atoi_num {l : List UInt8} {n : Int} (h : NumIs l n) : Lib.atoiAll l = .ok n := by
  obtain ⟨h1, h2, h3⟩ := h
  by_cases h0 : 0 ≤ n
  · rw [itoa_pos h0] at h3
    have hp := mag18 (n := n.toNat) (by omega)
    cases hl : Lib.decDigits n.toNat with
    | nil => exact absurd hl (dec_facts n.toNat).2.2.1
    | cons c r =>
      have hc : IsDig c := (dec_facts n.toNat).1 c (by rw [hl]; exact List.mem_cons_self)
      rw [hl] at hp h3
      rw [h3]
      simp only [Lib.atoiAll]
      rw [if_neg (show ¬ (c.toNat = 43 ∨ c.toNat = 45) by have := hc.1; omega), hp]
      simp only
      rw [if_neg (by omega), if_neg (by have := hc.1; omega), if_neg (by have := hc.1; omega), Int.toNat_of_nonneg h0]
  · rw [itoa_min (by omega)] at h3
    have hp := mag18 (n := n.natAbs) (by omega)
    rw [h3]
    simp only [Lib.atoiAll]
    rw [if_pos (show ((45 : UInt8).toNat = 43 ∨ (45 : UInt8).toNat = 45) from .inr rfl), hp]
    simp only
    rw [if_neg (fun y => y.1 rfl), if_neg (fun y => by have := y.2; omega), if_pos (show (45 : UInt8).toNat = 45 from rfl)]
    congr 1
    omega
theorem num_inj {l : List UInt8} {n m : Int} (h : NumIs l n) (k : NumIs l m) : n = m := by
  have a := atoi_num h
  rw [atoi_num k] at a
  injection a with a
  exact a.symm
/-- A number that was read, or there is none. -/
def GetsZ (l : List UInt8) (v : Int) (B : Bool) : Prop := (B = true ∧ NumIs l v) ∨ (B = false ∧ ∀ n, ¬ NumIs l n)
def NumRetZ (l : List UInt8) (e : Ending) : Prop := ∃ (v : Int) (B : Bool), e = .returned (.tuple #[.int .i64 v, .bool B]) ∧ GetsZ l v B
/-- The number that a text tells. -/
def numO (l : List UInt8) : Option Int := match Lib.atoiAll l with | .ok v => if -1000000000000000000 < v ∧ v < 1000000000000000000 ∧ l = Lib.itoa v then some v else none | _ => none
theorem numO_some {l : List UInt8} {n : Int} (h : NumIs l n) : numO l = some n := by
  unfold numO
  rw [atoi_num h]
  exact if_pos h
theorem numO_of {l : List UInt8} {n : Int} (h : numO l = some n) : NumIs l n := by
  unfold numO at h
  split at h
  · split at h
    · rename_i hx
      injection h with h
      subst h
      exact hx
    · cases h
  · cases h
theorem numO_none {l : List UInt8} (h : ∀ n, ¬ NumIs l n) : numO l = none := by
  cases e : numO l with
  | none => rfl
  | some n => exact absurd (numO_of e) (h n)
theorem gets_numO {l : List UInt8} {v : Int} {B : Bool} (h : GetsZ l v B) : (B = true ∧ numO l = some v) ∨ (B = false ∧ numO l = none) := by
  rcases h with ⟨rfl, h⟩ | ⟨rfl, h⟩
  · exact .inl ⟨rfl, numO_some h⟩
  · exact .inr ⟨rfl, numO_none h⟩
end Go.Proofs.YtbfplmafffnghaaDoor.nu
