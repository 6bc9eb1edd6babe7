/-
  Plain facts on numbers of digits, forms and zones.
-/
import Derived.Test.YtadfdfmebdcfgaaGreatDoorDat
import Derived.Test.YtadfdfmebdcfgaaGreatDoorDwa
import Derived.WalkKit
namespace Go.Proofs.YtadfdfmebdcfgaaGreatDoor.rd
open Go.RowKit
open dt
set_option linter.unusedVariables false

/-- A digit. -/
def isD (b : UInt8) : Bool := decide (48 ≤ (b.toNat : Int) ∧ (b.toNat : Int) ≤ 57)
theorem isD_iff {b : UInt8} : isD b = true ↔ (48 ≤ (b.toNat : Int) ∧ (b.toNat : Int) ≤ 57) := by unfold isD; exact decide_eq_true_iff
theorem isD_no {b : UInt8} : isD b = false ↔ ((b.toNat : Int) < 48 ∨ 57 < (b.toNat : Int)) := by
  unfold isD
  rw [decide_eq_false_iff_not]
  omega
/-- What digits tell. -/
def num (l : List UInt8) : Int := l.foldl (fun n b => 10 * n + ((b.toNat : Int) - 48)) 0
theorem num_snoc (l : List UInt8) (b : UInt8) : num (l ++ [b]) = 10 * num l + ((b.toNat : Int) - 48) := by unfold num; rw [List.foldl_append]; rfl
def dgs (l : List UInt8) : Bool := l.all isD
theorem dgs_iff {l : List UInt8} : dgs l = true ↔ ∀ b ∈ l, isD b = true := by unfold dgs; exact List.all_eq_true
theorem dgs_snoc (l : List UInt8) (b : UInt8) : dgs (l ++ [b]) = (dgs l && isD b) := by unfold dgs; simp
theorem num_two {a b : UInt8} : num [a, b] = 10 * ((a.toNat : Int) - 48) + ((b.toNat : Int) - 48) := by unfold num; simp
theorem num_one {a : UInt8} : num [a] = (a.toNat : Int) - 48 := by unfold num; simp
theorem num_four {a b c d : UInt8} : num [a, b, c, d] = 1000 * ((a.toNat : Int) - 48) + 100 * ((b.toNat : Int) - 48) + 10 * ((c.toNat : Int) - 48) + ((d.toNat : Int) - 48) := by unfold num; simp; omega
theorem take_more {l : List UInt8} {k : Nat} (h : k < l.length) : l.take (k + 1) = l.take k ++ [l[k]] := by rw [List.take_succ_eq_append_getElem h]
theorem num_lo {l : List UInt8} (h : dgs l = true) : 0 ≤ num l := by
  unfold num
  suffices ∀ (l : List UInt8) (n : Int), dgs l = true → 0 ≤ n → 0 ≤ l.foldl (fun n b => 10 * n + ((b.toNat : Int) - 48)) n from this l 0 h (Int.le_refl _)
  intro l
  induction l with
  | nil => intro n _ hn; exact hn
  | cons b l ih =>
    intro n hd hn
    have hb := isD_iff.1 (dgs_iff.1 hd b List.mem_cons_self)
    exact ih _ (dgs_iff.2 fun x hx => dgs_iff.1 hd x (List.mem_cons_of_mem _ hx)) (by show 0 ≤ 10 * n + ((b.toNat : Int) - 48); omega)
theorem num_hi {l : List UInt8} (h : dgs l = true) (hl : l.length ≤ 4) : num l ≤ 9999 := by
  have d : ∀ b ∈ l, 48 ≤ (b.toNat : Int) ∧ (b.toNat : Int) ≤ 57 := fun b hb => isD_iff.1 (dgs_iff.1 h b hb)
  match l, hl with
  | [], _ => exact (by decide)
  | [a], _ => have := d a (by simp); rw [num_one]; omega
  | [a, b], _ => have := d a (by simp); have := d b (by simp); rw [num_two]; omega
  | [a, b, c], _ =>
    have := d a (by simp)
    have := d b (by simp)
    have := d c (by simp)
    rw [show [a, b, c] = [a, b] ++ [c] from rfl, num_snoc, num_two]; omega
  | [a, b, c, e], _ =>
    have := d a (by simp)
    have := d b (by simp)
    have := d c (by simp)
    have := d e (by simp)
    rw [num_four]; omega
  | a :: b :: c :: e :: f :: l, hl => simp at hl
/-- The specification's number: -1 of others than digits. -/
def nb (l : List UInt8) : Int := if dgs l then num l else -1
theorem nb_yes {l : List UInt8} (h : dgs l = true) : nb l = num l := by simp [nb, h]
theorem nb_no {l : List UInt8} (h : dgs l = false) : nb l = -1 := by simp [nb, h]
theorem nb_hi {l : List UInt8} (hl : l.length ≤ 4) : -1 ≤ nb l ∧ nb l ≤ 9999 := by
  cases h : dgs l
  · rw [nb_no h]; omega
  · rw [nb_yes h]; have := num_lo h; have := num_hi h hl; omega
/-- A text of a form, in which 48 stands for any digit. -/
def hf : List UInt8 → List UInt8 → Bool
  | [], [] => true
  | a :: u, f :: fs => (if f = 48 then isD a else a == f) && hf u fs
  | _, _ => false
theorem hf_len : ∀ {l f : List UInt8}, hf l f = true → l.length = f.length
  | [], [], _ => rfl
  | [], _ :: _, h => by cases h
  | _ :: _, [], h => by cases h
  | a :: u, f :: fs, h => by
    simp only [hf, Bool.and_eq_true] at h
    simp [hf_len h.2]
theorem hf_no {l f : List UInt8} (h : l.length ≠ f.length) : hf l f = false := by
  cases e : hf l f
  · rfl
  · exact absurd (hf_len e) h
/-- One place more. -/
def ok1 (l f : List UInt8) (k : Nat) : Bool := if f.getD k 0 = 48 then isD (l.getD k 0) else l.getD k 0 == f.getD k 0
theorem hf_iff : ∀ {l f : List UInt8}, hf l f = true ↔ (l.length = f.length ∧ ∀ k, k < l.length → ok1 l f k = true)
  | [], [] => by simp [hf]
  | [], _ :: _ => by simp [hf]
  | _ :: _, [] => by simp [hf]
  | a :: u, f :: fs => by
    rw [hf, Bool.and_eq_true, hf_iff (l := u) (f := fs)]
    constructor
    · rintro ⟨h0, hl, hk⟩
      refine ⟨by simp [hl], fun k hk' => ?_⟩
      cases k with
      | zero => simpa [ok1] using h0
      | succ k => have := hk k (by simpa using hk'); simpa [ok1] using this
    · rintro ⟨hl, hk⟩
      refine ⟨by have := hk 0 (by simp); simpa [ok1] using this, by simpa using hl, fun k hk' => ?_⟩
      have := hk (k + 1) (by simpa using hk')
      simpa [ok1] using this
/-- Where the first place that does not fit stands the text is not of the form. -/
theorem hf_bad {l f : List UInt8} {k : Nat} (hk : k < l.length) (h : ok1 l f k = false) : hf l f = false := by
  cases e : hf l f
  · rfl
  · have := (hf_iff.1 e).2 k hk
    rw [h] at this
    cases this
/-- A zone of a sign, hours and minutes. -/
def zn (g : UInt8) (hh mm : List UInt8) : Option Int :=
  if (g = 43 ∨ g = 45) ∧ (0 ≤ nb hh ∧ nb hh ≤ 23) ∧ (0 ≤ nb mm ∧ nb mm ≤ 59) then some (if g = 45 then -(nb hh * 3600 + nb mm * 60) else nb hh * 3600 + nb mm * 60) else none
def zc : List UInt8 → Option Int
  | [g, a, b, c, d, e] => if c = 58 then zn g [a, b] [d, e] else none
  | _ => none
def zp : List UInt8 → Option Int
  | [g, a, b, d, e] => zn g [a, b] [d, e]
  | _ => none
/-- The same by a form. -/
def zi (f z : List UInt8) : Option Int :=
  if z ≠ [] ∧ hf (z.drop 1) f = true then
    (if 23 < num ((z.drop 1).take 2) ∨ 59 < num (z.drop (z.length - 2)) then none
     else if z.getD 0 0 = 43 then some (num ((z.drop 1).take 2) * 3600 + num (z.drop (z.length - 2)) * 60)
     else if z.getD 0 0 = 45 then some (-(num ((z.drop 1).take 2) * 3600 + num (z.drop (z.length - 2)) * 60)) else none)
  else none
def F5 : List UInt8 := [48, 48, 58, 48, 48]
def F4 : List UInt8 := [48, 48, 48, 48]
theorem dgs_two {a b : UInt8} : dgs [a, b] = (isD a && isD b) := by simp [dgs]
theorem zn_none {g : UInt8} {hh mm : List UInt8} (h : dgs hh = false ∨ dgs mm = false) : zn g hh mm = none := by
  unfold zn
  rw [if_neg]
  rcases h with h | h
  · rw [nb_no h]; omega
  · rw [nb_no h]; omega
theorem zn_some {g : UInt8} {hh mm : List UInt8} (h1 : dgs hh = true) (h2 : dgs mm = true) :
    zn g hh mm = (if 23 < num hh ∨ 59 < num mm then none else if g = 43 then some (num hh * 3600 + num mm * 60) else if g = 45 then some (-(num hh * 3600 + num mm * 60)) else none) := by
  have a := num_lo h1
  have b := num_lo h2
  unfold zn
  rw [nb_yes h1, nb_yes h2]
  by_cases c : 23 < num hh ∨ 59 < num mm
  · rw [if_pos c, if_neg (by omega)]
  · rw [if_neg c]
    by_cases g1 : g = 43
    · subst g1
      rw [if_pos rfl, if_pos ⟨.inl rfl, by omega, by omega⟩, if_neg (by decide)]
    · rw [if_neg g1]
      by_cases g2 : g = 45
      · subst g2
        rw [if_pos rfl, if_pos ⟨.inr rfl, by omega, by omega⟩, if_pos rfl]
      · rw [if_neg (by rintro ⟨h | h, _⟩ <;> contradiction), if_neg g2]
theorem zi_colon (z : List UInt8) : zi F5 z = zc z := by
  by_cases hl : z.length = 6
  · match z, hl with
    | [g, a, b, c, d, e], _ =>
      unfold zi zc
      simp only [List.drop_succ_cons, List.drop_zero, List.length_cons, List.length_nil, F5, hf]
      by_cases hd : isD a = true ∧ isD b = true ∧ c = 58 ∧ isD d = true ∧ isD e = true
      · obtain ⟨h1, h2, rfl, h3, h4⟩ := hd
        rw [if_pos (by simp [h1, h2, h3, h4]), if_pos rfl, zn_some (by rw [dgs_two, h1, h2]; rfl) (by rw [dgs_two, h3, h4]; rfl)]
        rfl
      · rw [if_neg]
        · by_cases hc : c = 58
          · rw [if_pos hc, zn_none]
            rw [dgs_two, dgs_two]
            cases h1 : isD a <;> cases h2 : isD b <;> cases h3 : isD d <;> cases h4 : isD e <;> simp_all
          · rw [if_neg hc]
        · rintro ⟨_, h⟩
          apply hd
          simp at h
          obtain ⟨h1, h2, h3, h4, h5⟩ := h
          exact ⟨h1, h2, h3, h4, h5⟩
  · have e1 : zc z = none := by
      match z, hl with
      | [], _ => rfl
      | [_], _ => rfl
      | [_, _], _ => rfl
      | [_, _, _], _ => rfl
      | [_, _, _, _], _ => rfl
      | [_, _, _, _, _], _ => rfl
      | [_, _, _, _, _, _], h => exact absurd rfl h
      | _ :: _ :: _ :: _ :: _ :: _ :: _ :: _, _ => rfl
    rw [e1]
    unfold zi
    rw [if_neg]
    rintro ⟨h, h'⟩
    have := hf_len h'
    have h0 : z.length ≠ 0 := fun e => h (List.eq_nil_of_length_eq_zero e)
    simp [F5] at this
    omega
theorem zi_plain (z : List UInt8) : zi F4 z = zp z := by
  by_cases hl : z.length = 5
  · match z, hl with
    | [g, a, b, d, e], _ =>
      unfold zi zp
      simp only [List.drop_succ_cons, List.drop_zero, List.length_cons, List.length_nil, F4, hf]
      by_cases hd : isD a = true ∧ isD b = true ∧ isD d = true ∧ isD e = true
      · obtain ⟨h1, h2, h3, h4⟩ := hd
        rw [if_pos (by simp [h1, h2, h3, h4]), zn_some (by rw [dgs_two, h1, h2]; rfl) (by rw [dgs_two, h3, h4]; rfl)]
        rfl
      · rw [if_neg]
        · rw [zn_none]
          rw [dgs_two, dgs_two]
          cases h1 : isD a <;> cases h2 : isD b <;> cases h3 : isD d <;> cases h4 : isD e <;> simp_all
        · rintro ⟨_, h⟩
          apply hd
          simp at h
          obtain ⟨h1, h2, h4, h5⟩ := h
          exact ⟨h1, h2, h4, h5⟩
  · have e1 : zp z = none := by
      match z, hl with
      | [], _ => rfl
      | [_], _ => rfl
      | [_, _], _ => rfl
      | [_, _, _], _ => rfl
      | [_, _, _, _], _ => rfl
      | [_, _, _, _, _], h => exact absurd rfl h
      | _ :: _ :: _ :: _ :: _ :: _ :: _, _ => rfl
    rw [e1]
    unfold zi
    rw [if_neg]
    rintro ⟨h, h'⟩
    have := hf_len h'
    have h0 : z.length ≠ 0 := fun e => h (List.eq_nil_of_length_eq_zero e)
    simp [F4] at this
    omega
theorem zn_bound {g : UInt8} {hh mm : List UInt8} {a : Int} (h : zn g hh mm = some a) : -90000 ≤ a ∧ a ≤ 90000 := by
  unfold zn at h
  split at h
  · rename_i c
    have := Option.some.inj h
    split at this <;> omega
  · cases h
theorem zc_bound {z : List UInt8} {a : Int} (h : zc z = some a) : -90000 ≤ a ∧ a ≤ 90000 := by
  unfold zc at h
  split at h
  · split at h
    · exact zn_bound h
    · cases h
  · cases h
theorem zp_bound {z : List UInt8} {a : Int} (h : zp z = some a) : -90000 ≤ a ∧ a ≤ 90000 := by
  unfold zp at h
  split at h
  · exact zn_bound h
  · cases h
/-- The answer for a calendar and a zone. -/
def fin (y m d h i s a : Int) : Value :=
  if dw.inB y 1970 2099 && dw.inB m 1 12 && dw.inB d 1 (dm y m) && dw.inB h 0 23 && dw.inB i 0 59 && dw.inB s 0 59 then
    (if dw.inB (st y m d h i s - a) 0 4102444799 then .tuple #[.int .i64 (st y m d h i s - a), .int .i64 0] else .tuple #[.int .i64 0, .int .i64 4])
  else .tuple #[.int .i64 0, .int .i64 3]
def bad : Value := .tuple #[.int .i64 0, .int .i64 3]
theorem ok_and {y m d h i s : Int} : (dw.inB y 1970 2099 && dw.inB m 1 12 && dw.inB d 1 (dm y m) && dw.inB h 0 23 && dw.inB i 0 59 && dw.inB s 0 59) = true ↔ Ok y m d h i s := by
  simp only [Bool.and_eq_true, dw.in_iff]
  unfold Ok
  constructor
  · rintro ⟨⟨⟨⟨⟨⟨a, b⟩, c, d⟩, e, f⟩, g, h⟩, i, j⟩, k, l⟩
    exact ⟨a, b, c, d, e, f, g, h, i, j, k, l⟩
  · rintro ⟨a, b, c, d, e, f, g, h, i, j, k, l⟩
    exact ⟨⟨⟨⟨⟨⟨a, b⟩, c, d⟩, e, f⟩, g, h⟩, i, j⟩, k, l⟩
theorem fin_no {y m d h i s a : Int} (k : ¬ Ok y m d h i s) : fin y m d h i s a = bad := by
  unfold fin
  rw [if_neg (fun e => k (ok_and.1 e))]
  rfl
theorem fin_in {y m d h i s a : Int} (k : Ok y m d h i s) (b : dw.inB (st y m d h i s - a) 0 4102444799 = true) : fin y m d h i s a = .tuple #[.int .i64 (st y m d h i s - a), .int .i64 0] := by
  unfold fin
  rw [if_pos (ok_and.2 k), if_pos b]
theorem fin_out {y m d h i s a : Int} (k : Ok y m d h i s) (b : dw.inB (st y m d h i s - a) 0 4102444799 = false) : fin y m d h i s a = .tuple #[.int .i64 0, .int .i64 4] := by
  unfold fin
  rw [if_pos (ok_and.2 k), if_neg (by rw [b]; decide)]
theorem fin_form (y m d h i s a : Int) : ∃ x c : Int, fin y m d h i s a = .tuple #[.int .i64 x, .int .i64 c] := by
  unfold fin
  split
  · split <;> exact ⟨_, _, rfl⟩
  · exact ⟨_, _, rfl⟩
end Go.Proofs.YtadfdfmebdcfgaaGreatDoor.rd
