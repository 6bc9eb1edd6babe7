/-
  Plain facts on the records of a log: numbers of bytes, the first record of a text, all of them.
-/
import Derived.Test.YtcmhpkgboacojaaDoorLgh
namespace Go.Proofs.YtcmhpkgboacojaaDoor.lg
open Go.RowKit
set_option linter.unusedVariables false

/-- The number that bytes say, the higher ones first. -/
def num (l : List UInt8) : Nat := l.foldl (fun n b => n * 256 + b.toNat) 0
def numB (s : ByteArray) : Nat := num s.data.toList
theorem num_step (l : List UInt8) (k : Nat) (h : k < l.length) : num (l.take (k + 1)) = num (l.take k) * 256 + (l[k]).toNat := by
  unfold num
  rw [List.take_succ_eq_append_getElem h, List.foldl_append]
  rfl
theorem num_lt : ∀ (l : List UInt8), num l < 256 ^ l.length := by
  intro l
  have h : ∀ k, k ≤ l.length → num (l.take k) < 256 ^ k := by
    intro k
    induction k with
    | zero => intro _; simp [num]
    | succ k ih =>
      intro hk
      rw [num_step l k (by omega)]
      have h1 := ih (by omega)
      have h2 := (l[k]).toNat_lt
      have h3 : 256 ^ (k + 1) = 256 ^ k * 256 := Nat.pow_succ ..
      omega
  have := h l.length (Nat.le_refl _)
  rwa [List.take_length] at this
theorem be3 (a b c : UInt8) : be 3 (num [a, b, c]) = [a, b, c] := by
  have ha := a.toNat_lt
  have hb := b.toNat_lt
  have hc := c.toNat_lt
  have e : num [a, b, c] = (a.toNat * 256 + b.toNat) * 256 + c.toNat := by simp [num]
  rw [e]
  simp only [be, Nat.pow_zero, Nat.pow_one, Nat.div_one]
  have h1 : ((a.toNat * 256 + b.toNat) * 256 + c.toNat) / 256 ^ 2 = a.toNat := by rw [show 256 ^ 2 = 65536 from rfl]; omega
  have h2 : ((a.toNat * 256 + b.toNat) * 256 + c.toNat) / 256 = a.toNat * 256 + b.toNat := by omega
  rw [h1, h2]
  congr 1
  · exact UInt8.toNat_inj.1 (by simp)
  · congr 1
    · refine UInt8.toNat_inj.1 ?_
      rw [UInt8.toNat_ofNat']
      omega
    · congr 1
      refine UInt8.toNat_inj.1 ?_
      rw [UInt8.toNat_ofNat']
      omega
theorem three {l : List UInt8} (h : l.length = 3) : ∃ a b c, l = [a, b, c] := by
  match l, h with
  | [a, b, c], _ => exact ⟨a, b, c, rfl⟩
theorem hb_num {L X : ByteArray} (hL : L.size = 3) (h : X.size = numB L) : hb X = L := by
  obtain ⟨a, b, c, e⟩ := three (l := L.data.toList) hL
  unfold hb
  rw [h]
  unfold numB
  rw [e, be3, ← e]

def nt : ByteArray := ⟨#[]⟩
/-- The first record of a text, as the program reads it: 0 and it, or why there is none. -/
def nextT (T : ByteArray) : Nat × ByteArray :=
  if T.size < 7 then (18, nt) else if numB (T.extract 0 3) = 0 ∨ 20000 < numB (T.extract 0 3) then (8, nt) else if T.size - 7 < numB (T.extract 0 3) then (18, nt) else
  if T.extract 3 7 ≠ sb (T.extract 0 3) ((T.extract 7 T.size).extract 0 (numB (T.extract 0 3))) then (8, nt) else (0, (T.extract 7 T.size).extract 0 (numB (T.extract 0 3)))
/-- The record at a place, as the specification reads it. -/
def next (t : ByteArray) (p : Nat) : Nat × ByteArray :=
  if t.size < p + 7 then (18, nt) else if numB (t.extract p (p + 3)) = 0 ∨ 20000 < numB (t.extract p (p + 3)) then (8, nt) else if t.size < p + 7 + numB (t.extract p (p + 3)) then (18, nt) else
  if fr (t.extract (p + 7) (p + 7 + numB (t.extract p (p + 3)))) ≠ t.extract p (p + 7 + numB (t.extract p (p + 3))) then (8, nt) else (0, t.extract (p + 7) (p + 7 + numB (t.extract p (p + 3))))
theorem size_ex {t : ByteArray} {i j : Nat} (h : i ≤ j) (h2 : j ≤ t.size) : (t.extract i j).size = j - i := by
  rw [ByteArray.size_extract]
  omega
theorem split3 {t : ByteArray} {i j k l : Nat} (h1 : i ≤ j) (h2 : j ≤ k) (h3 : k ≤ l) : t.extract i l = t.extract i j ++ t.extract j k ++ t.extract k l := by
  rw [ByteArray.extract_append_extract, Nat.min_eq_left h1, Nat.max_eq_right h2, ByteArray.extract_append_extract, Nat.min_eq_left (by omega), Nat.max_eq_right h3]
theorem app_inj {a b b' c : ByteArray} (h : a ++ b ++ c = a ++ b' ++ c) (hs : b.size = b'.size) : b = b' := by
  have h1 := congrArg (fun x : ByteArray => x.extract a.size (a.size + b.size)) h
  have e1 : ∀ y z : ByteArray, (a ++ y ++ z).extract a.size (a.size + y.size) = y := fun y z => by
    have h2 := ByteArray.extract_append_size_add (a := a) (b := y ++ z) (i := 0) (j := y.size)
    rw [Nat.add_zero] at h2
    rw [ByteArray.append_assoc, h2]
    exact ByteArray.extract_append_eq_left rfl
  rw [e1 b c] at h1
  rw [hs, e1 b' c] at h1
  exact h1
theorem next_eq {t : ByteArray} {p : Nat} (hp : p ≤ t.size) : nextT (t.extract p t.size) = next t p := by
  have hs : (t.extract p t.size).size = t.size - p := size_ex hp (Nat.le_refl _)
  unfold nextT next
  by_cases h1 : t.size < p + 7
  · rw [if_pos (by omega), if_pos h1]
  rw [if_neg (by omega), if_neg h1]
  have eL : (t.extract p t.size).extract 0 3 = t.extract p (p + 3) := by rw [ByteArray.extract_extract, Nat.min_eq_left (by omega)]; rfl
  have eS : (t.extract p t.size).extract 3 7 = t.extract (p + 3) (p + 7) := by rw [ByteArray.extract_extract, Nat.min_eq_left (by omega)]
  rw [eL, eS]
  have hLs : (t.extract p (p + 3)).size = 3 := by rw [size_ex (by omega) (by omega)]; omega
  obtain ⟨n, hn⟩ : ∃ n, numB (t.extract p (p + 3)) = n := ⟨_, rfl⟩
  rw [hn]
  by_cases h2 : n = 0 ∨ 20000 < n
  · rw [if_pos h2, if_pos h2]
  rw [if_neg h2, if_neg h2]
  by_cases h3 : t.size < p + 7 + n
  · rw [if_pos (by omega), if_pos h3]
  rw [if_neg (by omega), if_neg h3]
  have eR : ((t.extract p t.size).extract 7 (t.extract p t.size).size).extract 0 n = t.extract (p + 7) (p + 7 + n) := by
    rw [hs, ByteArray.extract_extract, ByteArray.extract_extract]
    congr 1
    omega
  rw [eR]
  have hXs : (t.extract (p + 7) (p + 7 + n)).size = n := by rw [size_ex (by omega) (by omega)]; omega
  have hhb : hb (t.extract (p + 7) (p + 7 + n)) = t.extract p (p + 3) := hb_num hLs (hXs.trans hn.symm)
  have hsp : t.extract p (p + 7 + n) = t.extract p (p + 3) ++ t.extract (p + 3) (p + 7) ++ t.extract (p + 7) (p + 7 + n) := split3 (by omega) (by omega) (by omega)
  have hSs : (t.extract (p + 3) (p + 7)).size = 4 := by rw [size_ex (by omega) (by omega)]; omega
  have key : (t.extract (p + 3) (p + 7) ≠ sb (t.extract p (p + 3)) (t.extract (p + 7) (p + 7 + n))) ↔ (fr (t.extract (p + 7) (p + 7 + n)) ≠ t.extract p (p + 7 + n)) := by
    refine not_congr ⟨fun h => ?_, fun h => ?_⟩
    · unfold fr
      rw [hhb, hsp, h]
    · unfold fr at h
      rw [hhb, hsp] at h
      exact (app_inj h (by rw [sb_size, hSs])).symm
  by_cases h4 : t.extract (p + 3) (p + 7) ≠ sb (t.extract p (p + 3)) (t.extract (p + 7) (p + 7 + n))
  · rw [if_pos h4, if_pos (key.1 h4)]
  · rw [if_neg h4, if_neg (fun h => h4 (key.2 h))]

/-- The record at a place, its place, and what it is of. -/
theorem next_ok {t : ByteArray} {p : Nat} (h : (next t p).1 = 0) : p + 7 + (next t p).2.size ≤ t.size ∧ 1 ≤ (next t p).2.size ∧ (next t p).2.size ≤ 20000 := by
  unfold next at h ⊢
  by_cases h1 : t.size < p + 7
  · rw [if_pos h1] at h; cases h
  rw [if_neg h1] at h ⊢
  generalize numB (t.extract p (p + 3)) = n at h ⊢
  by_cases h2 : n = 0 ∨ 20000 < n
  · rw [if_pos h2] at h; cases h
  rw [if_neg h2] at h ⊢
  by_cases h3 : t.size < p + 7 + n
  · rw [if_pos h3] at h; cases h
  rw [if_neg h3] at h ⊢
  by_cases h4 : fr (t.extract (p + 7) (p + 7 + n)) ≠ t.extract p (p + 7 + n)
  · rw [if_pos h4] at h; cases h
  rw [if_neg h4]
  have : (t.extract (p + 7) (p + 7 + n)).size = n := by rw [size_ex (by omega) (by omega)]; omega
  simp only [this]
  omega
theorem next_code (t : ByteArray) (p : Nat) : (next t p).1 = 0 ∨ (next t p).1 = 18 ∨ (next t p).1 = 8 := by
  unfold next
  split
  · exact .inr (.inl rfl)
  · split
    · exact .inr (.inr rfl)
    · split
      · exact .inr (.inl rfl)
      · split
        · exact .inr (.inr rfl)
        · exact .inl rfl
theorem next_none {t : ByteArray} {p : Nat} (h : (next t p).1 ≠ 0) : (next t p).2 = nt := by
  unfold next at h ⊢
  split
  · rfl
  · rename_i h1
    rw [if_neg h1] at h
    split
    · rfl
    · rename_i h2
      rw [if_neg h2] at h
      split
      · rfl
      · rename_i h3
        rw [if_neg h3] at h
        split
        · rfl
        · rename_i h4
          rw [if_neg h4] at h
          exact absurd rfl h

/-- The records from a place on, where they end, and what is behind. -/
def scan (t : ByteArray) : Nat → Nat → List ByteArray → List ByteArray × Nat × Nat
  | 0, p, acc => (acc, p, 0)
  | f + 1, p, acc => if t.size ≤ p then (acc, p, 0) else if (next t p).1 = 0 then scan t f (p + 7 + (next t p).2.size) (acc ++ [(next t p).2]) else (acc, p, (next t p).1)
def recs (t : ByteArray) : List ByteArray × Nat × Nat := scan t (t.size + 1) 0 []
theorem scan_end {t : ByteArray} {f p : Nat} {acc : List ByteArray} (h : t.size ≤ p) : scan t f p acc = (acc, p, 0) := by
  cases f with
  | zero => rfl
  | succ f => rw [scan, if_pos h]
theorem scan_stop {t : ByteArray} {f p : Nat} {acc : List ByteArray} (h : p < t.size) (hf : t.size - p < f) (hn : (next t p).1 ≠ 0) : scan t f p acc = (acc, p, (next t p).1) := by
  cases f with
  | zero => omega
  | succ f => rw [scan, if_neg (by omega), if_neg hn]
theorem scan_step {t : ByteArray} {f p : Nat} {acc : List ByteArray} (h : p < t.size) (hf : t.size - p < f) (hn : (next t p).1 = 0) : ∃ g, t.size - (p + 7 + (next t p).2.size) < g ∧ scan t f p acc = scan t g (p + 7 + (next t p).2.size) (acc ++ [(next t p).2]) := by
  cases f with
  | zero => omega
  | succ f => exact ⟨f, by omega, by rw [scan, if_neg (by omega), if_pos hn]⟩
theorem scan_le (t : ByteArray) : ∀ f p acc, p ≤ t.size → (scan t f p acc).2.1 ≤ t.size ∧ (scan t f p acc).1.length ≤ acc.length + (t.size - p) ∧ ((scan t f p acc).2.2 = 0 ∨ (scan t f p acc).2.2 = 18 ∨ (scan t f p acc).2.2 = 8)
  | 0, p, acc, h => ⟨h, Nat.le_add_right _ _, .inl rfl⟩
  | f + 1, p, acc, h => by
    rw [scan]
    split
    · exact ⟨h, Nat.le_add_right _ _, .inl rfl⟩
    · split
      · rename_i h0 h1
        have hk := next_ok h1
        obtain ⟨a, b, c⟩ := scan_le t f (p + 7 + (next t p).2.size) (acc ++ [(next t p).2]) hk.1
        refine ⟨a, ?_, c⟩
        rw [List.length_append] at b
        simp only [List.length_singleton] at b
        omega
      · exact ⟨h, Nat.le_add_right _ _, next_code t p⟩
theorem recs_le (t : ByteArray) : (recs t).2.1 ≤ t.size ∧ (recs t).1.length ≤ t.size ∧ ((recs t).2.2 = 0 ∨ (recs t).2.2 = 18 ∨ (recs t).2.2 = 8) := by
  obtain ⟨a, b, c⟩ := scan_le t (t.size + 1) 0 [] (Nat.zero_le _)
  refine ⟨a, ?_, c⟩
  have b' : (recs t).1.length ≤ 0 + (t.size - 0) := b
  omega
end Go.Proofs.YtcmhpkgboacojaaDoor.lg
