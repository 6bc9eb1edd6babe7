/-
  Plain facts on base 64: the text of bytes, the reading of a text, that each leads back to the other.
  The contract of the specification's base 64 text: it is the text of the bytes.
-/
import Derived.Test.YtbokolpjdaamiaaGreatDoorRows
import Derived.WalkKit
import Derived.WalkLawsBesides
import Derived.Deep.QuietTactic
import Derived.BigQuiet
import Derived.Test.YtbokolpjdaamiaaGreatDoorPkaf
import Derived.BigRegion
import Derived.Laws.AppendOwn

namespace Go.Proofs.YtbokolpjdaamiaaGreatDoor.b6
set_option linter.unusedVariables false

def alpha : List UInt8 := [65, 66, 67, 68, 69, 70, 71, 72, 73, 74, 75, 76, 77, 78, 79, 80, 81, 82, 83, 84, 85, 86, 87, 88, 89, 90, 97, 98, 99, 100, 101, 102, 103, 104, 105, 106, 107, 108, 109, 110, 111, 112, 113, 114, 115, 116, 117, 118, 119, 120, 121, 122, 48, 49, 50, 51, 52, 53, 54, 55, 56, 57, 43, 47]
def vals : List Int := [(-1), (-1), (-1), (-1), (-1), (-1), (-1), (-1), (-1), (-1), (-1), (-1), (-1), (-1), (-1), (-1), (-1), (-1), (-1), (-1), (-1), (-1), (-1), (-1), (-1), (-1), (-1), (-1), (-1), (-1), (-1), (-1), (-1), (-1), (-1), (-1), (-1), (-1), (-1), (-1), (-1), (-1), (-1), 62, (-1), (-1), (-1), 63, 52, 53, 54, 55, 56, 57, 58, 59, 60, 61, (-1), (-1), (-1), (-1), (-1), (-1), (-1), 0, 1, 2, 3, 4, 5, 6, 7, 8, 9, 10, 11, 12, 13, 14, 15, 16, 17, 18, 19, 20, 21, 22, 23, 24, 25, (-1), (-1), (-1), (-1), (-1), (-1), 26, 27, 28, 29, 30, 31, 32, 33, 34, 35, 36, 37, 38, 39, 40, 41, 42, 43, 44, 45, 46, 47, 48, 49, 50, 51, (-1), (-1), (-1), (-1), (-1)]
/-- The character of six bits. -/
def L (n : Nat) : UInt8 := alpha.getD n 0
/-- The six bits of a character, -1 of one that has none. -/
def V (c : UInt8) : Int := vals.getD c.toNat (-1)

theorem V_L_all : ∀ n : Fin 64, V (L n.val) = (n.val : Int) := by decide +kernel
theorem V_L (n : Nat) (h : n < 64) : V (L n) = (n : Int) := V_L_all ⟨n, h⟩
theorem L_V_all : ∀ n : Fin 256, V (UInt8.ofNat n.val) = -1 ∨ (0 ≤ V (UInt8.ofNat n.val) ∧ V (UInt8.ofNat n.val) < 64 ∧ L (V (UInt8.ofNat n.val)).toNat = UInt8.ofNat n.val) := by decide +kernel
theorem byte_all {p : UInt8 → Prop} (h : ∀ n : Fin 256, p (UInt8.ofNat n.val)) (c : UInt8) : p c := by
  have := h ⟨c.toNat, c.toNat_lt⟩
  simpa using this
theorem V_cases (c : UInt8) : V c = -1 ∨ (0 ≤ V c ∧ V c < 64 ∧ L (V c).toNat = c) := byte_all (p := fun c => V c = -1 ∨ (0 ≤ V c ∧ V c < 64 ∧ L (V c).toNat = c)) L_V_all c
theorem V_pad : V 61 = -1 := by decide +kernel
theorem L_ne_pad_all : ∀ n : Fin 64, L n.val ≠ 61 := by decide +kernel
theorem L_ne_pad (n : Nat) (h : n < 64) : L n ≠ 61 := L_ne_pad_all ⟨n, h⟩

/-- The text of bytes. -/
def enc : List UInt8 → List UInt8
  | [] => []
  | [a] => [L (a.toNat / 4), L (a.toNat % 4 * 16), 61, 61]
  | [a, b] => [L (a.toNat / 4), L (a.toNat % 4 * 16 + b.toNat / 16), L (b.toNat % 16 * 4), 61]
  | a :: b :: c :: r => L (a.toNat / 4) :: L (a.toNat % 4 * 16 + b.toNat / 16) :: L (b.toNat % 16 * 4 + c.toNat / 64) :: L (c.toNat % 64) :: enc r

theorem enc_len : ∀ (n : Nat) (l : List UInt8), l.length ≤ n → (enc l).length = (l.length + 2) / 3 * 4 := by
  intro n
  induction n with
  | zero =>
    intro l h
    obtain rfl : l = [] := List.eq_nil_of_length_eq_zero (by omega)
    rfl
  | succ n ih =>
    intro l h
    match l, h with
    | [], _ => rfl
    | [a], _ => simp [enc]
    | [a, b], _ => simp [enc]
    | a :: b :: c :: r, h =>
      have := ih r (by simp at h; omega)
      simp only [enc, List.length_cons, this]
      omega
theorem enc_length (l : List UInt8) : (enc l).length = (l.length + 2) / 3 * 4 := enc_len l.length l (Nat.le_refl _)

/-- The value of a group of four. -/
def num (a b c d : UInt8) : Nat := (((V a).toNat * 64 + (V b).toNat) * 64 + (V c).toNat) * 64 + (V d).toNat
def by2 (n : Nat) : UInt8 := UInt8.ofNat (n / 65536)
def by1 (n : Nat) : UInt8 := UInt8.ofNat (n / 256)
def by0 (n : Nat) : UInt8 := UInt8.ofNat n
/-- The reading of a text, group by group. -/
def dec : List UInt8 → Option (List UInt8)
  | a :: b :: c :: d :: r =>
    if V a < 0 ∨ V b < 0 then none
    else if r = [] ∧ c = 61 ∧ d = 61 then (if (V b).toNat % 16 = 0 then some [by2 (num a b 65 65)] else none)
    else if V c < 0 then none
    else if r = [] ∧ d = 61 then (if (V c).toNat % 4 = 0 then some [by2 (num a b c 65), by1 (num a b c 65)] else none)
    else if V d < 0 then none
    else (dec r).map fun x => by2 (num a b c d) :: by1 (num a b c d) :: by0 (num a b c d) :: x
  | [] => some []
  | _ => none

theorem VA : V 65 = 0 := by decide +kernel

theorem dec_enc_n : ∀ (n : Nat) (l : List UInt8), l.length ≤ n → dec (enc l) = some l := by
  intro n
  induction n with
  | zero =>
    intro l h
    obtain rfl : l = [] := List.eq_nil_of_length_eq_zero (by omega)
    rfl
  | succ n ih =>
    intro l h
    match l, h with
    | [], _ => rfl
    | [a], _ =>
      have ha := a.toNat_lt
      have e1 := V_L (a.toNat / 4) (by omega)
      have e2 := V_L (a.toNat % 4 * 16) (by omega)
      simp only [enc, dec]
      rw [if_neg (by rw [e1, e2]; omega), if_pos (by simp), if_pos (by rw [e2]; omega)]
      congr 2
      apply UInt8.toNat_inj.1
      simp only [by2, num, e1, e2, VA, UInt8.toNat_ofNat', Int.toNat_natCast, Int.toNat_zero]
      omega
    | [a, b], _ =>
      have ha := a.toNat_lt
      have hb := b.toNat_lt
      have e1 := V_L (a.toNat / 4) (by omega)
      have e2 := V_L (a.toNat % 4 * 16 + b.toNat / 16) (by omega)
      have e3 := V_L (b.toNat % 16 * 4) (by omega)
      simp only [enc, dec]
      rw [if_neg (by rw [e1, e2]; omega), if_neg (fun h => L_ne_pad _ (by omega) h.2.1), if_neg (by rw [e3]; omega), if_pos (by simp), if_pos (by rw [e3]; omega)]
      congr 2
      · apply UInt8.toNat_inj.1
        simp only [by2, num, e1, e2, e3, VA, UInt8.toNat_ofNat', Int.toNat_natCast, Int.toNat_zero]
        omega
      · congr 1
        apply UInt8.toNat_inj.1
        simp only [by1, num, e1, e2, e3, VA, UInt8.toNat_ofNat', Int.toNat_natCast, Int.toNat_zero]
        omega
    | a :: b :: c :: r, h =>
      have ha := a.toNat_lt
      have hb := b.toNat_lt
      have hc := c.toNat_lt
      have e1 := V_L (a.toNat / 4) (by omega)
      have e2 := V_L (a.toNat % 4 * 16 + b.toNat / 16) (by omega)
      have e3 := V_L (b.toNat % 16 * 4 + c.toNat / 64) (by omega)
      have e4 := V_L (c.toNat % 64) (by omega)
      simp only [enc, dec]
      rw [if_neg (by rw [e1, e2]; omega), if_neg (fun h => L_ne_pad _ (by omega) h.2.1), if_neg (by rw [e3]; omega), if_neg (fun h => L_ne_pad _ (by omega) h.2), if_neg (by rw [e4]; omega), ih r (by simp at h; omega)]
      simp only [Option.map_some]
      congr 2
      · apply UInt8.toNat_inj.1
        simp only [by2, num, e1, e2, e3, e4, UInt8.toNat_ofNat', Int.toNat_natCast]
        omega
      · congr 1
        · apply UInt8.toNat_inj.1
          simp only [by1, num, e1, e2, e3, e4, UInt8.toNat_ofNat', Int.toNat_natCast]
          omega
        · congr 1
          apply UInt8.toNat_inj.1
          simp only [by0, num, e1, e2, e3, e4, UInt8.toNat_ofNat', Int.toNat_natCast]
          omega
/-- Bytes are read back from their text. -/
theorem dec_enc (l : List UInt8) : dec (enc l) = some l := dec_enc_n l.length l (Nat.le_refl _)

theorem L_of {c : UInt8} {n : Nat} (h : ¬ V c < 0) (e : n = (V c).toNat) : L n = c := by
  rcases V_cases c with h1 | ⟨_, _, h3⟩
  · omega
  · rw [e, h3]
theorem V_lt (c : UInt8) : (V c).toNat < 64 := by
  rcases V_cases c with h1 | ⟨_, h2, _⟩
  · rw [h1]; decide
  · omega

theorem enc_dec_n : ∀ (n : Nat) (t l : List UInt8), t.length ≤ n → dec t = some l → enc l = t := by
  intro n
  induction n with
  | zero =>
    intro t l h hd
    obtain rfl : t = [] := List.eq_nil_of_length_eq_zero (by omega)
    simp only [dec, Option.some.injEq] at hd
    rw [← hd]
    rfl
  | succ n ih =>
    intro t l h hd
    match t, h, hd with
    | [], _, hd =>
      simp only [dec, Option.some.injEq] at hd
      rw [← hd]
      rfl
    | [_], _, hd => simp [dec] at hd
    | [_, _], _, hd => simp [dec] at hd
    | [_, _, _], _, hd => simp [dec] at hd
    | a :: b :: c :: d :: r, h, hd =>
      have la := V_lt a
      have lb := V_lt b
      have lc := V_lt c
      have ld := V_lt d
      simp only [dec] at hd
      split at hd
      · cases hd
      rename_i h1
      split at hd
      · rename_i h2
        obtain ⟨rfl, rfl, rfl⟩ := h2
        split at hd
        · rename_i h3
          simp only [Option.some.injEq] at hd
          rw [← hd]
          simp only [enc, by2, num, VA, UInt8.toNat_ofNat', Int.toNat_zero]
          rw [L_of (c := a) (by omega) (by omega), L_of (c := b) (by omega) (by omega)]
        · cases hd
      rename_i h2
      split at hd
      · cases hd
      rename_i h3
      split at hd
      · rename_i h4
        obtain ⟨rfl, rfl⟩ := h4
        split at hd
        · rename_i h5
          simp only [Option.some.injEq] at hd
          rw [← hd]
          simp only [enc, by2, by1, num, VA, UInt8.toNat_ofNat', Int.toNat_zero]
          rw [L_of (c := a) (by omega) (by omega), L_of (c := b) (by omega) (by omega), L_of (c := c) (by omega) (by omega)]
        · cases hd
      rename_i h4
      split at hd
      · cases hd
      rename_i h5
      obtain ⟨x, hx, rfl⟩ := Option.map_eq_some_iff.1 hd
      have := ih r x (by simp at h; omega) hx
      simp only [enc, this, by2, by1, by0, num, UInt8.toNat_ofNat']
      rw [L_of (c := a) (by omega) (by omega), L_of (c := b) (by omega) (by omega), L_of (c := c) (by omega) (by omega), L_of (c := d) (by omega) (by omega)]
/-- A text that is read is the text of what was read. -/
theorem enc_dec {t l : List UInt8} (h : dec t = some l) : enc l = t := enc_dec_n t.length t l (Nat.le_refl _) h
end Go.Proofs.YtbokolpjdaamiaaGreatDoor.b6

namespace Go.Proofs.YtbokolpjdaamiaaGreatDoor.b6
open Go.RowKit
set_option linter.unusedVariables false

/-- The numbers of bytes. -/
def bz (l : List UInt8) : List Int := l.map fun b => (b.toNat : Int)
theorem bz_len (l : List UInt8) : (bz l).length = l.length := List.length_map _
theorem bz_at (l : List UInt8) (j : Nat) : (bz l).getD j 0 = ((l.getD j 0).toNat : Int) := by
  simp only [bz, List.getD_eq_getElem?_getD, List.getElem?_map]
  cases l[j]? <;> simp
theorem bz_cells (l : List UInt8) : (bz l).map (Value.int .u8) = Lib.byteCells l := by simp [bz, Lib.byteCells]

/-- The first k bytes from i on, as one number; 0 where none is. -/
def nv (l : List UInt8) (i : Nat) : Nat → Nat
  | 0 => 0
  | k + 1 => nv l i k * 256 + (if i + k < l.length then (l.getD (i + k) 0).toNat else 0)
theorem nv_lt (l : List UInt8) (i k : Nat) : nv l i k < 256 ^ k := by
  induction k with
  | zero => simp [nv]
  | succ k ih =>
    have := (l.getD (i + k) 0).toNat_lt
    simp only [nv, Nat.pow_succ]
    split <;> omega
def lets : ByteArray := ⟨#[65, 66, 67, 68, 69, 70, 71, 72, 73, 74, 75, 76, 77, 78, 79, 80, 81, 82, 83, 84, 85, 86, 87, 88, 89, 90, 97, 98, 99, 100, 101, 102, 103, 104, 105, 106, 107, 108, 109, 110, 111, 112, 113, 114, 115, 116, 117, 118, 119, 120, 121, 122, 48, 49, 50, 51, 52, 53, 54, 55, 56, 57, 43, 47]⟩
theorem lets_at_all : ∀ n : Fin 64, ((lets.data.toList)[n.val]?).map (·.toNat) = some (L n.val).toNat := by decide +kernel
theorem lets_size : lets.size = 64 := rfl

theorem ix_lets (z : Int) (m : Nat) (h : z = m) (hm : m < 64) (wx : World) : (Instr.index 9 (.string { data := #[65, 66, 67, 68, 69, 70, 71, 72, 73, 74, 75, 76, 77, 78, 79, 80, 81, 82, 83, 84, 85, 86, 87, 88, 89, 90, 97, 98, 99, 100, 101, 102, 103, 104, 105, 106, 107, 108, 109, 110, 111, 112, 113, 114, 115, 116, 117, 118, 119, 120, 121, 122, 48, 49, 50, 51, 52, 53, 54, 55, 56, 57, 43, 47] }) (.int .i64 z)).run Tryz.prog wx = .ok (.int .u8 ((L m).toNat : Int)) wx := by
  subst h
  have hs : m < lets.size := hm
  have e := lets_at_all ⟨m, hm⟩
  have hb : lets[(m : Int).toNat]'(by simpa using hs) = lets[m]'hs := by simp
  have hc : (lets.data.toList)[m]? = some (lets[m]'hs) := by
    rw [Array.getElem?_toList]
    exact Array.getElem?_eq_getElem hs
  simp only [hc, Option.map_some, Option.some.injEq] at e
  show (Instr.index 9 (.string lets) (.int .i64 (m : Int))).run Tryz.prog wx = _
  rw [run_index_string wx 9 lets .i64 (m : Int) Tryz.underlying9, dif_pos ⟨by omega, by omega⟩, hb, e]

theorem drop_cons {l : List UInt8} {k : Nat} (h : k < l.length) : l.drop k = l.getD k 0 :: l.drop (k + 1) := by
  rw [List.drop_eq_getElem_cons h]
  simp [List.getD_eq_getElem?_getD, h]
theorem nv3 {l : List UInt8} {k : Nat} (h : k + 2 < l.length) : nv l k 3 = (l.getD k 0).toNat * 65536 + (l.getD (k + 1) 0).toNat * 256 + (l.getD (k + 2) 0).toNat := by
  simp only [nv, Nat.add_zero]
  rw [if_pos (by omega), if_pos (by omega), if_pos (by omega)]
  omega
theorem nv2 {l : List UInt8} {k : Nat} (h : k + 2 = l.length) : nv l k 3 = (l.getD k 0).toNat * 65536 + (l.getD (k + 1) 0).toNat * 256 := by
  simp only [nv, Nat.add_zero]
  rw [if_pos (by omega), if_pos (by omega), if_neg (by omega)]
  omega
theorem nv1 {l : List UInt8} {k : Nat} (h : k + 1 = l.length) : nv l k 3 = (l.getD k 0).toNat * 65536 := by
  simp only [nv, Nat.add_zero]
  rw [if_pos (by omega), if_neg (by omega), if_neg (by omega)]
  omega
theorem step3 {l : List UInt8} {k x : Nat} (h : k + 2 < l.length) (hx : x = nv l k 3) : enc (l.drop k) = [L (x / 262144), L (x / 4096 % 64), L (x / 64 % 64), L (x % 64)] ++ enc (l.drop (k + 3)) := by
  have e := nv3 h
  rw [drop_cons (l := l) (k := k) (by omega), drop_cons (l := l) (k := k + 1) (by omega), drop_cons (l := l) (k := k + 1 + 1) (by omega)]
  have h0 := (l.getD k 0).toNat_lt
  have h1 := (l.getD (k + 1) 0).toNat_lt
  have h2 := (l.getD (k + 2) 0).toNat_lt
  have q0 : x / 262144 = (l.getD k 0).toNat / 4 := by omega
  have q1 : x / 4096 % 64 = (l.getD k 0).toNat % 4 * 16 + (l.getD (k + 1) 0).toNat / 16 := by omega
  have q2 : x / 64 % 64 = (l.getD (k + 1) 0).toNat % 16 * 4 + (l.getD (k + 2) 0).toNat / 64 := by omega
  have q3 : x % 64 = (l.getD (k + 2) 0).toNat % 64 := by omega
  rw [q0, q1, q2, q3]
  rfl
theorem step2 {l : List UInt8} {k x : Nat} (h : k + 2 = l.length) (hx : x = nv l k 3) : enc (l.drop k) = [L (x / 262144), L (x / 4096 % 64), L (x / 64 % 64), 61] ++ enc (l.drop (k + 3)) := by
  have e := nv2 h
  rw [drop_cons (l := l) (k := k) (by omega), drop_cons (l := l) (k := k + 1) (by omega), List.drop_eq_nil_of_le (i := k + 1 + 1) (by omega), List.drop_eq_nil_of_le (i := k + 3) (by omega)]
  have h0 := (l.getD k 0).toNat_lt
  have h1 := (l.getD (k + 1) 0).toNat_lt
  have q0 : x / 262144 = (l.getD k 0).toNat / 4 := by omega
  have q1 : x / 4096 % 64 = (l.getD k 0).toNat % 4 * 16 + (l.getD (k + 1) 0).toNat / 16 := by omega
  have q2 : x / 64 % 64 = (l.getD (k + 1) 0).toNat % 16 * 4 := by omega
  rw [q0, q1, q2]
  rfl
theorem step1 {l : List UInt8} {k x : Nat} (h : k + 1 = l.length) (hx : x = nv l k 3) : enc (l.drop k) = [L (x / 262144), L (x / 4096 % 64), 61, 61] ++ enc (l.drop (k + 3)) := by
  have e := nv1 h
  rw [drop_cons (l := l) (k := k) (by omega), List.drop_eq_nil_of_le (i := k + 1) (by omega), List.drop_eq_nil_of_le (i := k + 3) (by omega)]
  have h0 := (l.getD k 0).toNat_lt
  have q0 : x / 262144 = (l.getD k 0).toNat / 4 := by omega
  have q1 : x / 4096 % 64 = (l.getD k 0).toNat % 4 * 16 := by omega
  rw [q0, q1]
  rfl
/-- A round of the walk: four characters come to what stands there. -/
theorem grow4 {l q four : List UInt8} {k : Nat} (h : q ++ enc (l.drop k) = enc l) (e : enc (l.drop k) = four ++ enc (l.drop (k + 3))) : (q ++ four) ++ enc (l.drop (k + 3)) = enc l := by
  rw [List.append_assoc, ← e, h]

set_option maxHeartbeats 1000000 in
set_option maxRecDepth 100000 in
theorem specEnc_any (v : Value) (l : List UInt8) (w : World) (h : ow.Reads .u8 w v (bz l)) (hn : l.length ≤ 1048576) :
    Calls Tryz.prog 52 #[v] w fun e w' => e = .returned (.string ⟨(enc l).toArray⟩) ∧ Below w.heap.size w w' := by
  obtain ⟨a, cap, rfl, h⟩ := h
  rw [bz_len] at h ⊢
  have H1 : Hid (bz l = [] ∨ ∃ b off, a = some ⟨b, off, none⟩ ∧ ∀ j, j < l.length → w.cell? ⟨b, off + j, none⟩ = some (.int .u8 ((bz l).getD j 0))) := h
  clear h
  obtain ⟨n, hn'⟩ : ∃ n, n = l.length := ⟨_, rfl⟩
  rw [← hn'] at hn H1 ⊢
  have HN : Hid (n = l.length) := hn'
  clear hn'
  go_enter Tryz.func52, Tryz.ntmps52
  go_wp2
  go_loopw [3, 4] (fun o i wr => ∃ (k : Nat) (q : List UInt8), k ≤ n + 2 ∧ i = .int .i64 k ∧ Hid (q ++ enc (l.drop k) = enc l) ∧ wr.ownsRow w.heap.size 5 1 o q.length (Lib.byteCells q) ∧ Below w.heap.size w wr) (fun _ i _ => n + 2 - (intOf i).toNat)
  case atStart => exact ⟨0, [], Nat.zero_le _, rfl, rfl, ow.own_empty _ _, (Below.refl _ _).alloc (Nat.le_refl _) _⟩
  case round =>
    obtain ⟨k, q, hk, rfl, HQ, hown, hbw⟩ := hrel
    by_cases hlt : k < n
    · have hzne : bz l ≠ [] := by
        intro e
        have := congrArg List.length e
        rw [bz_len, ← HN.out] at this
        simp at this
        omega
      rcases H1.out with e | ⟨b, off, rfl, hcells⟩
      · exact absurd e hzne
      clear hzne
      have hblt : b < w.heap.size := World.block_lt_of_cell? w _ (hcells k hlt)
      have HC : Hid (∀ j, j < n → wr.cell? ⟨b, off + j, none⟩ = some (.int .u8 ((l.getD j 0).toNat : Int))) := fun j hj => by
        rw [← bz_at]
        exact (hbw.cell (p := ⟨b, off + j, none⟩) hblt).trans (hcells j hj)
      clear hcells
      go_wp2
      go_loop [5, 6] (fun x j => ∃ m : Nat, m ≤ 3 ∧ j = .int .i64 m ∧ x = .int .i64 (nv l k m : Nat)) (fun _ j => 3 - (intOf j).toNat)
      case atStart => exact ⟨0, Nat.zero_le _, rfl, rfl⟩
      case round =>
        obtain ⟨m, hm, rfl, rfl⟩ := hrel
        have hv := nv_lt l k m
        have hs : nv l k (m + 1) = nv l k m * 256 + (if k + m < l.length then (l.getD (k + m) 0).toNat else 0) := rfl
        rw [← HN.out] at hs
        have HS : Hid (nv l k (m + 1) = nv l k m * 256 + (if k + m < n then (l.getD (k + m) 0).toNat else 0)) := hs
        clear hs
        obtain ⟨x, hx⟩ : ∃ x, x = nv l k m := ⟨_, rfl⟩
        rw [← hx] at hv HS ⊢
        by_cases hm3 : m < 3
        · have hx6 : x < 65536 := by
            have : 256 ^ m ≤ 256 ^ 2 := Nat.pow_le_pow_right (by decide) (by omega)
            omega
          clear hv hx
          have hx6' : (x : Int) ≤ 65535 := by omega
          by_cases hin : k + m < n
          · have c0 := HC.out (k + m) hin
            have hby := (l.getD (k + m) 0).toNat_lt
            have e : nv l k (m + 1) = x * 256 + (l.getD (k + m) 0).toNat := by rw [HS.out, if_pos hin]
            obtain ⟨y, hy⟩ : ∃ y, y = (l.getD (k + m) 0).toNat := ⟨_, rfl⟩
            rw [← hy] at c0 hby e
            clear hy
            have E : Hid (nv l k (m + 1) = x * 256 + y) := e
            clear e HS
            have hy2 : (y : Int) ≤ 255 := by omega
            have hin' : (k : Int) + (m : Int) < (n : Int) := by omega
            go_wp2
            go_round
            case rel => exact ⟨m + 1, by omega, by go_num, by rw [E.out]; go_num⟩
            case measure => simp [intOf]; omega
          · have e : nv l k (m + 1) = x * 256 := by rw [HS.out, if_neg hin]; rfl
            have E : Hid (nv l k (m + 1) = x * 256) := e
            clear e HS
            have hin' : (n : Int) ≤ (k : Int) + (m : Int) := by omega
            go_wp2
            go_round
            case rel => exact ⟨m + 1, by omega, by go_num, by rw [E.out]; go_num⟩
            case measure => simp [intOf]; omega
        · have hm3' : m = 3 := by omega
          subst hm3'
          have hx6 : x < 16777216 := by simpa using hv
          have HX : Hid (x = nv l k 3) := hx
          clear hv hx HS
          have hx6' : (x : Int) ≤ 16777215 := by omega
          clear HC H1
          have g0 := ix_lets ((x : Int) / 262144) (x / 262144) (by omega) (by omega)
          have g1 := ix_lets ((x : Int) / 4096 % 64) (x / 4096 % 64) (by omega) (by omega)
          have g2 := ix_lets ((x : Int) / 64 % 64) (x / 64 % 64) (by omega) (by omega)
          have g3 := ix_lets ((x : Int) % 64) (x % 64) (by omega) (by omega)
          obtain ⟨d0, hd0⟩ : ∃ d, d = L (x / 262144) := ⟨_, rfl⟩
          obtain ⟨d1, hd1⟩ : ∃ d, d = L (x / 4096 % 64) := ⟨_, rfl⟩
          obtain ⟨d2, hd2⟩ : ∃ d, d = L (x / 64 % 64) := ⟨_, rfl⟩
          obtain ⟨d3, hd3⟩ : ∃ d, d = L (x % 64) := ⟨_, rfl⟩
          rw [← hd0] at g0
          rw [← hd1] at g1
          rw [← hd2] at g2
          rw [← hd3] at g3
          have HD : Hid (d0 = L (x / 262144) ∧ d1 = L (x / 4096 % 64) ∧ d2 = L (x / 64 % 64) ∧ d3 = L (x % 64)) := ⟨hd0, hd1, hd2, hd3⟩
          clear hd0 hd1 hd2 hd3
          go_wp2
          go_region
          clear g0 g1 g2 g3
          have hlq : q.length ≤ 2097152 := by
            have e1 := congrArg List.length HQ.out
            rw [List.length_append, enc_length l, ← HN.out] at e1
            omega
          have HLQ : Hid (q.length ≤ 2097152) := hlq
          clear hlq
          have hg1 : w.heap.size ≤ wr.heap.size := hbw.size
          obtain ⟨w1, hw1⟩ : ∃ W, W = (wr.alloc (.cells #[Value.int .u8 (d0.toNat : Int), Value.int .u8 (d1.toNat : Int), Value.int .u8 (d2.toNat : Int), Value.int .u8 (d3.toNat : Int)] 5)).drew := ⟨_, rfl⟩
          rw [← hw1]
          obtain ⟨own1, bel1, blk1, ne1, sz1⟩ := ow.built hw1 hown hbw hg1
          clear hw1 hown hbw
          obtain ⟨g, hg⟩ : ∃ g, g = wr.heap.size := ⟨_, rfl⟩
          rw [← hg] at blk1 ne1 sz1 hg1 ⊢
          clear hg
          obtain ⟨i0, hi, hz0, hz1, hz2⟩ := info_parts bl.info1
          by_cases h3 : k + 2 < n
          · have h3' : (k : Int) + 2 < (n : Int) := by omega
            have h3d : decide ((n : Int) ≤ (k : Int) + 2) = false := decide_eq_false (by omega)
            have h4d : decide ((n : Int) ≤ (k : Int) + 1) = false := decide_eq_false (by omega)
            have HG : Hid ((q ++ [d0, d1, d2, d3]) ++ enc (l.drop (k + 3)) = enc l) := by
              obtain ⟨e0, e1, e2, e3⟩ := HD.out
              rw [e0, e1, e2, e3]
              exact grow4 HQ.out (step3 (by rw [← HN.out]; exact h3) HX.out)
            clear HD HX HQ
            have HNW : Hid (∀ (j : Nat) (u : Value), (Lib.byteCells [d0, d1, d2, d3])[j]? = some u → World.cell? _ ((⟨g, 0, none⟩ : Addr).add j) = some u) := ow.news_blk blk1 (fun j u hj => by simpa [Lib.byteCells] using hj)
            go_wp2_with (at_builtin; go_loud (refine wpList_append_own _ rfl _ _ 22 rfl w.heap.size 5 i0 (.int .u8 0) 1 1 Tryz.underlying22 hi hz0 hz1 hz2 rfl (by decide) _ _ _ rfl own1 ⟨g, 0, none⟩ 4 4 (Lib.byteCells [d0, d1, d2, d3]) rfl rfl HNW.out (ow.one_bytes _) (by have := HLQ.out; unfold maxLen; omega) (by have := HLQ.out; omega) (by have := hg1; have := sz1; omega) ?_); intro v' w2 hown' hgrow _)
            have hbz := bel1.grown hgrow (by have := hg1; have := sz1; omega) (ow.own_lt own1)
            obtain ⟨ao, n', cap', rfl⟩ : ∃ ao n' cap, v' = .slice ao n' cap := by
              rcases hown'.2 with ⟨hv, _⟩ | ⟨g, cap, cur, hv, _⟩
              · exact ⟨_, _, _, hv⟩
              · exact ⟨_, _, _, hv⟩
            rw [← Lib.byteCells_append] at hown'
            go_wp2
            go_roundw
            case rel => exact ⟨k + 3, q ++ [d0, d1, d2, d3], by omega, by go_num, HG.out, by rw [List.length_append]; exact hown', hbz⟩
            case measure => simp [intOf]; omega
          by_cases h4 : k + 2 = n
          · have h3d : decide ((n : Int) ≤ (k : Int) + 2) = true := decide_eq_true (by omega)
            have h4d : decide ((n : Int) ≤ (k : Int) + 1) = false := decide_eq_false (by omega)
            have HG : Hid ((q ++ [d0, d1, d2, 61]) ++ enc (l.drop (k + 3)) = enc l) := by
              obtain ⟨e0, e1, e2, e3⟩ := HD.out
              rw [e0, e1, e2]
              exact grow4 HQ.out (step2 (by rw [← HN.out]; exact h4) HX.out)
            clear HD HX HQ
            have c3 := ow.cell_blk blk1 3
            have f3 := ow.frozen_blk blk1 3
            obtain ⟨own2, bel2, blk2, sz2⟩ := ow.wrote 3 (.int .u8 61) own1 bel1 hg1 blk1 ne1
            rw [sz1] at sz2
            clear own1 bel1 blk1
            have HNW : Hid (∀ (j : Nat) (u : Value), (Lib.byteCells [d0, d1, d2, 61])[j]? = some u → World.cell? _ ((⟨g, 0, none⟩ : Addr).add j) = some u) := ow.news_blk blk2 (fun j u hj => by simpa [Lib.byteCells] using hj)
            go_wp2_with (at_builtin; go_loud (refine wpList_append_own _ rfl _ _ 22 rfl w.heap.size 5 i0 (.int .u8 0) 1 1 Tryz.underlying22 hi hz0 hz1 hz2 rfl (by decide) _ _ _ rfl own2 ⟨g, 0, none⟩ 4 4 (Lib.byteCells [d0, d1, d2, 61]) rfl rfl HNW.out (ow.one_bytes _) (by have := HLQ.out; unfold maxLen; omega) (by have := HLQ.out; omega) (by have := hg1; have := sz2; omega) ?_); intro v' w2 hown' hgrow _)
            have hbz := bel2.grown hgrow (by have := hg1; have := sz2; omega) (ow.own_lt own2)
            obtain ⟨ao, n', cap', rfl⟩ : ∃ ao n' cap, v' = .slice ao n' cap := by
              rcases hown'.2 with ⟨hv, _⟩ | ⟨g, cap, cur, hv, _⟩
              · exact ⟨_, _, _, hv⟩
              · exact ⟨_, _, _, hv⟩
            rw [← Lib.byteCells_append] at hown'
            go_wp2
            go_roundw
            case rel => exact ⟨k + 3, q ++ [d0, d1, d2, 61], by omega, by go_num, HG.out, by rw [List.length_append]; exact hown', hbz⟩
            case measure => simp [intOf]; omega
          · have h5 : k + 1 = n := by omega
            have h3d : decide ((n : Int) ≤ (k : Int) + 2) = true := decide_eq_true (by omega)
            have h4d : decide ((n : Int) ≤ (k : Int) + 1) = true := decide_eq_true (by omega)
            have HG : Hid ((q ++ [d0, d1, 61, 61]) ++ enc (l.drop (k + 3)) = enc l) := by
              obtain ⟨e0, e1, e2, e3⟩ := HD.out
              rw [e0, e1]
              exact grow4 HQ.out (step1 (by rw [← HN.out]; exact h5) HX.out)
            clear HD HX HQ
            have c3 := ow.cell_blk blk1 3
            have f3 := ow.frozen_blk blk1 3
            obtain ⟨own2, bel2, blk2, sz2⟩ := ow.wrote 3 (.int .u8 61) own1 bel1 hg1 blk1 ne1
            have c2 := ow.cell_blk blk2 2
            have f2 := ow.frozen_blk blk2 2
            obtain ⟨own3, bel3, blk3, sz3⟩ := ow.wrote 2 (.int .u8 61) own2 bel2 hg1 blk2 ne1
            rw [sz2, sz1] at sz3
            clear own1 bel1 blk1 own2 bel2 blk2 sz2
            have HNW : Hid (∀ (j : Nat) (u : Value), (Lib.byteCells [d0, d1, 61, 61])[j]? = some u → World.cell? _ ((⟨g, 0, none⟩ : Addr).add j) = some u) := ow.news_blk blk3 (fun j u hj => by simpa [Lib.byteCells] using hj)
            go_wp2_with (at_builtin; go_loud (refine wpList_append_own _ rfl _ _ 22 rfl w.heap.size 5 i0 (.int .u8 0) 1 1 Tryz.underlying22 hi hz0 hz1 hz2 rfl (by decide) _ _ _ rfl own3 ⟨g, 0, none⟩ 4 4 (Lib.byteCells [d0, d1, 61, 61]) rfl rfl HNW.out (ow.one_bytes _) (by have := HLQ.out; unfold maxLen; omega) (by have := HLQ.out; omega) (by have := hg1; have := sz3; omega) ?_); intro v' w2 hown' hgrow _)
            have hbz := bel3.grown hgrow (by have := hg1; have := sz3; omega) (ow.own_lt own3)
            obtain ⟨ao, n', cap', rfl⟩ : ∃ ao n' cap, v' = .slice ao n' cap := by
              rcases hown'.2 with ⟨hv, _⟩ | ⟨g, cap, cur, hv, _⟩
              · exact ⟨_, _, _, hv⟩
              · exact ⟨_, _, _, hv⟩
            rw [← Lib.byteCells_append] at hown'
            go_wp2
            go_roundw
            case rel => exact ⟨k + 3, q ++ [d0, d1, 61, 61], by omega, by go_num, HG.out, by rw [List.length_append]; exact hown', hbz⟩
            case measure => simp [intOf]; omega
    · have hd : l.drop k = [] := List.drop_eq_nil_of_le (by rw [← HN.out]; omega)
      have hq : q = enc l := by have := HQ.out; rw [hd] at this; simpa [enc] using this
      subst hq
      have hcv := fun h1 h2 h3 => ow.conv_bytes (P := Tryz.prog) (src := 22) (dst := 9) (enc l) hown h1 h2 h3
      have hcv2 := hcv Tryz.underlying22 Tryz.underlying5 Tryz.underlying9
      clear hcv hd HQ H1 hown
      go_wp2
      go_ret
      exact ⟨rfl, hbw⟩
end Go.Proofs.YtbokolpjdaamiaaGreatDoor.b6
