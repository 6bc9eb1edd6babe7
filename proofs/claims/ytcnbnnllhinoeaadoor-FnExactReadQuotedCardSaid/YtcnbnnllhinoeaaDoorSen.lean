/-
  The contract of the specification's base 64 text: it is the text of the bytes.
-/
import Derived.Test.YtcnbnnllhinoeaaDoorRows
import Derived.WalkKit
import Derived.WalkLawsBesides
import Derived.Deep.QuietTactic
import Derived.BigQuiet
import Derived.Test.YtcnbnnllhinoeaaDoorOwm
import Derived.Test.YtcnbnnllhinoeaaDoorBld
import Derived.Test.YtcnbnnllhinoeaaDoorBsf
import Derived.BigRegion
import Derived.Laws.AppendOwn
namespace Go.Proofs.YtcnbnnllhinoeaaDoor.b6
open Go.RowKit
set_option linter.unusedVariables false

/-- The numbers of bytes. -/
def bz (l : List UInt8) : List Int := l.map fun b => (b.toNat : Int)
theorem bz_len (l : List UInt8) : (bz l).length = l.length := List.length_map _
theorem bz_at (l : List UInt8) (j : Nat) : (bz l).getD j 0 = ((l.getD j 0).toNat : Int) := by
  simp only [bz, List.getD_eq_getElem?_getD, List.getElem?_map]
  cases l[j]? <;> simp
theorem bz_cells (l : List UInt8) : (bz l).map (Value.int .u8) = Lib.byteCells l := by simp [bz, Lib.byteCells]

/-- The first k bytes from i on, as one number; 0 where none is. -/
def nv (l : List UInt8) (i : Nat) : Nat → Nat
  | 0 => 0
  | k + 1 => nv l i k * 256 + (if i + k < l.length then (l.getD (i + k) 0).toNat else 0)
theorem nv_lt (l : List UInt8) (i k : Nat) : nv l i k < 256 ^ k := by
  induction k with
  | zero => simp [nv]
  | succ k ih =>
    have := (l.getD (i + k) 0).toNat_lt
    simp only [nv, Nat.pow_succ]
    split <;> omega
def lets : ByteArray := ⟨#[65, 66, 67, 68, 69, 70, 71, 72, 73, 74, 75, 76, 77, 78, 79, 80, 81, 82, 83, 84, 85, 86, 87, 88, 89, 90, 97, 98, 99, 100, 101, 102, 103, 104, 105, 106, 107, 108, 109, 110, 111, 112, 113, 114, 115, 116, 117, 118, 119, 120, 121, 122, 48, 49, 50, 51, 52, 53, 54, 55, 56, 57, 43, 47]⟩
theorem lets_at_all : ∀ n : Fin 64, ((lets.data.toList)[n.val]?).map (·.toNat) = some (L n.val).toNat := by decide +kernel
theorem lets_size : lets.size = 64 := rfl

theorem ix_lets (z : Int) (m : Nat) (h : z = m) (hm : m < 64) (wx : World) : (Instr.index 9 (.string { data := #[65, 66, 67, 68, 69, 70, 71, 72, 73, 74, 75, 76, 77, 78, 79, 80, 81, 82, 83, 84, 85, 86, 87, 88, 89, 90, 97, 98, 99, 100, 101, 102, 103, 104, 105, 106, 107, 108, 109, 110, 111, 112, 113, 114, 115, 116, 117, 118, 119, 120, 121, 122, 48, 49, 50, 51, 52, 53, 54, 55, 56, 57, 43, 47] }) (.int .i64 z)).run Tryd.prog wx = .ok (.int .u8 ((L m).toNat : Int)) wx := by
  subst h
  have hs : m < lets.size := hm
  have e := lets_at_all ⟨m, hm⟩
  have hb : lets[(m : Int).toNat]'(by simpa using hs) = lets[m]'hs := by simp
  have hc : (lets.data.toList)[m]? = some (lets[m]'hs) := by
    rw [Array.getElem?_toList]
    exact Array.getElem?_eq_getElem hs
  simp only [hc, Option.map_some, Option.some.injEq] at e
  show (Instr.index 9 (.string lets) (.int .i64 (m : Int))).run Tryd.prog wx = _
  rw [run_index_string wx 9 lets .i64 (m : Int) Tryd.underlying9, dif_pos ⟨by omega, by omega⟩, hb, e]

theorem drop_cons {l : List UInt8} {k : Nat} (h : k < l.length) : l.drop k = l.getD k 0 :: l.drop (k + 1) := by
  rw [List.drop_eq_getElem_cons h]
  simp [List.getD_eq_getElem?_getD, h]
theorem nv3 {l : List UInt8} {k : Nat} (h : k + 2 < l.length) : nv l k 3 = (l.getD k 0).toNat * 65536 + (l.getD (k + 1) 0).toNat * 256 + (l.getD (k + 2) 0).toNat := by
  simp only [nv, Nat.add_zero]
  rw [if_pos (by omega), if_pos (by omega), if_pos (by omega)]
  omega
theorem nv2 {l : List UInt8} {k : Nat} (h : k + 2 = l.length) : nv l k 3 = (l.getD k 0).toNat * 65536 + (l.getD (k + 1) 0).toNat * 256 := by
  simp only [nv, Nat.add_zero]
  rw [if_pos (by omega), if_pos (by omega), if_neg (by omega)]
  omega
theorem nv1 {l : List UInt8} {k : Nat} (h : k + 1 = l.length) : nv l k 3 = (l.getD k 0).toNat * 65536 := by
  simp only [nv, Nat.add_zero]
  rw [if_pos (by omega), if_neg (by omega), if_neg (by omega)]
  omega
theorem step3 {l : List UInt8} {k x : Nat} (h : k + 2 < l.length) (hx : x = nv l k 3) : enc (l.drop k) = [L (x / 262144), L (x / 4096 % 64), L (x / 64 % 64), L (x % 64)] ++ enc (l.drop (k + 3)) := by
  have e := nv3 h
  rw [drop_cons (l := l) (k := k) (by omega), drop_cons (l := l) (k := k + 1) (by omega), drop_cons (l := l) (k := k + 1 + 1) (by omega)]
  have h0 := (l.getD k 0).toNat_lt
  have h1 := (l.getD (k + 1) 0).toNat_lt
  have h2 := (l.getD (k + 2) 0).toNat_lt
  have q0 : x / 262144 = (l.getD k 0).toNat / 4 := by omega
  have q1 : x / 4096 % 64 = (l.getD k 0).toNat % 4 * 16 + (l.getD (k + 1) 0).toNat / 16 := by omega
  have q2 : x / 64 % 64 = (l.getD (k + 1) 0).toNat % 16 * 4 + (l.getD (k + 2) 0).toNat / 64 := by omega
  have q3 : x % 64 = (l.getD (k + 2) 0).toNat % 64 := by omega
  rw [q0, q1, q2, q3]
  rfl
theorem step2 {l : List UInt8} {k x : Nat} (h : k + 2 = l.length) (hx : x = nv l k 3) : enc (l.drop k) = [L (x / 262144), L (x / 4096 % 64), L (x / 64 % 64), 61] ++ enc (l.drop (k + 3)) := by
  have e := nv2 h
  rw [drop_cons (l := l) (k := k) (by omega), drop_cons (l := l) (k := k + 1) (by omega), List.drop_eq_nil_of_le (i := k + 1 + 1) (by omega), List.drop_eq_nil_of_le (i := k + 3) (by omega)]
  have h0 := (l.getD k 0).toNat_lt
  have h1 := (l.getD (k + 1) 0).toNat_lt
  have q0 : x / 262144 = (l.getD k 0).toNat / 4 := by omega
  have q1 : x / 4096 % 64 = (l.getD k 0).toNat % 4 * 16 + (l.getD (k + 1) 0).toNat / 16 := by omega
  have q2 : x / 64 % 64 = (l.getD (k + 1) 0).toNat % 16 * 4 := by omega
  rw [q0, q1, q2]
  rfl
theorem step1 {l : List UInt8} {k x : Nat} (h : k + 1 = l.length) (hx : x = nv l k 3) : enc (l.drop k) = [L (x / 262144), L (x / 4096 % 64), 61, 61] ++ enc (l.drop (k + 3)) := by
  have e := nv1 h
  rw [drop_cons (l := l) (k := k) (by omega), List.drop_eq_nil_of_le (i := k + 1) (by omega), List.drop_eq_nil_of_le (i := k + 3) (by omega)]
  have h0 := (l.getD k 0).toNat_lt
  have q0 : x / 262144 = (l.getD k 0).toNat / 4 := by omega
  have q1 : x / 4096 % 64 = (l.getD k 0).toNat % 4 * 16 := by omega
  rw [q0, q1]
  rfl
/-- A round of the walk: four characters come to what stands there. -/
theorem grow4 {l q four : List UInt8} {k : Nat} (h : q ++ enc (l.drop k) = enc l) (e : enc (l.drop k) = four ++ enc (l.drop (k + 3))) : (q ++ four) ++ enc (l.drop (k + 3)) = enc l := by
  rw [List.append_assoc, ← e, h]

end Go.Proofs.YtcnbnnllhinoeaaDoor.b6
