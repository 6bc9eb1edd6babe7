/-
  Contracts of both Check32 functions: the sum of 32 bits of a row of bytes.
-/
import Derived.Test.YtgjjeabjnkenkaaOwn
import Derived.Test.YtgjjeabjnkenkaaRows
import Derived.WalkKit
import Derived.WalkLawsBesides
import Derived.Laws.BitsAllLaws
namespace Go.Proofs.Ytgjjeabjnkenkaa.ck
open Go.RowKit
set_option linter.unusedVariables false

/-- One turn of the register. -/
def one (n : Nat) : Nat := if n % 2 = 1 then (n / 2) ^^^ 3988292384 else n / 2
def rep : Nat → Nat → Nat
  | 0, n => n
  | k + 1, n => one (rep k n)
def byte (n : Nat) (z : Int) : Nat := rep 8 (n ^^^ z.toNat)
def crc (zs : List Int) : Nat := zs.foldl byte 4294967295
/-- The sum of bytes. -/
def sum (zs : List Int) : Nat := crc zs ^^^ 4294967295

theorem xor_lt {a b : Nat} (ha : a < 4294967296) (hb : b < 4294967296) : a ^^^ b < 4294967296 := Nat.xor_lt_two_pow (n := 32) ha hb
theorem one_lt {n : Nat} (h : n < 4294967296) : one n < 4294967296 := by
  unfold one
  split
  · exact xor_lt (by omega) (by omega)
  · omega
theorem rep_lt {n : Nat} (h : n < 4294967296) : ∀ k, rep k n < 4294967296
  | 0 => h
  | k + 1 => one_lt (rep_lt h k)
def Bytes (zs : List Int) : Prop := ∀ j, j < zs.length → 0 ≤ zs.getD j 0 ∧ zs.getD j 0 ≤ 255
theorem byte_lt {n : Nat} {z : Int} (h : n < 4294967296) (h1 : z ≤ 255) : byte n z < 4294967296 := rep_lt (xor_lt h (by omega)) 8
theorem take_one (o : List Int) (k : Nat) (h : k < o.length) : o.take (k + 1) = o.take k ++ [o.getD k 0] := by
  rw [List.take_add_one, List.getElem?_eq_getElem h]
  simp [List.getD_eq_getElem?_getD, h]
theorem crc_step {zs : List Int} {k : Nat} (h : k < zs.length) : crc (zs.take (k + 1)) = byte (crc (zs.take k)) (zs.getD k 0) := by
  rw [take_one _ _ h]
  simp [crc]
theorem crc_lt {zs : List Int} (h : Bytes zs) : ∀ k, k ≤ zs.length → crc (zs.take k) < 4294967296 := by
  intro k
  induction k with
  | zero => intro _; simp [crc]
  | succ k ih =>
    intro hk
    rw [crc_step (by omega)]
    exact byte_lt (ih (by omega)) (h k (by omega)).2
theorem sum_lt {zs : List Int} (h : Bytes zs) : sum zs < 4294967296 := by
  have := crc_lt h zs.length (Nat.le_refl _)
  rw [List.take_length] at this
  exact xor_lt this (by omega)

theorem u32x (a b : Nat) (ha : a < 4294967296) (hb : b < 4294967296) : bits .xor .u32 (a : Int) (b : Int) = ((a ^^^ b : Nat) : Int) := u32_xor_nat a b ha hb
theorem i64x (a b : Nat) (ha : a < 4294967296) (hb : b < 4294967296) : bits .xor .i64 (a : Int) (b : Int) = ((a ^^^ b : Nat) : Int) := by
  have hx := xor_lt ha hb
  show IntKind.i64.wrap ((BitVec.ofInt 64 (a : Int) ^^^ BitVec.ofInt 64 (b : Int)).toNat : Int) = _
  rw [BitVec.toNat_xor, ofInt_u64 a (by omega), ofInt_u64 b (by omega)]
  simp only [IntKind.wrap, IntKind.bits, IntKind.signed]
  simp
  omega
theorem i64q (r : Nat) (h : r < 4294967296) : bits .xor .i64 ((r : Int) / 2) 3988292384 = (((r / 2) ^^^ 3988292384 : Nat) : Int) := by
  have := i64x (r / 2) 3988292384 (by omega) (by omega)
  rw [← this]
  rfl
theorem i64n (r : Nat) (h : r < 4294967296) : bits .xor .i64 (r : Int) 4294967295 = ((r ^^^ 4294967295 : Nat) : Int) := i64x r 4294967295 h (by omega)
theorem u32q (r : Nat) (h : r < 4294967296) : bits .xor .u32 ((r : Int) / 2) 3988292384 = (((r / 2) ^^^ 3988292384 : Nat) : Int) := by
  have := u32x (r / 2) 3988292384 (by omega) (by omega)
  rw [← this]
  rfl
theorem u32n (r : Nat) (h : r < 4294967296) : bits .xor .u32 IntKind.u32.max (r : Int) = ((r ^^^ 4294967295 : Nat) : Int) := by
  rw [Nat.xor_comm, show IntKind.u32.max = 4294967295 from by decide]
  exact u32x 4294967295 r (by omega) h
theorem xor_comm (a b : Nat) : a ^^^ b = b ^^^ a := Nat.xor_comm a b

end Go.Proofs.Ytgjjeabjnkenkaa.ck
