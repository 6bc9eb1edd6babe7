/-
  The contract of the program's base 64 text: it is the text of the bytes.
-/
import Derived.Test.YtcnbnnllhinoeaaDoorTab
import Derived.Test.YtcnbnnllhinoeaaDoorBld
import Derived.Laws.IdiomCopy
import Derived.Laws.CopyRow
import Derived.Laws.CopyOwn
import Derived.Laws.BitsAll
import Derived.BigRegion
namespace Go.Proofs.YtcnbnnllhinoeaaDoor.b6
open Go.RowKit
set_option linter.unusedVariables false

theorem wraps_i64 (n : Int) (h0 : 0 ≤ n) (h1 : n < 2 ^ 62) : IntKind.i64.wrap n = n := by rw [IntKind.wrap_i64]; omega
theorem or_add (i A B : Nat) (h : A % 2 ^ i = 0) (hB : B < 2 ^ i) (hA : A < 4294967296) (hB2 : B < 4294967296) (hi : i ≤ 62) : bits .or .i64 (A : Int) (B : Int) = ((A + B : Nat) : Int) := by
  have := bits_nat .i64 62 (by decide) wraps_i64 A B (by omega) (by omega)
  rw [this.2, nat_join i A B h hB]
theorem and63 (z : Int) (n : Nat) (h : z = n) (hn : n < 4294967296) : bits .and .i64 z 63 = ((n % 64 : Nat) : Int) := by
  subst h
  have := bits_mask .i64 62 (by decide) wraps_i64 6 (by decide) (n : Int) (by omega) (by omega)
  have e : ((2 : Int) ^ 6 - 1) = 63 := by decide
  rw [e] at this
  rw [this]
  omega
theorem or_three (a b c x : Nat) (hx : x = a * 65536 + b * 256 + c) (ha : a < 256) (hb : b < 256) (hc : c < 256) : bits .or .i64 (bits .or .i64 ((a : Int) * 65536) ((b : Int) * 256)) (c : Int) = (x : Int) := by
  rw [show ((a : Int) * 65536) = ((a * 65536 : Nat) : Int) from by omega, show ((b : Int) * 256) = ((b * 256 : Nat) : Int) from by omega]
  rw [or_add 16 (a * 65536) (b * 256) (by omega) (by omega) (by omega) (by omega) (by omega), or_add 8 _ c (by omega) (by omega) (by omega) (by omega) (by omega), hx]

def Went (l q : List UInt8) (k : Nat) : Prop := q ++ enc (l.drop k) = enc l

/-- The cells of three bytes, nought where one lacks. -/
def fill3 (xs : List UInt8) : Array Value := (Lib.byteCells xs ++ [Value.int .u8 0, Value.int .u8 0, Value.int .u8 0].drop xs.length).toArray
theorem size8 : (Tryd.prog.info? 5).map (·.size) = some 1 := by kernel_rfl
end Go.Proofs.YtcnbnnllhinoeaaDoor.b6
