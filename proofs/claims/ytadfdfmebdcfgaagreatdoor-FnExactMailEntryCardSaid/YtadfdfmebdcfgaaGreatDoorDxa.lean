/-
  Contracts of the functions that write numbers of two digits.
-/
import Derived.Test.YtadfdfmebdcfgaaGreatDoorDwa
import Derived.Test.YtadfdfmebdcfgaaGreatDoorOwn
import Derived.Below
import Derived.Deep.QuietTactic
import Derived.BigQuiet
import Derived.BigRegion
namespace Go.Proofs.YtadfdfmebdcfgaaGreatDoor.dx
open Go.RowKit
set_option linter.unusedVariables false

/-- A digit's byte. -/
def dg (n : Int) : UInt8 := UInt8.ofNat (48 + n).toNat
theorem dg_nat {n : Int} (h0 : 0 ≤ n) (h1 : n ≤ 9) : ((dg n).toNat : Int) = 48 + n := by
  unfold dg
  rw [UInt8.toNat_ofNat_of_lt' (by show (48 + n).toNat < 256; omega)]
  omega
def two (n : Int) : List UInt8 := [dg (n / 10), dg (n % 10)]
theorem bel_box (w : World) (o : Obj) : Below w.heap.size w (w.alloc o) := (Below.refl _ w).alloc (Nat.le_refl _) _

theorem app (a b : List UInt8) : (⟨a.toArray⟩ : ByteArray) ++ ⟨b.toArray⟩ = ⟨(a ++ b).toArray⟩ := by
  apply ByteArray.ext
  simp
theorem lit (b : UInt8) : (⟨#[b]⟩ : ByteArray) = ⟨[b].toArray⟩ := rfl
/-- A block of bytes that has just been laid, turned into a text. -/
theorem conv_new (w : World) (l : List UInt8) (cs : Array Value) (h : cs.toList = l.map fun b => Value.int .u8 (b.toNat : Int)) :
    (convert 22 9 (.slice (some ⟨w.heap.size, 0, none⟩) l.length l.length)).run Tryz.prog (w.alloc (.cells cs 5)) = .ok (.string ⟨l.toArray⟩) (w.alloc (.cells cs 5)) := by
  refine run_convert_bytes_back _ 22 9 5 ⟨w.heap.size, 0, none⟩ l.length l Tryz.underlying22 Tryz.underlying5 Tryz.underlying9 (fun j hj => ?_)
  have := ow.cells_new w cs.toList 5 j (.int .u8 (l[j].toNat : Int)) (by rw [h]; simp [hj])
  simpa using this

set_option maxHeartbeats 1000000 in
theorem impl_two (n : Int) (h0 : 0 ≤ n) (h1 : n ≤ 99) (w : World) : Calls Tryz.prog 92 #[.int .i64 n] w fun e w' => e = .returned (.string ⟨(two n).toArray⟩) ∧ Below w.heap.size w w' := by
  have cv := conv_new w (two n) #[.int .u8 (48 + n / 10), .int .u8 (48 + n % 10)] (by
    show _ = [Value.int .u8 ((dg (n / 10)).toNat : Int), Value.int .u8 ((dg (n % 10)).toNat : Int)]
    rw [dg_nat (by omega) (by omega), dg_nat (by omega) (by omega)])
  have e2 : (two n).length = 2 := rfl
  rw [e2] at cv
  go_enter Tryz.func92, Tryz.ntmps92
  go_wp2
  go_ret
  exact ⟨rfl, bel_box _ _⟩

set_option maxHeartbeats 1000000 in
theorem spec_two (n : Int) (h0 : 0 ≤ n) (h1 : n ≤ 99) (w : World) : Calls Tryz.prog 113 #[.int .i64 n] w fun e w' => e = .returned (.string ⟨(two n).toArray⟩) ∧ Below w.heap.size w w' := by
  have cv := conv_new w (two n) #[.int .u8 (48 + n / 10 % 10), .int .u8 (48 + n % 10)] (by
    show _ = [Value.int .u8 ((dg (n / 10)).toNat : Int), Value.int .u8 ((dg (n % 10)).toNat : Int)]
    rw [dg_nat (by omega) (by omega), dg_nat (by omega) (by omega), show n / 10 % 10 = n / 10 by omega])
  have e2 : (two n).length = 2 := rfl
  rw [e2] at cv
  go_enter Tryz.func113, Tryz.ntmps113
  go_wp2
  go_ret
  exact ⟨rfl, bel_box _ _⟩
end Go.Proofs.YtadfdfmebdcfgaaGreatDoor.dx
