/-
  Contracts of the specification's digits of a number, and of strconv.Itoa at a year.
-/
import Derived.Test.YtadfdfmebdcfgaaGreatDoorDxa
import Derived.Test.YtadfdfmebdcfgaaGreatDoorGrw
import Derived.Deep.RegionWith
import Derived.Lib.ItoaMem
namespace Go.Proofs.YtadfdfmebdcfgaaGreatDoor.dx
open Go.RowKit
open gr
set_option linter.unusedVariables false

theorem belA {w w1 : World} {o : Obj} (b1 : Below w.drew.heap.size w.drew w1) : Below w.heap.size w (w1.alloc o) := ((Below.refl _ w).drew.trans b1).alloc b1.size _
theorem belB {w w1 : World} {o : Obj} (b1 : Below (w.alloc o).drew.heap.size (w.alloc o).drew w1) : Below w.heap.size w w1 := (bel_box w o).drew.trans (b1.mono (by show w.heap.size ≤ (w.heap.push o).size; simp))
theorem conv_at (w : World) (g : Nat) (l : List UInt8) (cs : Array Value) (h : cs.toList = l.map fun b => Value.int .u8 (b.toNat : Int)) (hg : w.heap[g]? = some (.cells cs 5)) :
    (convert 22 9 (.slice (some ⟨g, 0, none⟩) l.length l.length)).run Tryz.prog w = .ok (.string ⟨l.toArray⟩) w := by
  refine run_convert_bytes_back _ 22 9 5 ⟨g, 0, none⟩ l.length l Tryz.underlying22 Tryz.underlying5 Tryz.underlying9 (fun j hj => ?_)
  rw [ow.add_at, cell_of_row w g j _ _ _ hg, ← Array.getElem?_toList, h]
  simp [hj]
theorem conv_kept {w w1 : World} {z : Int} {b : UInt8} (hz : (b.toNat : Int) = z) (hb : Below (w.alloc (.cells #[.int .u8 z] 5)).heap.size (w.alloc (.cells #[.int .u8 z] 5)) w1) :
    (convert 22 9 (.slice (some ⟨w.heap.size, 0, none⟩) 1 1)).run Tryz.prog w1 = .ok (.string ⟨#[b]⟩) w1 := by
  refine conv_at w1 w.heap.size [b] #[.int .u8 z] (by rw [← hz]; rfl) ?_
  rw [hb.block w.heap.size (by simp)]
  show (w.heap.push _)[w.heap.size]? = _
  simp
theorem conv_one (w : World) {z : Int} {b : UInt8} (hz : (b.toNat : Int) = z) :
    (convert 22 9 (.slice (some ⟨w.heap.size, 0, none⟩) 1 1)).run Tryz.prog (w.alloc (.cells #[.int .u8 z] 5)) = .ok (.string ⟨#[b]⟩) (w.alloc (.cells #[.int .u8 z] 5)) :=
  conv_new w [b] #[.int .u8 z] (by rw [← hz]; rfl)

theorem conv_oneD (w : World) {z : Int} {b : UInt8} (hz : (b.toNat : Int) = z) :
    (convert 22 9 (.slice (some ⟨w.heap.size, 0, none⟩) 1 1)).run Tryz.prog (w.alloc (.cells #[.int .u8 z] 5)).drew = .ok (.string ⟨#[b]⟩) (w.alloc (.cells #[.int .u8 z] 5)).drew := by
  refine conv_at (w.alloc (.cells #[.int .u8 z] 5)).drew w.heap.size [b] #[.int .u8 z] (by rw [← hz]; rfl) ?_
  show (w.heap.push _)[w.heap.size]? = _
  simp
theorem conv_keptD {w w1 : World} {z : Int} {b : UInt8} (hz : (b.toNat : Int) = z) (hb : Below (w.alloc (.cells #[.int .u8 z] 5)).drew.heap.size (w.alloc (.cells #[.int .u8 z] 5)).drew w1) :
    (convert 22 9 (.slice (some ⟨w.heap.size, 0, none⟩) 1 1)).run Tryz.prog w1 = .ok (.string ⟨#[b]⟩) w1 := by
  refine conv_at w1 w.heap.size [b] #[.int .u8 z] (by rw [← hz]; rfl) ?_
  rw [hb.block w.heap.size (by show w.heap.size < (w.heap.push _).size; simp)]
  show (w.heap.push _)[w.heap.size]? = _
  simp
set_option maxHeartbeats 1000000 in
set_option maxRecDepth 100000 in
theorem digs_one (n : Int) (h0 : 0 ≤ n) (h1 : n ≤ 9) (w : World) : Calls Tryz.prog 61 #[.int .i64 n] w fun e w' => e = .returned (.string ⟨#[dg n]⟩) ∧ Below w.heap.size w w' := by
  have cv := conv_one w (dg_nat h0 h1)
  have d1 : (n == -9223372036854775808) = false := beq_eq_false_iff_ne.2 (by omega)
  go_enter Tryz.func61, Tryz.ntmps61
  go_wp2
  go_ret
  exact ⟨rfl, bel_box _ _⟩

set_option maxHeartbeats 2000000 in
set_option maxRecDepth 100000 in
theorem digs_step (n : Int) (h0 : 10 ≤ n) (h1 : n ≤ 99999) (l : List UInt8) (hl : l.length ≤ 4) (ih : ∀ w, Calls Tryz.prog 61 #[.int .i64 (n / 10)] w fun e w' => e = .returned (.string ⟨l.toArray⟩) ∧ Below w.heap.size w w') (w : World) :
    Calls Tryz.prog 61 #[.int .i64 n] w fun e w' => e = .returned (.string ⟨(l ++ [dg (n % 10)]).toArray⟩) ∧ Below w.heap.size w w' := by
  have hz : ((dg (n % 10)).toNat : Int) = 48 + n % 10 := dg_nat (by omega) (by omega)
  have HZ : Hid (((dg (n % 10)).toNat : Int) = 48 + n % 10) := hz
  have cv := conv_oneD w hz
  clear hz
  have IH : Hid (∀ w, Calls Tryz.prog 61 #[.int .i64 (n / 10)] w fun e w' => e = .returned (.string ⟨l.toArray⟩) ∧ Below w.heap.size w w') := ih
  clear ih
  have d1 : (n == -9223372036854775808) = false := beq_eq_false_iff_ne.2 (by omega)
  have hs : (9223372036854775807 < l.length + 1) = False := eq_false (by omega)
  have e0 : n.tdiv 10 = n / 10 := Int.tdiv_eq_ediv_of_nonneg (by omega)
  have e00 : n.tmod 10 = n % 10 := Int.tmod_eq_emod_of_nonneg (by omega)
  have e1 : IntKind.i64.wrap (n / 10) = n / 10 := by rw [IntKind.wrap_i64]; omega
  have e2 : IntKind.i64.wrap (n % 10) = n % 10 := by rw [IntKind.wrap_i64]; omega
  have e3 : IntKind.i64.wrap (48 + n % 10) = 48 + n % 10 := by rw [IntKind.wrap_i64]; omega
  have e4 : IntKind.u8.wrap (48 + n % 10) = 48 + n % 10 := by rw [IntKind.wrap_u8]; omega
  go_enter Tryz.func61, Tryz.ntmps61
  go_wp2_with fail
  go_region_with (go_at_call 61; refine (IH.out _).mono ?_; rintro e w1 ⟨rfl, b1⟩; have cw := conv_one w1 (z := 48 + n % 10) (b := dg (n % 10)) HZ.out; first | (have ck := conv_keptD (w := w) (z := 48 + n % 10) (b := dg (n % 10)) HZ.out b1) | skip)
  all_goals go_wp2
  all_goals go_ret
  all_goals refine ⟨by rw [← app]; rfl, ?_⟩
  all_goals first
    | exact belA b1
    | exact belB b1

/-- A year's digits. -/
def four (y : Int) : List UInt8 := [dg (y / 1000), dg (y / 100 % 10), dg (y / 10 % 10), dg (y % 10)]
theorem spec_four (y : Int) (h0 : 1000 ≤ y) (h1 : y ≤ 9999) (w : World) : Calls Tryz.prog 61 #[.int .i64 y] w fun e w' => e = .returned (.string ⟨(four y).toArray⟩) ∧ Below w.heap.size w w' := by
  have a := fun w => digs_one (y / 10 / 10 / 10) (by omega) (by omega) w
  have b := fun w => digs_step (y / 10 / 10) (by omega) (by omega) [dg (y / 10 / 10 / 10)] (by simp) a w
  have c := fun w => digs_step (y / 10) (by omega) (by omega) ([dg (y / 10 / 10 / 10)] ++ [dg (y / 10 / 10 % 10)]) (by simp) b w
  have d := digs_step y (by omega) (by omega) ([dg (y / 10 / 10 / 10)] ++ [dg (y / 10 / 10 % 10)] ++ [dg (y / 10 % 10)]) (by simp) c w
  unfold four
  rw [show y / 1000 = y / 10 / 10 / 10 by omega, show y / 100 = y / 10 / 10 by omega]
  exact d
theorem itoa_four {y : Int} (h0 : 1000 ≤ y) (h1 : y ≤ 9999) : Lib.itoa y = four y := by
  obtain ⟨n, rfl⟩ : ∃ n : Nat, y = (n : Int) := ⟨y.toNat, by omega⟩
  rw [Lib.itoa_nonneg, Lib.decDigits, dif_neg (by omega), Lib.decDigits, dif_neg (by omega), Lib.decDigits, dif_neg (by omega), Lib.decDigits_one (by omega)]
  unfold four dg
  rw [show (48 + (n : Int) / 1000).toNat = 48 + n / 10 / 10 / 10 by omega, show (48 + (n : Int) / 100 % 10).toNat = 48 + n / 10 / 10 % 10 by omega, show (48 + (n : Int) / 10 % 10).toNat = 48 + n / 10 % 10 by omega, show (48 + (n : Int) % 10).toNat = 48 + n % 10 by omega]
  rfl
end Go.Proofs.YtadfdfmebdcfgaaGreatDoor.dx
