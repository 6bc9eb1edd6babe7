/-
  A number's digits: the specification's way, and the library's Itoa.
-/
import Derived.Test.YtejmfffapkmjoaaDoorOwn
import Derived.Test.YtejmfffapkmjoaaDoorShf
import Derived.Test.YtejmfffapkmjoaaDoorTab
import Derived.Test.YtejmfffapkmjoaaDoorGrw
import Derived.Deep.RegionWith
import Derived.Lib.ItoaMem
import Derived.Lib.AppendIntMem
import Derived.Shelf.Strconv.Itoa3
import Derived.Below
import Derived.Deep.QuietTactic
import Derived.BigQuiet
import Derived.BigRegion
namespace Go.Proofs.YtejmfffapkmjoaaDoor.dx
open Go.RowKit
open gr
set_option linter.unusedVariables false

/-- A digit's byte. -/
def dg (n : Int) : UInt8 := UInt8.ofNat (48 + n).toNat
theorem dg_nat {n : Int} (h0 : 0 ≤ n) (h1 : n ≤ 9) : ((dg n).toNat : Int) = 48 + n := by
  unfold dg
  rw [UInt8.toNat_ofNat_of_lt' (by show (48 + n).toNat < 256; omega)]
  omega
theorem bel_box (w : World) (o : Obj) : Below w.heap.size w (w.alloc o) := (Below.refl _ w).alloc (Nat.le_refl _) _

theorem app (a b : List UInt8) : (⟨a.toArray⟩ : ByteArray) ++ ⟨b.toArray⟩ = ⟨(a ++ b).toArray⟩ := by
  apply ByteArray.ext
  simp
theorem lit (b : UInt8) : (⟨#[b]⟩ : ByteArray) = ⟨[b].toArray⟩ := rfl
/-- A block of bytes that has just been laid, turned into a text. -/
theorem conv_new (w : World) (l : List UInt8) (cs : Array Value) (h : cs.toList = l.map fun b => Value.int .u8 (b.toNat : Int)) :
    (convert 57 9 (.slice (some ⟨w.heap.size, 0, none⟩) l.length l.length)).run Tryd.prog (w.alloc (.cells cs 5)) = .ok (.string ⟨l.toArray⟩) (w.alloc (.cells cs 5)) := by
  refine run_convert_bytes_back _ 57 9 5 ⟨w.heap.size, 0, none⟩ l.length l Tryd.underlying57 Tryd.underlying5 Tryd.underlying9 (fun j hj => ?_)
  have := ow.cells_new w cs.toList 5 j (.int .u8 (l[j].toNat : Int)) (by rw [h]; simp [hj])
  simpa using this

theorem belA {w w1 : World} {o : Obj} (b1 : Below w.drew.heap.size w.drew w1) : Below w.heap.size w (w1.alloc o) := ((Below.refl _ w).drew.trans b1).alloc b1.size _
theorem belB {w w1 : World} {o : Obj} (b1 : Below (w.alloc o).drew.heap.size (w.alloc o).drew w1) : Below w.heap.size w w1 := (bel_box w o).drew.trans (b1.mono (by show w.heap.size ≤ (w.heap.push o).size; simp))
theorem conv_at (w : World) (g : Nat) (l : List UInt8) (cs : Array Value) (h : cs.toList = l.map fun b => Value.int .u8 (b.toNat : Int)) (hg : w.heap[g]? = some (.cells cs 5)) :
    (convert 57 9 (.slice (some ⟨g, 0, none⟩) l.length l.length)).run Tryd.prog w = .ok (.string ⟨l.toArray⟩) w := by
  refine run_convert_bytes_back _ 57 9 5 ⟨g, 0, none⟩ l.length l Tryd.underlying57 Tryd.underlying5 Tryd.underlying9 (fun j hj => ?_)
  rw [ow.add_at, cell_of_row w g j _ _ _ hg, ← Array.getElem?_toList, h]
  simp [hj]
theorem conv_kept {w w1 : World} {z : Int} {b : UInt8} (hz : (b.toNat : Int) = z) (hb : Below (w.alloc (.cells #[.int .u8 z] 5)).heap.size (w.alloc (.cells #[.int .u8 z] 5)) w1) :
    (convert 57 9 (.slice (some ⟨w.heap.size, 0, none⟩) 1 1)).run Tryd.prog w1 = .ok (.string ⟨#[b]⟩) w1 := by
  refine conv_at w1 w.heap.size [b] #[.int .u8 z] (by rw [← hz]; rfl) ?_
  rw [hb.block w.heap.size (by simp)]
  show (w.heap.push _)[w.heap.size]? = _
  simp
theorem conv_one (w : World) {z : Int} {b : UInt8} (hz : (b.toNat : Int) = z) :
    (convert 57 9 (.slice (some ⟨w.heap.size, 0, none⟩) 1 1)).run Tryd.prog (w.alloc (.cells #[.int .u8 z] 5)) = .ok (.string ⟨#[b]⟩) (w.alloc (.cells #[.int .u8 z] 5)) :=
  conv_new w [b] #[.int .u8 z] (by rw [← hz]; rfl)

theorem conv_oneD (w : World) {z : Int} {b : UInt8} (hz : (b.toNat : Int) = z) :
    (convert 57 9 (.slice (some ⟨w.heap.size, 0, none⟩) 1 1)).run Tryd.prog (w.alloc (.cells #[.int .u8 z] 5)).drew = .ok (.string ⟨#[b]⟩) (w.alloc (.cells #[.int .u8 z] 5)).drew := by
  refine conv_at (w.alloc (.cells #[.int .u8 z] 5)).drew w.heap.size [b] #[.int .u8 z] (by rw [← hz]; rfl) ?_
  show (w.heap.push _)[w.heap.size]? = _
  simp
theorem conv_keptD {w w1 : World} {z : Int} {b : UInt8} (hz : (b.toNat : Int) = z) (hb : Below (w.alloc (.cells #[.int .u8 z] 5)).drew.heap.size (w.alloc (.cells #[.int .u8 z] 5)).drew w1) :
    (convert 57 9 (.slice (some ⟨w.heap.size, 0, none⟩) 1 1)).run Tryd.prog w1 = .ok (.string ⟨#[b]⟩) w1 := by
  refine conv_at w1 w.heap.size [b] #[.int .u8 z] (by rw [← hz]; rfl) ?_
  rw [hb.block w.heap.size (by show w.heap.size < (w.heap.push _).size; simp)]
  show (w.heap.push _)[w.heap.size]? = _
  simp
set_option maxHeartbeats 1000000 in
set_option maxRecDepth 100000 in
theorem digs_one (n : Int) (h0 : 0 ≤ n) (h1 : n ≤ 9) (w : World) : Calls Tryd.prog 21 #[.int .i64 n] w fun e w' => e = .returned (.string ⟨#[dg n]⟩) ∧ Below w.heap.size w w' := by
  have cv := conv_one w (dg_nat h0 h1)
  have d1 : (n == -9223372036854775808) = false := beq_eq_false_iff_ne.2 (by omega)
  go_enter Tryd.func21, Tryd.ntmps21
  go_wp2
  go_ret
  exact ⟨rfl, bel_box _ _⟩

set_option maxHeartbeats 2000000 in
set_option maxRecDepth 100000 in
theorem digs_step (n : Int) (h0 : 10 ≤ n) (h1 : n ≤ 9999999999) (l : List UInt8) (hl : l.length ≤ 20) (ih : ∀ w, Calls Tryd.prog 21 #[.int .i64 (n / 10)] w fun e w' => e = .returned (.string ⟨l.toArray⟩) ∧ Below w.heap.size w w') (w : World) :
    Calls Tryd.prog 21 #[.int .i64 n] w fun e w' => e = .returned (.string ⟨(l ++ [dg (n % 10)]).toArray⟩) ∧ Below w.heap.size w w' := by
  have hz : ((dg (n % 10)).toNat : Int) = 48 + n % 10 := dg_nat (by omega) (by omega)
  have HZ : Hid (((dg (n % 10)).toNat : Int) = 48 + n % 10) := hz
  have cv := conv_oneD w hz
  clear hz
  have IH : Hid (∀ w, Calls Tryd.prog 21 #[.int .i64 (n / 10)] w fun e w' => e = .returned (.string ⟨l.toArray⟩) ∧ Below w.heap.size w w') := ih
  clear ih
  have d1 : (n == -9223372036854775808) = false := beq_eq_false_iff_ne.2 (by omega)
  have hs : (9223372036854775807 < l.length + 1) = False := eq_false (by omega)
  have e0 : n.tdiv 10 = n / 10 := Int.tdiv_eq_ediv_of_nonneg (by omega)
  have e00 : n.tmod 10 = n % 10 := Int.tmod_eq_emod_of_nonneg (by omega)
  have e1 : IntKind.i64.wrap (n / 10) = n / 10 := by rw [IntKind.wrap_i64]; omega
  have e2 : IntKind.i64.wrap (n % 10) = n % 10 := by rw [IntKind.wrap_i64]; omega
  have e3 : IntKind.i64.wrap (48 + n % 10) = 48 + n % 10 := by rw [IntKind.wrap_i64]; omega
  have e4 : IntKind.u8.wrap (48 + n % 10) = 48 + n % 10 := by rw [IntKind.wrap_u8]; omega
  go_enter Tryd.func21, Tryd.ntmps21
  go_wp2_with fail
  go_region_with (go_at_call 21; refine (IH.out _).mono ?_; rintro e w1 ⟨rfl, b1⟩; have cw := conv_one w1 (z := 48 + n % 10) (b := dg (n % 10)) HZ.out; first | (have ck := conv_keptD (w := w) (z := 48 + n % 10) (b := dg (n % 10)) HZ.out b1) | skip)
  all_goals go_wp2
  all_goals go_ret
  all_goals refine ⟨by rw [← app]; rfl, ?_⟩
  all_goals first
    | exact belA b1
    | exact belB b1
theorem dec_len : ∀ (k n : Nat), n < 10 ^ (k + 1) → (Lib.decDigits n).length ≤ k + 1
  | 0, n, h => by
    rw [Lib.decDigits, dif_pos (by simpa using h)]
    simp
  | k + 1, n, h => by
    rw [Lib.decDigits]
    split
    · simp
    · rw [List.length_append, List.length_singleton]
      have := dec_len k (n / 10) (by rw [Nat.pow_succ] at h; omega)
      omega
theorem dec_small {n : Nat} (h : n ≤ 4294967295) : (Lib.decDigits n).length ≤ 10 := dec_len 9 n (by omega)
theorem digs_any (n : Nat) : n ≤ 4294967295 → ∀ w, Calls Tryd.prog 21 #[.int .i64 (n : Int)] w fun e w' => e = .returned (.string ⟨(Lib.decDigits n).toArray⟩) ∧ Below w.heap.size w w' := by
  induction n using Nat.strongRecOn with
  | _ n ih =>
    intro h w
    by_cases h9 : n < 10
    · rw [Lib.decDigits, dif_pos h9]
      have := digs_one (n : Int) (by omega) (by omega) w
      rw [show dg (n : Int) = UInt8.ofNat (48 + n) from by unfold dg; congr 1] at this
      exact this
    · rw [Lib.decDigits, dif_neg h9]
      have hd := digs_step (n : Int) (by omega) (by omega) (Lib.decDigits (n / 10)) (by have := dec_small (n := n / 10) (by omega); omega) (by
        intro w
        have := ih (n / 10) (by omega) (by omega) w
        rw [show ((n / 10 : Nat) : Int) = (n : Int) / 10 from by omega] at this
        exact this) w
      rw [show dg ((n : Int) % 10) = UInt8.ofNat (48 + n % 10) from by unfold dg; congr 1] at hd
      exact hd
theorem itoa_any (n : Nat) (h : n ≤ 4294967295) (w : World) (hT : tb.TP w) : Calls Tryd.prog 37 #[.int .i64 (n : Int)] w fun e w' => e = .returned (.string ⟨(Lib.decDigits n).toArray⟩) ∧ Below w.heap.size w w' := by
  refine (Any.strconv_Itoa Tryd.laysM171 (n : Int) (by omega) (by omega) w (tb.tp_is hT)).mono ?_
  rintro e w' ⟨rfl, k, os, rfl⟩
  exact ⟨by rw [Lib.itoa_nonneg], Lib.below_grow _ _ (Nat.le_refl _) _ _⟩
end Go.Proofs.YtejmfffapkmjoaaDoor.dx
