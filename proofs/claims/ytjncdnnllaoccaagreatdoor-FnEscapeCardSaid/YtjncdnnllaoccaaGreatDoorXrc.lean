/-
  The program's reader of XML: what an entity stands for, of those that the program itself writes.
-/
import Derived.Test.YtjncdnnllaoccaaGreatDoorXrb
import Derived.Test.YtjncdnnllaoccaaGreatDoorBld
import Derived.Lib.IndexMore
namespace Go.Proofs.YtjncdnnllaoccaaGreatDoor.xd
open Go.RowKit
set_option linter.unusedVariables false

theorem index_at : ∀ (nm tail : List UInt8), 59 ∉ nm → Lib.index (nm ++ 59 :: tail) [59] = nm.length
  | [], tail, _ => by
    rw [List.nil_append, Lib.index, if_pos (by simp [List.isPrefixOf])]; rfl
  | c :: nm, tail, h => by
    have hc : c ≠ 59 := fun e => h (by rw [e]; exact List.mem_cons_self)
    have ih := index_at nm tail (fun e => h (List.mem_cons_of_mem _ e))
    have hp : ¬ ([59] : List UInt8).isPrefixOf (c :: (nm ++ 59 :: tail)) = true := by simp [List.isPrefixOf]; exact fun e => hc e.symm
    rw [List.cons_append, Lib.index, if_neg hp, if_neg (by rw [ih]; simp), ih]
    simp
theorem cut_at {nm tail : List UInt8} (h : 59 ∉ nm) : Lib.cut (nm ++ 59 :: tail) [59] = (nm, tail, true) := by
  unfold Lib.cut
  rw [index_at nm tail h, if_pos (by omega)]
  simp

/-- An entity that the program writes, and its sign. -/
def entR (nm : List UInt8) (r : UInt8) : Prop := (nm = [97, 109, 112] ∧ r = 38) ∨ (nm = [108, 116] ∧ r = 60) ∨ (nm = [103, 116] ∧ r = 62) ∨ (nm = [113, 117, 111, 116] ∧ r = 34) ∨ (nm = [35, 49, 51] ∧ r = 13)
theorem ent_no {nm : List UInt8} {r : UInt8} (h : entR nm r) : 59 ∉ nm ∧ nm.length ≤ 4 := by
  rcases h with ⟨rfl, rfl⟩ | ⟨rfl, rfl⟩ | ⟨rfl, rfl⟩ | ⟨rfl, rfl⟩ | ⟨rfl, rfl⟩ <;> exact ⟨by decide, by decide⟩
theorem c_97109112_97109112 : ((⟨#[97, 109, 112]⟩ : ByteArray).toList == (⟨#[97, 109, 112]⟩ : ByteArray).toList) = true := by decide +kernel
theorem c_108116_97109112 : ((⟨#[108, 116]⟩ : ByteArray).toList == (⟨#[97, 109, 112]⟩ : ByteArray).toList) = false := by decide +kernel
theorem c_108116_108116 : ((⟨#[108, 116]⟩ : ByteArray).toList == (⟨#[108, 116]⟩ : ByteArray).toList) = true := by decide +kernel
theorem c_103116_97109112 : ((⟨#[103, 116]⟩ : ByteArray).toList == (⟨#[97, 109, 112]⟩ : ByteArray).toList) = false := by decide +kernel
theorem c_103116_108116 : ((⟨#[103, 116]⟩ : ByteArray).toList == (⟨#[108, 116]⟩ : ByteArray).toList) = false := by decide +kernel
theorem c_103116_103116 : ((⟨#[103, 116]⟩ : ByteArray).toList == (⟨#[103, 116]⟩ : ByteArray).toList) = true := by decide +kernel
theorem c_113117111116_97109112 : ((⟨#[113, 117, 111, 116]⟩ : ByteArray).toList == (⟨#[97, 109, 112]⟩ : ByteArray).toList) = false := by decide +kernel
theorem c_113117111116_108116 : ((⟨#[113, 117, 111, 116]⟩ : ByteArray).toList == (⟨#[108, 116]⟩ : ByteArray).toList) = false := by decide +kernel
theorem c_113117111116_103116 : ((⟨#[113, 117, 111, 116]⟩ : ByteArray).toList == (⟨#[103, 116]⟩ : ByteArray).toList) = false := by decide +kernel
theorem c_113117111116_113117111116 : ((⟨#[113, 117, 111, 116]⟩ : ByteArray).toList == (⟨#[113, 117, 111, 116]⟩ : ByteArray).toList) = true := by decide +kernel
theorem c_354951_97109112 : ((⟨#[35, 49, 51]⟩ : ByteArray).toList == (⟨#[97, 109, 112]⟩ : ByteArray).toList) = false := by decide +kernel
theorem c_354951_108116 : ((⟨#[35, 49, 51]⟩ : ByteArray).toList == (⟨#[108, 116]⟩ : ByteArray).toList) = false := by decide +kernel
theorem c_354951_103116 : ((⟨#[35, 49, 51]⟩ : ByteArray).toList == (⟨#[103, 116]⟩ : ByteArray).toList) = false := by decide +kernel
theorem c_354951_113117111116 : ((⟨#[35, 49, 51]⟩ : ByteArray).toList == (⟨#[113, 117, 111, 116]⟩ : ByteArray).toList) = false := by decide +kernel
theorem c_354951_97112111115 : ((⟨#[35, 49, 51]⟩ : ByteArray).toList == (⟨#[97, 112, 111, 115]⟩ : ByteArray).toList) = false := by decide +kernel

set_option maxHeartbeats 1000000 in
theorem ent_amp (w : World) : Calls Tryz.prog 135 #[.string ⟨#[97, 109, 112]⟩] w fun e w' => e = .returned (.int .i64 38) ∧ Below w.heap.size w w' := by
  have h0 := c_97109112_97109112
  go_enter Tryz.func135, Tryz.ntmps135
  go_wp2
  go_ret
  exact ⟨rfl, Below.refl _ _⟩

set_option maxHeartbeats 1000000 in
theorem ent_lt (w : World) : Calls Tryz.prog 135 #[.string ⟨#[108, 116]⟩] w fun e w' => e = .returned (.int .i64 60) ∧ Below w.heap.size w w' := by
  have h0 := c_108116_97109112
  have h1 := c_108116_108116
  go_enter Tryz.func135, Tryz.ntmps135
  go_wp2
  go_ret
  exact ⟨rfl, Below.refl _ _⟩

set_option maxHeartbeats 1000000 in
theorem ent_gt (w : World) : Calls Tryz.prog 135 #[.string ⟨#[103, 116]⟩] w fun e w' => e = .returned (.int .i64 62) ∧ Below w.heap.size w w' := by
  have h0 := c_103116_97109112
  have h1 := c_103116_108116
  have h2 := c_103116_103116
  go_enter Tryz.func135, Tryz.ntmps135
  go_wp2
  go_ret
  exact ⟨rfl, Below.refl _ _⟩

set_option maxHeartbeats 1000000 in
theorem ent_quot (w : World) : Calls Tryz.prog 135 #[.string ⟨#[113, 117, 111, 116]⟩] w fun e w' => e = .returned (.int .i64 34) ∧ Below w.heap.size w w' := by
  have h0 := c_113117111116_97109112
  have h1 := c_113117111116_108116
  have h2 := c_113117111116_103116
  have h3 := c_113117111116_113117111116
  go_enter Tryz.func135, Tryz.ntmps135
  go_wp2
  go_ret
  exact ⟨rfl, Below.refl _ _⟩

theorem cp1 (w : World) : Calls Tryz.prog 144 #[.string ⟨#[35, 49, 51]⟩, .string ⟨#[35]⟩] w fun e w' => e = .returned (.tuple #[.string ⟨#[49, 51]⟩, .bool true]) ∧ w' = w := Tryz.strings_CutPrefix _ _ w
theorem cp2 (w : World) : Calls Tryz.prog 144 #[.string ⟨#[49, 51]⟩, .string ⟨#[120]⟩] w fun e w' => e = .returned (.tuple #[.string ⟨#[49, 51]⟩, .bool false]) ∧ w' = w := Tryz.strings_CutPrefix _ _ w
theorem pu13 (w : World) : Calls Tryz.prog 145 #[.string ⟨#[49, 51]⟩, .int .i64 10, .int .i64 32] w fun e w' => e = .returned (.tuple #[.int .u64 13, .nilIface]) ∧ Below w.heap.size w w' :=
  (Tryz.strconv_ParseUint_10_at32_ok ⟨#[49, 51]⟩ (by decide) 13 (by decide +kernel) w).mono fun e w' ⟨he, h⟩ => ⟨he, by rcases h with rfl | rfl; exact Below.refl _ _; exact Lib.bytesWorld_below w _ _⟩

set_option maxHeartbeats 1000000 in
theorem ent_c13 (w : World) : Calls Tryz.prog 135 #[.string ⟨#[35, 49, 51]⟩] w fun e w' => e = .returned (.int .i64 13) ∧ Below w.heap.size w w' := by
  have h0 := c_354951_97109112
  have h1 := c_354951_108116
  have h2 := c_354951_103116
  have h3 := c_354951_113117111116
  have h4 := c_354951_97112111115
  go_enter Tryz.func135, Tryz.ntmps135
  go_wp2_with fail
  refine (cp1 _).mono ?_
  rintro e w' ⟨rfl, rfl⟩
  go_wp2_with fail
  refine (cp2 _).mono ?_
  rintro e w' ⟨rfl, rfl⟩
  go_wp2_with fail
  refine (pu13 _).mono ?_
  rintro e w' ⟨rfl, hb⟩
  go_wp2
  go_ret
  exact ⟨rfl, hb⟩

theorem ent_any {nm : List UInt8} {r : UInt8} (h : entR nm r) (w : World) : Calls Tryz.prog 135 #[.string ⟨nm.toArray⟩] w fun e w' => e = .returned (.int .i64 (r.toNat : Int)) ∧ Below w.heap.size w w' := by
  rcases h with ⟨rfl, rfl⟩ | ⟨rfl, rfl⟩ | ⟨rfl, rfl⟩ | ⟨rfl, rfl⟩ | ⟨rfl, rfl⟩
  · exact ent_amp w
  · exact ent_lt w
  · exact ent_gt w
  · exact ent_quot w
  · exact ent_c13 w
end Go.Proofs.YtjncdnnllaoccaaGreatDoor.xd
