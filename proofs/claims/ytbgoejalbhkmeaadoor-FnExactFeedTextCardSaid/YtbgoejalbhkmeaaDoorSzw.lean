/-
  The contract of impl.RuneSize: how many bytes a rune has, 0 of no rune.
-/
import Derived.Test.YtbgoejalbhkmeaaDoorUtw
namespace Go.Proofs.YtbgoejalbhkmeaaDoor.ut
open Go.RowKit
set_option linter.unusedVariables false

theorem rsz_no {n : Int} (h : n < 0 ∨ 1114111 < n ∨ (55296 ≤ n ∧ n ≤ 57343)) : rsz n = 0 := by
  unfold rsz
  rw [if_neg]
  simp [scB, inB]
  omega
theorem rsz_yes {n : Int} (h0 : 0 ≤ n) (h1 : n ≤ 1114111) (h2 : n < 55296 ∨ 57343 < n) : rsz n = if n < 128 then 1 else if n < 2048 then 2 else if n < 65536 then 3 else 4 := by
  unfold rsz
  rw [if_pos]
  simp [scB, inB]
  omega

set_option maxHeartbeats 400000 in
theorem implSize_any (n : Int) (w : World) : Calls Tryd.prog 74 #[.int .i64 n] w fun e w' => e = .returned (.int .i64 (rsz n)) ∧ w' = w := by
  go_enter Tryd.func74, Tryd.ntmps74
  go_wp2
  all_goals go_ret
  all_goals first | exact ⟨ret_int (by rw [rsz_no (by omega)]), rfl⟩ | exact ⟨ret_int (by rw [rsz_yes (by omega) (by omega) (by omega)]; (repeat' split) <;> omega), rfl⟩
end Go.Proofs.YtbgoejalbhkmeaaDoor.ut
