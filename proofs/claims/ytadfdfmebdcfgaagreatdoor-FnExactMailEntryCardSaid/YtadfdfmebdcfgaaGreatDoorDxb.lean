/-
  Contracts of the functions that write a clock.
-/
import Derived.Test.YtadfdfmebdcfgaaGreatDoorDxa
import Derived.Test.YtadfdfmebdcfgaaGreatDoorGrw
import Derived.Test.YtadfdfmebdcfgaaGreatDoorDwe
namespace Go.Proofs.YtadfdfmebdcfgaaGreatDoor.dx
open Go.RowKit
open dt gr
set_option linter.unusedVariables false
/-- A clock's text. -/
def clk (h i s : Int) : List UInt8 := two h ++ [58] ++ two i ++ [58] ++ two s

set_option maxHeartbeats 2000000 in
theorem impl_clk (y m d h i s : Int) (h0 : 0 ≤ h) (h1 : h ≤ 99) (i0 : 0 ≤ i) (i1 : i ≤ 99) (s0 : 0 ≤ s) (s1 : s ≤ 99) (w : World) :
    Calls Tryz.prog 93 #[C6 y m d h i s] w fun e w' => e = .returned (.string ⟨(clk h i s).toArray⟩) ∧ Below w.heap.size w w' := by
  unfold C6
  go_enter Tryz.func93, Tryz.ntmps93
  go_wp2_with fail
  have L := dw.lies_new w y m d h i s
  have b := bel_box w (.cells #[.int .i64 y, .int .i64 m, .int .i64 d, .int .i64 h, .int .i64 i, .int .i64 s] 99)
  generalize w.alloc _ = W at L b ⊢
  have ne := ext_some W
  have l2 : ∀ n, (two n).length = 2 := fun _ => rfl
  have c3 := fun x : Ext W => gw_cell x L.c3
  have c4 := fun x : Ext W => gw_cell x L.c4
  have c5 := fun x : Ext W => gw_cell x L.c5
  clear L
  refine region_lit (by kernel_rfl) (by kernel_rfl) ?_
  repeat (go_big_quiet_step ((first | (go_at_call 92; exact grow_of (impl_two _ (by assumption) (by assumption) _)))))
  refine wpQuiet_nil ?_
  rintro W' ⟨x, rfl⟩
  have b2 := b.trans ((gw_below x).mono b.size)
  generalize gw x = W' at b2 ⊢
  clear c3 c4 c5 ne l2
  go_wp2
  go_ret
  refine ⟨?_, b2⟩
  unfold clk
  simp only [← app]
  rfl

set_option maxHeartbeats 2000000 in
theorem spec_clk (y m d h i s : Int) (h0 : 0 ≤ h) (h1 : h ≤ 99) (i0 : 0 ≤ i) (i1 : i ≤ 99) (s0 : 0 ≤ s) (s1 : s ≤ 99) (w : World) :
    Calls Tryz.prog 114 #[C6 y m d h i s] w fun e w' => e = .returned (.string ⟨(clk h i s).toArray⟩) ∧ Below w.heap.size w w' := by
  unfold C6
  go_enter Tryz.func114, Tryz.ntmps114
  go_wp2_with fail
  have L := dw.lies_new w y m d h i s
  have b := bel_box w (.cells #[.int .i64 y, .int .i64 m, .int .i64 d, .int .i64 h, .int .i64 i, .int .i64 s] 99)
  generalize w.alloc _ = W at L b ⊢
  have ne := ext_some W
  have l2 : ∀ n, (two n).length = 2 := fun _ => rfl
  have c3 := fun x : Ext W => gw_cell x L.c3
  have c4 := fun x : Ext W => gw_cell x L.c4
  have c5 := fun x : Ext W => gw_cell x L.c5
  clear L
  refine region_lit (by kernel_rfl) (by kernel_rfl) ?_
  repeat (go_big_quiet_step ((first | (go_at_call 113; exact grow_of (spec_two _ (by assumption) (by assumption) _)))))
  refine wpQuiet_nil ?_
  rintro W' ⟨x, rfl⟩
  have b2 := b.trans ((gw_below x).mono b.size)
  generalize gw x = W' at b2 ⊢
  clear c3 c4 c5 ne l2
  go_wp2
  go_ret
  refine ⟨?_, b2⟩
  unfold clk
  simp only [← app]
  rfl
end Go.Proofs.YtadfdfmebdcfgaaGreatDoor.dx
