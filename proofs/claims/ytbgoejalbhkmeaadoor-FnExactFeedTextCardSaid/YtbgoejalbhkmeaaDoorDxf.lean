/-
  The contract of the specification's Rfc822Text.
-/
import Derived.Test.YtbgoejalbhkmeaaDoorDxe
namespace Go.Proofs.YtbgoejalbhkmeaaDoor.dx
open Go.RowKit
open dt gr
set_option linter.unusedVariables false
set_option maxHeartbeats 4000000 in
set_option maxRecDepth 100000 in
theorem spec_f82 (n : Int) (n0 : 0 ≤ n) (n1 : n ≤ 4102444799) (w : World) : Calls Tryd.prog 37 #[.int .i64 n] w fun e w' => e = .returned (.string ⟨(t82 n).toArray⟩) ∧ Below w.heap.size w w' := by
  have hok := civ_ok n0 n1
  have hx : Hid (∀ w, Calls Tryd.prog 52 #[.int .i64 n] w fun e w' => e = .returned (C6 (yr n) (mn n) (dy n) (hr n) (dt.mt n) (sc n)) ∧ Below w.heap.size w w') := fun w => dw.spec_civ n n0 n1 w
  unfold t82
  have ha : (n / 86400 + 4) % 7 = ((wkd n : Nat) : Int) := by unfold wkd; omega
  have ha7 : wkd n < 7 := by unfold wkd; omega
  obtain ⟨q, hq⟩ : ∃ q : Nat, mn n = (q : Int) := ⟨(mn n).toNat, by have := hok.2.2.1; omega⟩
  rw [hq] at hx hok ⊢
  rw [Int.toNat_natCast]
  generalize yr n = y, dy n = d, hr n = h, dt.mt n = i, sc n = s, wkd n = a at hx hok ha ha7 ⊢
  clear hq
  obtain ⟨k1, k2, k3, k4, k5, k6, k7, k8, k9, k10, k11, k12⟩ := hok
  have k13 := dm_pos y (q : Int)
  go_enter Tryd.func37, Tryd.ntmps37
  go_wp2_with fail
  refine (hx.out _).mono ?_
  rintro e w1 ⟨rfl, b1⟩
  unfold C6
  clear hx
  go_wp2_with fail
  have L := dw.lies_new w1 y (q : Int) d h i s
  have b2 := b1.trans ((bel_box w1 (.cells #[.int .i64 y, .int .i64 (q : Int), .int .i64 d, .int .i64 h, .int .i64 i, .int .i64 s] 67)).mono b1.size)
  generalize w1.alloc _ = W at L b2 ⊢
  have HF : Hid (∀ W, Calls Tryd.prog 53 #[.int .i64 y] W fun e w' => e = .returned (.string ⟨(four y).toArray⟩) ∧ Below W.heap.size W w') := fun W => spec_four y (by omega) (by omega) W
  have HW : Hid (∀ W, Calls Tryd.prog 56 #[.int .i64 ((n / 86400 + 4) % 7)] W fun e w' => e = .returned (.string ⟨(wkn a).toArray⟩) ∧ Below W.heap.size W w') := fun W => by rw [ha]; exact spec_wkn a ha7 W
  have HM : Hid (∀ W, Calls Tryd.prog 57 #[.int .i64 (q : Int)] W fun e w' => e = .returned (.string ⟨(mtn q).toArray⟩) ∧ Below W.heap.size W w') := fun W => spec_mtn q (by omega) (by omega) W
  have d0 : 0 ≤ d := by omega
  have d9 : d ≤ 99 := by omega
  have HC : Hid (∀ W, Calls Tryd.prog 55 #[C6 y (q : Int) d h i s] W fun e w' => e = .returned (.string ⟨(clk h i s).toArray⟩) ∧ Below W.heap.size W w') := fun W => spec_clk y (q : Int) d h i s (by omega) (by omega) (by omega) (by omega) (by omega) (by omega) W
  unfold C6 at HC
  have ne := ext_some W
  have l2 := two_len
  have l4 := four_len
  have l8 := clk_len
  have l3 := wkn_len ha7
  have l3m := mtn_len (m := q) (by omega) (by omega)
  have c0 := fun x : Ext W => gw_cell x L.c0
  have c1 := fun x : Ext W => gw_cell x L.c1
  have c2 := fun x : Ext W => gw_cell x L.c2
  have c3 := fun x : Ext W => gw_cell x L.c3
  have c4 := fun x : Ext W => gw_cell x L.c4
  have c5 := fun x : Ext W => gw_cell x L.c5
  clear L b1 ha
  refine region_lit (by kernel_rfl) (by kernel_rfl) ?_
  repeat (go_big_quiet_step ((first | (go_at_call 53; exact grow_of (HF.out _)) | (go_at_call 54; exact grow_of (spec_two _ (by assumption) (by assumption) _)) | (go_at_call 56; exact grow_of (HW.out _)) | (go_at_call 57; exact grow_of (HM.out _)) | (go_at_call 55; exact grow_of (HC.out _)))))
  refine wpQuiet_nil ?_
  rintro W' ⟨x, rfl⟩
  have b3 := b2.trans ((gw_below x).mono b2.size)
  generalize gw x = W' at b3 ⊢
  clear c0 c1 c2 c3 c4 c5 ne HF HW HM HC b2
  go_wp2
  go_ret
  refine ⟨?_, b3⟩
  unfold f82
  simp only [← app]
  rfl

end Go.Proofs.YtbgoejalbhkmeaaDoor.dx
