/-
  Contracts of both Rfc3339Text functions.
-/
import Derived.Test.YtbgoejalbhkmeaaDoorDxb
import Derived.Test.YtbgoejalbhkmeaaDoorDxc
import Derived.Test.YtbgoejalbhkmeaaDoorDwf
import Derived.Test.YtbgoejalbhkmeaaDoorTab
import Derived.Test.YtbgoejalbhkmeaaDoorShf
import Derived.Lib.AppendIntMem
import Derived.Shelf.Strconv.Itoa3
namespace Go.Proofs.YtbgoejalbhkmeaaDoor.dx
open Go.RowKit
open dt gr
set_option linter.unusedVariables false
theorem impl_four (y : Int) (h0 : 1000 ≤ y) (h1 : y ≤ 9999) (w : World) (hT : tb.TP w) : Calls Tryd.prog 45 #[.int .i64 y] w fun e w' => e = .returned (.string ⟨(four y).toArray⟩) ∧ Below w.heap.size w w' := by
  refine (Any.strconv_Itoa Tryd.laysM171 y (by omega) (by omega) w (tb.tp_is hT)).mono ?_
  rintro e w' ⟨rfl, k, os, rfl⟩
  exact ⟨by rw [itoa_four h0 h1], Lib.below_grow _ _ (Nat.le_refl _) _ _⟩

/-- A calendar's text of the first form, without its zone. -/
def m39 (y m d h i s : Int) : List UInt8 := four y ++ [45] ++ two m ++ [45] ++ two d ++ [84] ++ clk h i s
/-- A stamp's text of the first form and its code. -/
def t39 (n : Int) : List UInt8 := m39 (yr n) (mn n) (dy n) (hr n) (dt.mt n) (sc n) ++ [90]
def r39 (n : Int) : Value := if dw.inB n 0 4102444799 then .tuple #[.string ⟨(t39 n).toArray⟩, .int .i64 0] else .tuple #[.string ⟨#[]⟩, .int .i64 4]
theorem r39_in {n : Int} (h : dw.inB n 0 4102444799 = true) : r39 n = .tuple #[.string ⟨(t39 n).toArray⟩, .int .i64 0] := by simp [r39, h]
theorem r39_out {n : Int} (h : dw.inB n 0 4102444799 = false) : r39 n = .tuple #[.string ⟨#[]⟩, .int .i64 4] := by simp [r39, h]
theorem r39_form (n : Int) : ∃ (s : ByteArray) (c : Int), r39 n = .tuple #[.string s, .int .i64 c] := by
  cases e : dw.inB n 0 4102444799
  · exact ⟨_, _, r39_out e⟩
  · exact ⟨_, _, r39_in e⟩
theorem two_len (n : Int) : (two n).length = 2 := rfl
theorem four_len (n : Int) : (four n).length = 4 := rfl
theorem clk_len (h i s : Int) : (clk h i s).length = 8 := rfl

set_option maxHeartbeats 4000000 in
set_option maxRecDepth 100000 in
theorem impl_39 (n : Int) (w : World) (hT : tb.TP w) : Calls Tryd.prog 29 #[.int .i64 n] w fun e w' => e = .returned (r39 n) ∧ Below w.heap.size w w' := by
  cases hn : dw.inB n 0 4102444799
  · have hx := dw.cv_out hn
    rw [r39_out hn]
    clear hT
    go_enter Tryd.func29, Tryd.ntmps29
    go_wp2_with fail
    refine (dw.impl_cv n _).mono ?_
    rintro e w1 ⟨rfl, b1⟩
    rw [hx]
    unfold C6
    go_wp2
    go_ret2
    exact ⟨rfl, b1.alloc b1.size _⟩
  · have hx := dw.cv_in hn
    rw [r39_in hn]
    obtain ⟨n0, n1⟩ := dw.in_iff.1 hn
    have hok := civ_ok n0 n1
    unfold t39
    unfold civ at hx
    generalize yr n = y, mn n = m, dy n = d, hr n = h, dt.mt n = i, sc n = s at hx hok ⊢
    obtain ⟨k1, k2, k3, k4, k5, k6, k7, k8, k9, k10, k11, k12⟩ := hok
    have k13 := dm_pos y m
    go_enter Tryd.func29, Tryd.ntmps29
    go_wp2_with fail
    refine (dw.impl_cv n _).mono ?_
    rintro e w1 ⟨rfl, b1⟩
    rw [hx]
    unfold C6
    clear hx hn
    go_wp2_with fail
    have L := dw.lies_new w1 y m d h i s
    have b2 := b1.trans ((bel_box w1 (.cells #[.int .i64 y, .int .i64 m, .int .i64 d, .int .i64 h, .int .i64 i, .int .i64 s] 67)).mono b1.size)
    generalize w1.alloc _ = W at L b2 ⊢
    have hW := tb.keep' hT b2
    have HF : Hid (∀ x : Ext W, Calls Tryd.prog 45 #[.int .i64 y] (gw x) fun e w' => e = .returned (.string ⟨(four y).toArray⟩) ∧ Below (gw x).heap.size (gw x) w') := fun x => impl_four y (by omega) (by omega) _ (tb.keep' hW (gw_below x))
    have m0 : 0 ≤ m := by omega
    have m9 : m ≤ 99 := by omega
    have d0 : 0 ≤ d := by omega
    have d9 : d ≤ 99 := by omega
    have HC : Hid (∀ W, Calls Tryd.prog 47 #[C6 y m d h i s] W fun e w' => e = .returned (.string ⟨(clk h i s).toArray⟩) ∧ Below W.heap.size W w') := fun W => impl_clk y m d h i s (by omega) (by omega) (by omega) (by omega) (by omega) (by omega) W
    unfold C6 at HC
    clear b1 hT hW
    have ne := ext_some W
    have l2 := two_len
    have l4 := four_len
    have l8 := clk_len
    have c0 := fun x : Ext W => gw_cell x L.c0
    have c1 := fun x : Ext W => gw_cell x L.c1
    have c2 := fun x : Ext W => gw_cell x L.c2
    have c3 := fun x : Ext W => gw_cell x L.c3
    have c4 := fun x : Ext W => gw_cell x L.c4
    have c5 := fun x : Ext W => gw_cell x L.c5
    clear L
    refine region_lit (by kernel_rfl) (by kernel_rfl) ?_
    repeat (go_big_quiet_step ((first | (go_at_call 45; exact grow_of (HF.out _)) | (go_at_call 46; exact grow_of (impl_two _ (by assumption) (by assumption) _)) | (go_at_call 47; exact grow_of (HC.out _)))))
    refine wpQuiet_nil ?_
    rintro W' ⟨x, rfl⟩
    have b3 := b2.trans ((gw_below x).mono b2.size)
    generalize gw x = W' at b3 ⊢
    clear c0 c1 c2 c3 c4 c5 ne l2 l4 l8 HF HC b2
    go_wp2
    go_ret2
    refine ⟨?_, b3⟩
    unfold m39
    simp only [← app]
    rfl
set_option maxHeartbeats 4000000 in
set_option maxRecDepth 100000 in
theorem spec_39 (n : Int) (w : World) : Calls Tryd.prog 36 #[.int .i64 n] w fun e w' => e = .returned (r39 n) ∧ Below w.heap.size w w' := by
  cases hn : dw.inB n 0 4102444799
  · rw [r39_out hn]
    go_enter Tryd.func36, Tryd.ntmps36
    go_wp2_with (go_at_call 34; refine (dw.in_any _ _ _ _).mono ?_; rintro e w' ⟨rfl, rfl⟩)
    go_ret2
    exact ⟨rfl, Below.refl _ _⟩
  · rw [r39_in hn]
    obtain ⟨n0, n1⟩ := dw.in_iff.1 hn
    have hok := civ_ok n0 n1
    have hx : Hid (∀ w, Calls Tryd.prog 52 #[.int .i64 n] w fun e w' => e = .returned (C6 (yr n) (mn n) (dy n) (hr n) (dt.mt n) (sc n)) ∧ Below w.heap.size w w') := fun w => dw.spec_civ n n0 n1 w
    unfold t39
    generalize yr n = y, mn n = m, dy n = d, hr n = h, dt.mt n = i, sc n = s at hx hok ⊢
    obtain ⟨k1, k2, k3, k4, k5, k6, k7, k8, k9, k10, k11, k12⟩ := hok
    have k13 := dm_pos y m
    go_enter Tryd.func36, Tryd.ntmps36
    go_wp2_with (go_at_call 34; refine (dw.in_any _ _ _ _).mono ?_; rintro e w' ⟨rfl, rfl⟩)
    refine (hx.out _).mono ?_
    rintro e w1 ⟨rfl, b1⟩
    unfold C6
    clear hx hn
    go_wp2_with fail
    have L := dw.lies_new w1 y m d h i s
    have b2 := b1.trans ((bel_box w1 (.cells #[.int .i64 y, .int .i64 m, .int .i64 d, .int .i64 h, .int .i64 i, .int .i64 s] 67)).mono b1.size)
    generalize w1.alloc _ = W at L b2 ⊢
    have HF : Hid (∀ x : Ext W, Calls Tryd.prog 53 #[.int .i64 y] (gw x) fun e w' => e = .returned (.string ⟨(four y).toArray⟩) ∧ Below (gw x).heap.size (gw x) w') := fun x => spec_four y (by omega) (by omega) _
    have m0 : 0 ≤ m := by omega
    have m9 : m ≤ 99 := by omega
    have d0 : 0 ≤ d := by omega
    have d9 : d ≤ 99 := by omega
    have HC : Hid (∀ W, Calls Tryd.prog 55 #[C6 y m d h i s] W fun e w' => e = .returned (.string ⟨(clk h i s).toArray⟩) ∧ Below W.heap.size W w') := fun W => spec_clk y m d h i s (by omega) (by omega) (by omega) (by omega) (by omega) (by omega) W
    unfold C6 at HC
    clear b1
    have ne := ext_some W
    have l2 := two_len
    have l4 := four_len
    have l8 := clk_len
    have c0 := fun x : Ext W => gw_cell x L.c0
    have c1 := fun x : Ext W => gw_cell x L.c1
    have c2 := fun x : Ext W => gw_cell x L.c2
    have c3 := fun x : Ext W => gw_cell x L.c3
    have c4 := fun x : Ext W => gw_cell x L.c4
    have c5 := fun x : Ext W => gw_cell x L.c5
    clear L
    refine region_lit (by kernel_rfl) (by kernel_rfl) ?_
    repeat (go_big_quiet_step ((first | (go_at_call 53; exact grow_of (HF.out _)) | (go_at_call 54; exact grow_of (spec_two _ (by assumption) (by assumption) _)) | (go_at_call 55; exact grow_of (HC.out _)))))
    refine wpQuiet_nil ?_
    rintro W' ⟨x, rfl⟩
    have b3 := b2.trans ((gw_below x).mono b2.size)
    generalize gw x = W' at b3 ⊢
    clear c0 c1 c2 c3 c4 c5 ne l2 l4 l8 HF HC b2
    go_wp2
    go_ret2
    refine ⟨?_, b3⟩
    unfold m39
    simp only [← app]
    rfl
end Go.Proofs.YtbgoejalbhkmeaaDoor.dx
