/-
  Contracts of both Rfc822Text functions.
-/
import Derived.Test.YtadfdfmebdcfgaaGreatDoorDxd
namespace Go.Proofs.YtadfdfmebdcfgaaGreatDoor.dx
open Go.RowKit
open dt gr
set_option linter.unusedVariables false
def wkn (a : Nat) : List UInt8 := td.wks.getD a []
def mtn (m : Nat) : List UInt8 := td.mts.getD m []
theorem wkn_len {a : Nat} (h : a < 7) : (wkn a).length = 3 := by
  have : a = 0 ∨ a = 1 ∨ a = 2 ∨ a = 3 ∨ a = 4 ∨ a = 5 ∨ a = 6 := by omega
  rcases this with rfl | rfl | rfl | rfl | rfl | rfl | rfl <;> rfl
theorem mtn_len {m : Nat} (h0 : 1 ≤ m) (h : m < 13) : (mtn m).length = 3 := by
  have : m = 1 ∨ m = 2 ∨ m = 3 ∨ m = 4 ∨ m = 5 ∨ m = 6 ∨ m = 7 ∨ m = 8 ∨ m = 9 ∨ m = 10 ∨ m = 11 ∨ m = 12 := by omega
  rcases this with rfl | rfl | rfl | rfl | rfl | rfl | rfl | rfl | rfl | rfl | rfl | rfl <;> rfl
theorem wk_cell {w : World} (h : td.TW w) {a : Nat} (ha : a < 7) : w.cell? ⟨0, a, none⟩ = some (.string ⟨(wkn a).toArray⟩) := by
  rw [td.cellS h a ha]
  unfold wkn
  rw [List.getD_eq_getElem?_getD, List.getElem?_eq_getElem (show a < td.wks.length from ha)]
  rfl
theorem mt_cell {w : World} (h : td.TN w) {m : Nat} (hm : m < 13) : w.cell? ⟨1, m, none⟩ = some (.string ⟨(mtn m).toArray⟩) := by
  rw [td.cellS h m hm]
  unfold mtn
  rw [List.getD_eq_getElem?_getD, List.getElem?_eq_getElem (show m < td.mts.length from hm)]
  rfl

set_option maxHeartbeats 2000000 in
theorem spec_wkn (a : Nat) (h : a < 7) (w : World) : Calls Tryz.prog 79 #[.int .i64 (a : Int)] w fun e w' => e = .returned (.string ⟨(wkn a).toArray⟩) ∧ Below w.heap.size w w' := by
  have : a = 0 ∨ a = 1 ∨ a = 2 ∨ a = 3 ∨ a = 4 ∨ a = 5 ∨ a = 6 := by omega
  rcases this with rfl | rfl | rfl | rfl | rfl | rfl | rfl
  all_goals
    go_enter Tryz.func79, Tryz.ntmps79
    go_wp2
    go_ret
    exact ⟨rfl, bel_box _ _⟩
set_option maxHeartbeats 2000000 in
theorem spec_mtn (m : Nat) (h0 : 1 ≤ m) (h : m < 13) (w : World) : Calls Tryz.prog 81 #[.int .i64 (m : Int)] w fun e w' => e = .returned (.string ⟨(mtn m).toArray⟩) ∧ Below w.heap.size w w' := by
  have : m = 1 ∨ m = 2 ∨ m = 3 ∨ m = 4 ∨ m = 5 ∨ m = 6 ∨ m = 7 ∨ m = 8 ∨ m = 9 ∨ m = 10 ∨ m = 11 ∨ m = 12 := by omega
  rcases this with rfl | rfl | rfl | rfl | rfl | rfl | rfl | rfl | rfl | rfl | rfl | rfl
  all_goals
    go_enter Tryz.func81, Tryz.ntmps81
    go_wp2
    go_ret
    exact ⟨rfl, bel_box _ _⟩

/-- The text of a calendar of the second form, with its day of the week ahead. -/
def m82 (y : Int) (m : Nat) (d h i s : Int) : List UInt8 := two d ++ [32] ++ mtn m ++ [32] ++ four y ++ [32] ++ clk h i s ++ [32]
def f82 (a : Nat) (y : Int) (m : Nat) (d h i s : Int) : List UInt8 := wkn a ++ [44, 32] ++ two d ++ [32] ++ mtn m ++ [32] ++ four y ++ [32] ++ clk h i s ++ [32, 43, 48, 48, 48, 48]
def wkd (n : Int) : Nat := ((n / 86400 + 4) % 7).toNat
def t82 (n : Int) : List UInt8 := f82 (wkd n) (yr n) (mn n).toNat (dy n) (hr n) (dt.mt n) (sc n)
def r82 (n : Int) : Value := if dw.inB n 0 4102444799 then .tuple #[.string ⟨(t82 n).toArray⟩, .int .i64 0] else .tuple #[.string ⟨#[]⟩, .int .i64 4]
theorem r82_in {n : Int} (h : dw.inB n 0 4102444799 = true) : r82 n = .tuple #[.string ⟨(t82 n).toArray⟩, .int .i64 0] := by simp [r82, h]
theorem r82_out {n : Int} (h : dw.inB n 0 4102444799 = false) : r82 n = .tuple #[.string ⟨#[]⟩, .int .i64 4] := by simp [r82, h]
theorem r82_form (n : Int) : ∃ (s : ByteArray) (c : Int), r82 n = .tuple #[.string s, .int .i64 c] := by
  cases e : dw.inB n 0 4102444799
  · exact ⟨_, _, r82_out e⟩
  · exact ⟨_, _, r82_in e⟩

set_option maxHeartbeats 4000000 in
set_option maxRecDepth 100000 in
theorem impl_82 (n : Int) (w : World) (hT : td.TP w) (hTW : td.TW w) (hTN : td.TN w) : Calls Tryz.prog 46 #[.int .i64 n] w fun e w' => e = .returned (r82 n) ∧ Below w.heap.size w w' := by
  cases hn : dw.inB n 0 4102444799
  · have hx := dw.cv_out hn
    rw [r82_out hn]
    clear hT hTW hTN
    go_enter Tryz.func46, Tryz.ntmps46
    go_wp2_with fail
    refine (dw.impl_cv n _).mono ?_
    rintro e w1 ⟨rfl, b1⟩
    rw [hx]
    unfold C6
    go_wp2
    go_ret2
    exact ⟨rfl, b1.alloc b1.size _⟩
  · have hx := dw.cv_in hn
    have hwd := dw.wd_in hn
    rw [r82_in hn]
    obtain ⟨n0, n1⟩ := dw.in_iff.1 hn
    have hok := civ_ok n0 n1
    unfold t82
    unfold civ at hx
    have ha : (n / 86400 + 4) % 7 = ((wkd n : Nat) : Int) := by unfold wkd; omega
    have ha7 : wkd n < 7 := by unfold wkd; omega
    rw [ha] at hwd
    obtain ⟨q, hq⟩ : ∃ q : Nat, mn n = (q : Int) := ⟨(mn n).toNat, by have := hok.2.2.1; omega⟩
    rw [hq] at hx hok ⊢
    rw [Int.toNat_natCast]
    generalize yr n = y, dy n = d, hr n = h, dt.mt n = i, sc n = s, wkd n = a at hx hok hwd ha7 ⊢
    clear ha hq
    obtain ⟨k1, k2, k3, k4, k5, k6, k7, k8, k9, k10, k11, k12⟩ := hok
    have k13 := dm_pos y (q : Int)
    go_enter Tryz.func46, Tryz.ntmps46
    go_wp2_with fail
    refine (dw.impl_cv n _).mono ?_
    rintro e w1 ⟨rfl, b1⟩
    rw [hx]
    unfold C6
    clear hx hn
    go_wp2_with fail
    refine (dw.impl_wd n _).mono ?_
    rintro e w' ⟨rfl, rfl⟩
    rw [hwd]
    clear hwd
    go_wp2_with fail
    have L := dw.lies_new w1 y (q : Int) d h i s
    have b2 := b1.trans ((bel_box w1 (.cells #[.int .i64 y, .int .i64 (q : Int), .int .i64 d, .int .i64 h, .int .i64 i, .int .i64 s] 99)).mono b1.size)
    generalize w1.alloc _ = W at L b2 ⊢
    have hW := td.keep' hT b2
    have hWW := td.keepS hTW b2
    have hWN := td.keepS hTN b2
    have HF : Hid (∀ x : Ext W, Calls Tryz.prog 51 #[.int .i64 y] (gw x) fun e w' => e = .returned (.string ⟨(four y).toArray⟩) ∧ Below (gw x).heap.size (gw x) w') := fun x => impl_four y (by omega) (by omega) _ (td.keep' hW (gw_below x))
    have d0 : 0 ≤ d := by omega
    have d9 : d ≤ 99 := by omega
    have HC : Hid (∀ W, Calls Tryz.prog 93 #[C6 y (q : Int) d h i s] W fun e w' => e = .returned (.string ⟨(clk h i s).toArray⟩) ∧ Below W.heap.size W w') := fun W => impl_clk y (q : Int) d h i s (by omega) (by omega) (by omega) (by omega) (by omega) (by omega) W
    unfold C6 at HC
    have HL : Hid (dw.Lies W w1.heap.size y (q : Int) d h i s) := L
    have ne := ext_some W
    have l2 := two_len
    have l4 := four_len
    have l8 := clk_len
    have l3 := wkn_len ha7
    have l3m := mtn_len (m := q) (by omega) (by omega)
    have i0 : (0 : Int) ≤ (a : Int) := by omega
    have i1 : (a : Int) < 7 := by omega
    have j0 : (0 : Int) ≤ (q : Int) := by omega
    have j1 : (q : Int) < 13 := by omega
    have cw := fun x : Ext W => gw_cell x (wk_cell hWW ha7)
    have cm := fun x : Ext W => gw_cell x (mt_cell hWN (m := q) (by omega))
    have c0 := fun x : Ext W => gw_cell x L.c0
    have c1 := fun x : Ext W => gw_cell x L.c1
    have c2 := fun x : Ext W => gw_cell x L.c2
    clear L b1 hT hW hTW hTN hWW hWN
    refine region_lit (by kernel_rfl) (by kernel_rfl) ?_
    repeat (go_big_quiet_step ((first | (go_at_call 51; exact grow_of (HF.out _)) | (go_at_call 92; exact grow_of (impl_two _ (by assumption) (by assumption) _)))))
    refine wpQuiet_nil ?_
    rintro W' ⟨x, rfl⟩
    have L := HL.out.below (gw_below x)
    have b3 := b2.trans ((gw_below x).mono b2.size)
    generalize gw x = W' at L b3 ⊢
    clear c0 c1 c2 cw cm ne HF HL b2
    have c0 := L.c0
    have c1 := L.c1
    have c2 := L.c2
    have c3 := L.c3
    have c4 := L.c4
    have c5 := L.c5
    clear L
    go_wp2_with fail
    refine (HC.out _).mono ?_
    rintro e w5 ⟨rfl, b5⟩
    have b6 := b3.trans (b5.mono b3.size)
    clear b3 b5 HC c0 c1 c2 c3 c4 c5
    go_wp2
    go_ret2
    refine ⟨?_, b6⟩
    unfold f82
    simp only [← app]
    rfl
end Go.Proofs.YtadfdfmebdcfgaaGreatDoor.dx
