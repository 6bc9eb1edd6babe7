/-
  Contracts of both Rfc3339Text functions.
  Contracts of both Rfc822Text functions.
  The contract of the specification's Rfc822Text.
  A number's digits: the specification's, of up to ten places.
  Contracts of the functions on names: a letter, a digit, a word, and both NameOK functions answer whether a text is a name, and leave the world as it was.
-/
import Derived.Test.YtadfdfmebdcfgaaGreatDoorPkat
import Derived.Test.YtadfdfmebdcfgaaGreatDoorPkab
import Derived.Lib.AppendIntMem
import Derived.Shelf.Strconv.Itoa3
import Derived.Lib.ItoaNum
import Derived.Test.YtadfdfmebdcfgaaGreatDoorRows
import Derived.WalkKit
import Derived.WalkLawsBesides

namespace Go.Proofs.YtadfdfmebdcfgaaGreatDoor.dx
open Go.RowKit
open dt gr
set_option linter.unusedVariables false
theorem impl_four (y : Int) (h0 : 1000 ≤ y) (h1 : y ≤ 9999) (w : World) (hT : td.TP w) : Calls Tryz.prog 51 #[.int .i64 y] w fun e w' => e = .returned (.string ⟨(four y).toArray⟩) ∧ Below w.heap.size w w' := by
  refine (Any.strconv_Itoa Tryz.laysM171 y (by omega) (by omega) w (td.tp_is hT)).mono ?_
  rintro e w' ⟨rfl, k, os, rfl⟩
  exact ⟨by rw [itoa_four h0 h1], Lib.below_grow _ _ (Nat.le_refl _) _ _⟩

theorem two_len (n : Int) : (two n).length = 2 := rfl
theorem four_len (n : Int) : (four n).length = 4 := rfl
theorem clk_len (h i s : Int) : (clk h i s).length = 8 := rfl

end Go.Proofs.YtadfdfmebdcfgaaGreatDoor.dx

namespace Go.Proofs.YtadfdfmebdcfgaaGreatDoor.dx
open Go.RowKit
open dt gr
set_option linter.unusedVariables false
def wkn (a : Nat) : List UInt8 := td.wks.getD a []
def mtn (m : Nat) : List UInt8 := td.mts.getD m []
theorem wkn_len {a : Nat} (h : a < 7) : (wkn a).length = 3 := by
  have : a = 0 ∨ a = 1 ∨ a = 2 ∨ a = 3 ∨ a = 4 ∨ a = 5 ∨ a = 6 := by omega
  rcases this with rfl | rfl | rfl | rfl | rfl | rfl | rfl <;> rfl
theorem mtn_len {m : Nat} (h0 : 1 ≤ m) (h : m < 13) : (mtn m).length = 3 := by
  have : m = 1 ∨ m = 2 ∨ m = 3 ∨ m = 4 ∨ m = 5 ∨ m = 6 ∨ m = 7 ∨ m = 8 ∨ m = 9 ∨ m = 10 ∨ m = 11 ∨ m = 12 := by omega
  rcases this with rfl | rfl | rfl | rfl | rfl | rfl | rfl | rfl | rfl | rfl | rfl | rfl <;> rfl
theorem wk_cell {w : World} (h : td.TW w) {a : Nat} (ha : a < 7) : w.cell? ⟨0, a, none⟩ = some (.string ⟨(wkn a).toArray⟩) := by
  rw [td.cellS h a ha]
  unfold wkn
  rw [List.getD_eq_getElem?_getD, List.getElem?_eq_getElem (show a < td.wks.length from ha)]
  rfl
theorem mt_cell {w : World} (h : td.TN w) {m : Nat} (hm : m < 13) : w.cell? ⟨1, m, none⟩ = some (.string ⟨(mtn m).toArray⟩) := by
  rw [td.cellS h m hm]
  unfold mtn
  rw [List.getD_eq_getElem?_getD, List.getElem?_eq_getElem (show m < td.mts.length from hm)]
  rfl

set_option maxHeartbeats 2000000 in
theorem spec_wkn (a : Nat) (h : a < 7) (w : World) : Calls Tryz.prog 79 #[.int .i64 (a : Int)] w fun e w' => e = .returned (.string ⟨(wkn a).toArray⟩) ∧ Below w.heap.size w w' := by
  have : a = 0 ∨ a = 1 ∨ a = 2 ∨ a = 3 ∨ a = 4 ∨ a = 5 ∨ a = 6 := by omega
  rcases this with rfl | rfl | rfl | rfl | rfl | rfl | rfl
  all_goals
    go_enter Tryz.func79, Tryz.ntmps79
    go_wp2
    go_ret
    exact ⟨rfl, bel_box _ _⟩
set_option maxHeartbeats 2000000 in
theorem spec_mtn (m : Nat) (h0 : 1 ≤ m) (h : m < 13) (w : World) : Calls Tryz.prog 81 #[.int .i64 (m : Int)] w fun e w' => e = .returned (.string ⟨(mtn m).toArray⟩) ∧ Below w.heap.size w w' := by
  have : m = 1 ∨ m = 2 ∨ m = 3 ∨ m = 4 ∨ m = 5 ∨ m = 6 ∨ m = 7 ∨ m = 8 ∨ m = 9 ∨ m = 10 ∨ m = 11 ∨ m = 12 := by omega
  rcases this with rfl | rfl | rfl | rfl | rfl | rfl | rfl | rfl | rfl | rfl | rfl | rfl
  all_goals
    go_enter Tryz.func81, Tryz.ntmps81
    go_wp2
    go_ret
    exact ⟨rfl, bel_box _ _⟩

def f82 (a : Nat) (y : Int) (m : Nat) (d h i s : Int) : List UInt8 := wkn a ++ [44, 32] ++ two d ++ [32] ++ mtn m ++ [32] ++ four y ++ [32] ++ clk h i s ++ [32, 43, 48, 48, 48, 48]
def wkd (n : Int) : Nat := ((n / 86400 + 4) % 7).toNat
def t82 (n : Int) : List UInt8 := f82 (wkd n) (yr n) (mn n).toNat (dy n) (hr n) (dt.mt n) (sc n)
def r82 (n : Int) : Value := if dw.inB n 0 4102444799 then .tuple #[.string ⟨(t82 n).toArray⟩, .int .i64 0] else .tuple #[.string ⟨#[]⟩, .int .i64 4]
theorem r82_in {n : Int} (h : dw.inB n 0 4102444799 = true) : r82 n = .tuple #[.string ⟨(t82 n).toArray⟩, .int .i64 0] := by simp [r82, h]
theorem r82_out {n : Int} (h : dw.inB n 0 4102444799 = false) : r82 n = .tuple #[.string ⟨#[]⟩, .int .i64 4] := by simp [r82, h]

set_option maxHeartbeats 4000000 in
set_option maxRecDepth 100000 in
theorem impl_82 (n : Int) (w : World) (hT : td.TP w) (hTW : td.TW w) (hTN : td.TN w) : Calls Tryz.prog 46 #[.int .i64 n] w fun e w' => e = .returned (r82 n) ∧ Below w.heap.size w w' := by
  cases hn : dw.inB n 0 4102444799
  · have hx := dw.cv_out hn
    rw [r82_out hn]
    clear hT hTW hTN
    go_enter Tryz.func46, Tryz.ntmps46
    go_wp2_with fail
    refine (dw.impl_cv n _).mono ?_
    rintro e w1 ⟨rfl, b1⟩
    rw [hx]
    unfold C6
    go_wp2
    go_ret2
    exact ⟨rfl, b1.alloc b1.size _⟩
  · have hx := dw.cv_in hn
    have hwd := dw.wd_in hn
    rw [r82_in hn]
    obtain ⟨n0, n1⟩ := dw.in_iff.1 hn
    have hok := civ_ok n0 n1
    unfold t82
    unfold civ at hx
    have ha : (n / 86400 + 4) % 7 = ((wkd n : Nat) : Int) := by unfold wkd; omega
    have ha7 : wkd n < 7 := by unfold wkd; omega
    rw [ha] at hwd
    obtain ⟨q, hq⟩ : ∃ q : Nat, mn n = (q : Int) := ⟨(mn n).toNat, by have := hok.2.2.1; omega⟩
    rw [hq] at hx hok ⊢
    rw [Int.toNat_natCast]
    generalize yr n = y, dy n = d, hr n = h, dt.mt n = i, sc n = s, wkd n = a at hx hok hwd ha7 ⊢
    clear ha hq
    obtain ⟨k1, k2, k3, k4, k5, k6, k7, k8, k9, k10, k11, k12⟩ := hok
    have k13 := dm_pos y (q : Int)
    go_enter Tryz.func46, Tryz.ntmps46
    go_wp2_with fail
    refine (dw.impl_cv n _).mono ?_
    rintro e w1 ⟨rfl, b1⟩
    rw [hx]
    unfold C6
    clear hx hn
    go_wp2_with fail
    refine (dw.impl_wd n _).mono ?_
    rintro e w' ⟨rfl, rfl⟩
    rw [hwd]
    clear hwd
    go_wp2_with fail
    have L := dw.lies_new w1 y (q : Int) d h i s
    have b2 := b1.trans ((bel_box w1 (.cells #[.int .i64 y, .int .i64 (q : Int), .int .i64 d, .int .i64 h, .int .i64 i, .int .i64 s] 99)).mono b1.size)
    generalize w1.alloc _ = W at L b2 ⊢
    have hW := td.keep' hT b2
    have hWW := td.keepS hTW b2
    have hWN := td.keepS hTN b2
    have HF : Hid (∀ x : Ext W, Calls Tryz.prog 51 #[.int .i64 y] (gw x) fun e w' => e = .returned (.string ⟨(four y).toArray⟩) ∧ Below (gw x).heap.size (gw x) w') := fun x => impl_four y (by omega) (by omega) _ (td.keep' hW (gw_below x))
    have d0 : 0 ≤ d := by omega
    have d9 : d ≤ 99 := by omega
    have HC : Hid (∀ W, Calls Tryz.prog 93 #[C6 y (q : Int) d h i s] W fun e w' => e = .returned (.string ⟨(clk h i s).toArray⟩) ∧ Below W.heap.size W w') := fun W => impl_clk y (q : Int) d h i s (by omega) (by omega) (by omega) (by omega) (by omega) (by omega) W
    unfold C6 at HC
    have HL : Hid (dw.Lies W w1.heap.size y (q : Int) d h i s) := L
    have ne := ext_some W
    have l2 := two_len
    have l4 := four_len
    have l8 := clk_len
    have l3 := wkn_len ha7
    have l3m := mtn_len (m := q) (by omega) (by omega)
    have i0 : (0 : Int) ≤ (a : Int) := by omega
    have i1 : (a : Int) < 7 := by omega
    have j0 : (0 : Int) ≤ (q : Int) := by omega
    have j1 : (q : Int) < 13 := by omega
    have cw := fun x : Ext W => gw_cell x (wk_cell hWW ha7)
    have cm := fun x : Ext W => gw_cell x (mt_cell hWN (m := q) (by omega))
    have c0 := fun x : Ext W => gw_cell x L.c0
    have c1 := fun x : Ext W => gw_cell x L.c1
    have c2 := fun x : Ext W => gw_cell x L.c2
    clear L b1 hT hW hTW hTN hWW hWN
    refine region_lit (by kernel_rfl) (by kernel_rfl) ?_
    repeat (go_big_quiet_step ((first | (go_at_call 51; exact grow_of (HF.out _)) | (go_at_call 92; exact grow_of (impl_two _ (by assumption) (by assumption) _)))))
    refine wpQuiet_nil ?_
    rintro W' ⟨x, rfl⟩
    have L := HL.out.below (gw_below x)
    have b3 := b2.trans ((gw_below x).mono b2.size)
    generalize gw x = W' at L b3 ⊢
    clear c0 c1 c2 cw cm ne HF HL b2
    have c0 := L.c0
    have c1 := L.c1
    have c2 := L.c2
    have c3 := L.c3
    have c4 := L.c4
    have c5 := L.c5
    clear L
    go_wp2_with fail
    refine (HC.out _).mono ?_
    rintro e w5 ⟨rfl, b5⟩
    have b6 := b3.trans (b5.mono b3.size)
    clear b3 b5 HC c0 c1 c2 c3 c4 c5
    go_wp2
    go_ret2
    refine ⟨?_, b6⟩
    unfold f82
    simp only [← app]
    rfl
end Go.Proofs.YtadfdfmebdcfgaaGreatDoor.dx

namespace Go.Proofs.YtadfdfmebdcfgaaGreatDoor.dx
open Go.RowKit
open dt gr
set_option linter.unusedVariables false
set_option maxHeartbeats 4000000 in
set_option maxRecDepth 100000 in
theorem spec_f82 (n : Int) (n0 : 0 ≤ n) (n1 : n ≤ 4102444799) (w : World) : Calls Tryz.prog 60 #[.int .i64 n] w fun e w' => e = .returned (.string ⟨(t82 n).toArray⟩) ∧ Below w.heap.size w w' := by
  have hok := civ_ok n0 n1
  have hx : Hid (∀ w, Calls Tryz.prog 112 #[.int .i64 n] w fun e w' => e = .returned (C6 (yr n) (mn n) (dy n) (hr n) (dt.mt n) (sc n)) ∧ Below w.heap.size w w') := fun w => dw.spec_civ n n0 n1 w
  unfold t82
  have ha : (n / 86400 + 4) % 7 = ((wkd n : Nat) : Int) := by unfold wkd; omega
  have ha7 : wkd n < 7 := by unfold wkd; omega
  obtain ⟨q, hq⟩ : ∃ q : Nat, mn n = (q : Int) := ⟨(mn n).toNat, by have := hok.2.2.1; omega⟩
  rw [hq] at hx hok ⊢
  rw [Int.toNat_natCast]
  generalize yr n = y, dy n = d, hr n = h, dt.mt n = i, sc n = s, wkd n = a at hx hok ha ha7 ⊢
  clear hq
  obtain ⟨k1, k2, k3, k4, k5, k6, k7, k8, k9, k10, k11, k12⟩ := hok
  have k13 := dm_pos y (q : Int)
  go_enter Tryz.func60, Tryz.ntmps60
  go_wp2_with fail
  refine (hx.out _).mono ?_
  rintro e w1 ⟨rfl, b1⟩
  unfold C6
  clear hx
  go_wp2_with fail
  have L := dw.lies_new w1 y (q : Int) d h i s
  have b2 := b1.trans ((bel_box w1 (.cells #[.int .i64 y, .int .i64 (q : Int), .int .i64 d, .int .i64 h, .int .i64 i, .int .i64 s] 99)).mono b1.size)
  generalize w1.alloc _ = W at L b2 ⊢
  have HF : Hid (∀ W, Calls Tryz.prog 61 #[.int .i64 y] W fun e w' => e = .returned (.string ⟨(four y).toArray⟩) ∧ Below W.heap.size W w') := fun W => spec_four y (by omega) (by omega) W
  have HW : Hid (∀ W, Calls Tryz.prog 79 #[.int .i64 ((n / 86400 + 4) % 7)] W fun e w' => e = .returned (.string ⟨(wkn a).toArray⟩) ∧ Below W.heap.size W w') := fun W => by rw [ha]; exact spec_wkn a ha7 W
  have HM : Hid (∀ W, Calls Tryz.prog 81 #[.int .i64 (q : Int)] W fun e w' => e = .returned (.string ⟨(mtn q).toArray⟩) ∧ Below W.heap.size W w') := fun W => spec_mtn q (by omega) (by omega) W
  have d0 : 0 ≤ d := by omega
  have d9 : d ≤ 99 := by omega
  have HC : Hid (∀ W, Calls Tryz.prog 114 #[C6 y (q : Int) d h i s] W fun e w' => e = .returned (.string ⟨(clk h i s).toArray⟩) ∧ Below W.heap.size W w') := fun W => spec_clk y (q : Int) d h i s (by omega) (by omega) (by omega) (by omega) (by omega) (by omega) W
  unfold C6 at HC
  have ne := ext_some W
  have l2 := two_len
  have l4 := four_len
  have l8 := clk_len
  have l3 := wkn_len ha7
  have l3m := mtn_len (m := q) (by omega) (by omega)
  have c0 := fun x : Ext W => gw_cell x L.c0
  have c1 := fun x : Ext W => gw_cell x L.c1
  have c2 := fun x : Ext W => gw_cell x L.c2
  have c3 := fun x : Ext W => gw_cell x L.c3
  have c4 := fun x : Ext W => gw_cell x L.c4
  have c5 := fun x : Ext W => gw_cell x L.c5
  clear L b1 ha
  refine region_lit (by kernel_rfl) (by kernel_rfl) ?_
  repeat (go_big_quiet_step ((first | (go_at_call 61; exact grow_of (HF.out _)) | (go_at_call 113; exact grow_of (spec_two _ (by assumption) (by assumption) _)) | (go_at_call 79; exact grow_of (HW.out _)) | (go_at_call 81; exact grow_of (HM.out _)) | (go_at_call 114; exact grow_of (HC.out _)))))
  refine wpQuiet_nil ?_
  rintro W' ⟨x, rfl⟩
  have b3 := b2.trans ((gw_below x).mono b2.size)
  generalize gw x = W' at b3 ⊢
  clear c0 c1 c2 c3 c4 c5 ne HF HW HM HC b2
  go_wp2
  go_ret
  refine ⟨?_, b3⟩
  unfold f82
  simp only [← app]
  rfl

end Go.Proofs.YtadfdfmebdcfgaaGreatDoor.dx

namespace Go.Proofs.YtadfdfmebdcfgaaGreatDoor.dx
open Go.RowKit
open gr
set_option linter.unusedVariables false

set_option maxHeartbeats 2000000 in
set_option maxRecDepth 100000 in
theorem digs_more (n : Int) (h0 : 10 ≤ n) (h1 : n ≤ 9999999999) (l : List UInt8) (hl : l.length ≤ 40) (ih : ∀ w, Calls Tryz.prog 61 #[.int .i64 (n / 10)] w fun e w' => e = .returned (.string ⟨l.toArray⟩) ∧ Below w.heap.size w w') (w : World) :
    Calls Tryz.prog 61 #[.int .i64 n] w fun e w' => e = .returned (.string ⟨(l ++ [dg (n % 10)]).toArray⟩) ∧ Below w.heap.size w w' := by
  have hz : ((dg (n % 10)).toNat : Int) = 48 + n % 10 := dg_nat (by omega) (by omega)
  have HZ : Hid (((dg (n % 10)).toNat : Int) = 48 + n % 10) := hz
  have cv := conv_oneD w hz
  clear hz
  have IH : Hid (∀ w, Calls Tryz.prog 61 #[.int .i64 (n / 10)] w fun e w' => e = .returned (.string ⟨l.toArray⟩) ∧ Below w.heap.size w w') := ih
  clear ih
  have d1 : (n == -9223372036854775808) = false := beq_eq_false_iff_ne.2 (by omega)
  have hs : (9223372036854775807 < l.length + 1) = False := eq_false (by omega)
  have e0 : n.tdiv 10 = n / 10 := Int.tdiv_eq_ediv_of_nonneg (by omega)
  have e00 : n.tmod 10 = n % 10 := Int.tmod_eq_emod_of_nonneg (by omega)
  have e1 : IntKind.i64.wrap (n / 10) = n / 10 := by rw [IntKind.wrap_i64]; omega
  have e2 : IntKind.i64.wrap (n % 10) = n % 10 := by rw [IntKind.wrap_i64]; omega
  have e3 : IntKind.i64.wrap (48 + n % 10) = 48 + n % 10 := by rw [IntKind.wrap_i64]; omega
  have e4 : IntKind.u8.wrap (48 + n % 10) = 48 + n % 10 := by rw [IntKind.wrap_u8]; omega
  go_enter Tryz.func61, Tryz.ntmps61
  go_wp2_with fail
  go_region_with (go_at_call 61; refine (IH.out _).mono ?_; rintro e w1 ⟨rfl, b1⟩; have cw := conv_one w1 (z := 48 + n % 10) (b := dg (n % 10)) HZ.out; first | (have ck := conv_keptD (w := w) (z := 48 + n % 10) (b := dg (n % 10)) HZ.out b1) | skip)
  all_goals go_wp2
  all_goals go_ret
  all_goals refine ⟨by rw [← app]; rfl, ?_⟩
  all_goals first
    | exact belA b1
    | exact belB b1

theorem dec_len : ∀ (k n : Nat), n < 10 ^ (k + 1) → (Lib.decDigits n).length ≤ k + 1
  | 0, n, h => by
    rw [Lib.decDigits, dif_pos (by omega)]
    simp
  | k + 1, n, h => by
    rw [Lib.decDigits]
    by_cases h9 : n < 10
    · rw [dif_pos h9]; simp
    · rw [dif_neg h9, List.length_append]
      have := dec_len k (n / 10) (by rw [Nat.pow_succ] at h; omega)
      simp
      exact this
theorem spec_digs : ∀ (k n : Nat), n < 10 ^ (k + 1) → k ≤ 9 → ∀ w : World, Calls Tryz.prog 61 #[.int .i64 (n : Int)] w fun e w' => e = .returned (.string ⟨(Lib.decDigits n).toArray⟩) ∧ Below w.heap.size w w'
  | 0, n, h, _, w => by
    have := digs_one (n : Int) (by omega) (by omega) w
    rw [Lib.decDigits, dif_pos (by omega)]
    exact this
  | k + 1, n, h, hk, w => by
    by_cases h9 : n < 10
    · have := digs_one (n : Int) (by omega) (by omega) w
      rw [Lib.decDigits, dif_pos h9]
      exact this
    · have hp : n / 10 < 10 ^ (k + 1) := by rw [Nat.pow_succ] at h; omega
      have hl := dec_len k (n / 10) hp
      have h10 : n ≤ 9999999999 := by
        have : 10 ^ (k + 1 + 1) ≤ 10 ^ 10 := Nat.pow_le_pow_right (by omega) (by omega)
        have e : (10 : Nat) ^ 10 = 10000000000 := by decide
        omega
      have := digs_more (n : Int) (by omega) (by omega) (Lib.decDigits (n / 10)) (by omega) (fun w => by
        have := spec_digs k (n / 10) hp (by omega) w
        rw [show ((n / 10 : Nat) : Int) = (n : Int) / 10 from by omega] at this
        exact this) w
      rw [Lib.decDigits, dif_neg h9]
      have e : dg ((n : Int) % 10) = UInt8.ofNat (48 + n % 10) := by
        unfold dg
        congr 1
      rw [e] at this
      exact this
end Go.Proofs.YtadfdfmebdcfgaaGreatDoor.dx

namespace Go.Proofs.YtadfdfmebdcfgaaGreatDoor.nm
open Go.RowKit
set_option linter.unusedVariables false

def letB (c : Int) : Bool := decide (97 ≤ c ∧ c ≤ 122 ∨ 65 ≤ c ∧ c ≤ 90 ∨ c = 95)
def digB (c : Int) : Bool := decide (48 ≤ c ∧ c ≤ 57)

theorem ret_bool {a b : Bool} (h : a = b) : Ending.returned (.bool a) = .returned (.bool b) := by rw [h]

set_option maxHeartbeats 400000 in
theorem begins_any (c : Int) (w : World) : Calls Tryz.prog 44 #[.int .u8 c] w fun e w' => e = .returned (.bool (letB c)) ∧ w' = w := by
  go_enter Tryz.func44, Tryz.ntmps44
  go_wp2
  all_goals (go_ret; exact ⟨ret_bool (by rw [Bool.eq_iff_iff]; simp [letB]; omega), rfl⟩)

set_option maxHeartbeats 400000 in
theorem letter_any (c : Int) (w : World) : Calls Tryz.prog 108 #[.int .u8 c] w fun e w' => e = .returned (.bool (letB c)) ∧ w' = w := by
  go_enter Tryz.func108, Tryz.ntmps108
  go_wp2
  all_goals (go_ret; exact ⟨ret_bool (by rw [Bool.eq_iff_iff]; simp [letB]; omega), rfl⟩)

set_option maxHeartbeats 400000 in
theorem isDigit_any (c : Int) (w : World) : Calls Tryz.prog 45 #[.int .u8 c] w fun e w' => e = .returned (.bool (digB c)) ∧ w' = w := by
  go_enter Tryz.func45, Tryz.ntmps45
  go_wp2
  all_goals (go_ret; exact ⟨ret_bool (by simp [digB]; omega), rfl⟩)

set_option maxHeartbeats 400000 in
theorem digit_any (c : Int) (w : World) : Calls Tryz.prog 109 #[.int .u8 c] w fun e w' => e = .returned (.bool (digB c)) ∧ w' = w := by
  go_enter Tryz.func109, Tryz.ntmps109
  go_wp2
  all_goals (go_ret; exact ⟨ret_bool (by simp [digB]; omega), rfl⟩)

/-- The byte at a place may stand there in a name. -/
def good (s : ByteArray) (j : Nat) : Prop := ∃ h : j < s.size, letB ((s[j]'h).toNat : Int) = true ∨ (0 < j ∧ digB ((s[j]'h).toNat : Int) = true)
/-- A text is a name. -/
def IsName (s : ByteArray) : Prop := 1 ≤ s.size ∧ s.size ≤ 40 ∧ ∀ j, j < s.size → good s j

/-- What a call on a name answers: a bool that says whether it is one. -/
def NameRet (s : ByteArray) (e : Ending) : Prop := ∃ b : Bool, e = .returned (.bool b) ∧ (b = true ↔ IsName s)

theorem not_name {s : ByteArray} {k : Nat} (h : k < s.size) (hl : ¬ letB ((s[k]'h).toNat : Int) = true) (hd : k = 0 ∨ digB ((s[k]'h).toNat : Int) = false) : NameRet s (.returned (.bool false)) := by
  refine ⟨false, rfl, ?_⟩
  constructor
  · intro x; cases x
  · rintro ⟨_, _, hg⟩
    obtain ⟨h', hx⟩ := hg k h
    rcases hx with hx | ⟨hp, hx⟩
    · exact absurd hx hl
    · rcases hd with rfl | hd
      · omega
      · rw [hd] at hx; cases hx
theorem no_size {s : ByteArray} (h : s.size = 0 ∨ 40 < s.size) : NameRet s (.returned (.bool false)) :=
  ⟨false, rfl, ⟨fun x => (by cases x), fun x => (by have h1 := x.1; have h2 := x.2.1; omega)⟩⟩
theorem yes_name {s : ByteArray} (h1 : 1 ≤ s.size) (h2 : s.size ≤ 40) (hg : ∀ j, j < s.size → good s j) : NameRet s (.returned (.bool true)) :=
  ⟨true, rfl, ⟨fun _ => ⟨h1, h2, hg⟩, fun _ => rfl⟩⟩
theorem step {s : ByteArray} {k : Nat} (hg : ∀ j, j < k → good s j) (h : k < s.size) (hx : letB ((s[k]'h).toNat : Int) = true ∨ (0 < k ∧ digB ((s[k]'h).toNat : Int) = true)) : ∀ j, j < k + 1 → good s j := by
  intro j hj
  by_cases e : j = k
  · subst e; exact ⟨h, hx⟩
  · exact hg j (by omega)
theorem ret_ex {s : ByteArray} {e : Ending} (h : NameRet s e) : ∃ b : Bool, e = .returned (.bool b) := ⟨h.choose, h.choose_spec.1⟩

set_option maxHeartbeats 1000000 in
theorem implName_any (s : ByteArray) (w : World) (hs : s.size ≤ 1048576) :
    Calls Tryz.prog 18 #[.string s] w fun e w' => NameRet s e ∧ w' = w := by
  by_cases h0 : s.size = 0
  · have b0 : ((s.size : Int) == 0) = true := beq_iff_eq.2 (by omega)
    go_enter Tryz.func18, Tryz.ntmps18
    go_wp2
    go_ret
    exact ⟨no_size (.inl h0), rfl⟩
  have b0 : ((s.size : Int) == 0) = false := beq_eq_false_iff_ne.2 (by omega)
  by_cases h4 : 40 < s.size
  · have h4' : (40 : Int) < (s.size : Int) := by omega
    go_enter Tryz.func18, Tryz.ntmps18
    go_wp2
    go_ret
    exact ⟨no_size (.inr h4), rfl⟩
  have h4' : (s.size : Int) ≤ 40 := by omega
  go_enter Tryz.func18, Tryz.ntmps18
  go_wp2
  go_loop [14] (fun i => ∃ k : Nat, k ≤ s.size ∧ i = .int .i64 k ∧ ∀ j, j < k → good s j) (fun i => s.size - (intOf i).toNat)
  case atStart => exact ⟨0, Nat.zero_le _, rfl, fun j hj => absurd hj (Nat.not_lt_zero _)⟩
  case round =>
    obtain ⟨k, hk, rfl, hg⟩ := hrel
    have HG : Hid (∀ j, j < k → good s j) := hg
    clear hg
    by_cases hlt : k < s.size
    · go_wp2_with (first | (go_at_call 44; refine (begins_any _ _).mono ?_; rintro e w' ⟨rfl, rfl⟩) | (go_at_call 45; refine (isDigit_any _ _).mono ?_; rintro e w' ⟨rfl, rfl⟩))
      · go_round
        case rel => exact ⟨k + 1, by omega, by go_num, step HG.out hlt (.inl ‹_›)⟩
        case measure => simp [intOf]; omega
      · go_ret
        exact ⟨not_name hlt ‹_› (.inl ‹_›), rfl⟩
      · go_ret
        exact ⟨not_name hlt ‹_› (by rename_i h; simp at h; omega), rfl⟩
      · go_round
        case rel => exact ⟨k + 1, by omega, by go_num, step HG.out hlt (.inr ⟨by omega, by rename_i h; simpa using h.2⟩)⟩
        case measure => simp [intOf]; omega
    · go_wp2
      go_ret
      exact ⟨yes_name (by omega) (by omega) (fun j hj => HG.out j (by omega)), rfl⟩

set_option maxHeartbeats 1000000 in
theorem word_any (s : ByteArray) (w : World) (hs : s.size ≤ 1048576) :
    Calls Tryz.prog 57 #[.string s] w fun e w' => NameRet s e ∧ w' = w := by
  by_cases h0 : s.size = 0
  · have b0 : (s.size : Int) < 1 := by omega
    go_enter Tryz.func57, Tryz.ntmps57
    go_wp2
    go_ret
    exact ⟨no_size (.inl h0), rfl⟩
  have b0 : (1 : Int) ≤ (s.size : Int) := by omega
  by_cases h4 : 40 < s.size
  · have h4' : (40 : Int) < (s.size : Int) := by omega
    go_enter Tryz.func57, Tryz.ntmps57
    go_wp2
    go_ret
    exact ⟨no_size (.inr h4), rfl⟩
  have h4' : (s.size : Int) ≤ 40 := by omega
  have hp : 0 < s.size := by omega
  by_cases hl0 : letB ((s[0]'hp).toNat : Int) = true
  case neg =>
    go_enter Tryz.func57, Tryz.ntmps57
    go_wp2_with (go_at_call 108; refine (letter_any _ _).mono ?_; rintro e w' ⟨rfl, rfl⟩)
    go_ret
    exact ⟨not_name hp hl0 (.inl rfl), rfl⟩
  have HL : Hid (letB ((s[0]'hp).toNat : Int) = true) := hl0
  go_enter Tryz.func57, Tryz.ntmps57
  go_wp2_with (go_at_call 108; refine (letter_any _ _).mono ?_; rintro e w' ⟨rfl, rfl⟩)
  go_loop [3] (fun i => ∃ k : Nat, 1 ≤ k ∧ k ≤ s.size ∧ i = .int .i64 k ∧ ∀ j, j < k → good s j) (fun i => s.size - (intOf i).toNat)
  case atStart => exact ⟨1, Nat.le_refl _, hp, rfl, step (k := 0) (fun j hj => absurd hj (Nat.not_lt_zero _)) hp (.inl HL.out)⟩
  case round =>
    obtain ⟨k, hk1, hk, rfl, hg⟩ := hrel
    have HG : Hid (∀ j, j < k → good s j) := hg
    clear hg
    by_cases hlt : k < s.size
    · go_wp2_with (first | (go_at_call 108; refine (letter_any _ _).mono ?_; rintro e w' ⟨rfl, rfl⟩) | (go_at_call 109; refine (digit_any _ _).mono ?_; rintro e w' ⟨rfl, rfl⟩))
      · go_round
        case rel => exact ⟨k + 1, by omega, by omega, by go_num, step HG.out hlt (.inl ‹_›)⟩
        case measure => simp [intOf]; omega
      · go_ret
        exact ⟨not_name hlt ‹_› (by rename_i h; simp at h; exact .inr h), rfl⟩
      · go_round
        case rel => exact ⟨k + 1, by omega, by omega, by go_num, step HG.out hlt (.inr ⟨by omega, by rename_i h; simpa using h⟩)⟩
        case measure => simp [intOf]; omega
    · go_wp2
      go_ret
      exact ⟨yes_name (by omega) (by omega) (fun j hj => HG.out j (by omega)), rfl⟩

theorem specName_any (s : ByteArray) (w : World) (hs : s.size ≤ 1048576) :
    Calls Tryz.prog 22 #[.string s] w fun e w' => NameRet s e ∧ w' = w := by
  go_enter Tryz.func22, Tryz.ntmps22
  go_wp2_with fail
  refine (word_any s _ hs).mono ?_
  rintro e w' ⟨hn, rfl⟩
  obtain ⟨b, rfl⟩ := ret_ex hn
  go_wp2
  go_ret
  exact ⟨hn, rfl⟩
end Go.Proofs.YtadfdfmebdcfgaaGreatDoor.nm
