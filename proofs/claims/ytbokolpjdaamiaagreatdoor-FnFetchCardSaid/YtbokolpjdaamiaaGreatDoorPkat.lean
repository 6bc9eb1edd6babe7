/-
  The contract of the specification's CivilOK.
  Contracts of both StampOf functions.
  Contracts of the functions that write a clock.
  Contracts of the specification's digits of a number, and of strconv.Itoa at a year.
  Contracts of both CivilOf functions.
-/
import Derived.Test.YtbokolpjdaamiaaGreatDoorPkas
import Derived.Deep.RegionWith
import Derived.Lib.ItoaMem

namespace Go.Proofs.YtbokolpjdaamiaaGreatDoor.dw
open Go.RowKit
open dt
set_option linter.unusedVariables false

theorem in_if {n a b : Int} {x : Bool} (h : inB n a b = x) (w : World) : Calls Tryz.prog 20 #[.int .i64 n, .int .i64 a, .int .i64 b] w fun e w' => e = .returned (.bool x) ∧ w' = w := by
  subst h
  exact in_any n a b w
end Go.Proofs.YtbokolpjdaamiaaGreatDoor.dw

namespace Go.Proofs.YtbokolpjdaamiaaGreatDoor.dw
open Go.RowKit
open dt
set_option linter.unusedVariables false

/-- A calendar lies in a block. -/
def Lies (w : World) (b : Nat) (y m d h i s : Int) : Prop := w.heap[b]? = some (.cells #[.int .i64 y, .int .i64 m, .int .i64 d, .int .i64 h, .int .i64 i, .int .i64 s] 78)
section
variable {w w' : World} {b : Nat} {y m d h i s : Int}
theorem Lies.c0 (L : Lies w b y m d h i s) : w.cell? ⟨b, 0, none⟩ = some (.int .i64 y) := by rw [cell_of_row _ _ _ _ _ _ L]; rfl
theorem Lies.c1 (L : Lies w b y m d h i s) : w.cell? ⟨b, 0 + 1, none⟩ = some (.int .i64 m) := by rw [cell_of_row _ _ _ _ _ _ L]; rfl
theorem Lies.c2 (L : Lies w b y m d h i s) : w.cell? ⟨b, 0 + 2, none⟩ = some (.int .i64 d) := by rw [cell_of_row _ _ _ _ _ _ L]; rfl
theorem Lies.c3 (L : Lies w b y m d h i s) : w.cell? ⟨b, 0 + 3, none⟩ = some (.int .i64 h) := by rw [cell_of_row _ _ _ _ _ _ L]; rfl
theorem Lies.c4 (L : Lies w b y m d h i s) : w.cell? ⟨b, 0 + 4, none⟩ = some (.int .i64 i) := by rw [cell_of_row _ _ _ _ _ _ L]; rfl
theorem Lies.c5 (L : Lies w b y m d h i s) : w.cell? ⟨b, 0 + 5, none⟩ = some (.int .i64 s) := by rw [cell_of_row _ _ _ _ _ _ L]; rfl
theorem lies_new (w : World) (y m d h i s : Int) : Lies (w.alloc (.cells #[.int .i64 y, .int .i64 m, .int .i64 d, .int .i64 h, .int .i64 i, .int .i64 s] 78)) w.heap.size y m d h i s := by
  show (w.heap.push _)[w.heap.size]? = _
  simp
theorem Lies.below (L : Lies w b y m d h i s) (hb : Below w.heap.size w w') : Lies w' b y m d h i s := by
  have hlt : b < w.heap.size := (Array.getElem?_eq_some_iff.1 L).1
  exact (hb.block b hlt).trans L
end


/-- A stamp and its code, in new memory alone. -/
def StOf (y m d h i s : Int) (w : World) (e : Ending) (w' : World) : Prop :=
  Below w.heap.size w w' ∧ ((Ok y m d h i s ∧ e = .returned (.tuple #[.int .i64 (st y m d h i s), .int .i64 0])) ∨ (¬ Ok y m d h i s ∧ e = .returned (.tuple #[.int .i64 0, .int .i64 1])))

theorem st_ex {y m d h i s : Int} {w w' : World} {e : Ending} (k : StOf y m d h i s w e w') : ∃ a c : Int, e = .returned (.tuple #[.int .i64 a, .int .i64 c]) := by
  rcases k.2 with ⟨_, e⟩ | ⟨_, e⟩ <;> exact ⟨_, _, e⟩
theorem st_same {y m d h i s a c a' c' : Int} {w w' v v' : World} (k : StOf y m d h i s w (.returned (.tuple #[.int .i64 a, .int .i64 c])) w') (k' : StOf y m d h i s v (.returned (.tuple #[.int .i64 a', .int .i64 c'])) v') : a = a' ∧ c = c' := by
  rcases k.2 with ⟨o, e⟩ | ⟨o, e⟩ <;> rcases k'.2 with ⟨o', e'⟩ | ⟨o', e'⟩
  · cases e; cases e'; exact ⟨rfl, rfl⟩
  · exact absurd o o'
  · exact absurd o' o
  · cases e; cases e'; exact ⟨rfl, rfl⟩
end Go.Proofs.YtbokolpjdaamiaaGreatDoor.dw

namespace Go.Proofs.YtbokolpjdaamiaaGreatDoor.dx
open Go.RowKit
open dt gr
set_option linter.unusedVariables false
/-- A clock's text. -/
def clk (h i s : Int) : List UInt8 := two h ++ [58] ++ two i ++ [58] ++ two s


set_option maxHeartbeats 2000000 in
theorem spec_clk (y m d h i s : Int) (h0 : 0 ≤ h) (h1 : h ≤ 99) (i0 : 0 ≤ i) (i1 : i ≤ 99) (s0 : 0 ≤ s) (s1 : s ≤ 99) (w : World) :
    Calls Tryz.prog 57 #[C6 y m d h i s] w fun e w' => e = .returned (.string ⟨(clk h i s).toArray⟩) ∧ Below w.heap.size w w' := by
  unfold C6
  go_enter Tryz.func57, Tryz.ntmps57
  go_wp2_with fail
  have L := dw.lies_new w y m d h i s
  have b := bel_box w (.cells #[.int .i64 y, .int .i64 m, .int .i64 d, .int .i64 h, .int .i64 i, .int .i64 s] 78)
  generalize w.alloc _ = W at L b ⊢
  have ne := ext_some W
  have l2 : ∀ n, (two n).length = 2 := fun _ => rfl
  have c3 := fun x : Ext W => gw_cell x L.c3
  have c4 := fun x : Ext W => gw_cell x L.c4
  have c5 := fun x : Ext W => gw_cell x L.c5
  clear L
  refine region_lit (by kernel_rfl) (by kernel_rfl) ?_
  repeat (go_big_quiet_step ((first | (go_at_call 55; exact grow_of (spec_two _ (by assumption) (by assumption) _)))))
  refine wpQuiet_nil ?_
  rintro W' ⟨x, rfl⟩
  have b2 := b.trans ((gw_below x).mono b.size)
  generalize gw x = W' at b2 ⊢
  clear c3 c4 c5 ne l2
  go_wp2
  go_ret
  refine ⟨?_, b2⟩
  unfold clk
  simp only [← app]
  rfl
end Go.Proofs.YtbokolpjdaamiaaGreatDoor.dx

namespace Go.Proofs.YtbokolpjdaamiaaGreatDoor.dx
open Go.RowKit
open gr
set_option linter.unusedVariables false

theorem belA {w w1 : World} {o : Obj} (b1 : Below w.drew.heap.size w.drew w1) : Below w.heap.size w (w1.alloc o) := ((Below.refl _ w).drew.trans b1).alloc b1.size _
theorem belB {w w1 : World} {o : Obj} (b1 : Below (w.alloc o).drew.heap.size (w.alloc o).drew w1) : Below w.heap.size w w1 := (bel_box w o).drew.trans (b1.mono (by show w.heap.size ≤ (w.heap.push o).size; simp))
theorem conv_at (w : World) (g : Nat) (l : List UInt8) (cs : Array Value) (h : cs.toList = l.map fun b => Value.int .u8 (b.toNat : Int)) (hg : w.heap[g]? = some (.cells cs 5)) :
    (convert 22 9 (.slice (some ⟨g, 0, none⟩) l.length l.length)).run Tryz.prog w = .ok (.string ⟨l.toArray⟩) w := by
  refine run_convert_bytes_back _ 22 9 5 ⟨g, 0, none⟩ l.length l Tryz.underlying22 Tryz.underlying5 Tryz.underlying9 (fun j hj => ?_)
  rw [ow.add_at, cell_of_row w g j _ _ _ hg, ← Array.getElem?_toList, h]
  simp [hj]
theorem conv_kept {w w1 : World} {z : Int} {b : UInt8} (hz : (b.toNat : Int) = z) (hb : Below (w.alloc (.cells #[.int .u8 z] 5)).heap.size (w.alloc (.cells #[.int .u8 z] 5)) w1) :
    (convert 22 9 (.slice (some ⟨w.heap.size, 0, none⟩) 1 1)).run Tryz.prog w1 = .ok (.string ⟨#[b]⟩) w1 := by
  refine conv_at w1 w.heap.size [b] #[.int .u8 z] (by rw [← hz]; rfl) ?_
  rw [hb.block w.heap.size (by simp)]
  show (w.heap.push _)[w.heap.size]? = _
  simp
theorem conv_one (w : World) {z : Int} {b : UInt8} (hz : (b.toNat : Int) = z) :
    (convert 22 9 (.slice (some ⟨w.heap.size, 0, none⟩) 1 1)).run Tryz.prog (w.alloc (.cells #[.int .u8 z] 5)) = .ok (.string ⟨#[b]⟩) (w.alloc (.cells #[.int .u8 z] 5)) :=
  conv_new w [b] #[.int .u8 z] (by rw [← hz]; rfl)

theorem conv_oneD (w : World) {z : Int} {b : UInt8} (hz : (b.toNat : Int) = z) :
    (convert 22 9 (.slice (some ⟨w.heap.size, 0, none⟩) 1 1)).run Tryz.prog (w.alloc (.cells #[.int .u8 z] 5)).drew = .ok (.string ⟨#[b]⟩) (w.alloc (.cells #[.int .u8 z] 5)).drew := by
  refine conv_at (w.alloc (.cells #[.int .u8 z] 5)).drew w.heap.size [b] #[.int .u8 z] (by rw [← hz]; rfl) ?_
  show (w.heap.push _)[w.heap.size]? = _
  simp
theorem conv_keptD {w w1 : World} {z : Int} {b : UInt8} (hz : (b.toNat : Int) = z) (hb : Below (w.alloc (.cells #[.int .u8 z] 5)).drew.heap.size (w.alloc (.cells #[.int .u8 z] 5)).drew w1) :
    (convert 22 9 (.slice (some ⟨w.heap.size, 0, none⟩) 1 1)).run Tryz.prog w1 = .ok (.string ⟨#[b]⟩) w1 := by
  refine conv_at w1 w.heap.size [b] #[.int .u8 z] (by rw [← hz]; rfl) ?_
  rw [hb.block w.heap.size (by show w.heap.size < (w.heap.push _).size; simp)]
  show (w.heap.push _)[w.heap.size]? = _
  simp
set_option maxHeartbeats 1000000 in
set_option maxRecDepth 100000 in
theorem digs_one (n : Int) (h0 : 0 ≤ n) (h1 : n ≤ 9) (w : World) : Calls Tryz.prog 28 #[.int .i64 n] w fun e w' => e = .returned (.string ⟨#[dg n]⟩) ∧ Below w.heap.size w w' := by
  have cv := conv_one w (dg_nat h0 h1)
  have d1 : (n == -9223372036854775808) = false := beq_eq_false_iff_ne.2 (by omega)
  go_enter Tryz.func28, Tryz.ntmps28
  go_wp2
  go_ret
  exact ⟨rfl, bel_box _ _⟩

set_option maxHeartbeats 2000000 in
set_option maxRecDepth 100000 in
theorem digs_step (n : Int) (h0 : 10 ≤ n) (h1 : n ≤ 99999) (l : List UInt8) (hl : l.length ≤ 4) (ih : ∀ w, Calls Tryz.prog 28 #[.int .i64 (n / 10)] w fun e w' => e = .returned (.string ⟨l.toArray⟩) ∧ Below w.heap.size w w') (w : World) :
    Calls Tryz.prog 28 #[.int .i64 n] w fun e w' => e = .returned (.string ⟨(l ++ [dg (n % 10)]).toArray⟩) ∧ Below w.heap.size w w' := by
  have hz : ((dg (n % 10)).toNat : Int) = 48 + n % 10 := dg_nat (by omega) (by omega)
  have HZ : Hid (((dg (n % 10)).toNat : Int) = 48 + n % 10) := hz
  have cv := conv_oneD w hz
  clear hz
  have IH : Hid (∀ w, Calls Tryz.prog 28 #[.int .i64 (n / 10)] w fun e w' => e = .returned (.string ⟨l.toArray⟩) ∧ Below w.heap.size w w') := ih
  clear ih
  have d1 : (n == -9223372036854775808) = false := beq_eq_false_iff_ne.2 (by omega)
  have hs : (9223372036854775807 < l.length + 1) = False := eq_false (by omega)
  have e0 : n.tdiv 10 = n / 10 := Int.tdiv_eq_ediv_of_nonneg (by omega)
  have e00 : n.tmod 10 = n % 10 := Int.tmod_eq_emod_of_nonneg (by omega)
  have e1 : IntKind.i64.wrap (n / 10) = n / 10 := by rw [IntKind.wrap_i64]; omega
  have e2 : IntKind.i64.wrap (n % 10) = n % 10 := by rw [IntKind.wrap_i64]; omega
  have e3 : IntKind.i64.wrap (48 + n % 10) = 48 + n % 10 := by rw [IntKind.wrap_i64]; omega
  have e4 : IntKind.u8.wrap (48 + n % 10) = 48 + n % 10 := by rw [IntKind.wrap_u8]; omega
  go_enter Tryz.func28, Tryz.ntmps28
  go_wp2_with fail
  go_region_with (go_at_call 28; refine (IH.out _).mono ?_; rintro e w1 ⟨rfl, b1⟩; have cw := conv_one w1 (z := 48 + n % 10) (b := dg (n % 10)) HZ.out; first | (have ck := conv_keptD (w := w) (z := 48 + n % 10) (b := dg (n % 10)) HZ.out b1) | skip)
  all_goals go_wp2
  all_goals go_ret
  all_goals refine ⟨by rw [← app]; rfl, ?_⟩
  all_goals first
    | exact belA b1
    | exact belB b1

/-- A year's digits. -/
def four (y : Int) : List UInt8 := [dg (y / 1000), dg (y / 100 % 10), dg (y / 10 % 10), dg (y % 10)]
theorem spec_four (y : Int) (h0 : 1000 ≤ y) (h1 : y ≤ 9999) (w : World) : Calls Tryz.prog 28 #[.int .i64 y] w fun e w' => e = .returned (.string ⟨(four y).toArray⟩) ∧ Below w.heap.size w w' := by
  have a := fun w => digs_one (y / 10 / 10 / 10) (by omega) (by omega) w
  have b := fun w => digs_step (y / 10 / 10) (by omega) (by omega) [dg (y / 10 / 10 / 10)] (by simp) a w
  have c := fun w => digs_step (y / 10) (by omega) (by omega) ([dg (y / 10 / 10 / 10)] ++ [dg (y / 10 / 10 % 10)]) (by simp) b w
  have d := digs_step y (by omega) (by omega) ([dg (y / 10 / 10 / 10)] ++ [dg (y / 10 / 10 % 10)] ++ [dg (y / 10 % 10)]) (by simp) c w
  unfold four
  rw [show y / 1000 = y / 10 / 10 / 10 by omega, show y / 100 = y / 10 / 10 by omega]
  exact d
theorem itoa_four {y : Int} (h0 : 1000 ≤ y) (h1 : y ≤ 9999) : Lib.itoa y = four y := by
  obtain ⟨n, rfl⟩ : ∃ n : Nat, y = (n : Int) := ⟨y.toNat, by omega⟩
  rw [Lib.itoa_nonneg, Lib.decDigits, dif_neg (by omega), Lib.decDigits, dif_neg (by omega), Lib.decDigits, dif_neg (by omega), Lib.decDigits_one (by omega)]
  unfold four dg
  rw [show (48 + (n : Int) / 1000).toNat = 48 + n / 10 / 10 / 10 by omega, show (48 + (n : Int) / 100 % 10).toNat = 48 + n / 10 / 10 % 10 by omega, show (48 + (n : Int) / 10 % 10).toNat = 48 + n / 10 % 10 by omega, show (48 + (n : Int) % 10).toNat = 48 + n % 10 by omega]
  rfl
end Go.Proofs.YtbokolpjdaamiaaGreatDoor.dx

namespace Go.Proofs.YtbokolpjdaamiaaGreatDoor.dw
open Go.RowKit
open dt
set_option linter.unusedVariables false

/-- A calendar and its code, in new memory alone. -/
def cv (n : Int) : Value := if inB n 0 4102444799 then .tuple #[civ n, .int .i64 0] else .tuple #[C6 0 0 0 0 0 0, .int .i64 4]
theorem cv_in {n : Int} (h : inB n 0 4102444799 = true) : cv n = .tuple #[civ n, .int .i64 0] := by simp [cv, h]
theorem cv_out {n : Int} (h : inB n 0 4102444799 = false) : cv n = .tuple #[C6 0 0 0 0 0 0, .int .i64 4] := by simp [cv, h]
theorem cv_form (n : Int) : ∃ y m d h i s c : Int, cv n = .tuple #[C6 y m d h i s, .int .i64 c] := by
  cases e : inB n 0 4102444799
  · exact ⟨_, _, _, _, _, _, _, cv_out e⟩
  · exact ⟨_, _, _, _, _, _, _, cv_in e⟩


/-- The specification's calendar while it is made, behind the result's own place. -/
def wc (w : World) (z m d n : Int) : World := (w.alloc (.cells #[.int .i64 0, .int .i64 0, .int .i64 0, .int .i64 0, .int .i64 0, .int .i64 0] 78)).alloc (.cells #[.int .i64 z, .int .i64 m, .int .i64 d, .int .i64 (n / 3600 % 24), .int .i64 (n / 60 % 60), .int .i64 (n % 60)] 78)
set_option maxHeartbeats 2000000 in
set_option maxRecDepth 100000 in
theorem spec_civ (n : Int) (h1 : 0 ≤ n) (h2 : n ≤ 4102444799) (w : World) : Calls Tryz.prog 53 #[.int .i64 n] w fun e w' => e = .returned (civ n) ∧ Below w.heap.size w w' := by
  go_enter Tryz.func53, Tryz.ntmps53
  go_wp2_with fail
  go_loopw [4] (fun t wr => ∃ z : Int, 1970 ≤ z ∧ yd z ≤ n / 86400 ∧ t = .int .i64 (n / 86400 - yd z) ∧ wr = wc w z 1 0 n) (fun t _ => (intOf t).toNat)
  case atStart => exact ⟨1970, by omega, by rw [yd_first]; omega, by rw [yd_first]; simp, rfl⟩
  case round =>
    obtain ⟨z, z1, z2, rfl, rfl⟩ := hrel
    have z3 : z ≤ 2099 := by unfold yd at z2; omega
    have u3 := lp_01 z
    have hs := yd_step z
    have u1 := yd_pos z1
    unfold wc
    by_cases hlt : 365 + lp z ≤ n / 86400 - yd z
    · go_wp2_with fail
      refine (leap_any z z1 z3 _).mono ?_
      rintro e w' ⟨rfl, rfl⟩
      go_wp2_with fail
      refine (bit_any _ _).mono ?_
      rintro e w' ⟨rfl, rfl⟩
      rw [← lp_bit]
      go_wp2_with fail
      refine (leap_any z z1 z3 _).mono ?_
      rintro e w' ⟨rfl, rfl⟩
      go_wp2_with fail
      refine (bit_any _ _).mono ?_
      rintro e w' ⟨rfl, rfl⟩
      rw [← lp_bit]
      go_wp2
      go_round
      case rel => exact ⟨z + 1, by omega, by omega, by rw [hs]; go_num, rfl⟩
      case measure => simp [intOf]; omega
    · have ez : yr n = z := yr_is h1 z2 (by omega)
      subst ez
      have r1 := rs_lo h1
      have r2 := rs_hi h1
      go_wp2_with fail
      refine (leap_any (yr n) z1 z3 _).mono ?_
      rintro e w' ⟨rfl, rfl⟩
      go_wp2_with fail
      refine (bit_any _ _).mono ?_
      rintro e w' ⟨rfl, rfl⟩
      rw [← lp_bit]
      go_wp2_with fail
      go_loopw [4] (fun t wr => ∃ j : Nat, j ≤ 11 ∧ ms (yr n) j ≤ rs n ∧ t = .int .i64 (rs n - ms (yr n) j) ∧ wr = wc w (yr n) ((j : Int) + 1) 0 n) (fun t _ => (intOf t).toNat)
      case atStart => exact ⟨0, by omega, r1, by simp [rs, ms], rfl⟩
      case round =>
        obtain ⟨j, hj, hm, rfl, rfl⟩ := hrel
        have u3 := ms_pos (yr n) j
        have u4 := ms_le (y := yr n) (show j ≤ 12 by omega)
        have u5 := dm_pos (yr n) ((j : Int) + 1)
        have u6 := lp_01 (yr n)
        unfold wc
        by_cases hlt2 : dm (yr n) ((j : Int) + 1) ≤ rs n - ms (yr n) j
        · have hj' : j + 1 ≤ 11 := by
            rcases Nat.lt_or_ge j 11 with q | q
            · omega
            · obtain rfl : j = 11 := by omega
              have q2 := ms_12 (yr n)
              have q3 : ms (yr n) 12 = ms (yr n) 11 + dm (yr n) (((11 : Nat) : Int) + 1) := rfl
              omega
          go_wp2_with (go_at_call 78; refine (spec_dm (yr n) _ z1 z3 _).mono ?_; rintro e w' ⟨rfl, rfl⟩)
          go_round
          case rel => exact ⟨j + 1, hj', by rw [ms_succ]; omega, by rw [ms_succ]; go_num, rfl⟩
          case measure => simp [intOf]; omega
        · have em : mo (yr n) (rs n) = j := mo_is r1 r2 hm (by rw [ms_succ]; omega)
          have HM : Hid (mo (yr n) (rs n) = j) := em
          clear em
          go_wp2_with (go_at_call 78; refine (spec_dm (yr n) _ z1 z3 _).mono ?_; rintro e w' ⟨rfl, rfl⟩)
          have e : civ n = .agg #[.int .i64 (yr n), .int .i64 ((j : Int) + 1), .int .i64 (rs n - ms (yr n) j + 1), .int .i64 (n / 3600 % 24), .int .i64 (n / 60 % 60), .int .i64 (n % 60)] := by
            unfold civ C6 mn dy
            rw [HM.out]
            rfl
          refine bodyPost_ret (v := .agg #[.int .i64 (yr n), .int .i64 ((j : Int) + 1), .int .i64 (rs n - ms (yr n) j + 1), .int .i64 (n / 3600 % 24), .int .i64 (n / 60 % 60), .int .i64 (n % 60)]) (by simp [results, Tryz.results53, go_sem]) rfl ⟨by rw [e], ?_⟩
          exact (bel_box _ _).alloc (by simp) _

/-- Six stores into a calendar's block. -/
def put6 (w : World) (b : Nat) (y m d h i s : Int) : World :=
  (((((w.setCell ⟨b, 0, none⟩ (.int .i64 y)).setCell ⟨b, 1, none⟩ (.int .i64 m)).setCell ⟨b, 2, none⟩ (.int .i64 d)).setCell ⟨b, 3, none⟩ (.int .i64 h)).setCell ⟨b, 4, none⟩ (.int .i64 i)).setCell ⟨b, 5, none⟩ (.int .i64 s)
theorem put6_lies {w : World} {b : Nat} {y' m' d' h' i' s' y m d h i s : Int} (L : Lies w b y' m' d' h' i' s') : Lies (put6 w b y m d h i s) b y m d h i s :=
  heap_setCell_same _ b 5 _ _ _ (heap_setCell_same _ b 4 _ _ _ (heap_setCell_same _ b 3 _ _ _ (heap_setCell_same _ b 2 _ _ _ (heap_setCell_same _ b 1 _ _ _ (heap_setCell_same _ b 0 _ _ _ L)))))
theorem put6_below {B : Nat} {w0 w : World} {b : Nat} {y m d h i s : Int} (k : Below B w0 w) (hb : B ≤ b) : Below B w0 (put6 w b y m d h i s) :=
  (((((k.setCell (p := ⟨b, 0, none⟩) hb _).setCell (p := ⟨b, 1, none⟩) hb _).setCell (p := ⟨b, 2, none⟩) hb _).setCell (p := ⟨b, 3, none⟩) hb _).setCell (p := ⟨b, 4, none⟩) hb _).setCell (p := ⟨b, 5, none⟩) hb _
end Go.Proofs.YtbokolpjdaamiaaGreatDoor.dw
