/-
  Contracts of the functions that write a clock.
  Contracts of the specification's digits of a number, and of strconv.Itoa at a year.
  Contracts of both CivilOf functions.
  Plain facts on the tables of the dates: what their blocks hold when they read as listed.
  Contracts of both Rfc3339Text functions.
-/
import Derived.Test.YtinnnfkhiigjpaaPkam
import Derived.Test.YtinnnfkhiigjpaaPkan
import Derived.Deep.RegionWith
import Derived.Lib.ItoaMem
import Derived.Test.YtinnnfkhiigjpaaRows
import Derived.Lib.LaidTab
import Derived.OpenShut
import Derived.Below
import Derived.WalkKit
import Derived.Lib.ItoaNum
import Derived.Shelf.Lay
import Derived.Shelf.LaySoft
import Derived.Test.YtinnnfkhiigjpaaProg
import Derived.Lib.AppendIntMem
import Derived.Shelf.Strconv.Itoa3

namespace Go.Proofs.Ytinnnfkhiigjpaa.dx
open Go.RowKit
open dt gr
set_option linter.unusedVariables false
/-- A clock's text. -/
def clk (h i s : Int) : List UInt8 := two h ++ [58] ++ two i ++ [58] ++ two s


set_option maxHeartbeats 2000000 in
theorem spec_clk (y m d h i s : Int) (h0 : 0 ≤ h) (h1 : h ≤ 99) (i0 : 0 ≤ i) (i1 : i ≤ 99) (s0 : 0 ≤ s) (s1 : s ≤ 99) (w : World) :
    Calls Try.prog 56 #[C6 y m d h i s] w fun e w' => e = .returned (.string ⟨(clk h i s).toArray⟩) ∧ Below w.heap.size w w' := by
  unfold C6
  go_enter Try.func56, Try.ntmps56
  go_wp2_with fail
  have L := dw.lies_new w y m d h i s
  have b := bel_box w (.cells #[.int .i64 y, .int .i64 m, .int .i64 d, .int .i64 h, .int .i64 i, .int .i64 s] 76)
  generalize w.alloc _ = W at L b ⊢
  have ne := ext_some W
  have l2 : ∀ n, (two n).length = 2 := fun _ => rfl
  have c3 := fun x : Ext W => gw_cell x L.c3
  have c4 := fun x : Ext W => gw_cell x L.c4
  have c5 := fun x : Ext W => gw_cell x L.c5
  clear L
  refine region_lit (by kernel_rfl) (by kernel_rfl) ?_
  repeat (go_big_quiet_step ((first | (go_at_call 54; exact grow_of (spec_two _ (by assumption) (by assumption) _)))))
  refine wpQuiet_nil ?_
  rintro W' ⟨x, rfl⟩
  have b2 := b.trans ((gw_below x).mono b.size)
  generalize gw x = W' at b2 ⊢
  clear c3 c4 c5 ne l2
  go_wp2
  go_ret
  refine ⟨?_, b2⟩
  unfold clk
  simp only [← app]
  rfl
end Go.Proofs.Ytinnnfkhiigjpaa.dx

namespace Go.Proofs.Ytinnnfkhiigjpaa.dx
open Go.RowKit
open gr
set_option linter.unusedVariables false

theorem belA {w w1 : World} {o : Obj} (b1 : Below w.drew.heap.size w.drew w1) : Below w.heap.size w (w1.alloc o) := ((Below.refl _ w).drew.trans b1).alloc b1.size _
theorem belB {w w1 : World} {o : Obj} (b1 : Below (w.alloc o).drew.heap.size (w.alloc o).drew w1) : Below w.heap.size w w1 := (bel_box w o).drew.trans (b1.mono (by show w.heap.size ≤ (w.heap.push o).size; simp))
theorem conv_at (w : World) (g : Nat) (l : List UInt8) (cs : Array Value) (h : cs.toList = l.map fun b => Value.int .u8 (b.toNat : Int)) (hg : w.heap[g]? = some (.cells cs 5)) :
    (convert 22 9 (.slice (some ⟨g, 0, none⟩) l.length l.length)).run Try.prog w = .ok (.string ⟨l.toArray⟩) w := by
  refine run_convert_bytes_back _ 22 9 5 ⟨g, 0, none⟩ l.length l Try.underlying22 Try.underlying5 Try.underlying9 (fun j hj => ?_)
  rw [ow.add_at, cell_of_row w g j _ _ _ hg, ← Array.getElem?_toList, h]
  simp [hj]
theorem conv_kept {w w1 : World} {z : Int} {b : UInt8} (hz : (b.toNat : Int) = z) (hb : Below (w.alloc (.cells #[.int .u8 z] 5)).heap.size (w.alloc (.cells #[.int .u8 z] 5)) w1) :
    (convert 22 9 (.slice (some ⟨w.heap.size, 0, none⟩) 1 1)).run Try.prog w1 = .ok (.string ⟨#[b]⟩) w1 := by
  refine conv_at w1 w.heap.size [b] #[.int .u8 z] (by rw [← hz]; rfl) ?_
  rw [hb.block w.heap.size (by simp)]
  show (w.heap.push _)[w.heap.size]? = _
  simp
theorem conv_one (w : World) {z : Int} {b : UInt8} (hz : (b.toNat : Int) = z) :
    (convert 22 9 (.slice (some ⟨w.heap.size, 0, none⟩) 1 1)).run Try.prog (w.alloc (.cells #[.int .u8 z] 5)) = .ok (.string ⟨#[b]⟩) (w.alloc (.cells #[.int .u8 z] 5)) :=
  conv_new w [b] #[.int .u8 z] (by rw [← hz]; rfl)

theorem conv_oneD (w : World) {z : Int} {b : UInt8} (hz : (b.toNat : Int) = z) :
    (convert 22 9 (.slice (some ⟨w.heap.size, 0, none⟩) 1 1)).run Try.prog (w.alloc (.cells #[.int .u8 z] 5)).drew = .ok (.string ⟨#[b]⟩) (w.alloc (.cells #[.int .u8 z] 5)).drew := by
  refine conv_at (w.alloc (.cells #[.int .u8 z] 5)).drew w.heap.size [b] #[.int .u8 z] (by rw [← hz]; rfl) ?_
  show (w.heap.push _)[w.heap.size]? = _
  simp
theorem conv_keptD {w w1 : World} {z : Int} {b : UInt8} (hz : (b.toNat : Int) = z) (hb : Below (w.alloc (.cells #[.int .u8 z] 5)).drew.heap.size (w.alloc (.cells #[.int .u8 z] 5)).drew w1) :
    (convert 22 9 (.slice (some ⟨w.heap.size, 0, none⟩) 1 1)).run Try.prog w1 = .ok (.string ⟨#[b]⟩) w1 := by
  refine conv_at w1 w.heap.size [b] #[.int .u8 z] (by rw [← hz]; rfl) ?_
  rw [hb.block w.heap.size (by show w.heap.size < (w.heap.push _).size; simp)]
  show (w.heap.push _)[w.heap.size]? = _
  simp
set_option maxHeartbeats 1000000 in
set_option maxRecDepth 100000 in
theorem digs_one (n : Int) (h0 : 0 ≤ n) (h1 : n ≤ 9) (w : World) : Calls Try.prog 25 #[.int .i64 n] w fun e w' => e = .returned (.string ⟨#[dg n]⟩) ∧ Below w.heap.size w w' := by
  have cv := conv_one w (dg_nat h0 h1)
  have d1 : (n == -9223372036854775808) = false := beq_eq_false_iff_ne.2 (by omega)
  go_enter Try.func25, Try.ntmps25
  go_wp2
  go_ret
  exact ⟨rfl, bel_box _ _⟩

set_option maxHeartbeats 2000000 in
set_option maxRecDepth 100000 in
theorem digs_step (n : Int) (h0 : 10 ≤ n) (h1 : n ≤ 99999) (l : List UInt8) (hl : l.length ≤ 4) (ih : ∀ w, Calls Try.prog 25 #[.int .i64 (n / 10)] w fun e w' => e = .returned (.string ⟨l.toArray⟩) ∧ Below w.heap.size w w') (w : World) :
    Calls Try.prog 25 #[.int .i64 n] w fun e w' => e = .returned (.string ⟨(l ++ [dg (n % 10)]).toArray⟩) ∧ Below w.heap.size w w' := by
  have hz : ((dg (n % 10)).toNat : Int) = 48 + n % 10 := dg_nat (by omega) (by omega)
  have HZ : Hid (((dg (n % 10)).toNat : Int) = 48 + n % 10) := hz
  have cv := conv_oneD w hz
  clear hz
  have IH : Hid (∀ w, Calls Try.prog 25 #[.int .i64 (n / 10)] w fun e w' => e = .returned (.string ⟨l.toArray⟩) ∧ Below w.heap.size w w') := ih
  clear ih
  have d1 : (n == -9223372036854775808) = false := beq_eq_false_iff_ne.2 (by omega)
  have hs : (9223372036854775807 < l.length + 1) = False := eq_false (by omega)
  have e0 : n.tdiv 10 = n / 10 := Int.tdiv_eq_ediv_of_nonneg (by omega)
  have e00 : n.tmod 10 = n % 10 := Int.tmod_eq_emod_of_nonneg (by omega)
  have e1 : IntKind.i64.wrap (n / 10) = n / 10 := by rw [IntKind.wrap_i64]; omega
  have e2 : IntKind.i64.wrap (n % 10) = n % 10 := by rw [IntKind.wrap_i64]; omega
  have e3 : IntKind.i64.wrap (48 + n % 10) = 48 + n % 10 := by rw [IntKind.wrap_i64]; omega
  have e4 : IntKind.u8.wrap (48 + n % 10) = 48 + n % 10 := by rw [IntKind.wrap_u8]; omega
  go_enter Try.func25, Try.ntmps25
  go_wp2_with fail
  go_region_with (go_at_call 25; refine (IH.out _).mono ?_; rintro e w1 ⟨rfl, b1⟩; have cw := conv_one w1 (z := 48 + n % 10) (b := dg (n % 10)) HZ.out; first | (have ck := conv_keptD (w := w) (z := 48 + n % 10) (b := dg (n % 10)) HZ.out b1) | skip)
  all_goals go_wp2
  all_goals go_ret
  all_goals refine ⟨by rw [← app]; rfl, ?_⟩
  all_goals first
    | exact belA b1
    | exact belB b1

/-- A year's digits. -/
def four (y : Int) : List UInt8 := [dg (y / 1000), dg (y / 100 % 10), dg (y / 10 % 10), dg (y % 10)]
theorem spec_four (y : Int) (h0 : 1000 ≤ y) (h1 : y ≤ 9999) (w : World) : Calls Try.prog 25 #[.int .i64 y] w fun e w' => e = .returned (.string ⟨(four y).toArray⟩) ∧ Below w.heap.size w w' := by
  have a := fun w => digs_one (y / 10 / 10 / 10) (by omega) (by omega) w
  have b := fun w => digs_step (y / 10 / 10) (by omega) (by omega) [dg (y / 10 / 10 / 10)] (by simp) a w
  have c := fun w => digs_step (y / 10) (by omega) (by omega) ([dg (y / 10 / 10 / 10)] ++ [dg (y / 10 / 10 % 10)]) (by simp) b w
  have d := digs_step y (by omega) (by omega) ([dg (y / 10 / 10 / 10)] ++ [dg (y / 10 / 10 % 10)] ++ [dg (y / 10 % 10)]) (by simp) c w
  unfold four
  rw [show y / 1000 = y / 10 / 10 / 10 by omega, show y / 100 = y / 10 / 10 by omega]
  exact d
theorem itoa_four {y : Int} (h0 : 1000 ≤ y) (h1 : y ≤ 9999) : Lib.itoa y = four y := by
  obtain ⟨n, rfl⟩ : ∃ n : Nat, y = (n : Int) := ⟨y.toNat, by omega⟩
  rw [Lib.itoa_nonneg, Lib.decDigits, dif_neg (by omega), Lib.decDigits, dif_neg (by omega), Lib.decDigits, dif_neg (by omega), Lib.decDigits_one (by omega)]
  unfold four dg
  rw [show (48 + (n : Int) / 1000).toNat = 48 + n / 10 / 10 / 10 by omega, show (48 + (n : Int) / 100 % 10).toNat = 48 + n / 10 / 10 % 10 by omega, show (48 + (n : Int) / 10 % 10).toNat = 48 + n / 10 % 10 by omega, show (48 + (n : Int) % 10).toNat = 48 + n % 10 by omega]
  rfl
end Go.Proofs.Ytinnnfkhiigjpaa.dx

namespace Go.Proofs.Ytinnnfkhiigjpaa.dw
open Go.RowKit
open dt
set_option linter.unusedVariables false

/-- A calendar and its code, in new memory alone. -/
def cv (n : Int) : Value := if inB n 0 4102444799 then .tuple #[civ n, .int .i64 0] else .tuple #[C6 0 0 0 0 0 0, .int .i64 4]
theorem cv_in {n : Int} (h : inB n 0 4102444799 = true) : cv n = .tuple #[civ n, .int .i64 0] := by simp [cv, h]
theorem cv_out {n : Int} (h : inB n 0 4102444799 = false) : cv n = .tuple #[C6 0 0 0 0 0 0, .int .i64 4] := by simp [cv, h]
theorem cv_form (n : Int) : ∃ y m d h i s c : Int, cv n = .tuple #[C6 y m d h i s, .int .i64 c] := by
  cases e : inB n 0 4102444799
  · exact ⟨_, _, _, _, _, _, _, cv_out e⟩
  · exact ⟨_, _, _, _, _, _, _, cv_in e⟩


/-- The specification's calendar while it is made, behind the result's own place. -/
def wc (w : World) (z m d n : Int) : World := (w.alloc (.cells #[.int .i64 0, .int .i64 0, .int .i64 0, .int .i64 0, .int .i64 0, .int .i64 0] 76)).alloc (.cells #[.int .i64 z, .int .i64 m, .int .i64 d, .int .i64 (n / 3600 % 24), .int .i64 (n / 60 % 60), .int .i64 (n % 60)] 76)
set_option maxHeartbeats 2000000 in
set_option maxRecDepth 100000 in
theorem spec_civ (n : Int) (h1 : 0 ≤ n) (h2 : n ≤ 4102444799) (w : World) : Calls Try.prog 52 #[.int .i64 n] w fun e w' => e = .returned (civ n) ∧ Below w.heap.size w w' := by
  go_enter Try.func52, Try.ntmps52
  go_wp2_with fail
  go_loopw [4] (fun t wr => ∃ z : Int, 1970 ≤ z ∧ yd z ≤ n / 86400 ∧ t = .int .i64 (n / 86400 - yd z) ∧ wr = wc w z 1 0 n) (fun t _ => (intOf t).toNat)
  case atStart => exact ⟨1970, by omega, by rw [yd_first]; omega, by rw [yd_first]; simp, rfl⟩
  case round =>
    obtain ⟨z, z1, z2, rfl, rfl⟩ := hrel
    have z3 : z ≤ 2099 := by unfold yd at z2; omega
    have u3 := lp_01 z
    have hs := yd_step z
    have u1 := yd_pos z1
    unfold wc
    by_cases hlt : 365 + lp z ≤ n / 86400 - yd z
    · go_wp2_with fail
      refine (leap_any z z1 z3 _).mono ?_
      rintro e w' ⟨rfl, rfl⟩
      go_wp2_with fail
      refine (bit_any _ _).mono ?_
      rintro e w' ⟨rfl, rfl⟩
      rw [← lp_bit]
      go_wp2_with fail
      refine (leap_any z z1 z3 _).mono ?_
      rintro e w' ⟨rfl, rfl⟩
      go_wp2_with fail
      refine (bit_any _ _).mono ?_
      rintro e w' ⟨rfl, rfl⟩
      rw [← lp_bit]
      go_wp2
      go_round
      case rel => exact ⟨z + 1, by omega, by omega, by rw [hs]; go_num, rfl⟩
      case measure => simp [intOf]; omega
    · have ez : yr n = z := yr_is h1 z2 (by omega)
      subst ez
      have r1 := rs_lo h1
      have r2 := rs_hi h1
      go_wp2_with fail
      refine (leap_any (yr n) z1 z3 _).mono ?_
      rintro e w' ⟨rfl, rfl⟩
      go_wp2_with fail
      refine (bit_any _ _).mono ?_
      rintro e w' ⟨rfl, rfl⟩
      rw [← lp_bit]
      go_wp2_with fail
      go_loopw [4] (fun t wr => ∃ j : Nat, j ≤ 11 ∧ ms (yr n) j ≤ rs n ∧ t = .int .i64 (rs n - ms (yr n) j) ∧ wr = wc w (yr n) ((j : Int) + 1) 0 n) (fun t _ => (intOf t).toNat)
      case atStart => exact ⟨0, by omega, r1, by simp [rs, ms], rfl⟩
      case round =>
        obtain ⟨j, hj, hm, rfl, rfl⟩ := hrel
        have u3 := ms_pos (yr n) j
        have u4 := ms_le (y := yr n) (show j ≤ 12 by omega)
        have u5 := dm_pos (yr n) ((j : Int) + 1)
        have u6 := lp_01 (yr n)
        unfold wc
        by_cases hlt2 : dm (yr n) ((j : Int) + 1) ≤ rs n - ms (yr n) j
        · have hj' : j + 1 ≤ 11 := by
            rcases Nat.lt_or_ge j 11 with q | q
            · omega
            · obtain rfl : j = 11 := by omega
              have q2 := ms_12 (yr n)
              have q3 : ms (yr n) 12 = ms (yr n) 11 + dm (yr n) (((11 : Nat) : Int) + 1) := rfl
              omega
          go_wp2_with (go_at_call 63; refine (spec_dm (yr n) _ z1 z3 _).mono ?_; rintro e w' ⟨rfl, rfl⟩)
          go_round
          case rel => exact ⟨j + 1, hj', by rw [ms_succ]; omega, by rw [ms_succ]; go_num, rfl⟩
          case measure => simp [intOf]; omega
        · have em : mo (yr n) (rs n) = j := mo_is r1 r2 hm (by rw [ms_succ]; omega)
          have HM : Hid (mo (yr n) (rs n) = j) := em
          clear em
          go_wp2_with (go_at_call 63; refine (spec_dm (yr n) _ z1 z3 _).mono ?_; rintro e w' ⟨rfl, rfl⟩)
          have e : civ n = .agg #[.int .i64 (yr n), .int .i64 ((j : Int) + 1), .int .i64 (rs n - ms (yr n) j + 1), .int .i64 (n / 3600 % 24), .int .i64 (n / 60 % 60), .int .i64 (n % 60)] := by
            unfold civ C6 mn dy
            rw [HM.out]
            rfl
          refine bodyPost_ret (v := .agg #[.int .i64 (yr n), .int .i64 ((j : Int) + 1), .int .i64 (rs n - ms (yr n) j + 1), .int .i64 (n / 3600 % 24), .int .i64 (n / 60 % 60), .int .i64 (n % 60)]) (by simp [results, Try.results52, go_sem]) rfl ⟨by rw [e], ?_⟩
          exact (bel_box _ _).alloc (by simp) _

/-- Six stores into a calendar's block. -/
def put6 (w : World) (b : Nat) (y m d h i s : Int) : World :=
  (((((w.setCell ⟨b, 0, none⟩ (.int .i64 y)).setCell ⟨b, 1, none⟩ (.int .i64 m)).setCell ⟨b, 2, none⟩ (.int .i64 d)).setCell ⟨b, 3, none⟩ (.int .i64 h)).setCell ⟨b, 4, none⟩ (.int .i64 i)).setCell ⟨b, 5, none⟩ (.int .i64 s)
theorem put6_lies {w : World} {b : Nat} {y' m' d' h' i' s' y m d h i s : Int} (L : Lies w b y' m' d' h' i' s') : Lies (put6 w b y m d h i s) b y m d h i s :=
  heap_setCell_same _ b 5 _ _ _ (heap_setCell_same _ b 4 _ _ _ (heap_setCell_same _ b 3 _ _ _ (heap_setCell_same _ b 2 _ _ _ (heap_setCell_same _ b 1 _ _ _ (heap_setCell_same _ b 0 _ _ _ L)))))
theorem put6_below {B : Nat} {w0 w : World} {b : Nat} {y m d h i s : Int} (k : Below B w0 w) (hb : B ≤ b) : Below B w0 (put6 w b y m d h i s) :=
  (((((k.setCell (p := ⟨b, 0, none⟩) hb _).setCell (p := ⟨b, 1, none⟩) hb _).setCell (p := ⟨b, 2, none⟩) hb _).setCell (p := ⟨b, 3, none⟩) hb _).setCell (p := ⟨b, 4, none⟩) hb _).setCell (p := ⟨b, 5, none⟩) hb _
end Go.Proofs.Ytinnnfkhiigjpaa.dw

namespace Go.Proofs.Ytinnnfkhiigjpaa.td
open Go.RowKit
set_option linter.unusedVariables false

/-- A block holds these numbers. -/
def Holds (k : IntKind) (g : Nat) (zs : List Int) (w : World) : Prop := ∃ t fr, w.heap[g]? = some (.cells (zs.map (Value.int k)).toArray t fr)
theorem lt {k : IntKind} {g : Nat} {zs : List Int} {w : World} (h : Holds k g zs w) : g < w.heap.size := by
  obtain ⟨t, fr, h⟩ := h
  exact (Array.getElem?_eq_some_iff.1 h).1
theorem keep' {k : IntKind} {g : Nat} {zs : List Int} {w w' : World} (h : Holds k g zs w) (hb : Below w.heap.size w w') : Holds k g zs w' := by
  have hg := lt h
  obtain ⟨t, fr, h⟩ := h
  exact ⟨t, fr, (hb.block g hg).trans h⟩
/-- A block holds these texts. -/
def HoldsS (g : Nat) (ls : List (List UInt8)) (w : World) : Prop := ∃ t fr, w.heap[g]? = some (.cells (ls.map fun l => Value.string ⟨l.toArray⟩).toArray t fr)
theorem ltS {g : Nat} {ls : List (List UInt8)} {w : World} (h : HoldsS g ls w) : g < w.heap.size := by
  obtain ⟨t, fr, h⟩ := h
  exact (Array.getElem?_eq_some_iff.1 h).1
theorem keepS {g : Nat} {ls : List (List UInt8)} {w w' : World} (h : HoldsS g ls w) (hb : Below w.heap.size w w') : HoldsS g ls w' := by
  have hg := ltS h
  obtain ⟨t, fr, h⟩ := h
  exact ⟨t, fr, (hb.block g hg).trans h⟩
theorem cellS {g : Nat} {ls : List (List UInt8)} {w : World} (h : HoldsS g ls w) (j : Nat) (hj : j < ls.length) : w.cell? ⟨g, j, none⟩ = some (.string ⟨(ls[j]).toArray⟩) := by
  obtain ⟨t, fr, h⟩ := h
  rw [cell_of_row w g j _ t fr h]
  simp [hj]
def strData {H : Type} (ls : List (List UInt8)) : DataW H := .agg (ls.map fun l => .lit (.string l))
theorem cells_of_strs {H : Type} {enc : TypeId × Value → H} {P : Program} {w : World} {base : Nat} {sp : Nat → Bool} {held : Bool} {fuel : Nat} {t e : TypeId} {n : Nat} {cs : List Value} {ls : List (List UInt8)} {p : List MemPlace}
    (ht : P.underlying t = some (.array n e)) (he : P.underlying e = some .string) (hce : P.cellsOf e = 1) (hct : P.cellsOf t = n)
    (h : DataW.trod enc P w base sp held fuel t cs = some (strData ls, p)) : cs = ls.map fun l => Value.string ⟨l.toArray⟩ := by
  obtain ⟨xs, m, _, hx, hl, hxl, hf⟩ := DataW.trod_array ht h
  have hxs : xs.map (·.1) = ls.map fun l => (DataW.lit (.string l) : DataW H) := by
    have := congrArg Prod.fst hx
    simpa [strData] using this.symm
  have hzl : ls.length = n := by
    have := congrArg List.length hxs
    simp at this
    omega
  rw [hct] at hl
  apply List.ext_getElem?
  intro i
  by_cases hi : i < n
  · have hh := hf i hi
    rw [hce, Nat.mul_one] at hh
    rw [List.getElem?_eq_getElem (by omega)] at hh
    obtain ⟨s, hc, hb, _⟩ := DataW.trod_string he hh
    have h1 : cs[i]? = some (.string s) := by
      have := congrArg (·[0]?) hc
      simpa [List.getElem?_take, List.getElem?_drop] using this
    have h2 : (xs.map (·.1))[i]? = some (DataW.lit (.string s.data.toList) : DataW H) := by
      rw [List.getElem?_map, List.getElem?_eq_getElem (by omega), hb]
      rfl
    rw [hxs] at h2
    simp only [List.getElem?_map, Option.map_eq_some_iff, DataW.lit.injEq, Lit.string.injEq] at h2
    obtain ⟨l', hz', hl'⟩ := h2
    subst hl'
    simp [h1, hz']
  · rw [List.getElem?_eq_none (by omega), List.getElem?_eq_none (by simp; omega)]

section
variable {P : Program} {W : World} {name : String} {g : Nat} {t e : TypeId} {n : Nat}
theorem of_laid {k : IntKind} {zs : List Int} (hg : P.globalNamed name = some g) (hty : (P.globals[g]?).map (·.type) = some t) (ht : P.underlying t = some (.array n e)) (he : P.underlying e = some (.int k)) (hce : P.cellsOf e = 1) (hct : P.cellsOf t = n) :
    ∀ {laid : List (String × DataW Unit)} {ps : List MemPlace}, (name, Lib.tabData k zs) ∈ laid → DataW.LaidVars P W laid ps → Holds k g zs W := by
  intro laid
  induction laid with
  | nil => intro ps h; cases h
  | cons x xs ih =>
    intro ps hm hl
    obtain ⟨g', t', cs, fuel, p, q, hg', ht', hvar, hd, hr, _⟩ := hl
    rcases List.mem_cons.1 hm with e1 | e1
    · subst e1
      obtain rfl := Option.some.inj (hg.symm.trans hg')
      obtain rfl := Option.some.inj (hty.symm.trans ht')
      have hc := Lib.cells_of_tab ht he hce hct hd
      simp only [World.var?, hg, Option.bind_some] at hvar
      split at hvar
      · rename_i c t fr hh
        obtain rfl := Option.some.inj hvar
        refine ⟨t, fr, ?_⟩
        rw [hh]
        congr 2
        rw [← Array.toArray_toList (xs := c), hc]
      · cases hvar
    · exact ih e1 hr
theorem of_laidS {ls : List (List UInt8)} (hg : P.globalNamed name = some g) (hty : (P.globals[g]?).map (·.type) = some t) (ht : P.underlying t = some (.array n e)) (he : P.underlying e = some .string) (hce : P.cellsOf e = 1) (hct : P.cellsOf t = n) :
    ∀ {laid : List (String × DataW Unit)} {ps : List MemPlace}, (name, strData ls) ∈ laid → DataW.LaidVars P W laid ps → HoldsS g ls W := by
  intro laid
  induction laid with
  | nil => intro ps h; cases h
  | cons x xs ih =>
    intro ps hm hl
    obtain ⟨g', t', cs, fuel, p, q, hg', ht', hvar, hd, hr, _⟩ := hl
    rcases List.mem_cons.1 hm with e1 | e1
    · subst e1
      obtain rfl := Option.some.inj (hg.symm.trans hg')
      obtain rfl := Option.some.inj (hty.symm.trans ht')
      have hc := cells_of_strs ht he hce hct hd
      simp only [World.var?, hg, Option.bind_some] at hvar
      split at hvar
      · rename_i c t fr hh
        obtain rfl := Option.some.inj hvar
        refine ⟨t, fr, ?_⟩
        rw [hh]
        congr 2
        rw [← Array.toArray_toList (xs := c), hc]
      · cases hvar
    · exact ih e1 hr
end

def wks : List (List UInt8) := [[83, 117, 110], [77, 111, 110], [84, 117, 101], [87, 101, 100], [84, 104, 117], [70, 114, 105], [83, 97, 116]]
def mts : List (List UInt8) := [[], [74, 97, 110], [70, 101, 98], [77, 97, 114], [65, 112, 114], [77, 97, 121], [74, 117, 110], [74, 117, 108], [65, 117, 103], [83, 101, 112], [79, 99, 116], [78, 111, 118], [68, 101, 99]]
theorem eS : Try.prog.cellsOf 9 = 1 := by kernel_rfl
end Go.Proofs.Ytinnnfkhiigjpaa.td

namespace Go.Proofs.Ytinnnfkhiigjpaa.dx
open Go.RowKit
open dt gr
set_option linter.unusedVariables false

/-- A calendar's text of the first form, without its zone. -/
def m39 (y m d h i s : Int) : List UInt8 := four y ++ [45] ++ two m ++ [45] ++ two d ++ [84] ++ clk h i s
/-- A stamp's text of the first form and its code. -/
def t39 (n : Int) : List UInt8 := m39 (yr n) (mn n) (dy n) (hr n) (dt.mt n) (sc n) ++ [90]
def r39 (n : Int) : Value := if dw.inB n 0 4102444799 then .tuple #[.string ⟨(t39 n).toArray⟩, .int .i64 0] else .tuple #[.string ⟨#[]⟩, .int .i64 4]
theorem r39_in {n : Int} (h : dw.inB n 0 4102444799 = true) : r39 n = .tuple #[.string ⟨(t39 n).toArray⟩, .int .i64 0] := by simp [r39, h]
theorem r39_out {n : Int} (h : dw.inB n 0 4102444799 = false) : r39 n = .tuple #[.string ⟨#[]⟩, .int .i64 4] := by simp [r39, h]
theorem r39_form (n : Int) : ∃ (s : ByteArray) (c : Int), r39 n = .tuple #[.string s, .int .i64 c] := by
  cases e : dw.inB n 0 4102444799
  · exact ⟨_, _, r39_out e⟩
  · exact ⟨_, _, r39_in e⟩
theorem two_len (n : Int) : (two n).length = 2 := rfl
theorem four_len (n : Int) : (four n).length = 4 := rfl
theorem clk_len (h i s : Int) : (clk h i s).length = 8 := rfl

end Go.Proofs.Ytinnnfkhiigjpaa.dx
