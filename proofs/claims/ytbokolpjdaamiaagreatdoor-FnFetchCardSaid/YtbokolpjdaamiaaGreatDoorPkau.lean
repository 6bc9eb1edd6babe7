/-
  Plain facts on the tables of the dates: what their blocks hold when they read as listed.
  Contracts of both Rfc3339Text functions.
  Contracts of both Rfc822Text functions.
  The contract of the specification's Rfc822Text.
  A number's digits: the specification's, of up to ten places.
-/
import Derived.Test.YtbokolpjdaamiaaGreatDoorRows
import Derived.Lib.LaidTab
import Derived.OpenShut
import Derived.Below
import Derived.WalkKit
import Derived.Lib.ItoaNum
import Derived.Test.YtbokolpjdaamiaaGreatDoorPkat
import Derived.Test.YtbokolpjdaamiaaGreatDoorPkab
import Derived.Lib.AppendIntMem
import Derived.Shelf.Strconv.Itoa3

namespace Go.Proofs.YtbokolpjdaamiaaGreatDoor.td
open Go.RowKit
set_option linter.unusedVariables false

/-- A block holds these numbers. -/
def Holds (k : IntKind) (g : Nat) (zs : List Int) (w : World) : Prop := ∃ t fr, w.heap[g]? = some (.cells (zs.map (Value.int k)).toArray t fr)
theorem lt {k : IntKind} {g : Nat} {zs : List Int} {w : World} (h : Holds k g zs w) : g < w.heap.size := by
  obtain ⟨t, fr, h⟩ := h
  exact (Array.getElem?_eq_some_iff.1 h).1
theorem keep' {k : IntKind} {g : Nat} {zs : List Int} {w w' : World} (h : Holds k g zs w) (hb : Below w.heap.size w w') : Holds k g zs w' := by
  have hg := lt h
  obtain ⟨t, fr, h⟩ := h
  exact ⟨t, fr, (hb.block g hg).trans h⟩
/-- A block holds these texts. -/
def HoldsS (g : Nat) (ls : List (List UInt8)) (w : World) : Prop := ∃ t fr, w.heap[g]? = some (.cells (ls.map fun l => Value.string ⟨l.toArray⟩).toArray t fr)
theorem ltS {g : Nat} {ls : List (List UInt8)} {w : World} (h : HoldsS g ls w) : g < w.heap.size := by
  obtain ⟨t, fr, h⟩ := h
  exact (Array.getElem?_eq_some_iff.1 h).1
theorem keepS {g : Nat} {ls : List (List UInt8)} {w w' : World} (h : HoldsS g ls w) (hb : Below w.heap.size w w') : HoldsS g ls w' := by
  have hg := ltS h
  obtain ⟨t, fr, h⟩ := h
  exact ⟨t, fr, (hb.block g hg).trans h⟩
theorem cellS {g : Nat} {ls : List (List UInt8)} {w : World} (h : HoldsS g ls w) (j : Nat) (hj : j < ls.length) : w.cell? ⟨g, j, none⟩ = some (.string ⟨(ls[j]).toArray⟩) := by
  obtain ⟨t, fr, h⟩ := h
  rw [cell_of_row w g j _ t fr h]
  simp [hj]
def strData {H : Type} (ls : List (List UInt8)) : DataW H := .agg (ls.map fun l => .lit (.string l))
theorem cells_of_strs {H : Type} {enc : TypeId × Value → H} {P : Program} {w : World} {base : Nat} {sp : Nat → Bool} {held : Bool} {fuel : Nat} {t e : TypeId} {n : Nat} {cs : List Value} {ls : List (List UInt8)} {p : List MemPlace}
    (ht : P.underlying t = some (.array n e)) (he : P.underlying e = some .string) (hce : P.cellsOf e = 1) (hct : P.cellsOf t = n)
    (h : DataW.trod enc P w base sp held fuel t cs = some (strData ls, p)) : cs = ls.map fun l => Value.string ⟨l.toArray⟩ := by
  obtain ⟨xs, m, _, hx, hl, hxl, hf⟩ := DataW.trod_array ht h
  have hxs : xs.map (·.1) = ls.map fun l => (DataW.lit (.string l) : DataW H) := by
    have := congrArg Prod.fst hx
    simpa [strData] using this.symm
  have hzl : ls.length = n := by
    have := congrArg List.length hxs
    simp at this
    omega
  rw [hct] at hl
  apply List.ext_getElem?
  intro i
  by_cases hi : i < n
  · have hh := hf i hi
    rw [hce, Nat.mul_one] at hh
    rw [List.getElem?_eq_getElem (by omega)] at hh
    obtain ⟨s, hc, hb, _⟩ := DataW.trod_string he hh
    have h1 : cs[i]? = some (.string s) := by
      have := congrArg (·[0]?) hc
      simpa [List.getElem?_take, List.getElem?_drop] using this
    have h2 : (xs.map (·.1))[i]? = some (DataW.lit (.string s.data.toList) : DataW H) := by
      rw [List.getElem?_map, List.getElem?_eq_getElem (by omega), hb]
      rfl
    rw [hxs] at h2
    simp only [List.getElem?_map, Option.map_eq_some_iff, DataW.lit.injEq, Lit.string.injEq] at h2
    obtain ⟨l', hz', hl'⟩ := h2
    subst hl'
    simp [h1, hz']
  · rw [List.getElem?_eq_none (by omega), List.getElem?_eq_none (by simp; omega)]

section
variable {P : Program} {W : World} {name : String} {g : Nat} {t e : TypeId} {n : Nat}
theorem of_laid {k : IntKind} {zs : List Int} (hg : P.globalNamed name = some g) (hty : (P.globals[g]?).map (·.type) = some t) (ht : P.underlying t = some (.array n e)) (he : P.underlying e = some (.int k)) (hce : P.cellsOf e = 1) (hct : P.cellsOf t = n) :
    ∀ {laid : List (String × DataW Unit)} {ps : List MemPlace}, (name, Lib.tabData k zs) ∈ laid → DataW.LaidVars P W laid ps → Holds k g zs W := by
  intro laid
  induction laid with
  | nil => intro ps h; cases h
  | cons x xs ih =>
    intro ps hm hl
    obtain ⟨g', t', cs, fuel, p, q, hg', ht', hvar, hd, hr, _⟩ := hl
    rcases List.mem_cons.1 hm with e1 | e1
    · subst e1
      obtain rfl := Option.some.inj (hg.symm.trans hg')
      obtain rfl := Option.some.inj (hty.symm.trans ht')
      have hc := Lib.cells_of_tab ht he hce hct hd
      simp only [World.var?, hg, Option.bind_some] at hvar
      split at hvar
      · rename_i c t fr hh
        obtain rfl := Option.some.inj hvar
        refine ⟨t, fr, ?_⟩
        rw [hh]
        congr 2
        rw [← Array.toArray_toList (xs := c), hc]
      · cases hvar
    · exact ih e1 hr
theorem of_laidS {ls : List (List UInt8)} (hg : P.globalNamed name = some g) (hty : (P.globals[g]?).map (·.type) = some t) (ht : P.underlying t = some (.array n e)) (he : P.underlying e = some .string) (hce : P.cellsOf e = 1) (hct : P.cellsOf t = n) :
    ∀ {laid : List (String × DataW Unit)} {ps : List MemPlace}, (name, strData ls) ∈ laid → DataW.LaidVars P W laid ps → HoldsS g ls W := by
  intro laid
  induction laid with
  | nil => intro ps h; cases h
  | cons x xs ih =>
    intro ps hm hl
    obtain ⟨g', t', cs, fuel, p, q, hg', ht', hvar, hd, hr, _⟩ := hl
    rcases List.mem_cons.1 hm with e1 | e1
    · subst e1
      obtain rfl := Option.some.inj (hg.symm.trans hg')
      obtain rfl := Option.some.inj (hty.symm.trans ht')
      have hc := cells_of_strs ht he hce hct hd
      simp only [World.var?, hg, Option.bind_some] at hvar
      split at hvar
      · rename_i c t fr hh
        obtain rfl := Option.some.inj hvar
        refine ⟨t, fr, ?_⟩
        rw [hh]
        congr 2
        rw [← Array.toArray_toList (xs := c), hc]
      · cases hvar
    · exact ih e1 hr
end

/-- The powers of ten, the names of the days of the week and of the months. -/
def TP (w : World) : Prop := Holds .u64 2 Lib.pow10Tab w
def nmP : String := ((Rows.fnFetchRow.laid.map (·.1)).getD 2 "")
theorem gP : Tryz.prog.globalNamed nmP = some 2 := by kernel_rfl
theorem yP : (Tryz.prog.globals[2]?).map (·.type) = some 136 := by kernel_rfl
theorem nP : Tryz.prog.cellsOf 136 = 20 := by kernel_rfl
theorem eP : Tryz.prog.cellsOf 126 = 1 := by kernel_rfl
set_option maxRecDepth 100000 in
theorem lP : (Rows.laid_internal_strconv_uint64pow10 : DataW Unit) = Lib.tabData .u64 Lib.pow10Tab := rfl
theorem tp_of {W : World} {laid : List (String × DataW Unit)} {ps : List MemPlace} (hm : (nmP, Rows.laid_internal_strconv_uint64pow10) ∈ laid) (h : DataW.LaidVars Tryz.prog W laid ps) : TP W :=
  of_laid gP yP Tryz.underlying136 Tryz.underlying126 eP nP (lP ▸ hm) h
theorem tp_is {w : World} (h : TP w) : Lib.TabIs Tryz.prog w nmP .u64 Lib.pow10Tab := by
  obtain ⟨t, fr, h⟩ := h
  unfold Lib.TabIs World.var?
  rw [gP]
  simp only [Option.bind_some, h]
def wks : List (List UInt8) := [[83, 117, 110], [77, 111, 110], [84, 117, 101], [87, 101, 100], [84, 104, 117], [70, 114, 105], [83, 97, 116]]
def mts : List (List UInt8) := [[], [74, 97, 110], [70, 101, 98], [77, 97, 114], [65, 112, 114], [77, 97, 121], [74, 117, 110], [74, 117, 108], [65, 117, 103], [83, 101, 112], [79, 99, 116], [78, 111, 118], [68, 101, 99]]
theorem eS : Tryz.prog.cellsOf 9 = 1 := by kernel_rfl
end Go.Proofs.YtbokolpjdaamiaaGreatDoor.td

namespace Go.Proofs.YtbokolpjdaamiaaGreatDoor.dx
open Go.RowKit
open dt gr
set_option linter.unusedVariables false
theorem impl_four (y : Int) (h0 : 1000 ≤ y) (h1 : y ≤ 9999) (w : World) (hT : td.TP w) : Calls Tryz.prog 64 #[.int .i64 y] w fun e w' => e = .returned (.string ⟨(four y).toArray⟩) ∧ Below w.heap.size w w' := by
  refine (Any.strconv_Itoa Tryz.laysM171 y (by omega) (by omega) w (td.tp_is hT)).mono ?_
  rintro e w' ⟨rfl, k, os, rfl⟩
  exact ⟨by rw [itoa_four h0 h1], Lib.below_grow _ _ (Nat.le_refl _) _ _⟩

/-- A calendar's text of the first form, without its zone. -/
def m39 (y m d h i s : Int) : List UInt8 := four y ++ [45] ++ two m ++ [45] ++ two d ++ [84] ++ clk h i s
/-- A stamp's text of the first form and its code. -/
def t39 (n : Int) : List UInt8 := m39 (yr n) (mn n) (dy n) (hr n) (dt.mt n) (sc n) ++ [90]
def r39 (n : Int) : Value := if dw.inB n 0 4102444799 then .tuple #[.string ⟨(t39 n).toArray⟩, .int .i64 0] else .tuple #[.string ⟨#[]⟩, .int .i64 4]
theorem r39_in {n : Int} (h : dw.inB n 0 4102444799 = true) : r39 n = .tuple #[.string ⟨(t39 n).toArray⟩, .int .i64 0] := by simp [r39, h]
theorem r39_out {n : Int} (h : dw.inB n 0 4102444799 = false) : r39 n = .tuple #[.string ⟨#[]⟩, .int .i64 4] := by simp [r39, h]
theorem r39_form (n : Int) : ∃ (s : ByteArray) (c : Int), r39 n = .tuple #[.string s, .int .i64 c] := by
  cases e : dw.inB n 0 4102444799
  · exact ⟨_, _, r39_out e⟩
  · exact ⟨_, _, r39_in e⟩
theorem two_len (n : Int) : (two n).length = 2 := rfl
theorem four_len (n : Int) : (four n).length = 4 := rfl
theorem clk_len (h i s : Int) : (clk h i s).length = 8 := rfl

end Go.Proofs.YtbokolpjdaamiaaGreatDoor.dx

namespace Go.Proofs.YtbokolpjdaamiaaGreatDoor.dx
open Go.RowKit
open dt gr
set_option linter.unusedVariables false
def wkn (a : Nat) : List UInt8 := td.wks.getD a []
def mtn (m : Nat) : List UInt8 := td.mts.getD m []
theorem wkn_len {a : Nat} (h : a < 7) : (wkn a).length = 3 := by
  have : a = 0 ∨ a = 1 ∨ a = 2 ∨ a = 3 ∨ a = 4 ∨ a = 5 ∨ a = 6 := by omega
  rcases this with rfl | rfl | rfl | rfl | rfl | rfl | rfl <;> rfl
theorem mtn_len {m : Nat} (h0 : 1 ≤ m) (h : m < 13) : (mtn m).length = 3 := by
  have : m = 1 ∨ m = 2 ∨ m = 3 ∨ m = 4 ∨ m = 5 ∨ m = 6 ∨ m = 7 ∨ m = 8 ∨ m = 9 ∨ m = 10 ∨ m = 11 ∨ m = 12 := by omega
  rcases this with rfl | rfl | rfl | rfl | rfl | rfl | rfl | rfl | rfl | rfl | rfl | rfl <;> rfl

set_option maxHeartbeats 2000000 in
theorem spec_wkn (a : Nat) (h : a < 7) (w : World) : Calls Tryz.prog 54 #[.int .i64 (a : Int)] w fun e w' => e = .returned (.string ⟨(wkn a).toArray⟩) ∧ Below w.heap.size w w' := by
  have : a = 0 ∨ a = 1 ∨ a = 2 ∨ a = 3 ∨ a = 4 ∨ a = 5 ∨ a = 6 := by omega
  rcases this with rfl | rfl | rfl | rfl | rfl | rfl | rfl
  all_goals
    go_enter Tryz.func54, Tryz.ntmps54
    go_wp2
    go_ret
    exact ⟨rfl, bel_box _ _⟩
set_option maxHeartbeats 2000000 in
theorem spec_mtn (m : Nat) (h0 : 1 ≤ m) (h : m < 13) (w : World) : Calls Tryz.prog 56 #[.int .i64 (m : Int)] w fun e w' => e = .returned (.string ⟨(mtn m).toArray⟩) ∧ Below w.heap.size w w' := by
  have : m = 1 ∨ m = 2 ∨ m = 3 ∨ m = 4 ∨ m = 5 ∨ m = 6 ∨ m = 7 ∨ m = 8 ∨ m = 9 ∨ m = 10 ∨ m = 11 ∨ m = 12 := by omega
  rcases this with rfl | rfl | rfl | rfl | rfl | rfl | rfl | rfl | rfl | rfl | rfl | rfl
  all_goals
    go_enter Tryz.func56, Tryz.ntmps56
    go_wp2
    go_ret
    exact ⟨rfl, bel_box _ _⟩

/-- The text of a calendar of the second form, with its day of the week ahead. -/
def m82 (y : Int) (m : Nat) (d h i s : Int) : List UInt8 := two d ++ [32] ++ mtn m ++ [32] ++ four y ++ [32] ++ clk h i s ++ [32]
def f82 (a : Nat) (y : Int) (m : Nat) (d h i s : Int) : List UInt8 := wkn a ++ [44, 32] ++ two d ++ [32] ++ mtn m ++ [32] ++ four y ++ [32] ++ clk h i s ++ [32, 43, 48, 48, 48, 48]
def wkd (n : Int) : Nat := ((n / 86400 + 4) % 7).toNat
def t82 (n : Int) : List UInt8 := f82 (wkd n) (yr n) (mn n).toNat (dy n) (hr n) (dt.mt n) (sc n)
def r82 (n : Int) : Value := if dw.inB n 0 4102444799 then .tuple #[.string ⟨(t82 n).toArray⟩, .int .i64 0] else .tuple #[.string ⟨#[]⟩, .int .i64 4]
theorem r82_in {n : Int} (h : dw.inB n 0 4102444799 = true) : r82 n = .tuple #[.string ⟨(t82 n).toArray⟩, .int .i64 0] := by simp [r82, h]
theorem r82_out {n : Int} (h : dw.inB n 0 4102444799 = false) : r82 n = .tuple #[.string ⟨#[]⟩, .int .i64 4] := by simp [r82, h]
theorem r82_form (n : Int) : ∃ (s : ByteArray) (c : Int), r82 n = .tuple #[.string s, .int .i64 c] := by
  cases e : dw.inB n 0 4102444799
  · exact ⟨_, _, r82_out e⟩
  · exact ⟨_, _, r82_in e⟩

end Go.Proofs.YtbokolpjdaamiaaGreatDoor.dx

namespace Go.Proofs.YtbokolpjdaamiaaGreatDoor.dx
open Go.RowKit
open dt gr
set_option linter.unusedVariables false
set_option maxHeartbeats 4000000 in
set_option maxRecDepth 100000 in
theorem spec_f82 (n : Int) (n0 : 0 ≤ n) (n1 : n ≤ 4102444799) (w : World) : Calls Tryz.prog 27 #[.int .i64 n] w fun e w' => e = .returned (.string ⟨(t82 n).toArray⟩) ∧ Below w.heap.size w w' := by
  have hok := civ_ok n0 n1
  have hx : Hid (∀ w, Calls Tryz.prog 53 #[.int .i64 n] w fun e w' => e = .returned (C6 (yr n) (mn n) (dy n) (hr n) (dt.mt n) (sc n)) ∧ Below w.heap.size w w') := fun w => dw.spec_civ n n0 n1 w
  unfold t82
  have ha : (n / 86400 + 4) % 7 = ((wkd n : Nat) : Int) := by unfold wkd; omega
  have ha7 : wkd n < 7 := by unfold wkd; omega
  obtain ⟨q, hq⟩ : ∃ q : Nat, mn n = (q : Int) := ⟨(mn n).toNat, by have := hok.2.2.1; omega⟩
  rw [hq] at hx hok ⊢
  rw [Int.toNat_natCast]
  generalize yr n = y, dy n = d, hr n = h, dt.mt n = i, sc n = s, wkd n = a at hx hok ha ha7 ⊢
  clear hq
  obtain ⟨k1, k2, k3, k4, k5, k6, k7, k8, k9, k10, k11, k12⟩ := hok
  have k13 := dm_pos y (q : Int)
  go_enter Tryz.func27, Tryz.ntmps27
  go_wp2_with fail
  refine (hx.out _).mono ?_
  rintro e w1 ⟨rfl, b1⟩
  unfold C6
  clear hx
  go_wp2_with fail
  have L := dw.lies_new w1 y (q : Int) d h i s
  have b2 := b1.trans ((bel_box w1 (.cells #[.int .i64 y, .int .i64 (q : Int), .int .i64 d, .int .i64 h, .int .i64 i, .int .i64 s] 78)).mono b1.size)
  generalize w1.alloc _ = W at L b2 ⊢
  have HF : Hid (∀ W, Calls Tryz.prog 28 #[.int .i64 y] W fun e w' => e = .returned (.string ⟨(four y).toArray⟩) ∧ Below W.heap.size W w') := fun W => spec_four y (by omega) (by omega) W
  have HW : Hid (∀ W, Calls Tryz.prog 54 #[.int .i64 ((n / 86400 + 4) % 7)] W fun e w' => e = .returned (.string ⟨(wkn a).toArray⟩) ∧ Below W.heap.size W w') := fun W => by rw [ha]; exact spec_wkn a ha7 W
  have HM : Hid (∀ W, Calls Tryz.prog 56 #[.int .i64 (q : Int)] W fun e w' => e = .returned (.string ⟨(mtn q).toArray⟩) ∧ Below W.heap.size W w') := fun W => spec_mtn q (by omega) (by omega) W
  have d0 : 0 ≤ d := by omega
  have d9 : d ≤ 99 := by omega
  have HC : Hid (∀ W, Calls Tryz.prog 57 #[C6 y (q : Int) d h i s] W fun e w' => e = .returned (.string ⟨(clk h i s).toArray⟩) ∧ Below W.heap.size W w') := fun W => spec_clk y (q : Int) d h i s (by omega) (by omega) (by omega) (by omega) (by omega) (by omega) W
  unfold C6 at HC
  have ne := ext_some W
  have l2 := two_len
  have l4 := four_len
  have l8 := clk_len
  have l3 := wkn_len ha7
  have l3m := mtn_len (m := q) (by omega) (by omega)
  have c0 := fun x : Ext W => gw_cell x L.c0
  have c1 := fun x : Ext W => gw_cell x L.c1
  have c2 := fun x : Ext W => gw_cell x L.c2
  have c3 := fun x : Ext W => gw_cell x L.c3
  have c4 := fun x : Ext W => gw_cell x L.c4
  have c5 := fun x : Ext W => gw_cell x L.c5
  clear L b1 ha
  refine region_lit (by kernel_rfl) (by kernel_rfl) ?_
  repeat (go_big_quiet_step ((first | (go_at_call 28; exact grow_of (HF.out _)) | (go_at_call 55; exact grow_of (spec_two _ (by assumption) (by assumption) _)) | (go_at_call 54; exact grow_of (HW.out _)) | (go_at_call 56; exact grow_of (HM.out _)) | (go_at_call 57; exact grow_of (HC.out _)))))
  refine wpQuiet_nil ?_
  rintro W' ⟨x, rfl⟩
  have b3 := b2.trans ((gw_below x).mono b2.size)
  generalize gw x = W' at b3 ⊢
  clear c0 c1 c2 c3 c4 c5 ne HF HW HM HC b2
  go_wp2
  go_ret
  refine ⟨?_, b3⟩
  unfold f82
  simp only [← app]
  rfl

end Go.Proofs.YtbokolpjdaamiaaGreatDoor.dx

namespace Go.Proofs.YtbokolpjdaamiaaGreatDoor.dx
open Go.RowKit
open gr
set_option linter.unusedVariables false

set_option maxHeartbeats 2000000 in
set_option maxRecDepth 100000 in
theorem digs_more (n : Int) (h0 : 10 ≤ n) (h1 : n ≤ 9999999999) (l : List UInt8) (hl : l.length ≤ 40) (ih : ∀ w, Calls Tryz.prog 28 #[.int .i64 (n / 10)] w fun e w' => e = .returned (.string ⟨l.toArray⟩) ∧ Below w.heap.size w w') (w : World) :
    Calls Tryz.prog 28 #[.int .i64 n] w fun e w' => e = .returned (.string ⟨(l ++ [dg (n % 10)]).toArray⟩) ∧ Below w.heap.size w w' := by
  have hz : ((dg (n % 10)).toNat : Int) = 48 + n % 10 := dg_nat (by omega) (by omega)
  have HZ : Hid (((dg (n % 10)).toNat : Int) = 48 + n % 10) := hz
  have cv := conv_oneD w hz
  clear hz
  have IH : Hid (∀ w, Calls Tryz.prog 28 #[.int .i64 (n / 10)] w fun e w' => e = .returned (.string ⟨l.toArray⟩) ∧ Below w.heap.size w w') := ih
  clear ih
  have d1 : (n == -9223372036854775808) = false := beq_eq_false_iff_ne.2 (by omega)
  have hs : (9223372036854775807 < l.length + 1) = False := eq_false (by omega)
  have e0 : n.tdiv 10 = n / 10 := Int.tdiv_eq_ediv_of_nonneg (by omega)
  have e00 : n.tmod 10 = n % 10 := Int.tmod_eq_emod_of_nonneg (by omega)
  have e1 : IntKind.i64.wrap (n / 10) = n / 10 := by rw [IntKind.wrap_i64]; omega
  have e2 : IntKind.i64.wrap (n % 10) = n % 10 := by rw [IntKind.wrap_i64]; omega
  have e3 : IntKind.i64.wrap (48 + n % 10) = 48 + n % 10 := by rw [IntKind.wrap_i64]; omega
  have e4 : IntKind.u8.wrap (48 + n % 10) = 48 + n % 10 := by rw [IntKind.wrap_u8]; omega
  go_enter Tryz.func28, Tryz.ntmps28
  go_wp2_with fail
  go_region_with (go_at_call 28; refine (IH.out _).mono ?_; rintro e w1 ⟨rfl, b1⟩; have cw := conv_one w1 (z := 48 + n % 10) (b := dg (n % 10)) HZ.out; first | (have ck := conv_keptD (w := w) (z := 48 + n % 10) (b := dg (n % 10)) HZ.out b1) | skip)
  all_goals go_wp2
  all_goals go_ret
  all_goals refine ⟨by rw [← app]; rfl, ?_⟩
  all_goals first
    | exact belA b1
    | exact belB b1


theorem dec_len : ∀ (k n : Nat), n < 10 ^ (k + 1) → (Lib.decDigits n).length ≤ k + 1
  | 0, n, h => by
    rw [Lib.decDigits, dif_pos (by omega)]
    simp
  | k + 1, n, h => by
    rw [Lib.decDigits]
    by_cases h9 : n < 10
    · rw [dif_pos h9]; simp
    · rw [dif_neg h9, List.length_append]
      have := dec_len k (n / 10) (by rw [Nat.pow_succ] at h; omega)
      simp
      exact this
theorem spec_digs : ∀ (k n : Nat), n < 10 ^ (k + 1) → k ≤ 9 → ∀ w : World, Calls Tryz.prog 28 #[.int .i64 (n : Int)] w fun e w' => e = .returned (.string ⟨(Lib.decDigits n).toArray⟩) ∧ Below w.heap.size w w'
  | 0, n, h, _, w => by
    have := digs_one (n : Int) (by omega) (by omega) w
    rw [Lib.decDigits, dif_pos (by omega)]
    exact this
  | k + 1, n, h, hk, w => by
    by_cases h9 : n < 10
    · have := digs_one (n : Int) (by omega) (by omega) w
      rw [Lib.decDigits, dif_pos h9]
      exact this
    · have hp : n / 10 < 10 ^ (k + 1) := by rw [Nat.pow_succ] at h; omega
      have hl := dec_len k (n / 10) hp
      have h10 : n ≤ 9999999999 := by
        have : 10 ^ (k + 1 + 1) ≤ 10 ^ 10 := Nat.pow_le_pow_right (by omega) (by omega)
        have e : (10 : Nat) ^ 10 = 10000000000 := by decide
        omega
      have := digs_more (n : Int) (by omega) (by omega) (Lib.decDigits (n / 10)) (by omega) (fun w => by
        have := spec_digs k (n / 10) hp (by omega) w
        rw [show ((n / 10 : Nat) : Int) = (n : Int) / 10 from by omega] at this
        exact this) w
      rw [Lib.decDigits, dif_neg h9]
      have e : dg ((n : Int) % 10) = UInt8.ofNat (48 + n % 10) := by
        unfold dg
        congr 1
      rw [e] at this
      exact this
end Go.Proofs.YtbokolpjdaamiaaGreatDoor.dx
