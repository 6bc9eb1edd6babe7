/-
  Contracts of the functions that write numbers of two digits.
  Regions that draw their order, whose own operations only read and whose callees make new memory alone: one walk in the order of the text.
  Plain facts on days, months and years from 1970 to 2099.
  Contracts of the functions that tell how many days a month has, and whether a calendar is right.
  Contracts of both CivilOK functions: whether a calendar is right.
-/
import Derived.Test.YtbokolpjdaamiaaGreatDoorPkar
import Derived.Test.YtbokolpjdaamiaaGreatDoorPkae
import Derived.Below
import Derived.Deep.QuietTactic
import Derived.BigQuiet
import Derived.BigRegion
import Derived.WalkKit
import Derived.WalkLawsBesides

namespace Go.Proofs.YtbokolpjdaamiaaGreatDoor.dx
open Go.RowKit
set_option linter.unusedVariables false

/-- A digit's byte. -/
def dg (n : Int) : UInt8 := UInt8.ofNat (48 + n).toNat
theorem dg_nat {n : Int} (h0 : 0 ≤ n) (h1 : n ≤ 9) : ((dg n).toNat : Int) = 48 + n := by
  unfold dg
  rw [UInt8.toNat_ofNat_of_lt' (by show (48 + n).toNat < 256; omega)]
  omega
def two (n : Int) : List UInt8 := [dg (n / 10), dg (n % 10)]
theorem bel_box (w : World) (o : Obj) : Below w.heap.size w (w.alloc o) := (Below.refl _ w).alloc (Nat.le_refl _) _

theorem app (a b : List UInt8) : (⟨a.toArray⟩ : ByteArray) ++ ⟨b.toArray⟩ = ⟨(a ++ b).toArray⟩ := by
  apply ByteArray.ext
  simp
theorem lit (b : UInt8) : (⟨#[b]⟩ : ByteArray) = ⟨[b].toArray⟩ := rfl
/-- A block of bytes that has just been laid, turned into a text. -/
theorem conv_new (w : World) (l : List UInt8) (cs : Array Value) (h : cs.toList = l.map fun b => Value.int .u8 (b.toNat : Int)) :
    (convert 22 9 (.slice (some ⟨w.heap.size, 0, none⟩) l.length l.length)).run Tryz.prog (w.alloc (.cells cs 5)) = .ok (.string ⟨l.toArray⟩) (w.alloc (.cells cs 5)) := by
  refine run_convert_bytes_back _ 22 9 5 ⟨w.heap.size, 0, none⟩ l.length l Tryz.underlying22 Tryz.underlying5 Tryz.underlying9 (fun j hj => ?_)
  have := ow.cells_new w cs.toList 5 j (.int .u8 (l[j].toNat : Int)) (by rw [h]; simp [hj])
  simpa using this


set_option maxHeartbeats 1000000 in
theorem spec_two (n : Int) (h0 : 0 ≤ n) (h1 : n ≤ 99) (w : World) : Calls Tryz.prog 55 #[.int .i64 n] w fun e w' => e = .returned (.string ⟨(two n).toArray⟩) ∧ Below w.heap.size w w' := by
  have cv := conv_new w (two n) #[.int .u8 (48 + n / 10 % 10), .int .u8 (48 + n % 10)] (by
    show _ = [Value.int .u8 ((dg (n / 10)).toNat : Int), Value.int .u8 ((dg (n % 10)).toNat : Int)]
    rw [dg_nat (by omega) (by omega), dg_nat (by omega) (by omega), show n / 10 % 10 = n / 10 by omega])
  have e2 : (two n).length = 2 := rfl
  rw [e2] at cv
  go_enter Tryz.func55, Tryz.ntmps55
  go_wp2
  go_ret
  exact ⟨rfl, bel_box _ _⟩
end Go.Proofs.YtbokolpjdaamiaaGreatDoor.dx

namespace Go.Proofs.YtbokolpjdaamiaaGreatDoor.gr
open Go.RowKit
set_option linter.unusedVariables false

/-- What a world may have grown to. -/
def Ext (w : World) : Type := { x : World // Below w.heap.size w x }
def gw {w : World} (x : Ext w) : World := x.1
section
variable {P : Program} {w : World}
theorem gw_below (x : Ext w) : Below w.heap.size w (gw x) := x.2
theorem ext_some (w : World) : Nonempty (Ext w) := ⟨⟨w, Below.refl _ _⟩⟩
theorem gw_cell (x : Ext w) {p : Addr} {v : Value} (h : w.cell? p = some v) : (gw x).cell? p = some v := (x.2.cell (World.block_lt_of_cell? w _ h)).trans h
theorem region_lit {id : Nat} {Q : Exit → Act → World → Prop} {a : Act} {l : List Oper} (hm : P.follows .mixedOrders = true) (hB : Region.lexB .any l.toArray = true)
    (h : wpQuiet P l.toArray (fun w' => ∃ x : Ext w, w' = gw x) (fun a' => ∀ w', (∃ x : Ext w, w' = gw x) → Q .normal a' w') l a) : (Code.region id l.toArray true).wp P Q a w :=
  wp_region_quiet (C := fun w' => ∃ x : Ext w, w' = gw x) hm hB ⟨⟨_, (Below.refl _ w).drew⟩, rfl⟩ (by simpa using h)
theorem grow_of {f : FuncId} {args : Array Value} {x : Ext w} {v : Value} (h : Calls P f args (gw x) fun e w' => e = .returned v ∧ Below (gw x).heap.size (gw x) w') :
    Calls P f args (gw x) fun e w'' => e = .returned v ∧ ∃ y : Ext w, w'' = gw y :=
  h.mono fun e w' ⟨he, hb⟩ => ⟨he, ⟨w', (gw_below x).trans (hb.mono (gw_below x).size)⟩, rfl⟩
theorem grow_same {f : FuncId} {args : Array Value} {x : Ext w} {v : Value} (h : Calls P f args (gw x) fun e w' => e = .returned v ∧ w' = gw x) :
    Calls P f args (gw x) fun e w'' => e = .returned v ∧ ∃ y : Ext w, w'' = gw y :=
  h.mono fun e w' ⟨he, hb⟩ => ⟨he, x, hb⟩
end
end Go.Proofs.YtbokolpjdaamiaaGreatDoor.gr

namespace Go.Proofs.YtbokolpjdaamiaaGreatDoor.dt
open Go.RowKit
set_option linter.unusedVariables false

def lp (y : Int) : Int := if y % 4 = 0 then 1 else 0
theorem lp_yes {y : Int} (h : y % 4 = 0) : lp y = 1 := if_pos h
theorem lp_no {y : Int} (h : y % 4 ≠ 0) : lp y = 0 := if_neg h
theorem lp_01 (y : Int) : 0 ≤ lp y ∧ lp y ≤ 1 := by unfold lp; split <;> omega
/-- How many days a month has. -/
def dm (y m : Int) : Int := if m = 2 then 28 + lp y else if m = 4 ∨ m = 6 ∨ m = 9 ∨ m = 11 then 30 else 31
theorem dm_two (y : Int) : dm y 2 = 28 + lp y := if_pos rfl
theorem dm_30 {y m : Int} (h : m = 4 ∨ m = 6 ∨ m = 9 ∨ m = 11) : dm y m = 30 := by unfold dm; rw [if_neg (by omega), if_pos h]
theorem dm_31 {y m : Int} (h : m ≠ 2) (h' : ¬ (m = 4 ∨ m = 6 ∨ m = 9 ∨ m = 11)) : dm y m = 31 := by unfold dm; rw [if_neg h, if_neg h']
theorem dm_pos (y m : Int) : 28 ≤ dm y m ∧ dm y m ≤ 31 := by
  have := lp_01 y
  unfold dm
  split
  · omega
  · split <;> omega
/-- How many days have gone when a year begins. -/
def yd (y : Int) : Int := (y - 1970) * 365 + (y - 1970 + 1) / 4
theorem yd_first : yd 1970 = 0 := by decide
theorem yd_step (y : Int) : yd (y + 1) = yd y + 365 + lp y := by unfold yd lp; split <;> omega
theorem yd_le {y : Int} (h : y ≤ 2100) : yd y ≤ 47482 := by unfold yd; omega
theorem yd_pos {y : Int} (h : 1970 ≤ y) : 0 ≤ yd y := by unfold yd; omega
theorem yd_mono {y z : Int} (h : y ≤ z) : yd y ≤ yd z := by unfold yd; omega
/-- How many days of a year have gone when a month begins. -/
def ms (y : Int) : Nat → Int
  | 0 => 0
  | k + 1 => ms y k + dm y ((k : Int) + 1)
theorem ms_succ (y : Int) (k : Nat) : ms y (k + 1) = ms y k + dm y ((k : Int) + 1) := rfl
theorem ms_pos (y : Int) (k : Nat) : 0 ≤ ms y k := by
  induction k with
  | zero => exact Int.le_refl _
  | succ k ih => rw [ms_succ]; have := dm_pos y ((k : Int) + 1); omega
theorem ms_mono {y : Int} {j k : Nat} (h : j ≤ k) : ms y j ≤ ms y k := by
  induction k with
  | zero => have : j = 0 := by omega
            subst this; exact Int.le_refl _
  | succ k ih =>
    by_cases e : j = k + 1
    · subst e; exact Int.le_refl _
    · have := ih (by omega)
      have := dm_pos y ((k : Int) + 1)
      rw [ms_succ]; omega
theorem ms_12 (y : Int) : ms y 12 = 365 + lp y := by
  simp [ms, dm]
  omega
theorem ms_le {y : Int} {k : Nat} (h : k ≤ 12) : ms y k ≤ 366 := by
  have h1 := ms_mono (y := y) h
  have h2 := ms_12 y
  have h3 := lp_01 y
  omega
/-- The month, from 0 on, of a day of a year. -/
def fm (y r : Int) : Nat → Nat
  | 0 => 0
  | f + 1 => if ms y (f + 1) ≤ r then f + 1 else fm y r f
theorem fm_le (y r : Int) (f : Nat) : fm y r f ≤ f := by
  induction f with
  | zero => exact Nat.le_refl _
  | succ f ih => unfold fm; split <;> omega
theorem fm_lo {y r : Int} (h : 0 ≤ r) (f : Nat) : ms y (fm y r f) ≤ r := by
  induction f with
  | zero => exact h
  | succ f ih => unfold fm; split <;> assumption
theorem fm_hi {y r : Int} (f : Nat) (h : r < ms y (f + 1)) : r < ms y (fm y r f + 1) := by
  induction f with
  | zero => exact h
  | succ f ih =>
    unfold fm
    split
    · exact h
    · exact ih (by omega)
def mo (y r : Int) : Nat := fm y r 11
theorem mo_le (y r : Int) : mo y r ≤ 11 := fm_le y r 11
theorem mo_lo {y r : Int} (h : 0 ≤ r) : ms y (mo y r) ≤ r := fm_lo h 11
theorem mo_hi {y r : Int} (h : r < 365 + lp y) : r < ms y (mo y r + 1) := fm_hi 11 (by rw [ms_12]; exact h)
theorem mo_is {y r : Int} {k : Nat} (h0 : 0 ≤ r) (h1 : r < 365 + lp y) (hl : ms y k ≤ r) (hh : r < ms y (k + 1)) : mo y r = k := by
  have a := mo_lo (y := y) h0
  have b := mo_hi (y := y) h1
  rcases Nat.lt_trichotomy (mo y r) k with c | c | c
  · have := ms_mono (y := y) (show mo y r + 1 ≤ k by omega); omega
  · exact c
  · have := ms_mono (y := y) (show k + 1 ≤ mo y r by omega); omega

/-- The year, the day of it, the month, the day of the month and the clock of a stamp. -/
def yr (n : Int) : Int := 1970 + (4 * (n / 86400) + 2) / 1461
def rs (n : Int) : Int := n / 86400 - yd (yr n)
def mn (n : Int) : Int := (mo (yr n) (rs n) : Int) + 1
def dy (n : Int) : Int := rs n - ms (yr n) (mo (yr n) (rs n)) + 1
def hr (n : Int) : Int := n / 3600 % 24
def mt (n : Int) : Int := n / 60 % 60
def sc (n : Int) : Int := n % 60
def C6 (y m d h i s : Int) : Value := .agg #[.int .i64 y, .int .i64 m, .int .i64 d, .int .i64 h, .int .i64 i, .int .i64 s]
def civ (n : Int) : Value := C6 (yr n) (mn n) (dy n) (hr n) (mt n) (sc n)
theorem yr_at (d : Int) (h : 0 ≤ d) : yd (1970 + (4 * d + 2) / 1461) ≤ d ∧ d < yd (1970 + (4 * d + 2) / 1461 + 1) := by
  unfold yd
  omega
theorem yr_lo {n : Int} (h : 0 ≤ n) : yd (yr n) ≤ n / 86400 := (yr_at _ (by omega)).1
theorem yr_hi {n : Int} (h : 0 ≤ n) : n / 86400 < yd (yr n + 1) := (yr_at _ (by omega)).2
theorem yr_is {n y : Int} (h : 0 ≤ n) (hl : yd y ≤ n / 86400) (hh : n / 86400 < yd (y + 1)) : yr n = y := by
  have a := yr_lo h
  have b := yr_hi h
  rcases Int.lt_trichotomy (yr n) y with c | c | c
  · have := yd_mono (show yr n + 1 ≤ y by omega); omega
  · exact c
  · have := yd_mono (show y + 1 ≤ yr n by omega); omega
theorem yr_1970 {n : Int} (h : 0 ≤ n) : 1970 ≤ yr n := by unfold yr; omega
theorem yr_2099 {n : Int} (h : 0 ≤ n) (h' : n ≤ 4102444799) : yr n ≤ 2099 := by unfold yr; omega
theorem rs_lo {n : Int} (h : 0 ≤ n) : 0 ≤ rs n := by have := yr_lo h; unfold rs; omega
theorem rs_hi {n : Int} (h : 0 ≤ n) : rs n < 365 + lp (yr n) := by have := yr_hi h; have := yd_step (yr n); unfold rs; omega
/-- A calendar is right. -/
def Ok (y m d h i s : Int) : Prop := 1970 ≤ y ∧ y ≤ 2099 ∧ 1 ≤ m ∧ m ≤ 12 ∧ 1 ≤ d ∧ d ≤ dm y m ∧ 0 ≤ h ∧ h ≤ 23 ∧ 0 ≤ i ∧ i ≤ 59 ∧ 0 ≤ s ∧ s ≤ 59
theorem civ_ok {n : Int} (h : 0 ≤ n) (h' : n ≤ 4102444799) : Ok (yr n) (mn n) (dy n) (hr n) (mt n) (sc n) := by
  have a := mo_lo (y := yr n) (rs_lo h)
  have b := mo_hi (rs_hi h)
  have c := mo_le (yr n) (rs n)
  rw [ms_succ] at b
  refine ⟨yr_1970 h, yr_2099 h h', ?_, ?_, ?_, ?_, ?_, ?_, ?_, ?_, ?_, ?_⟩
  · unfold mn; omega
  · unfold mn; omega
  · unfold dy; omega
  · unfold dy mn; omega
  all_goals (first | (unfold hr; omega) | (unfold mt; omega) | (unfold sc; omega))
/-- The stamp of a calendar. -/
def st (y m d h i s : Int) : Int := (((yd y + ms y (m - 1).toNat + d - 1) * 24 + h) * 60 + i) * 60 + s
theorem st_civ {n : Int} : st (yr n) (mn n) (dy n) (hr n) (mt n) (sc n) = n := by
  have e : (mn n - 1).toNat = mo (yr n) (rs n) := by unfold mn; omega
  unfold st
  rw [e]
  have e2 : yd (yr n) + ms (yr n) (mo (yr n) (rs n)) + dy n - 1 = n / 86400 := by unfold dy rs; omega
  rw [e2]
  unfold hr mt sc
  omega
theorem days_hi {y m d h i s : Int} (k : Ok y m d h i s) : yd y + ms y (m - 1).toNat + d - 1 < yd (y + 1) := by
  obtain ⟨h1, h2, h3, h4, h5, h6, _⟩ := k
  have a := ms_mono (y := y) (show (m - 1).toNat + 1 ≤ 12 by omega)
  rw [ms_succ, ms_12, show (((m - 1).toNat : Nat) : Int) + 1 = m by omega] at a
  rw [yd_step]
  omega
theorem st_bounds {y m d h i s : Int} (k : Ok y m d h i s) : 0 ≤ st y m d h i s ∧ st y m d h i s ≤ 4102444799 := by
  have a := days_hi k
  obtain ⟨h1, h2, h3, h4, h5, h6, h7, h8, h9, h10, h11, h12⟩ := k
  have b := yd_le (show y + 1 ≤ 2100 by omega)
  have c := yd_pos h1
  have e := ms_pos y (m - 1).toNat
  unfold st
  omega
/-- The next day. -/
theorem yr_next {n : Int} (h : 0 ≤ n) : (yr (n + 86400) = yr n ∧ rs (n + 86400) = rs n + 1) ∨ rs (n + 86400) = 0 := by
  have a := yr_lo h
  have b := yr_hi h
  have e : (n + 86400) / 86400 = n / 86400 + 1 := by omega
  by_cases c : n / 86400 + 1 < yd (yr n + 1)
  · left
    have : yr (n + 86400) = yr n := yr_is (by omega) (by omega) (by omega)
    exact ⟨this, by unfold rs; rw [this]; omega⟩
  · right
    have h2 := yd_step (yr n + 1)
    have h3 := lp_01 (yr n + 1)
    have : yr (n + 86400) = yr n + 1 := yr_is (by omega) (by omega) (by omega)
    unfold rs; rw [this]; omega
theorem mo_zero (y : Int) : mo y 0 = 0 := by
  have h := lp_01 y
  refine mo_is (Int.le_refl _) (by omega) (Int.le_refl _) ?_
  have := dm_pos y ((0 : Nat) + 1 : Int)
  rw [ms_succ]
  show (0 : Int) < 0 + _
  omega
theorem dy_next {n : Int} (h : 0 ≤ n) : dy (n + 86400) = dy n + 1 ∨ dy (n + 86400) = 1 := by
  rcases yr_next h with ⟨e1, e2⟩ | e
  · have a := mo_lo (y := yr n) (rs_lo h)
    have b := mo_hi (rs_hi h)
    have r0 := rs_lo (show 0 ≤ n + 86400 by omega)
    have r1 := rs_hi (show 0 ≤ n + 86400 by omega)
    rw [e1, e2] at r1
    rw [e2] at r0
    by_cases c : rs n + 1 < ms (yr n) (mo (yr n) (rs n) + 1)
    · left
      have : mo (yr n) (rs n + 1) = mo (yr n) (rs n) := mo_is r0 r1 (by omega) c
      unfold dy; rw [e1, e2, this]; omega
    · right
      have d := dm_pos (yr n) ((mo (yr n) (rs n) + 1 : Nat) + 1 : Int)
      have : mo (yr n) (rs n + 1) = mo (yr n) (rs n) + 1 := mo_is r0 r1 (by omega) (by rw [ms_succ]; omega)
      unfold dy; rw [e1, e2, this]; omega
  · right
    unfold dy
    rw [e, mo_zero]
    show (0 : Int) - 0 + 1 = 1
    rfl
end Go.Proofs.YtbokolpjdaamiaaGreatDoor.dt

namespace Go.Proofs.YtbokolpjdaamiaaGreatDoor.dw
open Go.RowKit
open dt
set_option linter.unusedVariables false


/-- Whether a year from 1970 to 2099 has a leap day. -/
def lpB (y : Int) : Bool := y % 4 == 0
theorem lp_bit (y : Int) : lp y = if lpB y then 1 else 0 := by unfold lp lpB; by_cases h : y % 4 = 0 <;> simp [h]
set_option maxHeartbeats 1000000 in
theorem leap_any (y : Int) (h1 : 1970 ≤ y) (h2 : y ≤ 2099) (w : World) : Calls Tryz.prog 77 #[.int .i64 y] w fun e w' => e = .returned (.bool (lpB y)) ∧ w' = w := by
  by_cases c : y % 4 = 0
  · have d1 : (y % 4 == 0) = true := beq_iff_eq.2 c
    by_cases c2 : y % 100 = 0
    · have d2 : (y % 100 == 0) = true := beq_iff_eq.2 c2
      have d3 : (y % 400 == 0) = true := beq_iff_eq.2 (by omega)
      have e : lpB y = true := d1
      rw [e]
      clear e
      go_enter Tryz.func77, Tryz.ntmps77
      go_wp2
      go_ret
      exact ⟨rfl, rfl⟩
    · have d2 : (y % 100 == 0) = false := beq_eq_false_iff_ne.2 c2
      have e : lpB y = true := d1
      rw [e]
      clear e
      go_enter Tryz.func77, Tryz.ntmps77
      go_wp2
      go_ret
      exact ⟨rfl, rfl⟩
  · have d1 : (y % 4 == 0) = false := beq_eq_false_iff_ne.2 c
    have e : lpB y = false := d1
    rw [e]
    clear e
    go_enter Tryz.func77, Tryz.ntmps77
    go_wp2
    go_ret
    exact ⟨rfl, rfl⟩
set_option maxHeartbeats 400000 in
theorem bit_any (b : Bool) (w : World) : Calls Tryz.prog 76 #[.bool b] w fun e w' => e = .returned (.int .i64 (if b then 1 else 0)) ∧ w' = w := by
  cases b
  all_goals
    go_enter Tryz.func76, Tryz.ntmps76
    go_wp2
    go_ret
    exact ⟨rfl, rfl⟩
set_option maxHeartbeats 1000000 in
theorem spec_dm (y m : Int) (h1 : 1970 ≤ y) (h2 : y ≤ 2099) (w : World) : Calls Tryz.prog 78 #[.int .i64 y, .int .i64 m] w fun e w' => e = .returned (.int .i64 (dm y m)) ∧ w' = w := by
  by_cases c2 : m = 2
  · subst c2
    rw [dm_two, lp_bit]
    have u : (0 : Int) ≤ (if lpB y then 1 else 0) ∧ (if lpB y then 1 else 0) ≤ (1 : Int) := by split <;> omega
    generalize hz : (if lpB y then (1 : Int) else 0) = z at u ⊢
    obtain ⟨u1, u2⟩ := u
    go_enter Tryz.func78, Tryz.ntmps78
    go_wp2_with fail
    refine (leap_any y h1 h2 _).mono ?_
    rintro e w' ⟨rfl, rfl⟩
    go_wp2_with fail
    refine (bit_any _ _).mono ?_
    rintro e w' ⟨rfl, rfl⟩
    rw [hz]
    go_wp2
    go_ret
    exact ⟨rfl, rfl⟩
  have d2 : (m == 2) = false := beq_eq_false_iff_ne.2 c2
  by_cases c : m = 4 ∨ m = 6 ∨ m = 9 ∨ m = 11
  · rw [dm_30 c]
    clear c2
    rcases c with rfl | rfl | rfl | rfl
    all_goals
      clear d2
      go_enter Tryz.func78, Tryz.ntmps78
      go_wp2
      go_ret
      exact ⟨rfl, rfl⟩
  · have d4 : (m == 4) = false := beq_eq_false_iff_ne.2 (by omega)
    have d6 : (m == 6) = false := beq_eq_false_iff_ne.2 (by omega)
    have d9 : (m == 9) = false := beq_eq_false_iff_ne.2 (by omega)
    have d11 : (m == 11) = false := beq_eq_false_iff_ne.2 (by omega)
    rw [dm_31 c2 c]
    clear c c2
    go_enter Tryz.func78, Tryz.ntmps78
    go_wp2
    go_ret
    exact ⟨rfl, rfl⟩
end Go.Proofs.YtbokolpjdaamiaaGreatDoor.dw

namespace Go.Proofs.YtbokolpjdaamiaaGreatDoor.dw
open Go.RowKit
open dt
set_option linter.unusedVariables false

/-- An answer that says whether something holds, in new memory alone. -/
def Tells (p : Prop) (w : World) (e : Ending) (w' : World) : Prop := ∃ b : Bool, e = .returned (.bool b) ∧ (b = true ↔ p) ∧ Below w.heap.size w w'
theorem tells_no {p : Prop} {w w' : World} (h : ¬ p) (hb : Below w.heap.size w w') : Tells p w (.returned (.bool false)) w' := ⟨false, rfl, ⟨fun x => (by cases x), fun x => absurd x h⟩, hb⟩
theorem tells_yes {p : Prop} {w w' : World} (h : p) (hb : Below w.heap.size w w') : Tells p w (.returned (.bool true)) w' := ⟨true, rfl, ⟨fun _ => h, fun _ => rfl⟩, hb⟩
theorem bel_box (w : World) (o : Obj) : Below w.heap.size w (w.alloc o) := (Below.refl _ w).alloc (Nat.le_refl _) _
theorem bel_drew {w v : World} (h : Below w.heap.size w v) (n : Nat) : Below w.heap.size w (v.drewN n) := ⟨h.os, h.tape, h.output, h.size, h.block⟩

end Go.Proofs.YtbokolpjdaamiaaGreatDoor.dw
