/-
  A mutation as an argument: opened; measured, copied and compared by the law's own functions.
  Both MutationOK functions answer whether a mutation is right.
  Both MutationOK functions answer whether a mutation is right: the functions as wholes.
-/
import Derived.Test.YtncnbhekgkemfaaGreatDoorPkac
import Derived.Deep.Fields
import Derived.Deep.Slices
import Derived.Test.YtncnbhekgkemfaaGreatDoorPkab
import Derived.Deep.DeepCutAuto
import Derived.Deep.Cut
import Derived.Deep.CutRange
import Derived.BigRegion

namespace Go.Proofs.YtncnbhekgkemfaaGreatDoor.mu
open Go.ChangeShapes Go.WideShapes Go.ChangeAt Go.RowKit Go.Deep Go.Joins
open it
set_option linter.unusedVariables false

/-- A mutation: kind, uid, mode, flags, box, items. -/
structure Mu where
  k : Int
  u : Int
  m : Int
  f : Int
  b : ByteArray
  ps : List Pr
/-- It as the program has it, its items in v. -/
def MV (x : Mu) (v : Value) : Value := .agg #[.int .i64 x.k, .int .i64 x.u, .int .i64 x.m, .int .i64 x.f, .string x.b, v]
/-- A number that an int can be. -/
def In (z : Int) : Prop := -9223372036854775808 ≤ z ∧ z ≤ 9223372036854775807
theorem in_of_wf {z : Int} (h : (Lit.int .i64 z).wf = true) : In z := by
  have h1 : IntKind.i64.min = -9223372036854775808 := rfl
  have h2 : IntKind.i64.max = 9223372036854775807 := rfl
  simp [Lit.wf, h1, h2] at h
  exact ⟨by omega, by omega⟩
def Ins (x : Mu) : Prop := In x.k ∧ In x.u ∧ In x.m ∧ In x.f
def Small (x : Mu) : Prop := Ins x ∧ x.b.size ≤ 1048576 ∧ it.Small x.ps
def Held (x : Mu) : Prop := Ins x ∧ x.b.size ≤ maxLen ∧ x.ps.length ≤ maxLen ∧ ∀ j, j < x.ps.length → (x.ps.getD j no).1.size ≤ maxLen ∧ (x.ps.getD j no).2.size ≤ maxLen

theorem six_list {α : Type} {l : List α} (h : l.length = 6) : ∃ a b c d e f, l = [a, b, c, d, e, f] := by
  match l, h with
  | [a, b, c, d, e, f], _ => exact ⟨a, b, c, d, e, f, rfl⟩
section
variable {H : Type} {enc : TypeId × Value → H} {w : World} {base : Nat} {spare : Nat → Bool} {held : Bool}
theorem trod_cells {T : TypeId} {fs : Array Field} {fuel : Nat} {cs : List Value} {x : DataW H × List MemPlace} (hs : Tryz.prog.underlying T = some (.struct fs)) (hone : oneCellFields Tryz.prog fs = true) (hc : Tryz.prog.cellsOf T = fs.size) (h : DataW.trod enc Tryz.prog w base spare held fuel T cs = some x) :
    cs.length = fs.size ∧ ∃ n, ∀ (j : Nat) (f : Field) (c : Value), fs[j]? = some f → cs[j]? = some c → ∃ y, DataW.trod enc Tryz.prog w base spare held n f.type [c] = some y := by
  obtain ⟨xs, n, _, hx, hcl, hlen, hf⟩ := DataW.trod_struct hs h
  rw [hc] at hcl
  refine ⟨hcl, n, fun j f c hfj hcj => ?_⟩
  have hh := hf j f hfj
  obtain ⟨o, k⟩ := hone_of hone j f hfj
  rw [o, k] at hh
  have hj : j < xs.length := by
    rw [hlen]
    exact (Array.getElem?_eq_some_iff.1 hfj).1
  have ht : (cs.drop j).take 1 = [c] := by
    obtain ⟨hj2, e⟩ := List.getElem?_eq_some_iff.1 hcj
    rw [List.drop_eq_getElem_cons hj2, e]
    rfl
  rw [ht, List.getElem?_eq_getElem hj] at hh
  exact ⟨_, hh⟩
end

/-- A mutation that lies as a variable. -/
def Lies (w : World) (b : Nat) (T : TypeId) (x : Mu) (v : Value) : Prop := w.heap[b]? = some (.cells #[.int .i64 x.k, .int .i64 x.u, .int .i64 x.m, .int .i64 x.f, .string x.b, v] T (0, 0))
section
variable {w w' : World} {b : Nat} {T : TypeId} {x : Mu} {v : Value}
theorem Lies.c0 (h : Lies w b T x v) : w.cell? ⟨b, 0, none⟩ = some (.int .i64 x.k) := by rw [cell_of_row w _ _ _ _ _ h]; rfl
theorem Lies.c1 (h : Lies w b T x v) : w.cell? ⟨b, 0 + 1, none⟩ = some (.int .i64 x.u) := by rw [cell_of_row w _ _ _ _ _ h]; rfl
theorem Lies.c2 (h : Lies w b T x v) : w.cell? ⟨b, 0 + 2, none⟩ = some (.int .i64 x.m) := by rw [cell_of_row w _ _ _ _ _ h]; rfl
theorem Lies.c3 (h : Lies w b T x v) : w.cell? ⟨b, 0 + 3, none⟩ = some (.int .i64 x.f) := by rw [cell_of_row w _ _ _ _ _ h]; rfl
theorem Lies.c4 (h : Lies w b T x v) : w.cell? ⟨b, 0 + 4, none⟩ = some (.string x.b) := by rw [cell_of_row w _ _ _ _ _ h]; rfl
theorem Lies.c5 (h : Lies w b T x v) : w.cell? ⟨b, 0 + 5, none⟩ = some v := by rw [cell_of_row w _ _ _ _ _ h]; rfl
theorem Lies.lt (h : Lies w b T x v) : b < w.heap.size := World.block_lt_of_cell? w _ h.c0
theorem Lies.keep (h : Lies w b T x v) (hb : Below w.heap.size w w') : Lies w' b T x v := (hb.block b h.lt).trans h
theorem lies_new (w : World) (T : TypeId) (x : Mu) (v : Value) : Lies (w.alloc (.cells #[.int .i64 x.k, .int .i64 x.u, .int .i64 x.m, .int .i64 x.f, .string x.b, v] T)) w.heap.size T x v := by show (w.heap.push _)[w.heap.size]? = _; simp
theorem new_below (w : World) (T : TypeId) (cs : Array Value) : Below w.heap.size w (w.alloc (.cells cs T)) := (Below.refl _ _).alloc (Nat.le_refl _) _
end



end Go.Proofs.YtncnbhekgkemfaaGreatDoor.mu

namespace Go.Proofs.YtncnbhekgkemfaaGreatDoor.mu
open Go.RowKit
open it
set_option linter.unusedVariables false

def dGood (s : ByteArray) (j : Nat) : Decidable (nm.good s j) :=
  if h : j < s.size then decidable_of_iff (nm.letB ((s[j]'h).toNat : Int) = true ∨ (0 < j ∧ nm.digB ((s[j]'h).toNat : Int) = true)) ⟨fun x => ⟨h, x⟩, fun ⟨_, x⟩ => x⟩ else isFalse (fun ⟨h', _⟩ => h h')
def dAllGood (s : ByteArray) : Decidable (∀ j, j < s.size → nm.good s j) := @Nat.decidableBallLT s.size (fun j _ => nm.good s j) (fun j _ => dGood s j)
def dName (s : ByteArray) : Decidable (nm.IsName s) := @instDecidableAnd _ _ _ (@instDecidableAnd _ _ _ (dAllGood s))
/-- A text is a name. -/
def nmB (s : ByteArray) : Bool := @decide (nm.IsName s) (dName s)
theorem nm_of {s : ByteArray} {e : Ending} (h : nm.NameRet s e) : e = .returned (.bool (nmB s)) := by
  obtain ⟨b, rfl, h⟩ := h
  have : b = nmB s := by
    unfold nmB
    cases b
    · exact (ow.df (fun x => by have := h.2 x; cases this)).symm
    · exact (ow.dt (h.1 rfl)).symm
  rw [this]
theorem impl_name (s : ByteArray) (w : World) (hs : s.size ≤ 1048576) : Calls Tryz.prog 59 #[.string s] w fun e w' => e = .returned (.bool (nmB s)) ∧ w' = w :=
  (nm.implName_any s w hs).mono fun e w' ⟨h, h2⟩ => ⟨nm_of h, h2⟩
theorem spec_name (s : ByteArray) (w : World) (hs : s.size ≤ 1048576) : Calls Tryz.prog 55 #[.string s] w fun e w' => e = .returned (.bool (nmB s)) ∧ w' = w :=
  (nm.specName_any s w hs).mono fun e w' ⟨h, h2⟩ => ⟨nm_of h, h2⟩

/-- A key's length. -/
def kOK (n : Nat) : Bool := decide (1 ≤ n ∧ n ≤ 200)
/-- Flags. -/
def fOK (f : Int) : Bool := decide (0 ≤ f ∧ f ≤ 31)
def iOK (p : Pr) : Bool := decide ((1 ≤ p.1.size ∧ p.1.size ≤ 200) ∧ p.2.size ≤ 4000)
def AllTo (ps : List Pr) (k : Nat) : Prop := ∀ j, j < k → iOK (ps.getD j no) = true
def dAll (ps : List Pr) (k : Nat) : Decidable (AllTo ps k) := inferInstanceAs (Decidable (∀ j, j < k → iOK (ps.getD j no) = true))
def itsOK (ps : List Pr) : Bool := @decide (ps.length ≤ 20 ∧ AllTo ps ps.length) (@instDecidableAnd _ _ _ (dAll ps ps.length))
theorem its_no {ps : List Pr} (h : ¬ (ps.length ≤ 20 ∧ AllTo ps ps.length)) : itsOK ps = false := ow.df h
theorem its_yes {ps : List Pr} (h : ps.length ≤ 20) (h2 : AllTo ps ps.length) : itsOK ps = true := ow.dt ⟨h, h2⟩
theorem its_of {ps : List Pr} (h : itsOK ps = true) : ps.length ≤ 20 ∧ AllTo ps ps.length := ow.dof h
theorem all_step {ps : List Pr} {k : Nat} (h : AllTo ps k) {a b : ByteArray} (ha : (ps.getD k no).1 = a) (hb : (ps.getD k no).2 = b) (hi : iOK (a, b) = true) : AllTo ps (k + 1) := by
  intro j hj
  by_cases e : j = k
  · subst e
    have : ps.getD j no = (a, b) := by rw [← ha, ← hb]
    rw [this]
    exact hi
  · exact h j (by omega)
theorem all_bad {ps : List Pr} {k : Nat} (hk : k < ps.length) {a b : ByteArray} (ha : (ps.getD k no).1 = a) (hb : (ps.getD k no).2 = b) (hi : iOK (a, b) = false) : itsOK ps = false := by
  refine its_no fun x => ?_
  have h := x.2 k hk
  have : ps.getD k no = (a, b) := by rw [← ha, ← hb]
  rw [this, hi] at h
  cases h
/-- What goes with a kind. -/
def kindOK (k u m f : Int) (n : Nat) : Bool := decide ((k = 1 ∨ k = 4) ∧ u = 0 ∧ m = 0 ∧ f = 0 ∧ n = 0 ∨ k = 2 ∧ u = 0 ∧ m = 0 ∧ f = 0 ∧ 0 < n ∨ k = 3 ∧ n = 0 ∧ 1 ≤ u ∧ u ≤ 1000 ∧ 1 ≤ m ∧ m ≤ 3 ∧ 0 ≤ f ∧ f ≤ 31)
/-- A mutation is right. -/
def mok (x : Mu) : Bool := nmB x.b && itsOK x.ps && kindOK x.k x.u x.m x.f x.ps.length
theorem ret_bool {a b : Bool} (h : a = b) : Ending.returned (.bool a) = .returned (.bool b) := by rw [h]
theorem mok_name {x : Mu} (h : nmB x.b = false) : mok x = false := by simp [mok, h]
theorem mok_its {x : Mu} (h : itsOK x.ps = false) : mok x = false := by simp [mok, h]
theorem mok_kind {x : Mu} (h : nmB x.b = true) (h2 : itsOK x.ps = true) : mok x = kindOK x.k x.u x.m x.f x.ps.length := by simp [mok, h, h2]

theorem isKey_any (s : ByteArray) (w : World) : Calls Tryz.prog 131 #[.string s] w fun e w' => e = .returned (.bool (kOK s.size)) ∧ w' = w := by
  go_enter Tryz.func131, Tryz.ntmps131
  go_wp2
  all_goals (go_ret; exact ⟨ret_bool (by rw [Bool.eq_iff_iff]; simp [kOK]; omega), rfl⟩)
theorem areFlags_any (f : Int) (w : World) : Calls Tryz.prog 119 #[.int .i64 f] w fun e w' => e = .returned (.bool (fOK f)) ∧ w' = w := by
  go_enter Tryz.func119, Tryz.ntmps119
  go_wp2
  all_goals (go_ret; exact ⟨ret_bool (by rw [Bool.eq_iff_iff]; simp [fOK]; omega), rfl⟩)
theorem in_any (n a b : Int) (w : World) : Calls Tryz.prog 48 #[.int .i64 n, .int .i64 a, .int .i64 b] w fun e w' => e = .returned (.bool (decide (a ≤ n ∧ n ≤ b))) ∧ w' = w := by
  go_enter Tryz.func48, Tryz.ntmps48
  go_wp2
  all_goals (go_ret; exact ⟨ret_bool (by rw [Bool.eq_iff_iff]; simp; try omega), rfl⟩)

set_option maxHeartbeats 1000000 in
theorem areItems_any (v : Value) (ps : List Pr) (w : World) (h : AttrsAt w v ps) (hs : it.Small ps) :
    Calls Tryz.prog 118 #[v] w fun e w' => e = .returned (.bool (itsOK ps)) ∧ Below w.heap.size w w' := by
  obtain ⟨a, cap, rfl, h⟩ := h
  obtain ⟨n, hn⟩ : ∃ n, n = ps.length := ⟨_, rfl⟩
  have HN : Hid (n = ps.length) := hn
  have HH : Hid (ps = [] ∨ ∃ b off, a = some ⟨b, off, none⟩ ∧ ∀ j, j < ps.length → w.cell? ⟨b, off + j * 2, none⟩ = some (.string (ps.getD j no).1) ∧ w.cell? ⟨b, off + j * 2 + 1, none⟩ = some (.string (ps.getD j no).2)) := h
  have HS : Hid (it.Small ps) := hs
  have hl : n ≤ 1048576 := by rw [hn]; exact hs.1
  rw [← hn]
  clear h hs hn
  by_cases g0 : 20 < n
  · have g0' : (20 : Int) < (n : Int) := by omega
    rw [its_no (by have := HN.out; omega)]
    go_enter Tryz.func118, Tryz.ntmps118
    go_wp2
    go_ret
    exact ⟨rfl, Below.refl _ _⟩
  have g0' : (n : Int) ≤ 20 := by omega
  go_enter Tryz.func118, Tryz.ntmps118
  go_wp2
  go_loopw [10] (fun i wr => ∃ (k : Nat), k ≤ n ∧ i = .int .i64 k ∧ AllTo ps k ∧ Below w.heap.size w wr) (fun i _ => n - (intOf i).toNat)
  case atStart => exact ⟨0, Nat.zero_le _, rfl, fun j hj => absurd hj (Nat.not_lt_zero _), Below.refl _ _⟩
  case round =>
    obtain ⟨k, hk, rfl, hal, hbw⟩ := hrel
    have HAL : Hid (AllTo ps k) := hal
    clear hal
    by_cases hlt : k < n
    · have hka : k < ps.length := by rw [← HN.out]; exact hlt
      rcases HH.out with e | ⟨b, off, rfl, hcells⟩
      · rw [e] at hka; simp at hka
      obtain ⟨v0, v1⟩ := hcells k hka
      obtain ⟨s0, s1⟩ := HS.out.2 k hka
      have hblt : b < w.heap.size := World.block_lt_of_cell? w _ v0
      have c0 := (hbw.cell (p := ⟨b, off + k * 2, none⟩) hblt).trans v0
      have c1 := (hbw.cell (p := ⟨b, off + k * 2 + 1, none⟩) hblt).trans v1
      clear hcells v0 v1
      generalize hn1 : (ps.getD k no).1 = nm at c0 s0
      generalize hv1 : (ps.getD k no).2 = vl at c1 s1
      have HN1 : Hid ((ps.getD k no).1 = nm) := hn1
      have HV1 : Hid ((ps.getD k no).2 = vl) := hv1
      have HKA : Hid (k < ps.length) := hka
      clear hn1 hv1 hka
      have hlt' : (k : Int) < (n : Int) := by omega
      have hb2 : Below w.heap.size w (wr.alloc (.cells #[.string nm, .string vl] 136)) := hbw.alloc hbw.size _
      by_cases q0 : 1 ≤ nm.size ∧ nm.size ≤ 200
      · have e0 : kOK nm.size = true := decide_eq_true q0
        by_cases q1 : vl.size ≤ 4000
        · have q1' : (vl.size : Int) ≤ 4000 := by omega
          go_wp2_with (go_at_call 131; refine (isKey_any _ _).mono ?_; rintro e w' ⟨rfl, rfl⟩; rw [e0])
          go_roundw
          case rel => exact ⟨k + 1, by omega, by go_num, all_step HAL.out HN1.out HV1.out (decide_eq_true ⟨q0, q1⟩), hb2⟩
          case measure => simp [intOf]; omega
        · have q1' : (4000 : Int) < (vl.size : Int) := by omega
          have HR : Hid (itsOK ps = false) := all_bad HKA.out HN1.out HV1.out (decide_eq_false fun x => q1 x.2)
          go_wp2_with (go_at_call 131; refine (isKey_any _ _).mono ?_; rintro e w' ⟨rfl, rfl⟩; rw [e0])
          go_ret
          exact ⟨ret_bool HR.out.symm, hb2⟩
      · have e0 : kOK nm.size = false := decide_eq_false q0
        have HR : Hid (itsOK ps = false) := all_bad HKA.out HN1.out HV1.out (decide_eq_false fun x => q0 x.1)
        go_wp2_with (go_at_call 131; refine (isKey_any _ _).mono ?_; rintro e w' ⟨rfl, rfl⟩; rw [e0])
        go_ret
        exact ⟨ret_bool HR.out.symm, hb2⟩
    · have HR : Hid (itsOK ps = true) := its_yes (by have := HN.out; omega) (fun j hj => HAL.out j (by have := HN.out; omega))
      go_wp2
      go_ret
      exact ⟨ret_bool HR.out.symm, hbw⟩
end Go.Proofs.YtncnbhekgkemfaaGreatDoor.mu

namespace Go.Proofs.YtncnbhekgkemfaaGreatDoor.mu
open Go.RowKit
open it
set_option linter.unusedVariables false

theorem kind_is (k u m f : Int) (n : Nat) : kindOK k u m f n = true ↔ ((k = 1 ∨ k = 4) ∧ u = 0 ∧ m = 0 ∧ f = 0 ∧ n = 0 ∨ k = 2 ∧ u = 0 ∧ m = 0 ∧ f = 0 ∧ 0 < n ∨ k = 3 ∧ n = 0 ∧ 1 ≤ u ∧ u ≤ 1000 ∧ 1 ≤ m ∧ m ≤ 3 ∧ 0 ≤ f ∧ f ≤ 31) := by
  simp [kindOK]

theorem isUid_any (u : Int) (w : World) : Calls Tryz.prog 62 #[.int .i64 u] w fun e w' => e = .returned (.bool (decide (1 ≤ u ∧ u ≤ 1000))) ∧ w' = w := by
  go_enter Tryz.func62, Tryz.ntmps62
  go_wp2
  all_goals (go_ret; exact ⟨ret_bool (by rw [Bool.eq_iff_iff]; simp; try omega), rfl⟩)

set_option maxHeartbeats 4000000 in
set_option maxRecDepth 100000 in
theorem impl_mok (x : Mu) (v : Value) (w : World) (h : AttrsAt w v x.ps) (hx : Small x) :
    Calls Tryz.prog 96 #[MV x v] w fun e w' => e = .returned (.bool (mok x)) ∧ Below w.heap.size w w' := by
  have L0 := lies_new w 104 x v
  have b0 := new_below w 104 #[.int .i64 x.k, .int .i64 x.u, .int .i64 x.m, .int .i64 x.f, .string x.b, v]
  have HA : Hid (AttrsAt (w.alloc (.cells #[.int .i64 x.k, .int .i64 x.u, .int .i64 x.m, .int .i64 x.f, .string x.b, v] 104)) v x.ps) := at_below h b0
  obtain ⟨a, cap, rfl, _⟩ := h
  obtain ⟨hi, hbs, hps⟩ := hx
  have HPS : Hid (it.Small x.ps) := hps
  unfold MV
  clear hi hps
  obtain ⟨k, u, m, f, b, ps⟩ := x
  simp only at L0 b0 HA hbs HPS ⊢
  have HN : Hid (∀ w, Calls Tryz.prog 59 #[.string b] w fun e w' => e = .returned (.bool (nmB b)) ∧ w' = w) := fun w => impl_name b w hbs
  have HF : Hid (∀ w, Calls Tryz.prog 119 #[.int .i64 f] w fun e w' => e = .returned (.bool (fOK f)) ∧ w' = w) := fun w => areFlags_any f w
  obtain ⟨n, hn⟩ : ∃ n, n = ps.length := ⟨_, rfl⟩
  have HL : Hid (n = ps.length) := hn
  rw [← hn] at L0 b0 HA ⊢
  clear hn
  have HMN : Hid (nmB b = false → mok ⟨k, u, m, f, b, ps⟩ = false) := fun h => mok_name h
  have HMI : Hid (itsOK ps = false → mok ⟨k, u, m, f, b, ps⟩ = false) := fun h => mok_its h
  have HMK : Hid (nmB b = true → itsOK ps = true → mok ⟨k, u, m, f, b, ps⟩ = kindOK k u m f n) := fun h h2 => by rw [HL.out]; exact mok_kind h h2
  generalize mok ⟨k, u, m, f, b, ps⟩ = MOK at HMN HMI HMK ⊢
  go_enter Tryz.func96, Tryz.ntmps96
  go_wp2_with fail
  generalize w.alloc _ = w0 at L0 b0 HA ⊢
  refine (HN.out _).mono ?_
  rintro e w' ⟨rfl, rfl⟩
  generalize nmB b = nb at HMN HMK ⊢
  have c0 := L0.c0
  have c1 := L0.c1
  have c2 := L0.c2
  have c3 := L0.c3
  have c5 := L0.c5
  cases nb
  · go_wp2
    go_ret
    exact ⟨ret_bool (HMN.out (by trivial)).symm, b0⟩
  clear HMN
  go_wp2_with fail
  have HI : Hid (∀ w1, Below w'.heap.size w' w1 → Lies w1 w.heap.size 104 ⟨k, u, m, f, b, ps⟩ (.slice a n cap)) := fun w1 h => L0.keep h
  clear L0
  refine (areItems_any _ ps _ HA.out HPS.out).mono ?_
  rintro e w1 ⟨rfl, hb1⟩
  have L1 := HI.out _ hb1
  have b1 := b0.trans (hb1.mono b0.size)
  clear hb1 b0 HA c0 c1 c2 c3 c5 HI
  generalize itsOK ps = ib at HMI HMK ⊢
  have c0 := L1.c0
  have c1 := L1.c1
  have c2 := L1.c2
  have c3 := L1.c3
  have c5 := L1.c5
  simp only at c0 c1 c2 c3 c5
  clear L1
  cases ib
  · go_wp2
    go_ret
    exact ⟨ret_bool (HMI.out (by trivial)).symm, b1⟩
  have HR : Hid (MOK = kindOK k u m f n) := HMK.out (by trivial) (by trivial)
  clear HMK HMI HN hbs HPS
  have KK : Hid (MOK = true ↔ ((k = 1 ∨ k = 4) ∧ u = 0 ∧ m = 0 ∧ f = 0 ∧ n = 0 ∨ k = 2 ∧ u = 0 ∧ m = 0 ∧ f = 0 ∧ 0 < n ∨ k = 3 ∧ n = 0 ∧ 1 ≤ u ∧ u ≤ 1000 ∧ 1 ≤ m ∧ m ≤ 3 ∧ 0 ≤ f ∧ f ≤ 31)) := by rw [HR.out]; exact kind_is k u m f n
  clear HR HL
  obtain ⟨al, hal⟩ : ∃ al : Bool, (al = true ↔ u = 0 ∧ m = 0 ∧ f = 0) := ⟨decide (u = 0 ∧ m = 0 ∧ f = 0), by simp⟩
  have HAL : Hid (al = true ↔ u = 0 ∧ m = 0 ∧ f = 0) := hal
  clear hal
  go_upto_region 3 with fail
  go_cut [3] (fun t wx => t = .bool al ∧ wx = w1)
  case first =>
    by_cases hu : u = 0
    · have hu' : (u == 0) = true := by simp [hu]
      by_cases hm : m = 0
      · have hm' : (m == 0) = true := by simp [hm]
        by_cases hf : f = 0
        · have hf' : (f == 0) = true := by simp [hf]
          have ha : al = true := HAL.out.2 ⟨hu, hm, hf⟩
          clear hu hm hf
          go_wp2_with fail
          go_meet
          exact ⟨by rw [ha], rfl⟩
        · have hf' : (f == 0) = false := by simp [hf]
          have ha : al = false := Bool.eq_false_iff.2 fun x => hf (HAL.out.1 x).2.2
          clear hu hm hf
          go_wp2_with fail
          go_meet
          exact ⟨by rw [ha], rfl⟩
      · have hm' : (m == 0) = false := by simp [hm]
        have ha : al = false := Bool.eq_false_iff.2 fun x => hm (HAL.out.1 x).2.1
        clear hu hm
        go_wp2_with fail
        go_meet
        exact ⟨by rw [ha], rfl⟩
    · have hu' : (u == 0) = false := by simp [hu]
      have ha : al = false := Bool.eq_false_iff.2 fun x => hu (HAL.out.1 x).1
      clear hu
      go_wp2_with fail
      go_meet
      exact ⟨by rw [ha], rfl⟩
  case rest =>
    obtain ⟨rfl, rfl⟩ := hcut
    by_cases h1 : k = 1
    · subst h1
      cases al
      · have ha : ¬ (u = 0 ∧ m = 0 ∧ f = 0) := fun x => by have := HAL.out.2 x; cases this
        have HZ : Hid (MOK = false) := Bool.eq_false_iff.2 fun x => by have := KK.out.1 x; omega
        clear ha
        go_wp2
        go_ret
        exact ⟨ret_bool HZ.out.symm, b1⟩
      · have HZ : Hid (u = 0 ∧ m = 0 ∧ f = 0) := HAL.out.1 rfl
        by_cases hn : n = 0
        · have hn' : ((n : Int) == 0) = true := by simp [hn]
          have HY : Hid (MOK = true) := KK.out.2 (by obtain ⟨z0, z1, z2⟩ := HZ.out; rw [z0, z1, z2]; omega)
          go_wp2
          go_ret
          exact ⟨ret_bool HY.out.symm, b1⟩
        · have hn' : ((n : Int) == 0) = false := by simp [hn]
          go_wp2
          go_ret
          exact ⟨ret_bool (Bool.eq_false_iff.2 fun x => by have := KK.out.1 x; omega).symm, b1⟩
    by_cases h4 : k = 4
    · subst h4
      cases al
      · have ha : ¬ (u = 0 ∧ m = 0 ∧ f = 0) := fun x => by have := HAL.out.2 x; cases this
        have HZ : Hid (MOK = false) := Bool.eq_false_iff.2 fun x => by have := KK.out.1 x; omega
        clear ha
        go_wp2
        go_ret
        exact ⟨ret_bool HZ.out.symm, b1⟩
      · have HZ : Hid (u = 0 ∧ m = 0 ∧ f = 0) := HAL.out.1 rfl
        by_cases hn : n = 0
        · have hn' : ((n : Int) == 0) = true := by simp [hn]
          have HY : Hid (MOK = true) := KK.out.2 (by obtain ⟨z0, z1, z2⟩ := HZ.out; rw [z0, z1, z2]; omega)
          go_wp2
          go_ret
          exact ⟨ret_bool HY.out.symm, b1⟩
        · have hn' : ((n : Int) == 0) = false := by simp [hn]
          go_wp2
          go_ret
          exact ⟨ret_bool (Bool.eq_false_iff.2 fun x => by have := KK.out.1 x; omega).symm, b1⟩
    by_cases h2 : k = 2
    · subst h2
      cases al
      · have ha : ¬ (u = 0 ∧ m = 0 ∧ f = 0) := fun x => by have := HAL.out.2 x; cases this
        have HZ : Hid (MOK = false) := Bool.eq_false_iff.2 fun x => by have := KK.out.1 x; omega
        clear ha
        go_wp2
        go_ret
        exact ⟨ret_bool HZ.out.symm, b1⟩
      · have HZ : Hid (u = 0 ∧ m = 0 ∧ f = 0) := HAL.out.1 rfl
        by_cases hn : 0 < n
        · have hn' : (0 : Int) < (n : Int) := by omega
          have HY : Hid (MOK = true) := KK.out.2 (by obtain ⟨z0, z1, z2⟩ := HZ.out; rw [z0, z1, z2]; omega)
          go_wp2
          go_ret
          exact ⟨ret_bool HY.out.symm, b1⟩
        · have hn' : (n : Int) ≤ 0 := by omega
          go_wp2
          go_ret
          exact ⟨ret_bool (Bool.eq_false_iff.2 fun x => by have := KK.out.1 x; omega).symm, b1⟩
    have e1 : (k == 1) = false := by simp [h1]
    have e4 : (k == 4) = false := by simp [h4]
    have e2 : (k == 2) = false := by simp [h2]
    by_cases h3 : k = 3
    · subst h3
      clear e1 e4 e2
      by_cases hn : n = 0
      · have hn' : ((n : Int) == 0) = true := by simp [hn]
        have hf : fOK f = decide (0 ≤ f ∧ f ≤ 31) := rfl
        have HU : Hid (∀ w, Calls Tryz.prog 62 #[.int .i64 u] w fun e w' => e = .returned (.bool (decide (1 ≤ u ∧ u ≤ 1000))) ∧ w' = w) := fun w => isUid_any u w
        go_wp2_with (first | (go_at_call 119; refine (HF.out _).mono ?_; rintro e w' ⟨rfl, rfl⟩; rw [hf]) | (go_at_call 62; refine (HU.out _).mono ?_; rintro e w' ⟨rfl, rfl⟩))
        all_goals (go_ret; refine ⟨ret_bool ?_, b1⟩; rw [Bool.eq_iff_iff, KK.out]; simp; omega)
      · have hn' : ((n : Int) == 0) = false := by simp [hn]
        have HZ : Hid (MOK = false) := Bool.eq_false_iff.2 fun x => by have := KK.out.1 x; omega
        go_wp2
        go_ret
        exact ⟨ret_bool HZ.out.symm, b1⟩
    · have e3 : (k == 3) = false := by simp [h3]
      have HZ : Hid (MOK = false) := Bool.eq_false_iff.2 fun x => by have := KK.out.1 x; omega
      go_wp2
      go_ret
      exact ⟨ret_bool HZ.out.symm, b1⟩
end Go.Proofs.YtncnbhekgkemfaaGreatDoor.mu
