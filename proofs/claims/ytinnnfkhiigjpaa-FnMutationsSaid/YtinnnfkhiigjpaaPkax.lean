/-
  Items as an argument, opened.
  A mutation as an argument: opened; measured, copied and compared by the law's own functions.
  Both MutationOK functions answer whether a mutation is right.
  A law on regions that draw their order: one fact, said of the set of those that have come up, is carried on by each operation; whatever the order, it holds of all behind the last.
-/
import Derived.Test.YtinnnfkhiigjpaaPkaw
import Derived.WalkKit
import Derived.ProofKit
import Derived.OpenShut
import Derived.ChangeOld
import Derived.Below
import Derived.Lib.SmallJoins
import Derived.Deep.SlicePairs
import Derived.Deep.Fields
import Derived.Deep.Slices
import Derived.Test.YtinnnfkhiigjpaaPkap
import Derived.Orders
import Derived.RegionTactic

namespace Go.Proofs.Ytinnnfkhiigjpaa.it
open Go.ChangeShapes Go.WideShapes Go.ChangeAt Go.RowKit Go.Joins Go.Deep
set_option linter.unusedVariables false

def str : Value → ByteArray
  | .string s => s
  | _ => ⟨#[]⟩
section
variable {H : Type} {enc : TypeId × Value → H} {w : World} {base : Nat} {spare : Nat → Bool} {held : Bool}
end
end Go.Proofs.Ytinnnfkhiigjpaa.it

namespace Go.Proofs.Ytinnnfkhiigjpaa.mu
open Go.ChangeShapes Go.WideShapes Go.ChangeAt Go.RowKit Go.Deep Go.Joins
open it
set_option linter.unusedVariables false

/-- A mutation: kind, uid, mode, flags, box, items. -/
structure Mu where
  k : Int
  u : Int
  m : Int
  f : Int
  b : ByteArray
  ps : List Pr
/-- It as the program has it, its items in v. -/
def MV (x : Mu) (v : Value) : Value := .agg #[.int .i64 x.k, .int .i64 x.u, .int .i64 x.m, .int .i64 x.f, .string x.b, v]
/-- A number that an int can be. -/
def In (z : Int) : Prop := -9223372036854775808 ≤ z ∧ z ≤ 9223372036854775807
theorem in_of_wf {z : Int} (h : (Lit.int .i64 z).wf = true) : In z := by
  have h1 : IntKind.i64.min = -9223372036854775808 := rfl
  have h2 : IntKind.i64.max = 9223372036854775807 := rfl
  simp [Lit.wf, h1, h2] at h
  exact ⟨by omega, by omega⟩
def Ins (x : Mu) : Prop := In x.k ∧ In x.u ∧ In x.m ∧ In x.f
def Small (x : Mu) : Prop := Ins x ∧ x.b.size ≤ 1048576 ∧ it.Small x.ps
def Held (x : Mu) : Prop := Ins x ∧ x.b.size ≤ maxLen ∧ x.ps.length ≤ maxLen ∧ ∀ j, j < x.ps.length → (x.ps.getD j no).1.size ≤ maxLen ∧ (x.ps.getD j no).2.size ≤ maxLen

theorem six_list {α : Type} {l : List α} (h : l.length = 6) : ∃ a b c d e f, l = [a, b, c, d, e, f] := by
  match l, h with
  | [a, b, c, d, e, f], _ => exact ⟨a, b, c, d, e, f, rfl⟩
section
variable {H : Type} {enc : TypeId × Value → H} {w : World} {base : Nat} {spare : Nat → Bool} {held : Bool}
theorem trod_cells {T : TypeId} {fs : Array Field} {fuel : Nat} {cs : List Value} {x : DataW H × List MemPlace} (hs : Try.prog.underlying T = some (.struct fs)) (hone : oneCellFields Try.prog fs = true) (hc : Try.prog.cellsOf T = fs.size) (h : DataW.trod enc Try.prog w base spare held fuel T cs = some x) :
    cs.length = fs.size ∧ ∃ n, ∀ (j : Nat) (f : Field) (c : Value), fs[j]? = some f → cs[j]? = some c → ∃ y, DataW.trod enc Try.prog w base spare held n f.type [c] = some y := by
  obtain ⟨xs, n, _, hx, hcl, hlen, hf⟩ := DataW.trod_struct hs h
  rw [hc] at hcl
  refine ⟨hcl, n, fun j f c hfj hcj => ?_⟩
  have hh := hf j f hfj
  obtain ⟨o, k⟩ := hone_of hone j f hfj
  rw [o, k] at hh
  have hj : j < xs.length := by
    rw [hlen]
    exact (Array.getElem?_eq_some_iff.1 hfj).1
  have ht : (cs.drop j).take 1 = [c] := by
    obtain ⟨hj2, e⟩ := List.getElem?_eq_some_iff.1 hcj
    rw [List.drop_eq_getElem_cons hj2, e]
    rfl
  rw [ht, List.getElem?_eq_getElem hj] at hh
  exact ⟨_, hh⟩
end

/-- A mutation that lies as a variable. -/
def Lies (w : World) (b : Nat) (T : TypeId) (x : Mu) (v : Value) : Prop := w.heap[b]? = some (.cells #[.int .i64 x.k, .int .i64 x.u, .int .i64 x.m, .int .i64 x.f, .string x.b, v] T (0, 0))
section
variable {w w' : World} {b : Nat} {T : TypeId} {x : Mu} {v : Value}
theorem Lies.c0 (h : Lies w b T x v) : w.cell? ⟨b, 0, none⟩ = some (.int .i64 x.k) := by rw [cell_of_row w _ _ _ _ _ h]; rfl
theorem Lies.c1 (h : Lies w b T x v) : w.cell? ⟨b, 0 + 1, none⟩ = some (.int .i64 x.u) := by rw [cell_of_row w _ _ _ _ _ h]; rfl
theorem Lies.c2 (h : Lies w b T x v) : w.cell? ⟨b, 0 + 2, none⟩ = some (.int .i64 x.m) := by rw [cell_of_row w _ _ _ _ _ h]; rfl
theorem Lies.c3 (h : Lies w b T x v) : w.cell? ⟨b, 0 + 3, none⟩ = some (.int .i64 x.f) := by rw [cell_of_row w _ _ _ _ _ h]; rfl
theorem Lies.c4 (h : Lies w b T x v) : w.cell? ⟨b, 0 + 4, none⟩ = some (.string x.b) := by rw [cell_of_row w _ _ _ _ _ h]; rfl
theorem Lies.c5 (h : Lies w b T x v) : w.cell? ⟨b, 0 + 5, none⟩ = some v := by rw [cell_of_row w _ _ _ _ _ h]; rfl
theorem Lies.lt (h : Lies w b T x v) : b < w.heap.size := World.block_lt_of_cell? w _ h.c0
theorem Lies.keep (h : Lies w b T x v) (hb : Below w.heap.size w w') : Lies w' b T x v := (hb.block b h.lt).trans h
theorem lies_new (w : World) (T : TypeId) (x : Mu) (v : Value) : Lies (w.alloc (.cells #[.int .i64 x.k, .int .i64 x.u, .int .i64 x.m, .int .i64 x.f, .string x.b, v] T)) w.heap.size T x v := by show (w.heap.push _)[w.heap.size]? = _; simp
theorem new_below (w : World) (T : TypeId) (cs : Array Value) : Below w.heap.size w (w.alloc (.cells cs T)) := (Below.refl _ _).alloc (Nat.le_refl _) _
end



end Go.Proofs.Ytinnnfkhiigjpaa.mu

namespace Go.Proofs.Ytinnnfkhiigjpaa.mu
open Go.RowKit
open it
set_option linter.unusedVariables false

def dGood (s : ByteArray) (j : Nat) : Decidable (nm.good s j) :=
  if h : j < s.size then decidable_of_iff (nm.letB ((s[j]'h).toNat : Int) = true ∨ (0 < j ∧ nm.digB ((s[j]'h).toNat : Int) = true)) ⟨fun x => ⟨h, x⟩, fun ⟨_, x⟩ => x⟩ else isFalse (fun ⟨h', _⟩ => h h')
def dAllGood (s : ByteArray) : Decidable (∀ j, j < s.size → nm.good s j) := @Nat.decidableBallLT s.size (fun j _ => nm.good s j) (fun j _ => dGood s j)
def dName (s : ByteArray) : Decidable (nm.IsName s) := @instDecidableAnd _ _ _ (@instDecidableAnd _ _ _ (dAllGood s))
/-- A text is a name. -/
def nmB (s : ByteArray) : Bool := @decide (nm.IsName s) (dName s)
theorem nm_of {s : ByteArray} {e : Ending} (h : nm.NameRet s e) : e = .returned (.bool (nmB s)) := by
  obtain ⟨b, rfl, h⟩ := h
  have : b = nmB s := by
    unfold nmB
    cases b
    · exact (ow.df (fun x => by have := h.2 x; cases this)).symm
    · exact (ow.dt (h.1 rfl)).symm
  rw [this]
theorem impl_name (s : ByteArray) (w : World) (hs : s.size ≤ 1048576) : Calls Try.prog 17 #[.string s] w fun e w' => e = .returned (.bool (nmB s)) ∧ w' = w :=
  (nm.implName_any s w hs).mono fun e w' ⟨h, h2⟩ => ⟨nm_of h, h2⟩
theorem spec_name (s : ByteArray) (w : World) (hs : s.size ≤ 1048576) : Calls Try.prog 27 #[.string s] w fun e w' => e = .returned (.bool (nmB s)) ∧ w' = w :=
  (nm.specName_any s w hs).mono fun e w' ⟨h, h2⟩ => ⟨nm_of h, h2⟩

/-- A key's length. -/
def kOK (n : Nat) : Bool := decide (1 ≤ n ∧ n ≤ 200)
/-- Flags. -/
def fOK (f : Int) : Bool := decide (0 ≤ f ∧ f ≤ 31)
def iOK (p : Pr) : Bool := decide ((1 ≤ p.1.size ∧ p.1.size ≤ 200) ∧ p.2.size ≤ 4000)
def AllTo (ps : List Pr) (k : Nat) : Prop := ∀ j, j < k → iOK (ps.getD j no) = true
def dAll (ps : List Pr) (k : Nat) : Decidable (AllTo ps k) := inferInstanceAs (Decidable (∀ j, j < k → iOK (ps.getD j no) = true))
def itsOK (ps : List Pr) : Bool := @decide (ps.length ≤ 20 ∧ AllTo ps ps.length) (@instDecidableAnd _ _ _ (dAll ps ps.length))
theorem its_no {ps : List Pr} (h : ¬ (ps.length ≤ 20 ∧ AllTo ps ps.length)) : itsOK ps = false := ow.df h
theorem its_yes {ps : List Pr} (h : ps.length ≤ 20) (h2 : AllTo ps ps.length) : itsOK ps = true := ow.dt ⟨h, h2⟩
theorem its_of {ps : List Pr} (h : itsOK ps = true) : ps.length ≤ 20 ∧ AllTo ps ps.length := ow.dof h
theorem all_step {ps : List Pr} {k : Nat} (h : AllTo ps k) {a b : ByteArray} (ha : (ps.getD k no).1 = a) (hb : (ps.getD k no).2 = b) (hi : iOK (a, b) = true) : AllTo ps (k + 1) := by
  intro j hj
  by_cases e : j = k
  · subst e
    have : ps.getD j no = (a, b) := by rw [← ha, ← hb]
    rw [this]
    exact hi
  · exact h j (by omega)
theorem all_bad {ps : List Pr} {k : Nat} (hk : k < ps.length) {a b : ByteArray} (ha : (ps.getD k no).1 = a) (hb : (ps.getD k no).2 = b) (hi : iOK (a, b) = false) : itsOK ps = false := by
  refine its_no fun x => ?_
  have h := x.2 k hk
  have : ps.getD k no = (a, b) := by rw [← ha, ← hb]
  rw [this, hi] at h
  cases h
/-- What goes with a kind. -/
def kindOK (k u m f : Int) (n : Nat) : Bool := decide ((k = 1 ∨ k = 4) ∧ u = 0 ∧ m = 0 ∧ f = 0 ∧ n = 0 ∨ k = 2 ∧ u = 0 ∧ m = 0 ∧ f = 0 ∧ 0 < n ∨ k = 3 ∧ n = 0 ∧ 1 ≤ u ∧ u ≤ 1000 ∧ 1 ≤ m ∧ m ≤ 3 ∧ 0 ≤ f ∧ f ≤ 31)
/-- A mutation is right. -/
def mok (x : Mu) : Bool := nmB x.b && itsOK x.ps && kindOK x.k x.u x.m x.f x.ps.length
theorem ret_bool {a b : Bool} (h : a = b) : Ending.returned (.bool a) = .returned (.bool b) := by rw [h]
theorem mok_name {x : Mu} (h : nmB x.b = false) : mok x = false := by simp [mok, h]
theorem mok_its {x : Mu} (h : itsOK x.ps = false) : mok x = false := by simp [mok, h]
theorem mok_kind {x : Mu} (h : nmB x.b = true) (h2 : itsOK x.ps = true) : mok x = kindOK x.k x.u x.m x.f x.ps.length := by simp [mok, h, h2]

theorem isKey_any (s : ByteArray) (w : World) : Calls Try.prog 34 #[.string s] w fun e w' => e = .returned (.bool (kOK s.size)) ∧ w' = w := by
  go_enter Try.func34, Try.ntmps34
  go_wp2
  all_goals (go_ret; exact ⟨ret_bool (by rw [Bool.eq_iff_iff]; simp [kOK]; omega), rfl⟩)
theorem areFlags_any (f : Int) (w : World) : Calls Try.prog 20 #[.int .i64 f] w fun e w' => e = .returned (.bool (fOK f)) ∧ w' = w := by
  go_enter Try.func20, Try.ntmps20
  go_wp2
  all_goals (go_ret; exact ⟨ret_bool (by rw [Bool.eq_iff_iff]; simp [fOK]; omega), rfl⟩)
theorem in_any (n a b : Int) (w : World) : Calls Try.prog 28 #[.int .i64 n, .int .i64 a, .int .i64 b] w fun e w' => e = .returned (.bool (decide (a ≤ n ∧ n ≤ b))) ∧ w' = w := by
  go_enter Try.func28, Try.ntmps28
  go_wp2
  all_goals (go_ret; exact ⟨ret_bool (by rw [Bool.eq_iff_iff]; simp; try omega), rfl⟩)

set_option maxHeartbeats 1000000 in
theorem areItems_any (v : Value) (ps : List Pr) (w : World) (h : AttrsAt w v ps) (hs : it.Small ps) :
    Calls Try.prog 18 #[v] w fun e w' => e = .returned (.bool (itsOK ps)) ∧ Below w.heap.size w w' := by
  obtain ⟨a, cap, rfl, h⟩ := h
  obtain ⟨n, hn⟩ : ∃ n, n = ps.length := ⟨_, rfl⟩
  have HN : Hid (n = ps.length) := hn
  have HH : Hid (ps = [] ∨ ∃ b off, a = some ⟨b, off, none⟩ ∧ ∀ j, j < ps.length → w.cell? ⟨b, off + j * 2, none⟩ = some (.string (ps.getD j no).1) ∧ w.cell? ⟨b, off + j * 2 + 1, none⟩ = some (.string (ps.getD j no).2)) := h
  have HS : Hid (it.Small ps) := hs
  have hl : n ≤ 1048576 := by rw [hn]; exact hs.1
  rw [← hn]
  clear h hs hn
  by_cases g0 : 20 < n
  · have g0' : (20 : Int) < (n : Int) := by omega
    rw [its_no (by have := HN.out; omega)]
    go_enter Try.func18, Try.ntmps18
    go_wp2
    go_ret
    exact ⟨rfl, Below.refl _ _⟩
  have g0' : (n : Int) ≤ 20 := by omega
  go_enter Try.func18, Try.ntmps18
  go_wp2
  go_loopw [10] (fun i wr => ∃ (k : Nat), k ≤ n ∧ i = .int .i64 k ∧ AllTo ps k ∧ Below w.heap.size w wr) (fun i _ => n - (intOf i).toNat)
  case atStart => exact ⟨0, Nat.zero_le _, rfl, fun j hj => absurd hj (Nat.not_lt_zero _), Below.refl _ _⟩
  case round =>
    obtain ⟨k, hk, rfl, hal, hbw⟩ := hrel
    have HAL : Hid (AllTo ps k) := hal
    clear hal
    by_cases hlt : k < n
    · have hka : k < ps.length := by rw [← HN.out]; exact hlt
      rcases HH.out with e | ⟨b, off, rfl, hcells⟩
      · rw [e] at hka; simp at hka
      obtain ⟨v0, v1⟩ := hcells k hka
      obtain ⟨s0, s1⟩ := HS.out.2 k hka
      have hblt : b < w.heap.size := World.block_lt_of_cell? w _ v0
      have c0 := (hbw.cell (p := ⟨b, off + k * 2, none⟩) hblt).trans v0
      have c1 := (hbw.cell (p := ⟨b, off + k * 2 + 1, none⟩) hblt).trans v1
      clear hcells v0 v1
      generalize hn1 : (ps.getD k no).1 = nm at c0 s0
      generalize hv1 : (ps.getD k no).2 = vl at c1 s1
      have HN1 : Hid ((ps.getD k no).1 = nm) := hn1
      have HV1 : Hid ((ps.getD k no).2 = vl) := hv1
      have HKA : Hid (k < ps.length) := hka
      clear hn1 hv1 hka
      have hlt' : (k : Int) < (n : Int) := by omega
      have hb2 : Below w.heap.size w (wr.alloc (.cells #[.string nm, .string vl] 39)) := hbw.alloc hbw.size _
      by_cases q0 : 1 ≤ nm.size ∧ nm.size ≤ 200
      · have e0 : kOK nm.size = true := decide_eq_true q0
        by_cases q1 : vl.size ≤ 4000
        · have q1' : (vl.size : Int) ≤ 4000 := by omega
          go_wp2_with (go_at_call 34; refine (isKey_any _ _).mono ?_; rintro e w' ⟨rfl, rfl⟩; rw [e0])
          go_roundw
          case rel => exact ⟨k + 1, by omega, by go_num, all_step HAL.out HN1.out HV1.out (decide_eq_true ⟨q0, q1⟩), hb2⟩
          case measure => simp [intOf]; omega
        · have q1' : (4000 : Int) < (vl.size : Int) := by omega
          have HR : Hid (itsOK ps = false) := all_bad HKA.out HN1.out HV1.out (decide_eq_false fun x => q1 x.2)
          go_wp2_with (go_at_call 34; refine (isKey_any _ _).mono ?_; rintro e w' ⟨rfl, rfl⟩; rw [e0])
          go_ret
          exact ⟨ret_bool HR.out.symm, hb2⟩
      · have e0 : kOK nm.size = false := decide_eq_false q0
        have HR : Hid (itsOK ps = false) := all_bad HKA.out HN1.out HV1.out (decide_eq_false fun x => q0 x.1)
        go_wp2_with (go_at_call 34; refine (isKey_any _ _).mono ?_; rintro e w' ⟨rfl, rfl⟩; rw [e0])
        go_ret
        exact ⟨ret_bool HR.out.symm, hb2⟩
    · have HR : Hid (itsOK ps = true) := its_yes (by have := HN.out; omega) (fun j hj => HAL.out j (by have := HN.out; omega))
      go_wp2
      go_ret
      exact ⟨ret_bool HR.out.symm, hbw⟩
end Go.Proofs.Ytinnnfkhiigjpaa.mu

namespace Go.Proofs.Ytinnnfkhiigjpaa.rs
set_option linter.unusedVariables false

/-- How many have not come up yet. -/
def left (l : Array Bool) : Nat := l.toList.countP (fun b => !b)
theorem count_set : ∀ (l : List Bool) (i : Nat), l[i]? = some false → (l.set i true).countP (fun b => !b) + 1 = l.countP (fun b => !b)
  | [], i, h => by simp at h
  | b :: l, 0, h => by
    have hb : b = false := by simpa using h
    subst hb
    simp
  | b :: l, i + 1, h => by
    have ih := count_set l i (by simpa using h)
    rw [List.set_cons_succ, List.countP_cons, List.countP_cons]
    omega
theorem get_false {l : Array Bool} {i : Nat} (h : l.getD i true = false) : l.toList[i]? = some false := by
  cases hl : l[i]? with
  | none => simp [hl] at h
  | some b =>
    simp [hl] at h
    subst h
    simpa using hl
theorem left_set {l : Array Bool} {i : Nat} (h : l.getD i true = false) : left (l.setIfInBounds i true) + 1 = left l := by
  unfold left
  rw [Array.toList_setIfInBounds]
  exact count_set _ _ (get_false h)
theorem left_zero {l : Array Bool} (h : left l = 0) (i : Nat) : l.getD i true = true := by
  cases hg : l.getD i true with
  | true => rfl
  | false =>
    have := left_set hg
    omega

section
variable {P : Program} {ops : Array Oper} {Q : Exit → Act → World → Prop}
theorem inv {md : Region.Mode} (I : Array Bool → Act → World → Prop)
    (hstep : ∀ listed a w i, I listed a w → i ∈ Region.ready md ops listed → wpOp P ops Q i (fun a' w' => I (listed.setIfInBounds i true) a' w') a w)
    (hend : ∀ listed a w, I listed a w → Region.ready md ops listed = [] → Q .normal a w) :
    ∀ (fuel : Nat) (listed : Array Bool) (a : Act) (w : World), left listed ≤ fuel → I listed a w → wpAny P md ops Q fuel listed a w
  | 0, listed, a, w, hl, h => by
    have hr : Region.ready md ops listed = [] := by
      rw [List.eq_nil_iff_forall_not_mem]
      intro i hi
      have := (mem_ready.1 hi).1
      rw [left_zero (by omega) i] at this
      cases this
    exact ⟨hr, hend listed a w h hr⟩
  | fuel + 1, listed, a, w, hl, h => by
    refine ⟨fun hr => hend listed a w h hr, fun i hi => ?_⟩
    have h1 := left_set (mem_ready.1 hi).1
    exact wpOp_mono (fun a' w' h' => inv I hstep hend fuel _ a' w' (by omega) h') (hstep listed a w i h hi)

def upd (f : Nat → Value) (i : Nat) (v : Value) : Nat → Value := fun j => if j = i then v else f j
theorem upd_same (f : Nat → Value) (i : Nat) (v : Value) : upd f i v i = v := by simp [upd]
theorem upd_other (f : Nat → Value) (i : Nat) (v : Value) {j : Nat} (h : j ≠ i) : upd f i v j = f j := by simp [upd, h]
theorem getD_set {l : Array Bool} {i j : Nat} (h : (l.setIfInBounds i true).getD j false = true) : j = i ∨ l.getD j false = true := by
  by_cases e : j = i
  · exact .inl e
  · right
    simpa [Array.getElem?_setIfInBounds_ne (Ne.symm e)] using h
theorem all_listed {md : Region.Mode} {listed : Array Bool} (hs : listed.size = ops.size) (hdeps : ∀ (i : Nat) (o : Oper), ops[i]? = some o → ∀ e ∈ o.after, Region.binds md e = true → e.on < i) (hr : Region.ready md ops listed = []) : ∀ (k i : Nat), i < k → i < ops.size → listed.getD i false = true
  | 0, i, h, _ => by omega
  | k + 1, i, h, hi => by
    by_cases hk : i < k
    · exact all_listed hs hdeps hr k i hk hi
    · have hik : i = k := by omega
      subst hik
      cases hg : listed.getD i true with
      | true =>
        have hlt : i < listed.size := by omega
        simp [Array.getElem?_eq_getElem hlt] at hg ⊢
        exact hg
      | false =>
        exfalso
        have ho : ops[i]? = some ops[i] := Array.getElem?_eq_getElem hi
        have : i ∈ Region.ready md ops listed := mem_ready.2 ⟨hg, _, ho, fun e he hb => all_listed hs hdeps hr i e.on (hdeps i _ ho e he hb) (Nat.lt_trans (hdeps i _ ho e he hb) hi)⟩
        rw [hr] at this
        cases this
/-- One fact on all of it, said of what has come up: each operation carries it on. -/
theorem region_st {id : Nat} {a : Act} {w : World} (hm : P.follows .mixedOrders = true) (act : (Nat → Value) → Act) (J : (Nat → Prop) → (Nat → Value) → World → Prop) (v0 : Nat → Value)
    (ha : a = act v0) (h0 : J (fun _ => False) v0 w.drew) (hdeps : ∀ (i : Nat) (o : Oper), ops[i]? = some o → ∀ e ∈ o.after, Region.binds .any e = true → e.on < i)
    (hop : ∀ (i : Nat) (o : Oper), ops[i]? = some o → ∀ (D : Nat → Prop) (vals : Nat → Value) (w : World), J D vals w → (∀ e ∈ o.after, Region.binds .any e = true → D e.on) → ¬ D i → (∀ (j : Nat) (oj : Oper), D j → ops[j]? = some oj → ∀ e ∈ oj.after, Region.binds .any e = true → D e.on) →
      wpOp P ops Q i (fun a' w' => ∃ v, a' = act (upd vals i v) ∧ J (fun j => j = i ∨ D j) (upd vals i v) w') (act vals) w)
    (hend : ∀ (D : Nat → Prop) (vals : Nat → Value) (w : World), (∀ i, i < ops.size → D i) → J D vals w → Q .normal (act vals) w) :
    (Code.region id ops true).wp P Q a w := by
  refine wp_region_any hm ?_
  refine inv (fun listed a w => listed.size = ops.size ∧ (∀ (j : Nat) (oj : Oper), listed.getD j false = true → ops[j]? = some oj → ∀ e ∈ oj.after, Region.binds .any e = true → listed.getD e.on false = true) ∧ ∃ vals, a = act vals ∧ J (fun j => listed.getD j false = true) vals w) ?_ ?_ _ _ _ _ ?_ ?_
  · rintro listed a w i ⟨hs, hcl, vals, rfl, hJ⟩ hi
    obtain ⟨hg, o, ho, hall⟩ := mem_ready.1 hi
    have hni : ¬ listed.getD i false = true := by
      have h1 := get_false hg
      have h2 : listed[i]? = some false := by simpa using h1
      simp [h2]
    refine wpOp_mono ?_ (hop i o ho (fun j => listed.getD j false = true) vals w hJ hall hni hcl)
    rintro a' w' ⟨v, rfl, hJ'⟩
    have hup : ∀ k, listed.getD k false = true → (listed.setIfInBounds i true).getD k false = true := fun k hk => by
      by_cases e : k = i
      · subst e; exact absurd hk hni
      · simpa [Array.getElem?_setIfInBounds_ne (Ne.symm e)] using hk
    have hlt : i < listed.size := by
      have h1 := get_false hg
      have h2 : listed[i]? = some false := by simpa using h1
      exact (Array.getElem?_eq_some_iff.1 h2).1
    have hD : (fun j => (listed.setIfInBounds i true).getD j false = true) = (fun j => j = i ∨ listed.getD j false = true) := by
      funext j
      refine propext ⟨fun h => getD_set h, fun h => ?_⟩
      rcases h with h | h
      · subst h
        simp [Array.getElem?_setIfInBounds_self_of_lt hlt]
      · exact hup j h
    refine ⟨by rw [Array.size_setIfInBounds]; exact hs, fun j oj hj hoj e he hb => ?_, _, rfl, by rw [hD]; exact hJ'⟩
    rcases getD_set hj with h | h
    · subst h
      rw [ho] at hoj
      cases hoj
      exact hup _ (hall e he hb)
    · exact hup _ (hcl j oj h hoj e he hb)
  · rintro listed a w ⟨hs, _, vals, rfl, hJ⟩ hr
    exact hend _ vals w (fun i hi => all_listed hs hdeps hr (i + 1) i (Nat.lt_succ_self i) hi) hJ
  · unfold left
    refine Nat.le_trans List.countP_le_length ?_
    simp
  · have hno : ∀ j, ¬ (Array.replicate ops.size false).getD j false = true := fun j hj => by
      by_cases hj2 : j < ops.size
      · simp [hj2] at hj
      · simp [hj2] at hj
    refine ⟨by simp, fun j _ hj => absurd hj (hno j), v0, ha, ?_⟩
    rw [show (fun j => (Array.replicate ops.size false).getD j false = true) = (fun _ => False) from funext fun j => propext ⟨fun h => hno j h, False.elim⟩]
    exact h0
theorem deps_of (h : (ops.toList.zipIdx.all fun x => x.1.after.all fun e => !Region.binds .any e || decide (e.on < x.2)) = true) : ∀ (i : Nat) (o : Oper), ops[i]? = some o → ∀ e ∈ o.after, Region.binds .any e = true → e.on < i := by
  intro i o ho e he hbd
  have h1 : (o, i) ∈ ops.toList.zipIdx := by
    rw [List.mk_mem_zipIdx_iff_getElem?]
    simpa using ho
  have h2 := List.all_eq_true.1 h _ h1
  have h3 := Array.all_eq_true_iff_forall_mem.1 h2 e he
  rw [hbd] at h3
  simpa using h3
end
end Go.Proofs.Ytinnnfkhiigjpaa.rs
