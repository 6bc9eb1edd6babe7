/-
  Both MutationOK functions answer whether a mutation is right.
  Two stored mails are held against each other, and rows of them, and rows of texts.
  A box: copied by the law's own function.
  Boxes as rows: measured, copied and compared by the law's own functions; as an argument, opened.
  Boxes, and lists of them, held against each other by the laws.
-/
import Derived.Test.YtinnnfkhiigjpaaGreatPkac
import Derived.Test.YtinnnfkhiigjpaaGreatPkab
import Derived.DeepKeys
import Derived.Deep.QuietTactic
import Derived.BigQuiet

namespace Go.Proofs.YtinnnfkhiigjpaaGreat.mu
open Go.RowKit
open it
set_option linter.unusedVariables false

def dGood (s : ByteArray) (j : Nat) : Decidable (nm.good s j) :=
  if h : j < s.size then decidable_of_iff (nm.letB ((s[j]'h).toNat : Int) = true ∨ (0 < j ∧ nm.digB ((s[j]'h).toNat : Int) = true)) ⟨fun x => ⟨h, x⟩, fun ⟨_, x⟩ => x⟩ else isFalse (fun ⟨h', _⟩ => h h')
def dAllGood (s : ByteArray) : Decidable (∀ j, j < s.size → nm.good s j) := @Nat.decidableBallLT s.size (fun j _ => nm.good s j) (fun j _ => dGood s j)
def dName (s : ByteArray) : Decidable (nm.IsName s) := @instDecidableAnd _ _ _ (@instDecidableAnd _ _ _ (dAllGood s))
/-- A text is a name. -/
def nmB (s : ByteArray) : Bool := @decide (nm.IsName s) (dName s)
theorem nm_of {s : ByteArray} {e : Ending} (h : nm.NameRet s e) : e = .returned (.bool (nmB s)) := by
  obtain ⟨b, rfl, h⟩ := h
  have : b = nmB s := by
    unfold nmB
    cases b
    · exact (ow.df (fun x => by have := h.2 x; cases this)).symm
    · exact (ow.dt (h.1 rfl)).symm
  rw [this]
theorem impl_name (s : ByteArray) (w : World) (hs : s.size ≤ 1048576) : Calls Tryz.prog 43 #[.string s] w fun e w' => e = .returned (.bool (nmB s)) ∧ w' = w :=
  (nm.implName_any s w hs).mono fun e w' ⟨h, h2⟩ => ⟨nm_of h, h2⟩
theorem spec_name (s : ByteArray) (w : World) (hs : s.size ≤ 1048576) : Calls Tryz.prog 50 #[.string s] w fun e w' => e = .returned (.bool (nmB s)) ∧ w' = w :=
  (nm.specName_any s w hs).mono fun e w' ⟨h, h2⟩ => ⟨nm_of h, h2⟩

/-- A key's length. -/
def kOK (n : Nat) : Bool := decide (1 ≤ n ∧ n ≤ 200)
/-- Flags. -/
def fOK (f : Int) : Bool := decide (0 ≤ f ∧ f ≤ 31)
def iOK (p : Pr) : Bool := decide ((1 ≤ p.1.size ∧ p.1.size ≤ 200) ∧ p.2.size ≤ 4000)
def AllTo (ps : List Pr) (k : Nat) : Prop := ∀ j, j < k → iOK (ps.getD j no) = true
def dAll (ps : List Pr) (k : Nat) : Decidable (AllTo ps k) := inferInstanceAs (Decidable (∀ j, j < k → iOK (ps.getD j no) = true))
def itsOK (ps : List Pr) : Bool := @decide (ps.length ≤ 20 ∧ AllTo ps ps.length) (@instDecidableAnd _ _ _ (dAll ps ps.length))
theorem its_no {ps : List Pr} (h : ¬ (ps.length ≤ 20 ∧ AllTo ps ps.length)) : itsOK ps = false := ow.df h
theorem its_yes {ps : List Pr} (h : ps.length ≤ 20) (h2 : AllTo ps ps.length) : itsOK ps = true := ow.dt ⟨h, h2⟩
theorem its_of {ps : List Pr} (h : itsOK ps = true) : ps.length ≤ 20 ∧ AllTo ps ps.length := ow.dof h
theorem all_step {ps : List Pr} {k : Nat} (h : AllTo ps k) {a b : ByteArray} (ha : (ps.getD k no).1 = a) (hb : (ps.getD k no).2 = b) (hi : iOK (a, b) = true) : AllTo ps (k + 1) := by
  intro j hj
  by_cases e : j = k
  · subst e
    have : ps.getD j no = (a, b) := by rw [← ha, ← hb]
    rw [this]
    exact hi
  · exact h j (by omega)
theorem all_bad {ps : List Pr} {k : Nat} (hk : k < ps.length) {a b : ByteArray} (ha : (ps.getD k no).1 = a) (hb : (ps.getD k no).2 = b) (hi : iOK (a, b) = false) : itsOK ps = false := by
  refine its_no fun x => ?_
  have h := x.2 k hk
  have : ps.getD k no = (a, b) := by rw [← ha, ← hb]
  rw [this, hi] at h
  cases h
/-- What goes with a kind. -/
def kindOK (k u m f : Int) (n : Nat) : Bool := decide ((k = 1 ∨ k = 4) ∧ u = 0 ∧ m = 0 ∧ f = 0 ∧ n = 0 ∨ k = 2 ∧ u = 0 ∧ m = 0 ∧ f = 0 ∧ 0 < n ∨ k = 3 ∧ n = 0 ∧ 1 ≤ u ∧ u ≤ 1000 ∧ 1 ≤ m ∧ m ≤ 3 ∧ 0 ≤ f ∧ f ≤ 31)
/-- A mutation is right. -/
def mok (x : Mu) : Bool := nmB x.b && itsOK x.ps && kindOK x.k x.u x.m x.f x.ps.length
theorem ret_bool {a b : Bool} (h : a = b) : Ending.returned (.bool a) = .returned (.bool b) := by rw [h]
theorem mok_name {x : Mu} (h : nmB x.b = false) : mok x = false := by simp [mok, h]
theorem mok_its {x : Mu} (h : itsOK x.ps = false) : mok x = false := by simp [mok, h]
theorem mok_kind {x : Mu} (h : nmB x.b = true) (h2 : itsOK x.ps = true) : mok x = kindOK x.k x.u x.m x.f x.ps.length := by simp [mok, h, h2]

theorem isKey_any (s : ByteArray) (w : World) : Calls Tryz.prog 76 #[.string s] w fun e w' => e = .returned (.bool (kOK s.size)) ∧ w' = w := by
  go_enter Tryz.func76, Tryz.ntmps76
  go_wp2
  all_goals (go_ret; exact ⟨ret_bool (by rw [Bool.eq_iff_iff]; simp [kOK]; omega), rfl⟩)
theorem areFlags_any (f : Int) (w : World) : Calls Tryz.prog 32 #[.int .i64 f] w fun e w' => e = .returned (.bool (fOK f)) ∧ w' = w := by
  go_enter Tryz.func32, Tryz.ntmps32
  go_wp2
  all_goals (go_ret; exact ⟨ret_bool (by rw [Bool.eq_iff_iff]; simp [fOK]; omega), rfl⟩)
theorem in_any (n a b : Int) (w : World) : Calls Tryz.prog 35 #[.int .i64 n, .int .i64 a, .int .i64 b] w fun e w' => e = .returned (.bool (decide (a ≤ n ∧ n ≤ b))) ∧ w' = w := by
  go_enter Tryz.func35, Tryz.ntmps35
  go_wp2
  all_goals (go_ret; exact ⟨ret_bool (by rw [Bool.eq_iff_iff]; simp; try omega), rfl⟩)

set_option maxHeartbeats 1000000 in
theorem areItems_any (v : Value) (ps : List Pr) (w : World) (h : AttrsAt w v ps) (hs : it.Small ps) :
    Calls Tryz.prog 44 #[v] w fun e w' => e = .returned (.bool (itsOK ps)) ∧ Below w.heap.size w w' := by
  obtain ⟨a, cap, rfl, h⟩ := h
  obtain ⟨n, hn⟩ : ∃ n, n = ps.length := ⟨_, rfl⟩
  have HN : Hid (n = ps.length) := hn
  have HH : Hid (ps = [] ∨ ∃ b off, a = some ⟨b, off, none⟩ ∧ ∀ j, j < ps.length → w.cell? ⟨b, off + j * 2, none⟩ = some (.string (ps.getD j no).1) ∧ w.cell? ⟨b, off + j * 2 + 1, none⟩ = some (.string (ps.getD j no).2)) := h
  have HS : Hid (it.Small ps) := hs
  have hl : n ≤ 1048576 := by rw [hn]; exact hs.1
  rw [← hn]
  clear h hs hn
  by_cases g0 : 20 < n
  · have g0' : (20 : Int) < (n : Int) := by omega
    rw [its_no (by have := HN.out; omega)]
    go_enter Tryz.func44, Tryz.ntmps44
    go_wp2
    go_ret
    exact ⟨rfl, Below.refl _ _⟩
  have g0' : (n : Int) ≤ 20 := by omega
  go_enter Tryz.func44, Tryz.ntmps44
  go_wp2
  go_loopw [10] (fun i wr => ∃ (k : Nat), k ≤ n ∧ i = .int .i64 k ∧ AllTo ps k ∧ Below w.heap.size w wr) (fun i _ => n - (intOf i).toNat)
  case atStart => exact ⟨0, Nat.zero_le _, rfl, fun j hj => absurd hj (Nat.not_lt_zero _), Below.refl _ _⟩
  case round =>
    obtain ⟨k, hk, rfl, hal, hbw⟩ := hrel
    have HAL : Hid (AllTo ps k) := hal
    clear hal
    by_cases hlt : k < n
    · have hka : k < ps.length := by rw [← HN.out]; exact hlt
      rcases HH.out with e | ⟨b, off, rfl, hcells⟩
      · rw [e] at hka; simp at hka
      obtain ⟨v0, v1⟩ := hcells k hka
      obtain ⟨s0, s1⟩ := HS.out.2 k hka
      have hblt : b < w.heap.size := World.block_lt_of_cell? w _ v0
      have c0 := (hbw.cell (p := ⟨b, off + k * 2, none⟩) hblt).trans v0
      have c1 := (hbw.cell (p := ⟨b, off + k * 2 + 1, none⟩) hblt).trans v1
      clear hcells v0 v1
      generalize hn1 : (ps.getD k no).1 = nm at c0 s0
      generalize hv1 : (ps.getD k no).2 = vl at c1 s1
      have HN1 : Hid ((ps.getD k no).1 = nm) := hn1
      have HV1 : Hid ((ps.getD k no).2 = vl) := hv1
      have HKA : Hid (k < ps.length) := hka
      clear hn1 hv1 hka
      have hlt' : (k : Int) < (n : Int) := by omega
      have hb2 : Below w.heap.size w (wr.alloc (.cells #[.string nm, .string vl] 78)) := hbw.alloc hbw.size _
      by_cases q0 : 1 ≤ nm.size ∧ nm.size ≤ 200
      · have e0 : kOK nm.size = true := decide_eq_true q0
        by_cases q1 : vl.size ≤ 4000
        · have q1' : (vl.size : Int) ≤ 4000 := by omega
          go_wp2_with (go_at_call 76; refine (isKey_any _ _).mono ?_; rintro e w' ⟨rfl, rfl⟩; rw [e0])
          go_roundw
          case rel => exact ⟨k + 1, by omega, by go_num, all_step HAL.out HN1.out HV1.out (decide_eq_true ⟨q0, q1⟩), hb2⟩
          case measure => simp [intOf]; omega
        · have q1' : (4000 : Int) < (vl.size : Int) := by omega
          have HR : Hid (itsOK ps = false) := all_bad HKA.out HN1.out HV1.out (decide_eq_false fun x => q1 x.2)
          go_wp2_with (go_at_call 76; refine (isKey_any _ _).mono ?_; rintro e w' ⟨rfl, rfl⟩; rw [e0])
          go_ret
          exact ⟨ret_bool HR.out.symm, hb2⟩
      · have e0 : kOK nm.size = false := decide_eq_false q0
        have HR : Hid (itsOK ps = false) := all_bad HKA.out HN1.out HV1.out (decide_eq_false fun x => q0 x.1)
        go_wp2_with (go_at_call 76; refine (isKey_any _ _).mono ?_; rintro e w' ⟨rfl, rfl⟩; rw [e0])
        go_ret
        exact ⟨ret_bool HR.out.symm, hb2⟩
    · have HR : Hid (itsOK ps = true) := its_yes (by have := HN.out; omega) (fun j hj => HAL.out j (by have := HN.out; omega))
      go_wp2
      go_ret
      exact ⟨ret_bool HR.out.symm, hbw⟩
end Go.Proofs.YtinnnfkhiigjpaaGreat.mu

namespace Go.Proofs.YtinnnfkhiigjpaaGreat.sm
open Go.RowKit Go.WideShapes
open st
set_option linter.unusedVariables false

def lits (x : St) : List Lit := [.int .i64 x.u, .int .i64 x.f, .string x.t.data.toList]
theorem lits_inj {x y : St} : lits x = lits y ↔ x = y := by
  obtain ⟨u, f, t⟩ := x
  obtain ⟨u', f', t'⟩ := y
  constructor
  · intro h
    simp only [lits, List.cons.injEq, Lit.int.injEq, Lit.string.injEq, true_and, and_true] at h
    obtain ⟨rfl, rfl, h⟩ := h
    rw [WideShapes.bytes_inj h]
  · rintro h
    rw [h]
theorem wf_of {z : Int} (h : In z) : (Lit.int .i64 z).wf = true := WalkArith.wf_i64 (by have h1 := h.1; have h2 := h.2; omega)
set_option maxRecDepth 100000 in
theorem lits_of (x : St) (hx : Small x) : Tryz.prog.keyLits 2 46 [.int .i64 x.u, .int .i64 x.f, .string x.t] = some (lits x) := by
  obtain ⟨u, f, t⟩ := x
  obtain ⟨h0, h1, h2⟩ := hx
  simp only at h0 h1 h2
  have w0 := wf_of h0
  have w1 := wf_of h1
  have hc : Tryz.prog.cellsOf 46 = 3 := by kernel_rfl
  have hi : Tryz.prog.cellsOf 3 = 1 := by kernel_rfl
  have hs : Tryz.prog.cellsOf 9 = 1 := by kernel_rfl
  simp [Program.keyLits, Tryz.underlying46, Tryz.underlying3, Tryz.underlying9, hc, hi, hs, w0, w1, lits, show t.size ≤ maxLen by unfold maxLen; omega]
theorem formed_of (x : St) : (Value.agg #[.int .i64 x.u, .int .i64 x.f, .string x.t]).formed Tryz.prog 46 = true := by
  have hc : Tryz.prog.cellsOf 46 = 3 := by kernel_rfl
  simp [Value.formed, Tryz.underlying46, hc]
theorem key_at : Tryz.prog.keyTypeAt 2 46 = true := by kernel_rfl
def dEqS (x y : St) : Decidable (x = y) := decidable_of_iff (x.u = y.u ∧ x.f = y.f ∧ x.t.data = y.t.data) ⟨fun ⟨a, b, c⟩ => by cases x; cases y; simp only at a b c; rw [a, b, ByteArray.ext c], fun h => by rw [h]; exact ⟨rfl, rfl, rfl⟩⟩
def eqS (x y : St) : Bool := @decide (x = y) (dEqS x y)
theorem eq_run (x y : St) (hx : Small x) (hy : Small y) (w : World) : (Op.equal 46 (.agg #[.int .i64 x.u, .int .i64 x.f, .string x.t]) (.agg #[.int .i64 y.u, .int .i64 y.f, .string y.t])).run Tryz.prog w = .ok (eqS x y) w := by
  obtain ⟨r, h1, h2⟩ := run_equalIn_deep (P := Tryz.prog) 9998 2 46 key_at w 2 2 (.agg #[.int .i64 x.u, .int .i64 x.f, .string x.t]) (.agg #[.int .i64 y.u, .int .i64 y.f, .string y.t]) (lits x) (lits y) (formed_of x) (formed_of y) (by simpa [Value.cells] using lits_of x hx) (by simpa [Value.cells] using lits_of y hy)
  have hr : r = eqS x y := by
    unfold eqS
    by_cases e : x = y
    · rw [ow.dt e]
      exact h2.2 (lits_inj.2 e)
    · rw [ow.df e]
      exact Bool.eq_false_iff.2 fun z => e (lits_inj.1 (h2.1 z))
  rw [← hr]
  exact h1
theorem ne_run (x y : St) (hx : Small x) (hy : Small y) (w : World) : (Go.binOp .neq 46 (.agg #[.int .i64 x.u, .int .i64 x.f, .string x.t]) (.agg #[.int .i64 y.u, .int .i64 y.f, .string y.t])).run Tryz.prog w = .ok (.bool (!eqS x y)) w := by
  simp [Go.binOp, eq_run x y hx hy w, Result.andThen]
theorem guard_run (x y : Operand) (a b : Array Value) (w : World) : (eqGuard .neq 46 x y (.agg a) (.agg b)).run Tryz.prog w = .ok () w := by
  have h : Tryz.prog.eqGuardType Tryz.prog.depth 46 = false := by kernel_rfl
  simp [eqGuard, h, Result.andThen]

/-- Rows of mails are the same. -/
def SameM (ms ms' : List St) : Prop := ms.length = ms'.length ∧ ∀ j, j < ms.length → ms.getD j noS = ms'.getD j noS
def dSameMs (ms ms' : List St) (k : Nat) : Decidable (∀ j, j < k → ms.getD j noS = ms'.getD j noS) := @Nat.decidableBallLT k (fun j _ => ms.getD j noS = ms'.getD j noS) (fun j _ => dEqS _ _)
def dSameM (ms ms' : List St) : Decidable (SameM ms ms') := @instDecidableAnd _ _ _ (dSameMs ms ms' ms.length)
def sameM (ms ms' : List St) : Bool := @decide (SameM ms ms') (dSameM ms ms')
theorem sameM_no {ms ms' : List St} (h : ¬ SameM ms ms') : sameM ms ms' = false := ow.df h
theorem sameM_yes {ms ms' : List St} (h : SameM ms ms') : sameM ms ms' = true := ow.dt h
theorem eqS_yes {x y : St} (h : x = y) : eqS x y = true := ow.dt h
theorem eqS_no {x y : St} (h : ¬ x = y) : eqS x y = false := ow.df h
theorem bel_drewN {B : Nat} {a w : World} (h : Below B a w) (n : Nat) : Below B a (w.drewN n) := ⟨h.os, h.tape, h.output, h.size, h.block⟩

set_option maxHeartbeats 2000000 in
set_option maxRecDepth 100000 in
theorem equalM_any (N M : Nat) (v u : Value) (ms ms' : List St) (w : World) (h1 : MailsIn w N v ms) (h2 : MailsIn w M u ms') (hs : Smalls ms) (hs' : Smalls ms') :
    Calls Tryz.prog 56 #[v, u] w fun e w' => e = .returned (.bool (sameM ms ms')) ∧ Below w.heap.size w w' := by
  obtain ⟨a, cap, rfl, h1⟩ := h1
  obtain ⟨c, cap2, rfl, h2⟩ := h2
  obtain ⟨n, hn⟩ : ∃ n, n = ms.length := ⟨_, rfl⟩
  obtain ⟨m, hm⟩ : ∃ m, m = ms'.length := ⟨_, rfl⟩
  have HN : Hid (n = ms.length) := hn
  have HM : Hid (m = ms'.length) := hm
  have hl : n ≤ 1048576 := by rw [hn]; exact hs.1
  have hl2 : m ≤ 1048576 := by rw [hm]; exact hs'.1
  have HS : Hid (Smalls ms ∧ Smalls ms') := ⟨hs, hs'⟩
  have H1 : Hid (ms = [] ∨ ∃ b off, a = some ⟨b, off, none⟩ ∧ b < N ∧ ∀ j, j < ms.length → At3 w b (off + j * 3) (ms.getD j noS)) := h1
  have H2 : Hid (ms' = [] ∨ ∃ b off, c = some ⟨b, off, none⟩ ∧ b < M ∧ ∀ j, j < ms'.length → At3 w b (off + j * 3) (ms'.getD j noS)) := h2
  rw [← hn, ← hm]
  clear h1 h2 hs hs' hn hm
  by_cases hnm : ¬ n = m
  · have hnm' : ((n : Int) != (m : Int)) = true := by simp; omega
    have HR : Hid (sameM ms ms' = false) := sameM_no (fun y => hnm (by have := y.1; have := HN.out; have := HM.out; omega))
    go_enter Tryz.func56, Tryz.ntmps56
    go_wp2
    go_ret
    exact ⟨mu.ret_bool HR.out.symm, Below.refl _ _⟩
  have hnm : n = m := Decidable.of_not_not hnm
  subst hnm
  have hnm' : ((n : Int) != (n : Int)) = false := by simp
  go_enter Tryz.func56, Tryz.ntmps56
  go_wp2
  go_loopw [13] (fun i wr => ∃ k : Nat, k ≤ n ∧ i = .int .i64 k ∧ (∀ j, j < k → ms.getD j noS = ms'.getD j noS) ∧ Below w.heap.size w wr) (fun i _ => n - (intOf i).toNat)
  case atStart => exact ⟨0, Nat.zero_le _, rfl, fun j hj => absurd hj (Nat.not_lt_zero _), Below.refl _ _⟩
  case round =>
    obtain ⟨k, hk, rfl, hal, hbw⟩ := hrel
    have HAL : Hid (∀ j, j < k → ms.getD j noS = ms'.getD j noS) := hal
    clear hal
    by_cases hlt : k < n
    · have hka : k < ms.length := by rw [← HN.out]; exact hlt
      have hkb : k < ms'.length := by rw [← HM.out]; exact hlt
      rcases H1.out with e | ⟨b, off, rfl, _, hcells⟩
      · rw [e] at hka; simp at hka
      rcases H2.out with e | ⟨b2, off2, rfl, _, hcells2⟩
      · rw [e] at hkb; simp at hkb
      have ha := (hcells k hka).keep hbw (hcells k hka).lt
      have hb := (hcells2 k hkb).keep hbw (hcells2 k hkb).lt
      have hsa := HS.out.1.2 k hka
      have hsb := HS.out.2.2 k hkb
      have HNE : Hid (¬ ms.getD k noS = ms'.getD k noS → sameM ms ms' = false) := fun h => sameM_no (fun y => h (y.2 k hka))
      have HEQ : Hid (ms.getD k noS = ms'.getD k noS → ∀ j, j < k + 1 → ms.getD j noS = ms'.getD j noS) := fun h j hj => by
        by_cases e : j = k
        · rw [e]; exact h
        · exact HAL.out j (by omega)
      clear hcells hka hcells2 hkb
      generalize ms.getD k noS = x at ha hsa HNE HEQ
      generalize ms'.getD k noS = y at hb hsb HNE HEQ
      have hrun := fun W => ne_run x y hsa hsb W
      have hgd := guard_run
      obtain ⟨c0, c1, c2⟩ := ha
      obtain ⟨d0, d1, d2⟩ := hb
      clear hsa hsb
      have hlt' : (k : Int) < (n : Int) := by omega
      have hk0 : (0 : Int) ≤ (k : Int) := by omega
      by_cases hxy : x = y
      · have HX : Hid (∀ j, j < k + 1 → ms.getD j noS = ms'.getD j noS) := HEQ.out hxy
        rw [eqS_yes hxy] at hrun
        simp only [Bool.not_true] at hrun
        clear hxy HNE HEQ
        go_wp2_with fail
        go_quiet (fail)
        have b3 := bel_drewN hbw nq
        clear c0 c1 c2 d0 d1 d2 hrun hbw
        go_wp2
        go_roundw
        case rel => exact ⟨k + 1, by omega, by go_num, HX.out, b3⟩
        case measure => simp [intOf]; omega
      · have HR : Hid (sameM ms ms' = false) := HNE.out hxy
        rw [eqS_no hxy] at hrun
        simp only [Bool.not_false] at hrun
        clear hxy HNE HEQ
        go_wp2_with fail
        go_quiet (fail)
        have b3 := bel_drewN hbw nq
        clear c0 c1 c2 d0 d1 d2 hrun hbw
        go_wp2
        go_ret
        exact ⟨mu.ret_bool HR.out.symm, b3⟩
    · have HR : Hid (sameM ms ms' = true) := sameM_yes ⟨by have := HN.out; have := HM.out; omega, fun j hj => HAL.out j (by have := HN.out; omega)⟩
      go_wp2
      go_ret
      exact ⟨mu.ret_bool HR.out.symm, hbw⟩
end Go.Proofs.YtinnnfkhiigjpaaGreat.sm

namespace Go.Proofs.YtinnnfkhiigjpaaGreat.bx
open Go.ChangeShapes Go.WideShapes Go.ChangeAt Go.RowKit Go.Deep Go.Joins
open st
set_option linter.unusedVariables false

theorem heap_new (w : World) (o : Obj) : (w.alloc o).heap[w.heap.size]? = some o := (MapKept.heap_alloc w _).1
theorem new1 (w : World) (o0 o1 o2 : Obj) : (((w.alloc o0).alloc o1).alloc o2).heap[w.heap.size + 1]? = some o1 := by
  have h := heap_new (w.alloc o0) o1
  rw [show (w.alloc o0).heap.size = w.heap.size + 1 by simp] at h
  rw [Below.heap_alloc _ _ _ (by simp), h]
theorem new2 (w : World) (o0 o1 o2 : Obj) : (((w.alloc o0).alloc o1).alloc o2).heap[w.heap.size + 1 + 1]? = some o2 := by
  have h := heap_new ((w.alloc o0).alloc o1) o2
  rw [show ((w.alloc o0).alloc o1).heap.size = w.heap.size + 1 + 1 by simp] at h
  exact h
/-- What the copy of a box leaves. -/
def fin (w2 : World) (b : Nat) (x : Bx) (V U : Value) : World := (((((w2.setCell ⟨b + 1 + 1, 4, none⟩ U).setCell ⟨b + 1, 0, none⟩ (.string x.nm)).setCell ⟨b + 1, 1, none⟩ (.int .i64 x.vd)).setCell ⟨b + 1, 2, none⟩ (.int .i64 x.nx)).setCell ⟨b + 1, 3, none⟩ V).setCell ⟨b + 1, 4, none⟩ U

end Go.Proofs.YtinnnfkhiigjpaaGreat.bx

namespace Go.Proofs.YtinnnfkhiigjpaaGreat.bx
open Go.ChangeShapes Go.WideShapes Go.ChangeAt Go.RowKit Go.Deep Go.Joins
open st gr
set_option linter.unusedVariables false

def noB : Bx := ⟨⟨#[]⟩, 0, 0, [], []⟩
def At5 (w : World) (b o : Nat) (x : Bx) (p : Value × Value) : Prop :=
  w.cell? ⟨b, o, none⟩ = some (.string x.nm) ∧ w.cell? ⟨b, o + 1, none⟩ = some (.int .i64 x.vd) ∧ w.cell? ⟨b, o + 2, none⟩ = some (.int .i64 x.nx) ∧ w.cell? ⟨b, o + 3, none⟩ = some p.1 ∧ w.cell? ⟨b, o + 4, none⟩ = some p.2
theorem At5.lt {w : World} {b o : Nat} {x : Bx} {p : Value × Value} (h : At5 w b o x p) : b < w.heap.size := World.block_lt_of_cell? w _ h.1
theorem At5.keep {w w' : World} {n b o : Nat} {x : Bx} {p : Value × Value} (h : At5 w b o x p) (hb : Below n w w') (hn : b < n) : At5 w' b o x p := by
  obtain ⟨h0, h1, h2, h3, h4⟩ := h
  exact ⟨(hb.cell (p := ⟨b, o, none⟩) hn).trans h0, (hb.cell (p := ⟨b, o + 1, none⟩) hn).trans h1, (hb.cell (p := ⟨b, o + 2, none⟩) hn).trans h2, (hb.cell (p := ⟨b, o + 3, none⟩) hn).trans h3, (hb.cell (p := ⟨b, o + 4, none⟩) hn).trans h4⟩
/-- The cells of boxes. -/
def CellsIn (w : World) (n : Nat) (v : Value) (xs : List Bx) (vs : Nat → Value × Value) : Prop :=
  ∃ a cap, v = .slice a xs.length cap ∧ (xs = [] ∨ ∃ b off, a = some ⟨b, off, none⟩ ∧ b < n ∧ ∀ j, j < xs.length → At5 w b (off + j * 5) (xs.getD j noB) (vs j))
/-- A slice of boxes with all their rows, in blocks below n. -/
def BoxesIn (w : World) (n : Nat) (v : Value) (xs : List Bx) (vs : Nat → Value × Value) : Prop :=
  CellsIn w n v xs vs ∧ ∀ j, j < xs.length → RowsIn w n (vs j).1 (vs j).2 (xs.getD j noB).ms (xs.getD j noB).ks
theorem boxes_in_below {w w' : World} {n k : Nat} {v : Value} {xs : List Bx} {vs : Nat → Value × Value} (h : BoxesIn w n v xs vs) (hb : Below k w w') (hk : n ≤ k) : BoxesIn w' n v xs vs := by
  obtain ⟨⟨a, cap, rfl, h⟩, h2⟩ := h
  refine ⟨⟨a, cap, rfl, ?_⟩, fun j hj => rows_in_below (h2 j hj) hb hk⟩
  rcases h with h | ⟨b, off, rfl, hb', h⟩
  · exact .inl h
  · exact .inr ⟨b, off, rfl, hb', fun j hj => (h j hj).keep hb (by omega)⟩
theorem boxes_more {w : World} {n k : Nat} {v : Value} {xs : List Bx} {vs : Nat → Value × Value} (h : BoxesIn w n v xs vs) (hk : n ≤ k) : BoxesIn w k v xs vs := by
  obtain ⟨⟨a, cap, rfl, h⟩, h2⟩ := h
  refine ⟨⟨a, cap, rfl, ?_⟩, fun j hj => rows_more (h2 j hj) hk⟩
  rcases h with h | ⟨b, off, rfl, hb', h⟩
  · exact .inl h
  · exact .inr ⟨b, off, rfl, by omega, h⟩
def BoxesAt (w : World) (v : Value) (xs : List Bx) (vs : Nat → Value × Value) : Prop := BoxesIn w w.heap.size v xs vs
theorem boxes_below {w w' : World} {v : Value} {xs : List Bx} {vs : Nat → Value × Value} (h : BoxesAt w v xs vs) (hb : Below w.heap.size w w') : BoxesAt w' v xs vs := boxes_more (boxes_in_below h hb (Nat.le_refl _)) hb.size
def Smalls (xs : List Bx) : Prop := xs.length ≤ 1048576 ∧ ∀ j, j < xs.length → Small (xs.getD j noB)

section
variable {H : Type} {enc : TypeId × Value → H} {w : World} {base : Nat} {spare : Nat → Bool} {held : Bool}
end
end Go.Proofs.YtinnnfkhiigjpaaGreat.bx

namespace Go.Proofs.YtinnnfkhiigjpaaGreat.kp
open Go.RowKit Go.WideShapes Go.Deep
open bx
open st (St noS At3)
open ky (TextsAt)
set_option linter.unusedVariables false

theorem ne_same (x : St) (hx : st.Small x) (w : World) : (Go.binOp .neq 46 (.agg #[.int .i64 x.u, .int .i64 x.f, .string x.t]) (.agg #[.int .i64 x.u, .int .i64 x.f, .string x.t])).run Tryz.prog w = .ok (.bool false) w := by
  rw [sm.ne_run x x hx hx w]
  have : sm.eqS x x = true := ow.dt rfl
  rw [this]
  rfl
set_option maxHeartbeats 1000000 in
set_option maxRecDepth 100000 in
theorem sameTexts_any (v u : Value) (ks : List ByteArray) (w : World) (h1 : TextsAt w v ks) (h2 : TextsAt w u ks) (hn : ks.length ≤ 1048576) :
    Calls Tryz.prog 30 #[v, u] w fun e w' => e = .returned (.bool true) ∧ Below w.heap.size w w' := by
  obtain ⟨a, cap, rfl, h1⟩ := h1
  obtain ⟨c, cap2, rfl, h2⟩ := h2
  obtain ⟨n, hn'⟩ : ∃ n, n = ks.length := ⟨_, rfl⟩
  have HN : Hid (n = ks.length) := hn'
  have H1 : Hid (ks = [] ∨ ∃ b off, a = some ⟨b, off, none⟩ ∧ ∀ j, j < ks.length → w.cell? ⟨b, off + j, none⟩ = some (.string (ks.getD j ky.nt))) := h1
  have H2 : Hid (ks = [] ∨ ∃ b off, c = some ⟨b, off, none⟩ ∧ ∀ j, j < ks.length → w.cell? ⟨b, off + j, none⟩ = some (.string (ks.getD j ky.nt))) := h2
  rw [← hn'] at hn ⊢
  clear h1 h2 hn'
  have hnn : ((n : Int) != (n : Int)) = false := by simp
  go_enter Tryz.func30, Tryz.ntmps30
  go_wp2
  go_loopw [5] (fun i wr => ∃ k : Nat, k ≤ n ∧ i = .int .i64 k ∧ Below w.heap.size w wr) (fun i _ => n - (intOf i).toNat)
  case atStart => exact ⟨0, Nat.zero_le _, rfl, Below.refl _ _⟩
  case round =>
    obtain ⟨k, hk, rfl, hbw⟩ := hrel
    by_cases hlt : k < n
    · have hka : k < ks.length := by rw [← HN.out]; exact hlt
      rcases H1.out with e | ⟨b, off, rfl, hcells⟩
      · rw [e] at hka; simp at hka
      rcases H2.out with e | ⟨b2, off2, rfl, hcells2⟩
      · rw [e] at hka; simp at hka
      have v0 := hcells k hka
      have u0 := hcells2 k hka
      have c0 := (hbw.cell (p := ⟨b, off + k, none⟩) (World.block_lt_of_cell? w _ v0)).trans v0
      have d0 := (hbw.cell (p := ⟨b2, off2 + k, none⟩) (World.block_lt_of_cell? w _ u0)).trans u0
      clear hcells hka hcells2 v0 u0
      generalize ks.getD k ky.nt = x at c0 d0
      have hxx : (x.toList == x.toList) = true := by simp
      have hxn : (x.toList != x.toList) = false := by simp
      have hlt' : (k : Int) < (n : Int) := by omega
      have hk0 : (0 : Int) ≤ (k : Int) := by omega
      go_wp2
      go_quiet (fail)
      have b3 : Below w.heap.size w (wr.drewN nq) := ⟨hbw.os, hbw.tape, hbw.output, hbw.size, hbw.block⟩
      clear c0 d0
      go_wp2
      go_roundw
      case rel => exact ⟨k + 1, by omega, by go_num, b3⟩
      case measure => simp [intOf]; omega
    · go_wp2
      go_ret
      exact ⟨rfl, hbw⟩

set_option maxHeartbeats 4000000 in
set_option maxRecDepth 100000 in
theorem sameBox_any (x : Bx) (v u v' u' : Value) (w : World) (h1 : RowsAt w v u x.ms x.ks) (h2 : RowsAt w v' u' x.ms x.ks) (hs : bx.Small x) :
    Calls Tryz.prog 14 #[BV x v u, BV x v' u'] w fun e w' => e = .returned (.bool true) ∧ Below w.heap.size w w' := by
  obtain ⟨⟨a, cap, rfl, p1⟩, ⟨a1, cap1, rfl, p2⟩⟩ := id h1
  obtain ⟨⟨c, cap', rfl, q1⟩, ⟨c1, cap1', rfl, q2⟩⟩ := id h2
  obtain ⟨nm, vd, nx, ms, ks⟩ := x
  simp only at p1 p2 q1 q2 h1 h2
  have HS : Hid ((ms.length ≤ 1048576 ∧ ∀ j, j < ms.length → st.Small (ms.getD j noS)) ∧ ks.length ≤ 1048576) := ⟨hs.2.2.1, hs.2.2.2.1⟩
  obtain ⟨W, hW⟩ : ∃ W, W = (w.alloc (.cells #[.string nm, .int .i64 vd, .int .i64 nx, .slice a ms.length cap, .slice a1 ks.length cap1] 38)).alloc (.cells #[.string nm, .int .i64 vd, .int .i64 nx, .slice c ms.length cap', .slice c1 ks.length cap1'] 38) := ⟨_, rfl⟩
  have HW : Hid (W = (w.alloc (.cells #[.string nm, .int .i64 vd, .int .i64 nx, .slice a ms.length cap, .slice a1 ks.length cap1] 38)).alloc (.cells #[.string nm, .int .i64 vd, .int .i64 nx, .slice c ms.length cap', .slice c1 ks.length cap1'] 38)) := hW
  have hbw : Below w.heap.size w W := by rw [hW]; exact (new_below w 38 _).alloc (by simp) _
  have HL0 : Hid (Lies W w.heap.size 38 ⟨nm, vd, nx, ms, ks⟩ (.slice a ms.length cap) (.slice a1 ks.length cap1)) := by
    rw [hW]; exact (lies_new w 38 ⟨nm, vd, nx, ms, ks⟩ (.slice a ms.length cap) (.slice a1 ks.length cap1)).keep (new_below _ _ _)
  have HL1 : Hid (Lies W (w.heap.size + 1) 38 ⟨nm, vd, nx, ms, ks⟩ (.slice c ms.length cap') (.slice c1 ks.length cap1')) := by
    have := lies_new (w.alloc (.cells #[.string nm, .int .i64 vd, .int .i64 nx, .slice a ms.length cap, .slice a1 ks.length cap1] 38)) 38 ⟨nm, vd, nx, ms, ks⟩ (.slice c ms.length cap') (.slice c1 ks.length cap1')
    rw [show (w.alloc (.cells #[.string nm, .int .i64 vd, .int .i64 nx, .slice a ms.length cap, .slice a1 ks.length cap1] 38)).heap.size = w.heap.size + 1 by simp] at this
    rw [hW]; exact this
  have HA : Hid (RowsAt W (.slice a ms.length cap) (.slice a1 ks.length cap1) ms ks) := rows_below h1 hbw
  have HB : Hid (RowsAt W (.slice c ms.length cap') (.slice c1 ks.length cap1') ms ks) := rows_below h2 hbw
  have HBW : Hid (Below w.heap.size w W) := hbw
  clear hW hbw p1 p2 q1 q2 h1 h2 hs
  unfold BV
  simp only
  have k1 : ((vd : Int) != vd) = false := by simp
  have k2 : ((nx : Int) != nx) = false := by simp
  have k3 : (nm.toList != nm.toList) = false := by simp
  obtain ⟨n, hn⟩ : ∃ n, n = ms.length := ⟨_, rfl⟩
  have HN : Hid (n = ms.length) := hn
  rw [← hn] at HW HL0 HL1 HA HB ⊢
  have hnl : n ≤ 1048576 := by rw [hn]; exact HS.out.1.1
  clear hn
  have k4 : ((n : Int) != (n : Int)) = false := by simp
  go_enter Tryz.func14, Tryz.ntmps14
  go_wp2_with fail
  rw [← HW.out]
  refine (sameTexts_any _ _ ks W (tx.texts_at HA.out.2) (tx.texts_at HB.out.2) HS.out.2).mono ?_
  rintro e W2 ⟨rfl, hb2⟩
  have HX : Hid (Below W.heap.size W W2) := hb2
  clear hb2 k1 k2 k3 k4
  go_wp2
  go_loopw [5] (fun i wr => ∃ k : Nat, k ≤ n ∧ i = .int .i64 k ∧ Below W.heap.size W wr) (fun i _ => n - (intOf i).toNat)
  case atStart => exact ⟨0, Nat.zero_le _, rfl, HX.out⟩
  case round =>
    clear HX HW
    obtain ⟨k, hk, rfl, hbw⟩ := hrel
    have l0 := (HL0.out.keep hbw).c3
    have l1 := (HL1.out.keep hbw).c3
    by_cases hlt : k < n
    · have hka : k < ms.length := by rw [← HN.out]; exact hlt
      have hsm := HS.out.1.2 k hka
      have hlt' : (k : Int) < (n : Int) := by omega
      have hk0 : (0 : Int) ≤ (k : Int) := by omega
      obtain ⟨⟨a', cp, e', hA⟩, _⟩ := HA.out
      obtain ⟨⟨c', cp', e'', hB⟩, _⟩ := HB.out
      cases e'
      cases e''
      rcases hA with e | ⟨b, off, rfl, _, hcells⟩
      · rw [e] at hka; simp at hka
      rcases hB with e | ⟨b2, off2, rfl, _, hcells2⟩
      · rw [e] at hka; simp at hka
      obtain ⟨v0, v1, v2⟩ := hcells k hka
      obtain ⟨y0, y1, y2⟩ := hcells2 k hka
      have hblt : b < W.heap.size := World.block_lt_of_cell? W _ v0
      have hblt2 : b2 < W.heap.size := World.block_lt_of_cell? W _ y0
      have c0 := (hbw.cell (p := ⟨b, off + k * 3, none⟩) hblt).trans v0
      have c1 := (hbw.cell (p := ⟨b, off + k * 3 + 1, none⟩) hblt).trans v1
      have c2 := (hbw.cell (p := ⟨b, off + k * 3 + 2, none⟩) hblt).trans v2
      have d0 := (hbw.cell (p := ⟨b2, off2 + k * 3, none⟩) hblt2).trans y0
      have d1 := (hbw.cell (p := ⟨b2, off2 + k * 3 + 1, none⟩) hblt2).trans y1
      have d2 := (hbw.cell (p := ⟨b2, off2 + k * 3 + 2, none⟩) hblt2).trans y2
      clear hcells hcells2 hka v0 v1 v2 y0 y1 y2
      generalize ms.getD k noS = x at c0 c1 c2 d0 d1 d2 hsm
      have hr := ne_same x hsm
      have hg := sm.guard_run
      have HWR : Hid (∀ z, Below W.heap.size W (wr.drewN z)) := fun z => below_drewN hbw z
      clear hbw hsm
      go_wp2_with fail
      go_quiet (fail)
      clear hr hg
      go_wp2
      go_roundw
      case rel => exact ⟨k + 1, by omega, by go_num, HWR.out _⟩
      case measure => simp [intOf]; omega
    · have hkn : k = n := by omega
      subst hkn
      go_wp2
      go_ret
      exact ⟨rfl, HBW.out.trans (hbw.mono HBW.out.size)⟩
end Go.Proofs.YtinnnfkhiigjpaaGreat.kp
