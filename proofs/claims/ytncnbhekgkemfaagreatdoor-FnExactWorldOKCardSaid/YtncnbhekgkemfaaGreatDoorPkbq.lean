/-
  Two stored mails are held against each other, and rows of them, and rows of texts.
  Two boxes are held against each other, and rows of boxes: the program's own way.
  Rows of boxes are held against each other: the program's own way; its SameStore.
-/
import Derived.Test.YtncnbhekgkemfaaGreatDoorPkaf
import Derived.Test.YtncnbhekgkemfaaGreatDoorPkad
import Derived.DeepKeys
import Derived.Deep.QuietTactic
import Derived.BigQuiet
import Derived.Test.YtncnbhekgkemfaaGreatDoorPkah
import Derived.Test.YtncnbhekgkemfaaGreatDoorPkai

namespace Go.Proofs.YtncnbhekgkemfaaGreatDoor.sm
open Go.RowKit Go.WideShapes
open st
set_option linter.unusedVariables false

def lits (x : St) : List Lit := [.int .i64 x.u, .int .i64 x.f, .string x.t.data.toList]
theorem lits_inj {x y : St} : lits x = lits y ↔ x = y := by
  obtain ⟨u, f, t⟩ := x
  obtain ⟨u', f', t'⟩ := y
  constructor
  · intro h
    simp only [lits, List.cons.injEq, Lit.int.injEq, Lit.string.injEq, true_and, and_true] at h
    obtain ⟨rfl, rfl, h⟩ := h
    rw [WideShapes.bytes_inj h]
  · rintro h
    rw [h]
theorem wf_of {z : Int} (h : In z) : (Lit.int .i64 z).wf = true := WalkArith.wf_i64 (by have h1 := h.1; have h2 := h.2; omega)
set_option maxRecDepth 100000 in
theorem lits_of (x : St) (hx : Small x) : Tryz.prog.keyLits 2 110 [.int .i64 x.u, .int .i64 x.f, .string x.t] = some (lits x) := by
  obtain ⟨u, f, t⟩ := x
  obtain ⟨h0, h1, h2⟩ := hx
  simp only at h0 h1 h2
  have w0 := wf_of h0
  have w1 := wf_of h1
  have hc : Tryz.prog.cellsOf 110 = 3 := by kernel_rfl
  have hi : Tryz.prog.cellsOf 3 = 1 := by kernel_rfl
  have hs : Tryz.prog.cellsOf 9 = 1 := by kernel_rfl
  simp [Program.keyLits, Tryz.underlying110, Tryz.underlying3, Tryz.underlying9, hc, hi, hs, w0, w1, lits, show t.size ≤ maxLen by unfold maxLen; omega]
theorem formed_of (x : St) : (Value.agg #[.int .i64 x.u, .int .i64 x.f, .string x.t]).formed Tryz.prog 110 = true := by
  have hc : Tryz.prog.cellsOf 110 = 3 := by kernel_rfl
  simp [Value.formed, Tryz.underlying110, hc]
theorem key_at : Tryz.prog.keyTypeAt 2 110 = true := by kernel_rfl
def dEqS (x y : St) : Decidable (x = y) := decidable_of_iff (x.u = y.u ∧ x.f = y.f ∧ x.t.data = y.t.data) ⟨fun ⟨a, b, c⟩ => by cases x; cases y; simp only at a b c; rw [a, b, ByteArray.ext c], fun h => by rw [h]; exact ⟨rfl, rfl, rfl⟩⟩
def eqS (x y : St) : Bool := @decide (x = y) (dEqS x y)
theorem eq_run (x y : St) (hx : Small x) (hy : Small y) (w : World) : (Op.equal 110 (.agg #[.int .i64 x.u, .int .i64 x.f, .string x.t]) (.agg #[.int .i64 y.u, .int .i64 y.f, .string y.t])).run Tryz.prog w = .ok (eqS x y) w := by
  obtain ⟨r, h1, h2⟩ := run_equalIn_deep (P := Tryz.prog) 9998 2 110 key_at w 2 2 (.agg #[.int .i64 x.u, .int .i64 x.f, .string x.t]) (.agg #[.int .i64 y.u, .int .i64 y.f, .string y.t]) (lits x) (lits y) (formed_of x) (formed_of y) (by simpa [Value.cells] using lits_of x hx) (by simpa [Value.cells] using lits_of y hy)
  have hr : r = eqS x y := by
    unfold eqS
    by_cases e : x = y
    · rw [ow.dt e]
      exact h2.2 (lits_inj.2 e)
    · rw [ow.df e]
      exact Bool.eq_false_iff.2 fun z => e (lits_inj.1 (h2.1 z))
  rw [← hr]
  exact h1
theorem ne_run (x y : St) (hx : Small x) (hy : Small y) (w : World) : (Go.binOp .neq 110 (.agg #[.int .i64 x.u, .int .i64 x.f, .string x.t]) (.agg #[.int .i64 y.u, .int .i64 y.f, .string y.t])).run Tryz.prog w = .ok (.bool (!eqS x y)) w := by
  simp [Go.binOp, eq_run x y hx hy w, Result.andThen]
theorem guard_run (x y : Operand) (a b : Array Value) (w : World) : (eqGuard .neq 110 x y (.agg a) (.agg b)).run Tryz.prog w = .ok () w := by
  have h : Tryz.prog.eqGuardType Tryz.prog.depth 110 = false := by kernel_rfl
  simp [eqGuard, h, Result.andThen]

/-- Rows of mails are the same. -/
def SameM (ms ms' : List St) : Prop := ms.length = ms'.length ∧ ∀ j, j < ms.length → ms.getD j noS = ms'.getD j noS
def dSameMs (ms ms' : List St) (k : Nat) : Decidable (∀ j, j < k → ms.getD j noS = ms'.getD j noS) := @Nat.decidableBallLT k (fun j _ => ms.getD j noS = ms'.getD j noS) (fun j _ => dEqS _ _)
def dSameM (ms ms' : List St) : Decidable (SameM ms ms') := @instDecidableAnd _ _ _ (dSameMs ms ms' ms.length)
def sameM (ms ms' : List St) : Bool := @decide (SameM ms ms') (dSameM ms ms')
theorem sameM_no {ms ms' : List St} (h : ¬ SameM ms ms') : sameM ms ms' = false := ow.df h
theorem sameM_yes {ms ms' : List St} (h : SameM ms ms') : sameM ms ms' = true := ow.dt h
theorem eqS_yes {x y : St} (h : x = y) : eqS x y = true := ow.dt h
theorem eqS_no {x y : St} (h : ¬ x = y) : eqS x y = false := ow.df h
theorem bel_drewN {B : Nat} {a w : World} (h : Below B a w) (n : Nat) : Below B a (w.drewN n) := ⟨h.os, h.tape, h.output, h.size, h.block⟩

set_option maxHeartbeats 2000000 in
set_option maxRecDepth 100000 in
theorem equalM_any (N M : Nat) (v u : Value) (ms ms' : List St) (w : World) (h1 : MailsIn w N v ms) (h2 : MailsIn w M u ms') (hs : Smalls ms) (hs' : Smalls ms') :
    Calls Tryz.prog 100 #[v, u] w fun e w' => e = .returned (.bool (sameM ms ms')) ∧ Below w.heap.size w w' := by
  obtain ⟨a, cap, rfl, h1⟩ := h1
  obtain ⟨c, cap2, rfl, h2⟩ := h2
  obtain ⟨n, hn⟩ : ∃ n, n = ms.length := ⟨_, rfl⟩
  obtain ⟨m, hm⟩ : ∃ m, m = ms'.length := ⟨_, rfl⟩
  have HN : Hid (n = ms.length) := hn
  have HM : Hid (m = ms'.length) := hm
  have hl : n ≤ 1048576 := by rw [hn]; exact hs.1
  have hl2 : m ≤ 1048576 := by rw [hm]; exact hs'.1
  have HS : Hid (Smalls ms ∧ Smalls ms') := ⟨hs, hs'⟩
  have H1 : Hid (ms = [] ∨ ∃ b off, a = some ⟨b, off, none⟩ ∧ b < N ∧ ∀ j, j < ms.length → At3 w b (off + j * 3) (ms.getD j noS)) := h1
  have H2 : Hid (ms' = [] ∨ ∃ b off, c = some ⟨b, off, none⟩ ∧ b < M ∧ ∀ j, j < ms'.length → At3 w b (off + j * 3) (ms'.getD j noS)) := h2
  rw [← hn, ← hm]
  clear h1 h2 hs hs' hn hm
  by_cases hnm : ¬ n = m
  · have hnm' : ((n : Int) != (m : Int)) = true := by simp; omega
    have HR : Hid (sameM ms ms' = false) := sameM_no (fun y => hnm (by have := y.1; have := HN.out; have := HM.out; omega))
    go_enter Tryz.func100, Tryz.ntmps100
    go_wp2
    go_ret
    exact ⟨mu.ret_bool HR.out.symm, Below.refl _ _⟩
  have hnm : n = m := Decidable.of_not_not hnm
  subst hnm
  have hnm' : ((n : Int) != (n : Int)) = false := by simp
  go_enter Tryz.func100, Tryz.ntmps100
  go_wp2
  go_loopw [13] (fun i wr => ∃ k : Nat, k ≤ n ∧ i = .int .i64 k ∧ (∀ j, j < k → ms.getD j noS = ms'.getD j noS) ∧ Below w.heap.size w wr) (fun i _ => n - (intOf i).toNat)
  case atStart => exact ⟨0, Nat.zero_le _, rfl, fun j hj => absurd hj (Nat.not_lt_zero _), Below.refl _ _⟩
  case round =>
    obtain ⟨k, hk, rfl, hal, hbw⟩ := hrel
    have HAL : Hid (∀ j, j < k → ms.getD j noS = ms'.getD j noS) := hal
    clear hal
    by_cases hlt : k < n
    · have hka : k < ms.length := by rw [← HN.out]; exact hlt
      have hkb : k < ms'.length := by rw [← HM.out]; exact hlt
      rcases H1.out with e | ⟨b, off, rfl, _, hcells⟩
      · rw [e] at hka; simp at hka
      rcases H2.out with e | ⟨b2, off2, rfl, _, hcells2⟩
      · rw [e] at hkb; simp at hkb
      have ha := (hcells k hka).keep hbw (hcells k hka).lt
      have hb := (hcells2 k hkb).keep hbw (hcells2 k hkb).lt
      have hsa := HS.out.1.2 k hka
      have hsb := HS.out.2.2 k hkb
      have HNE : Hid (¬ ms.getD k noS = ms'.getD k noS → sameM ms ms' = false) := fun h => sameM_no (fun y => h (y.2 k hka))
      have HEQ : Hid (ms.getD k noS = ms'.getD k noS → ∀ j, j < k + 1 → ms.getD j noS = ms'.getD j noS) := fun h j hj => by
        by_cases e : j = k
        · rw [e]; exact h
        · exact HAL.out j (by omega)
      clear hcells hka hcells2 hkb
      generalize ms.getD k noS = x at ha hsa HNE HEQ
      generalize ms'.getD k noS = y at hb hsb HNE HEQ
      have hrun := fun W => ne_run x y hsa hsb W
      have hgd := guard_run
      obtain ⟨c0, c1, c2⟩ := ha
      obtain ⟨d0, d1, d2⟩ := hb
      clear hsa hsb
      have hlt' : (k : Int) < (n : Int) := by omega
      have hk0 : (0 : Int) ≤ (k : Int) := by omega
      by_cases hxy : x = y
      · have HX : Hid (∀ j, j < k + 1 → ms.getD j noS = ms'.getD j noS) := HEQ.out hxy
        rw [eqS_yes hxy] at hrun
        simp only [Bool.not_true] at hrun
        clear hxy HNE HEQ
        go_wp2_with fail
        go_quiet (fail)
        have b3 := bel_drewN hbw nq
        clear c0 c1 c2 d0 d1 d2 hrun hbw
        go_wp2
        go_roundw
        case rel => exact ⟨k + 1, by omega, by go_num, HX.out, b3⟩
        case measure => simp [intOf]; omega
      · have HR : Hid (sameM ms ms' = false) := HNE.out hxy
        rw [eqS_no hxy] at hrun
        simp only [Bool.not_false] at hrun
        clear hxy HNE HEQ
        go_wp2_with fail
        go_quiet (fail)
        have b3 := bel_drewN hbw nq
        clear c0 c1 c2 d0 d1 d2 hrun hbw
        go_wp2
        go_ret
        exact ⟨mu.ret_bool HR.out.symm, b3⟩
    · have HR : Hid (sameM ms ms' = true) := sameM_yes ⟨by have := HN.out; have := HM.out; omega, fun j hj => HAL.out j (by have := HN.out; omega)⟩
      go_wp2
      go_ret
      exact ⟨mu.ret_bool HR.out.symm, hbw⟩
end Go.Proofs.YtncnbhekgkemfaaGreatDoor.sm

namespace Go.Proofs.YtncnbhekgkemfaaGreatDoor.sm
open Go.RowKit Go.WideShapes
open st
set_option linter.unusedVariables false

/-- Rows of texts are the same. -/
def SameT (ms ms' : List ByteArray) : Prop := ms.length = ms'.length ∧ ∀ j, j < ms.length → ms.getD j ky.nt = ms'.getD j ky.nt
def dSameTs (ms ms' : List ByteArray) (k : Nat) : Decidable (∀ j, j < k → ms.getD j ky.nt = ms'.getD j ky.nt) := @Nat.decidableBallLT k (fun j _ => ms.getD j ky.nt = ms'.getD j ky.nt) (fun j _ => ow.decB _ _)
def dSameT (ms ms' : List ByteArray) : Decidable (SameT ms ms') := @instDecidableAnd _ _ _ (dSameTs ms ms' ms.length)
def sameT (ms ms' : List ByteArray) : Bool := @decide (SameT ms ms') (dSameT ms ms')
theorem sameT_no {ms ms' : List ByteArray} (h : ¬ SameT ms ms') : sameT ms ms' = false := ow.df h
theorem sameT_yes {ms ms' : List ByteArray} (h : SameT ms ms') : sameT ms ms' = true := ow.dt h

set_option maxHeartbeats 2000000 in
set_option maxRecDepth 100000 in
theorem equalT_any (N M : Nat) (v u : Value) (ms ms' : List ByteArray) (w : World) (h1 : tx.TextsIn w N v ms) (h2 : tx.TextsIn w M u ms') (hs : tx.Smalls ms) (hs' : tx.Smalls ms') :
    Calls Tryz.prog 101 #[v, u] w fun e w' => e = .returned (.bool (sameT ms ms')) ∧ Below w.heap.size w w' := by
  obtain ⟨a, cap, rfl, h1⟩ := h1
  obtain ⟨c, cap2, rfl, h2⟩ := h2
  obtain ⟨n, hn⟩ : ∃ n, n = ms.length := ⟨_, rfl⟩
  obtain ⟨m, hm⟩ : ∃ m, m = ms'.length := ⟨_, rfl⟩
  have HN : Hid (n = ms.length) := hn
  have HM : Hid (m = ms'.length) := hm
  have hl : n ≤ 1048576 := by rw [hn]; exact hs.1
  have hl2 : m ≤ 1048576 := by rw [hm]; exact hs'.1
  have HS : Hid (tx.Smalls ms ∧ tx.Smalls ms') := ⟨hs, hs'⟩
  have H1 : Hid (ms = [] ∨ ∃ b off, a = some ⟨b, off, none⟩ ∧ b < N ∧ ∀ j, j < ms.length → w.cell? ⟨b, off + j, none⟩ = some (.string (ms.getD j ky.nt))) := h1
  have H2 : Hid (ms' = [] ∨ ∃ b off, c = some ⟨b, off, none⟩ ∧ b < M ∧ ∀ j, j < ms'.length → w.cell? ⟨b, off + j, none⟩ = some (.string (ms'.getD j ky.nt))) := h2
  rw [← hn, ← hm]
  clear h1 h2 hs hs' hn hm
  by_cases hnm : ¬ n = m
  · have hnm' : ((n : Int) != (m : Int)) = true := by simp; omega
    have HR : Hid (sameT ms ms' = false) := sameT_no (fun y => hnm (by have := y.1; have := HN.out; have := HM.out; omega))
    go_enter Tryz.func101, Tryz.ntmps101
    go_wp2
    go_ret
    exact ⟨mu.ret_bool HR.out.symm, Below.refl _ _⟩
  have hnm : n = m := Decidable.of_not_not hnm
  subst hnm
  have hnm' : ((n : Int) != (n : Int)) = false := by simp
  go_enter Tryz.func101, Tryz.ntmps101
  go_wp2
  go_loopw [13] (fun i wr => ∃ k : Nat, k ≤ n ∧ i = .int .i64 k ∧ (∀ j, j < k → ms.getD j ky.nt = ms'.getD j ky.nt) ∧ Below w.heap.size w wr) (fun i _ => n - (intOf i).toNat)
  case atStart => exact ⟨0, Nat.zero_le _, rfl, fun j hj => absurd hj (Nat.not_lt_zero _), Below.refl _ _⟩
  case round =>
    obtain ⟨k, hk, rfl, hal, hbw⟩ := hrel
    have HAL : Hid (∀ j, j < k → ms.getD j ky.nt = ms'.getD j ky.nt) := hal
    clear hal
    by_cases hlt : k < n
    · have hka : k < ms.length := by rw [← HN.out]; exact hlt
      have hkb : k < ms'.length := by rw [← HM.out]; exact hlt
      rcases H1.out with e | ⟨b, off, rfl, hbN, hcells⟩
      · rw [e] at hka; simp at hka
      rcases H2.out with e | ⟨b2, off2, rfl, hbM, hcells2⟩
      · rw [e] at hkb; simp at hkb
      have c0 := (hbw.cell (p := ⟨b, off + k, none⟩) (World.block_lt_of_cell? w _ (hcells k hka))).trans (hcells k hka)
      have d0 := (hbw.cell (p := ⟨b2, off2 + k, none⟩) (World.block_lt_of_cell? w _ (hcells2 k hkb))).trans (hcells2 k hkb)
      have HNE : Hid (¬ ms.getD k ky.nt = ms'.getD k ky.nt → sameT ms ms' = false) := fun h => sameT_no (fun y => h (y.2 k hka))
      have HEQ : Hid (ms.getD k ky.nt = ms'.getD k ky.nt → ∀ j, j < k + 1 → ms.getD j ky.nt = ms'.getD j ky.nt) := fun h j hj => by
        by_cases e : j = k
        · rw [e]; exact h
        · exact HAL.out j (by omega)
      clear hcells hka hcells2 hkb
      generalize ms.getD k ky.nt = x at c0 HNE HEQ
      generalize ms'.getD k ky.nt = y at d0 HNE HEQ
      have hlt' : (k : Int) < (n : Int) := by omega
      have hk0 : (0 : Int) ≤ (k : Int) := by omega
      by_cases hxy : x = y
      · have HX : Hid (∀ j, j < k + 1 → ms.getD j ky.nt = ms'.getD j ky.nt) := HEQ.out hxy
        have hx' : (x.toList == y.toList) = true := by rw [hxy]; simp
        clear hxy HNE HEQ
        go_wp2_with fail
        go_quiet (fail)
        have b3 := bel_drewN hbw nq
        clear c0 d0 hbw
        go_wp2
        go_roundw
        case rel => exact ⟨k + 1, by omega, by go_num, HX.out, b3⟩
        case measure => simp [intOf]; omega
      · have HR : Hid (sameT ms ms' = false) := HNE.out hxy
        have hx' : (x.toList == y.toList) = false := ky.ne_list hxy
        clear hxy HNE HEQ
        go_wp2_with fail
        go_quiet (fail)
        have b3 := bel_drewN hbw nq
        clear c0 d0 hbw
        go_wp2
        go_ret
        exact ⟨mu.ret_bool HR.out.symm, b3⟩
    · have HR : Hid (sameT ms ms' = true) := sameT_yes ⟨by have := HN.out; have := HM.out; omega, fun j hj => HAL.out j (by have := HN.out; omega)⟩
      go_wp2
      go_ret
      exact ⟨mu.ret_bool HR.out.symm, hbw⟩

open bx
/-- Boxes are the same. -/
def SameB (x y : Bx) : Prop := x.nm = y.nm ∧ x.vd = y.vd ∧ x.nx = y.nx ∧ SameM x.ms y.ms ∧ SameT x.ks y.ks
def dSameB (x y : Bx) : Decidable (SameB x y) := @instDecidableAnd _ _ (ow.decB _ _) (@instDecidableAnd _ _ _ (@instDecidableAnd _ _ _ (@instDecidableAnd _ _ (dSameM x.ms y.ms) (dSameT x.ks y.ks))))
def sameB (x y : Bx) : Bool := @decide (SameB x y) (dSameB x y)
theorem sameB_no {x y : Bx} (h : ¬ SameB x y) : sameB x y = false := ow.df h
theorem sameB_is {x y : Bx} (h1 : x.nm = y.nm) (h2 : x.vd = y.vd) (h3 : x.nx = y.nx) (h4 : sameM x.ms y.ms = true) : sameB x y = sameT x.ks y.ks := by
  have h4' : SameM x.ms y.ms := ow.dof h4
  rw [Bool.eq_iff_iff]
  constructor
  · intro h
    have h' : SameB x y := ow.dof h
    exact sameT_yes h'.2.2.2.2
  · intro h
    have h' : SameT x.ks y.ks := ow.dof h
    exact ow.dt ⟨h1, h2, h3, h4', h'⟩
theorem sameM_of {ms ms' : List St} (h : sameM ms ms' = false) : ¬ SameM ms ms' := fun y => by rw [sameM_yes y] at h; cases h

set_option maxHeartbeats 4000000 in
set_option maxRecDepth 100000 in
theorem sameBox_any (x y : Bx) (v u v' u' : Value) (w : World) (h1 : RowsAt w v u x.ms x.ks) (h2 : RowsAt w v' u' y.ms y.ks) (hx : bx.Small x) (hy : bx.Small y) :
    Calls Tryz.prog 70 #[BV x v u, BV y v' u'] w fun e w' => e = .returned (.bool (sameB x y)) ∧ Below w.heap.size w w' := by
  have hbw := (bx.new_below w 99 #[.string x.nm, .int .i64 x.vd, .int .i64 x.nx, v, u]).alloc (by simp) (.cells #[.string y.nm, .int .i64 y.vd, .int .i64 y.nx, v', u'] 99)
  have L0 := (lies_new w 99 x v u).keep (bx.new_below _ 99 #[.string y.nm, .int .i64 y.vd, .int .i64 y.nx, v', u'])
  have M0 := lies_new (w.alloc (.cells #[.string x.nm, .int .i64 x.vd, .int .i64 x.nx, v, u] 99)) 99 y v' u'
  have HA := rows_below h1 hbw
  have HB := rows_below h2 hbw
  obtain ⟨⟨a, cap, rfl, _⟩, ⟨a1, cap1, rfl, _⟩⟩ := h1
  obtain ⟨⟨a', cap', rfl, _⟩, ⟨a1', cap1', rfl, _⟩⟩ := h2
  have HX : Hid (bx.Small x ∧ bx.Small y) := ⟨hx, hy⟩
  have HF : Hid (¬ (x.nm = y.nm ∧ x.vd = y.vd ∧ x.nx = y.nx ∧ SameM x.ms y.ms) → sameB x y = false) := fun h => sameB_no fun z => h ⟨z.1, z.2.1, z.2.2.1, z.2.2.2.1⟩
  have HT : Hid (x.nm = y.nm → x.vd = y.vd → x.nx = y.nx → sameM x.ms y.ms = true → sameB x y = sameT x.ks y.ks) := sameB_is
  obtain ⟨nm, vd, nx, ms, ks⟩ := x
  obtain ⟨nm', vd', nx', ms', ks'⟩ := y
  unfold BV
  simp only at hbw L0 M0 HA HB HX HF HT ⊢
  clear hx hy
  rw [show (w.alloc (.cells #[.string nm, .int .i64 vd, .int .i64 nx, .slice a ms.length cap, .slice a1 ks.length cap1] 99)).heap.size = w.heap.size + 1 by simp] at M0
  generalize sameB ⟨nm, vd, nx, ms, ks⟩ ⟨nm', vd', nx', ms', ks'⟩ = R at HF HT ⊢
  by_cases q0 : ¬ nm = nm'
  · have q0' : (nm.toList == nm'.toList) = false := ky.ne_list q0
    have HZ : Hid (R = false) := HF.out fun z => q0 z.1
    clear q0
    go_enter Tryz.func70, Tryz.ntmps70
    go_wp2
    go_ret
    exact ⟨mu.ret_bool HZ.out.symm, hbw⟩
  have q0 : nm = nm' := Classical.not_not.1 q0
  have q0' : (nm.toList == nm'.toList) = true := by rw [q0]; simp
  have HQ0 : Hid (nm = nm') := q0
  clear q0
  by_cases q1 : ¬ vd = vd'
  · have q1' : (vd == vd') = false := by simp [q1]
    have HZ : Hid (R = false) := HF.out fun z => q1 z.2.1
    clear q1
    go_enter Tryz.func70, Tryz.ntmps70
    go_wp2
    go_ret
    exact ⟨mu.ret_bool HZ.out.symm, hbw⟩
  have q1 : vd = vd' := Decidable.of_not_not q1
  have q1' : (vd == vd') = true := by simp [q1]
  have HQ1 : Hid (vd = vd') := q1
  clear q1
  by_cases q2 : ¬ nx = nx'
  · have q2' : (nx == nx') = false := by simp [q2]
    have HZ : Hid (R = false) := HF.out fun z => q2 z.2.2.1
    clear q2
    go_enter Tryz.func70, Tryz.ntmps70
    go_wp2
    go_ret
    exact ⟨mu.ret_bool HZ.out.symm, hbw⟩
  have q2 : nx = nx' := Decidable.of_not_not q2
  have q2' : (nx == nx') = true := by simp [q2]
  have HQ2 : Hid (nx = nx') := q2
  clear q2
  go_enter Tryz.func70, Tryz.ntmps70
  go_wp2_with fail
  generalize World.alloc _ _ = w0 at hbw L0 M0 HA HB ⊢
  have HA : Hid (RowsAt w0 (.slice a ms.length cap) (.slice a1 ks.length cap1) ms ks) := HA
  have HB : Hid (RowsAt w0 (.slice a' ms'.length cap') (.slice a1' ks'.length cap1') ms' ks') := HB
  refine (equalM_any _ _ _ _ ms ms' _ HA.out.1 HB.out.1 HX.out.1.2.2.1 HX.out.2.2.2.1).mono ?_
  rintro e w2 ⟨rfl, hb2⟩
  have HA2 : Hid (RowsAt w2 (.slice a ms.length cap) (.slice a1 ks.length cap1) ms ks) := rows_below HA.out hb2
  have HB2 : Hid (RowsAt w2 (.slice a' ms'.length cap') (.slice a1' ks'.length cap1') ms' ks') := rows_below HB.out hb2
  have c4 := (L0.keep hb2).c4
  have d4 := (M0.keep hb2).c4
  have b3 := hbw.trans (hb2.mono hbw.size)
  clear hbw hb2 HA HB L0 M0
  have HSM : Hid (sameM ms ms' = false → ¬ SameM ms ms') := sameM_of
  generalize sameM ms ms' = sm at HT HSM ⊢
  cases sm
  · have HZ : Hid (R = false) := HF.out fun z => HSM.out (by trivial) z.2.2.2
    go_wp2
    go_ret
    exact ⟨mu.ret_bool HZ.out.symm, b3⟩
  have HZ : Hid (R = sameT ks ks') := HT.out HQ0.out HQ1.out HQ2.out (by trivial)
  go_wp2_with fail
  refine (equalT_any _ _ _ _ ks ks' _ HA2.out.2 HB2.out.2 HX.out.1.2.2.2 HX.out.2.2.2.2).mono ?_
  rintro e w3 ⟨rfl, hb3⟩
  have b4 := b3.trans (hb3.mono b3.size)
  clear b3 hb3 HA2 HB2 c4 d4
  generalize sameT ks ks' = st at HZ ⊢
  cases st
  · go_wp2
    go_ret
    exact ⟨mu.ret_bool HZ.out.symm, b4⟩
  · go_wp2
    go_ret
    exact ⟨mu.ret_bool HZ.out.symm, b4⟩
end Go.Proofs.YtncnbhekgkemfaaGreatDoor.sm

namespace Go.Proofs.YtncnbhekgkemfaaGreatDoor.sm
open Go.RowKit Go.WideShapes
open st bx
set_option linter.unusedVariables false

/-- Rows of boxes are the same. -/
def SameS (xs ys : List Bx) : Prop := xs.length = ys.length ∧ ∀ j, j < xs.length → SameB (xs.getD j noB) (ys.getD j noB)
def dSameSs (xs ys : List Bx) (k : Nat) : Decidable (∀ j, j < k → SameB (xs.getD j noB) (ys.getD j noB)) := @Nat.decidableBallLT k (fun j _ => SameB (xs.getD j noB) (ys.getD j noB)) (fun j _ => dSameB _ _)
def dSameS (xs ys : List Bx) : Decidable (SameS xs ys) := @instDecidableAnd _ _ _ (dSameSs xs ys xs.length)
def sameS (xs ys : List Bx) : Bool := @decide (SameS xs ys) (dSameS xs ys)
theorem sameS_no {xs ys : List Bx} (h : ¬ SameS xs ys) : sameS xs ys = false := ow.df h
theorem sameS_yes {xs ys : List Bx} (h : SameS xs ys) : sameS xs ys = true := ow.dt h
theorem sameB_of {x y : Bx} (h : sameB x y = true) : SameB x y := ow.dof h
theorem sameB_yes {x y : Bx} (h : SameB x y) : sameB x y = true := ow.dt h
theorem sameB_not {x y : Bx} (h : sameB x y = false) : ¬ SameB x y := fun z => by rw [sameB_yes z] at h; cases h

set_option maxHeartbeats 4000000 in
set_option maxRecDepth 100000 in
theorem equalS_any (v u : Value) (xs ys : List Bx) (vs us : Nat → Value × Value) (w : World) (h1 : BoxesAt w v xs vs) (h2 : BoxesAt w u ys us) (hs : bx.Smalls xs) (hs' : bx.Smalls ys) :
    Calls Tryz.prog 69 #[v, u, .func (Fn.func 70) #[] #[]] w fun e w' => e = .returned (.bool (sameS xs ys)) ∧ Below w.heap.size w w' := by
  have HALL : Hid (BoxesAt w v xs vs ∧ BoxesAt w u ys us) := ⟨h1, h2⟩
  obtain ⟨⟨a, cap, rfl, hc1⟩, _⟩ := h1
  obtain ⟨⟨c, cap2, rfl, hc2⟩, _⟩ := h2
  obtain ⟨n, hn⟩ : ∃ n, n = xs.length := ⟨_, rfl⟩
  obtain ⟨m, hm⟩ : ∃ m, m = ys.length := ⟨_, rfl⟩
  have HN : Hid (n = xs.length) := hn
  have HM : Hid (m = ys.length) := hm
  have hl : n ≤ 1048576 := by rw [hn]; exact hs.1
  have hl2 : m ≤ 1048576 := by rw [hm]; exact hs'.1
  have HS : Hid (bx.Smalls xs ∧ bx.Smalls ys) := ⟨hs, hs'⟩
  have H1 : Hid (xs = [] ∨ ∃ b off, a = some ⟨b, off, none⟩ ∧ b < w.heap.size ∧ ∀ j, j < xs.length → At5 w b (off + j * 5) (xs.getD j noB) (vs j)) := hc1
  have H2 : Hid (ys = [] ∨ ∃ b off, c = some ⟨b, off, none⟩ ∧ b < w.heap.size ∧ ∀ j, j < ys.length → At5 w b (off + j * 5) (ys.getD j noB) (us j)) := hc2
  rw [← hn, ← hm] at HALL
  rw [← hn, ← hm]
  clear hc1 hc2 hs hs' hn hm
  by_cases hnm : ¬ n = m
  · have hnm' : ((n : Int) != (m : Int)) = true := by simp; omega
    have HR : Hid (sameS xs ys = false) := sameS_no (fun y => hnm (by have := y.1; have := HN.out; have := HM.out; omega))
    go_enter Tryz.func69, Tryz.ntmps69
    go_wp2
    go_ret
    exact ⟨mu.ret_bool HR.out.symm, Below.refl _ _⟩
  have hnm : n = m := Decidable.of_not_not hnm
  subst hnm
  have hnm' : ((n : Int) != (n : Int)) = false := by simp
  go_enter Tryz.func69, Tryz.ntmps69
  go_wp2
  go_loopw [17] (fun i wr => ∃ k : Nat, k ≤ n ∧ i = .int .i64 k ∧ (∀ j, j < k → SameB (xs.getD j noB) (ys.getD j noB)) ∧ Below w.heap.size w wr) (fun i _ => n - (intOf i).toNat)
  case atStart => exact ⟨0, Nat.zero_le _, rfl, fun j hj => absurd hj (Nat.not_lt_zero _), Below.refl _ _⟩
  case round =>
    obtain ⟨k, hk, rfl, hal, hbw⟩ := hrel
    have HAL : Hid (∀ j, j < k → SameB (xs.getD j noB) (ys.getD j noB)) := hal
    clear hal
    by_cases hlt : k < n
    · have hka : k < xs.length := by rw [← HN.out]; exact hlt
      have hkb : k < ys.length := by rw [← HM.out]; exact hlt
      rcases H1.out with e | ⟨b, off, rfl, hbl, hcells⟩
      · rw [e] at hka; simp at hka
      rcases H2.out with e | ⟨b2, off2, rfl, hbl2, hcells2⟩
      · rw [e] at hkb; simp at hkb
      have ha := (hcells k hka).keep hbw hbl
      have hb := (hcells2 k hkb).keep hbw hbl2
      have hr1 := rows_more ((boxes_in_below HALL.out.1 hbw (Nat.le_refl _)).2 k hka) hbw.size
      have hr2 := rows_more ((boxes_in_below HALL.out.2 hbw (Nat.le_refl _)).2 k hkb) hbw.size
      have hsa := HS.out.1.2 k hka
      have hsb := HS.out.2.2 k hkb
      have HNE : Hid (sameB (xs.getD k noB) (ys.getD k noB) = false → sameS xs ys = false) := fun h => sameS_no (fun y => sameB_not h (y.2 k hka))
      have HEQ : Hid (sameB (xs.getD k noB) (ys.getD k noB) = true → ∀ j, j < k + 1 → SameB (xs.getD j noB) (ys.getD j noB)) := fun h j hj => by
        by_cases e : j = k
        · rw [e]; exact sameB_of h
        · exact HAL.out j (by omega)
      clear hcells hka hcells2 hkb
      generalize xs.getD k noB = x at ha hsa hr1 HNE HEQ
      generalize ys.getD k noB = y at hb hsb hr2 HNE HEQ
      generalize vs k = q at ha hr1
      generalize us k = r at hb hr2
      obtain ⟨q1, q2⟩ := q
      obtain ⟨r1, r2⟩ := r
      obtain ⟨c0, c1, c2, c3, c4⟩ := ha
      obtain ⟨d0, d1, d2, d3, d4⟩ := hb
      simp only at c0 c1 c2 c3 c4 d0 d1 d2 d3 d4 hr1 hr2
      have HXY : Hid (bx.Small x ∧ bx.Small y) := ⟨hsa, hsb⟩
      have hlt' : (k : Int) < (n : Int) := by omega
      have hk0 : (0 : Int) ≤ (k : Int) := by omega
      have hb2 := (bx.new_below wr 99 #[.string x.nm, .int .i64 x.vd, .int .i64 x.nx, q1, q2]).alloc (by simp) (.cells #[.string y.nm, .int .i64 y.vd, .int .i64 y.nx, r1, r2] 99)
      have hd := bx.new_below wr 99 #[.string x.nm, .int .i64 x.vd, .int .i64 x.nx, q1, q2]
      have e0 := (hd.cell (p := ⟨b2, off2 + k * 5, none⟩) (World.block_lt_of_cell? wr _ d0)).trans d0
      have e1 := (hd.cell (p := ⟨b2, off2 + k * 5 + 1, none⟩) (World.block_lt_of_cell? wr _ d1)).trans d1
      have e2 := (hd.cell (p := ⟨b2, off2 + k * 5 + 2, none⟩) (World.block_lt_of_cell? wr _ d2)).trans d2
      have e3 := (hd.cell (p := ⟨b2, off2 + k * 5 + 3, none⟩) (World.block_lt_of_cell? wr _ d3)).trans d3
      have e4 := (hd.cell (p := ⟨b2, off2 + k * 5 + 4, none⟩) (World.block_lt_of_cell? wr _ d4)).trans d4
      have HR1 : Hid (RowsAt ((wr.alloc (.cells #[.string x.nm, .int .i64 x.vd, .int .i64 x.nx, q1, q2] 99)).alloc (.cells #[.string y.nm, .int .i64 y.vd, .int .i64 y.nx, r1, r2] 99)) q1 q2 x.ms x.ks) := rows_below hr1 hb2
      have HR2 : Hid (RowsAt ((wr.alloc (.cells #[.string x.nm, .int .i64 x.vd, .int .i64 x.nx, q1, q2] 99)).alloc (.cells #[.string y.nm, .int .i64 y.vd, .int .i64 y.nx, r1, r2] 99)) r1 r2 y.ms y.ks) := rows_below hr2 hb2
      have hb3 := hbw.trans (hb2.mono hbw.size)
      obtain ⟨⟨a2, cap2, rfl, _⟩, ⟨a3, cap3, rfl, _⟩⟩ := hr1
      obtain ⟨⟨a4, cap4, rfl, _⟩, ⟨a5, cap5, rfl, _⟩⟩ := hr2
      clear hsa hsb hb2 hd hbw
      go_wp2_with fail
      refine (sameBox_any x y _ _ _ _ _ HR1.out HR2.out HXY.out.1 HXY.out.2).mono ?_
      rintro e w2 ⟨rfl, hb4⟩
      have b4 := hb3.trans (hb4.mono hb3.size)
      clear hb3 hb4 HR1 HR2 c0 c1 c2 c3 c4 d0 d1 d2 d3 d4 e0 e1 e2 e3 e4
      generalize sameB x y = sb at HNE HEQ ⊢
      cases sb
      · have HR : Hid (sameS xs ys = false) := HNE.out (by trivial)
        go_wp2
        go_ret
        exact ⟨mu.ret_bool HR.out.symm, b4⟩
      · have HX : Hid (∀ j, j < k + 1 → SameB (xs.getD j noB) (ys.getD j noB)) := HEQ.out (by trivial)
        go_wp2
        go_roundw
        case rel => exact ⟨k + 1, by omega, by go_num, HX.out, b4⟩
        case measure => simp [intOf]; omega
    · have HR : Hid (sameS xs ys = true) := sameS_yes ⟨by have := HN.out; have := HM.out; omega, fun j hj => HAL.out j (by have := HN.out; omega)⟩
      go_wp2
      go_ret
      exact ⟨mu.ret_bool HR.out.symm, hbw⟩

def ssa (xs ys : List Bx) : Bool := decide (xs.length ≤ 4096 ∧ ys.length ≤ 4096) && sok xs && sok ys && sameS xs ys
def ssb (xs ys : List Bx) : Int := if xs.length ≤ 4096 ∧ ys.length ≤ 4096 then (if sok xs = true ∧ sok ys = true then 0 else 1) else 2

set_option maxHeartbeats 4000000 in
set_option maxRecDepth 100000 in
theorem impl_ss (v u : Value) (xs ys : List Bx) (vs us : Nat → Value × Value) (w : World) (h1 : BoxesAt w v xs vs) (h2 : BoxesAt w u ys us) (hs : bx.Smalls xs) (hs' : bx.Smalls ys) :
    Calls Tryz.prog 41 #[v, u] w fun e w' => e = .returned (.tuple #[.bool (ssa xs ys), .int .i64 (ssb xs ys)]) ∧ Below w.heap.size w w' := by
  have HA : Hid (BoxesAt w v xs vs) := h1
  have HB : Hid (BoxesAt w u ys us) := h2
  obtain ⟨⟨a, cap, rfl, _⟩, _⟩ := h1
  obtain ⟨⟨c, cap2, rfl, _⟩, _⟩ := h2
  have HS : Hid (bx.Smalls xs ∧ bx.Smalls ys) := ⟨hs, hs'⟩
  have HL : Hid (¬ (xs.length ≤ 4096 ∧ ys.length ≤ 4096) → ssa xs ys = false ∧ ssb xs ys = 2) := fun h => by simp [ssa, ssb, h]
  have HB1 : Hid (xs.length ≤ 4096 ∧ ys.length ≤ 4096 → sok xs = false → ssa xs ys = false ∧ ssb xs ys = 1) := fun h h1 => by simp [ssa, ssb, h, h1]
  have HB2 : Hid (xs.length ≤ 4096 ∧ ys.length ≤ 4096 → sok ys = false → ssa xs ys = false ∧ ssb xs ys = 1) := fun h h1 => by simp [ssa, ssb, h, h1]
  have HO : Hid (xs.length ≤ 4096 ∧ ys.length ≤ 4096 → sok xs = true → sok ys = true → ssa xs ys = sameS xs ys ∧ ssb xs ys = 0) := fun h h1 h2 => by simp [ssa, ssb, h, h1, h2]
  have hl1 := hs.1
  have hl2 := hs'.1
  clear hs hs'
  generalize ssa xs ys = RA at HL HB1 HB2 HO ⊢
  generalize ssb xs ys = RB at HL HB1 HB2 HO ⊢
  by_cases g1 : 4096 < xs.length
  · have g1' : (4096 : Int) < (xs.length : Int) := by omega
    obtain ⟨r0, r1⟩ := HL.out (by omega)
    have HR : Hid (RA = false ∧ RB = 2) := ⟨r0, r1⟩
    clear r0 r1
    go_enter Tryz.func41, Tryz.ntmps41
    go_wp2
    go_ret2
    exact ⟨by rw [HR.out.1, HR.out.2]; rfl, Below.refl _ _⟩
  have g1' : (xs.length : Int) ≤ 4096 := by omega
  by_cases g2 : 4096 < ys.length
  · have g2' : (4096 : Int) < (ys.length : Int) := by omega
    obtain ⟨r0, r1⟩ := HL.out (by omega)
    have HR : Hid (RA = false ∧ RB = 2) := ⟨r0, r1⟩
    clear r0 r1
    go_enter Tryz.func41, Tryz.ntmps41
    go_wp2
    go_ret2
    exact ⟨by rw [HR.out.1, HR.out.2]; rfl, Below.refl _ _⟩
  have g2' : (ys.length : Int) ≤ 4096 := by omega
  have HLL : Hid (xs.length ≤ 4096 ∧ ys.length ≤ 4096) := ⟨by omega, by omega⟩
  go_enter Tryz.func41, Tryz.ntmps41
  go_wp2_with fail
  refine (impl_sok _ xs vs w HA.out HS.out.1).mono ?_
  rintro e w1 ⟨rfl, b1⟩
  have HA1 : Hid (BoxesAt w1 (.slice a xs.length cap) xs vs) := boxes_below HA.out b1
  have HB1' : Hid (BoxesAt w1 (.slice c ys.length cap2) ys us) := boxes_below HB.out b1
  clear HA HB
  generalize sok xs = sx at HB1 HO ⊢
  cases sx
  · obtain ⟨r0, r1⟩ := HB1.out HLL.out (by trivial)
    have HR : Hid (RA = false ∧ RB = 1) := ⟨r0, r1⟩
    clear r0 r1
    go_wp2
    go_ret2
    exact ⟨by rw [HR.out.1, HR.out.2]; rfl, b1⟩
  go_wp2_with fail
  refine (impl_sok _ ys us w1 HB1'.out HS.out.2).mono ?_
  rintro e w2 ⟨rfl, hb2⟩
  have HA2 : Hid (BoxesAt w2 (.slice a xs.length cap) xs vs) := boxes_below HA1.out hb2
  have HB2' : Hid (BoxesAt w2 (.slice c ys.length cap2) ys us) := boxes_below HB1'.out hb2
  have b2 := b1.trans (hb2.mono b1.size)
  clear HA1 HB1' b1 hb2
  generalize sok ys = sy at HB2 HO ⊢
  cases sy
  · obtain ⟨r0, r1⟩ := HB2.out HLL.out (by trivial)
    have HR : Hid (RA = false ∧ RB = 1) := ⟨r0, r1⟩
    clear r0 r1
    go_wp2
    go_ret2
    exact ⟨by rw [HR.out.1, HR.out.2]; rfl, b2⟩
  obtain ⟨r0, r1⟩ := HO.out HLL.out (by trivial) (by trivial)
  have HR : Hid (RA = sameS xs ys ∧ RB = 0) := ⟨r0, r1⟩
  clear r0 r1
  go_wp2_with fail
  refine (equalS_any _ _ xs ys vs us w2 HA2.out HB2'.out HS.out.1 HS.out.2).mono ?_
  rintro e w3 ⟨rfl, hb3⟩
  have b3 := b2.trans (hb3.mono b2.size)
  clear HA2 HB2' b2 hb3
  go_wp2
  go_ret2
  exact ⟨by rw [HR.out.1, HR.out.2]; rfl, b3⟩
end Go.Proofs.YtncnbhekgkemfaaGreatDoor.sm
