/-
  Two stored mails are held against each other, and rows of them, and rows of texts.
  Two boxes are held against each other, and rows of boxes: the program's own way.
-/
import Derived.Test.YtcnjgmeddkidaaaGreatDoorPkad
import Derived.Test.YtcnjgmeddkidaaaGreatDoorPkak
import Derived.DeepKeys
import Derived.Deep.QuietTactic
import Derived.BigQuiet
import Derived.Test.YtcnjgmeddkidaaaGreatDoorPkag

namespace Go.Proofs.YtcnjgmeddkidaaaGreatDoor.sm
open Go.RowKit Go.WideShapes
open st
set_option linter.unusedVariables false

def lits (x : St) : List Lit := [.int .i64 x.u, .int .i64 x.f, .string x.t.data.toList]
theorem lits_inj {x y : St} : lits x = lits y ↔ x = y := by
  obtain ⟨u, f, t⟩ := x
  obtain ⟨u', f', t'⟩ := y
  constructor
  · intro h
    simp only [lits, List.cons.injEq, Lit.int.injEq, Lit.string.injEq, true_and, and_true] at h
    obtain ⟨rfl, rfl, h⟩ := h
    rw [WideShapes.bytes_inj h]
  · rintro h
    rw [h]
theorem wf_of {z : Int} (h : In z) : (Lit.int .i64 z).wf = true := WalkArith.wf_i64 (by have h1 := h.1; have h2 := h.2; omega)
set_option maxRecDepth 100000 in
theorem lits_of (x : St) (hx : Small x) : Tryz.prog.keyLits 2 85 [.int .i64 x.u, .int .i64 x.f, .string x.t] = some (lits x) := by
  obtain ⟨u, f, t⟩ := x
  obtain ⟨h0, h1, h2⟩ := hx
  simp only at h0 h1 h2
  have w0 := wf_of h0
  have w1 := wf_of h1
  have hc : Tryz.prog.cellsOf 85 = 3 := by kernel_rfl
  have hi : Tryz.prog.cellsOf 3 = 1 := by kernel_rfl
  have hs : Tryz.prog.cellsOf 9 = 1 := by kernel_rfl
  simp [Program.keyLits, Tryz.underlying85, Tryz.underlying3, Tryz.underlying9, hc, hi, hs, w0, w1, lits, show t.size ≤ maxLen by unfold maxLen; omega]
theorem formed_of (x : St) : (Value.agg #[.int .i64 x.u, .int .i64 x.f, .string x.t]).formed Tryz.prog 85 = true := by
  have hc : Tryz.prog.cellsOf 85 = 3 := by kernel_rfl
  simp [Value.formed, Tryz.underlying85, hc]
theorem key_at : Tryz.prog.keyTypeAt 2 85 = true := by kernel_rfl
def dEqS (x y : St) : Decidable (x = y) := decidable_of_iff (x.u = y.u ∧ x.f = y.f ∧ x.t.data = y.t.data) ⟨fun ⟨a, b, c⟩ => by cases x; cases y; simp only at a b c; rw [a, b, ByteArray.ext c], fun h => by rw [h]; exact ⟨rfl, rfl, rfl⟩⟩
def eqS (x y : St) : Bool := @decide (x = y) (dEqS x y)
theorem eq_run (x y : St) (hx : Small x) (hy : Small y) (w : World) : (Op.equal 85 (.agg #[.int .i64 x.u, .int .i64 x.f, .string x.t]) (.agg #[.int .i64 y.u, .int .i64 y.f, .string y.t])).run Tryz.prog w = .ok (eqS x y) w := by
  obtain ⟨r, h1, h2⟩ := run_equalIn_deep (P := Tryz.prog) 9998 2 85 key_at w 2 2 (.agg #[.int .i64 x.u, .int .i64 x.f, .string x.t]) (.agg #[.int .i64 y.u, .int .i64 y.f, .string y.t]) (lits x) (lits y) (formed_of x) (formed_of y) (by simpa [Value.cells] using lits_of x hx) (by simpa [Value.cells] using lits_of y hy)
  have hr : r = eqS x y := by
    unfold eqS
    by_cases e : x = y
    · rw [ow.dt e]
      exact h2.2 (lits_inj.2 e)
    · rw [ow.df e]
      exact Bool.eq_false_iff.2 fun z => e (lits_inj.1 (h2.1 z))
  rw [← hr]
  exact h1
theorem ne_run (x y : St) (hx : Small x) (hy : Small y) (w : World) : (Go.binOp .neq 85 (.agg #[.int .i64 x.u, .int .i64 x.f, .string x.t]) (.agg #[.int .i64 y.u, .int .i64 y.f, .string y.t])).run Tryz.prog w = .ok (.bool (!eqS x y)) w := by
  simp [Go.binOp, eq_run x y hx hy w, Result.andThen]
theorem guard_run (x y : Operand) (a b : Array Value) (w : World) : (eqGuard .neq 85 x y (.agg a) (.agg b)).run Tryz.prog w = .ok () w := by
  have h : Tryz.prog.eqGuardType Tryz.prog.depth 85 = false := by kernel_rfl
  simp [eqGuard, h, Result.andThen]

/-- Rows of mails are the same. -/
def SameM (ms ms' : List St) : Prop := ms.length = ms'.length ∧ ∀ j, j < ms.length → ms.getD j noS = ms'.getD j noS
def dSameMs (ms ms' : List St) (k : Nat) : Decidable (∀ j, j < k → ms.getD j noS = ms'.getD j noS) := @Nat.decidableBallLT k (fun j _ => ms.getD j noS = ms'.getD j noS) (fun j _ => dEqS _ _)
def dSameM (ms ms' : List St) : Decidable (SameM ms ms') := @instDecidableAnd _ _ _ (dSameMs ms ms' ms.length)
def sameM (ms ms' : List St) : Bool := @decide (SameM ms ms') (dSameM ms ms')
theorem sameM_no {ms ms' : List St} (h : ¬ SameM ms ms') : sameM ms ms' = false := ow.df h
theorem sameM_yes {ms ms' : List St} (h : SameM ms ms') : sameM ms ms' = true := ow.dt h
theorem eqS_yes {x y : St} (h : x = y) : eqS x y = true := ow.dt h
theorem eqS_no {x y : St} (h : ¬ x = y) : eqS x y = false := ow.df h
theorem bel_drewN {B : Nat} {a w : World} (h : Below B a w) (n : Nat) : Below B a (w.drewN n) := ⟨h.os, h.tape, h.output, h.size, h.block⟩

set_option maxHeartbeats 2000000 in
set_option maxRecDepth 100000 in
theorem equalM_any (N M : Nat) (v u : Value) (ms ms' : List St) (w : World) (h1 : MailsIn w N v ms) (h2 : MailsIn w M u ms') (hs : Smalls ms) (hs' : Smalls ms') :
    Calls Tryz.prog 76 #[v, u] w fun e w' => e = .returned (.bool (sameM ms ms')) ∧ Below w.heap.size w w' := by
  obtain ⟨a, cap, rfl, h1⟩ := h1
  obtain ⟨c, cap2, rfl, h2⟩ := h2
  obtain ⟨n, hn⟩ : ∃ n, n = ms.length := ⟨_, rfl⟩
  obtain ⟨m, hm⟩ : ∃ m, m = ms'.length := ⟨_, rfl⟩
  have HN : Hid (n = ms.length) := hn
  have HM : Hid (m = ms'.length) := hm
  have hl : n ≤ 1048576 := by rw [hn]; exact hs.1
  have hl2 : m ≤ 1048576 := by rw [hm]; exact hs'.1
  have HS : Hid (Smalls ms ∧ Smalls ms') := ⟨hs, hs'⟩
  have H1 : Hid (ms = [] ∨ ∃ b off, a = some ⟨b, off, none⟩ ∧ b < N ∧ ∀ j, j < ms.length → At3 w b (off + j * 3) (ms.getD j noS)) := h1
  have H2 : Hid (ms' = [] ∨ ∃ b off, c = some ⟨b, off, none⟩ ∧ b < M ∧ ∀ j, j < ms'.length → At3 w b (off + j * 3) (ms'.getD j noS)) := h2
  rw [← hn, ← hm]
  clear h1 h2 hs hs' hn hm
  by_cases hnm : ¬ n = m
  · have hnm' : ((n : Int) != (m : Int)) = true := by simp; omega
    have HR : Hid (sameM ms ms' = false) := sameM_no (fun y => hnm (by have := y.1; have := HN.out; have := HM.out; omega))
    go_enter Tryz.func76, Tryz.ntmps76
    go_wp2
    go_ret
    exact ⟨mu.ret_bool HR.out.symm, Below.refl _ _⟩
  have hnm : n = m := Decidable.of_not_not hnm
  subst hnm
  have hnm' : ((n : Int) != (n : Int)) = false := by simp
  go_enter Tryz.func76, Tryz.ntmps76
  go_wp2
  go_loopw [13] (fun i wr => ∃ k : Nat, k ≤ n ∧ i = .int .i64 k ∧ (∀ j, j < k → ms.getD j noS = ms'.getD j noS) ∧ Below w.heap.size w wr) (fun i _ => n - (intOf i).toNat)
  case atStart => exact ⟨0, Nat.zero_le _, rfl, fun j hj => absurd hj (Nat.not_lt_zero _), Below.refl _ _⟩
  case round =>
    obtain ⟨k, hk, rfl, hal, hbw⟩ := hrel
    have HAL : Hid (∀ j, j < k → ms.getD j noS = ms'.getD j noS) := hal
    clear hal
    by_cases hlt : k < n
    · have hka : k < ms.length := by rw [← HN.out]; exact hlt
      have hkb : k < ms'.length := by rw [← HM.out]; exact hlt
      rcases H1.out with e | ⟨b, off, rfl, _, hcells⟩
      · rw [e] at hka; simp at hka
      rcases H2.out with e | ⟨b2, off2, rfl, _, hcells2⟩
      · rw [e] at hkb; simp at hkb
      have ha := (hcells k hka).keep hbw (hcells k hka).lt
      have hb := (hcells2 k hkb).keep hbw (hcells2 k hkb).lt
      have hsa := HS.out.1.2 k hka
      have hsb := HS.out.2.2 k hkb
      have HNE : Hid (¬ ms.getD k noS = ms'.getD k noS → sameM ms ms' = false) := fun h => sameM_no (fun y => h (y.2 k hka))
      have HEQ : Hid (ms.getD k noS = ms'.getD k noS → ∀ j, j < k + 1 → ms.getD j noS = ms'.getD j noS) := fun h j hj => by
        by_cases e : j = k
        · rw [e]; exact h
        · exact HAL.out j (by omega)
      clear hcells hka hcells2 hkb
      generalize ms.getD k noS = x at ha hsa HNE HEQ
      generalize ms'.getD k noS = y at hb hsb HNE HEQ
      have hrun := fun W => ne_run x y hsa hsb W
      have hgd := guard_run
      obtain ⟨c0, c1, c2⟩ := ha
      obtain ⟨d0, d1, d2⟩ := hb
      clear hsa hsb
      have hlt' : (k : Int) < (n : Int) := by omega
      have hk0 : (0 : Int) ≤ (k : Int) := by omega
      by_cases hxy : x = y
      · have HX : Hid (∀ j, j < k + 1 → ms.getD j noS = ms'.getD j noS) := HEQ.out hxy
        rw [eqS_yes hxy] at hrun
        simp only [Bool.not_true] at hrun
        clear hxy HNE HEQ
        go_wp2_with fail
        go_quiet (fail)
        have b3 := bel_drewN hbw nq
        clear c0 c1 c2 d0 d1 d2 hrun hbw
        go_wp2
        go_roundw
        case rel => exact ⟨k + 1, by omega, by go_num, HX.out, b3⟩
        case measure => simp [intOf]; omega
      · have HR : Hid (sameM ms ms' = false) := HNE.out hxy
        rw [eqS_no hxy] at hrun
        simp only [Bool.not_false] at hrun
        clear hxy HNE HEQ
        go_wp2_with fail
        go_quiet (fail)
        have b3 := bel_drewN hbw nq
        clear c0 c1 c2 d0 d1 d2 hrun hbw
        go_wp2
        go_ret
        exact ⟨mu.ret_bool HR.out.symm, b3⟩
    · have HR : Hid (sameM ms ms' = true) := sameM_yes ⟨by have := HN.out; have := HM.out; omega, fun j hj => HAL.out j (by have := HN.out; omega)⟩
      go_wp2
      go_ret
      exact ⟨mu.ret_bool HR.out.symm, hbw⟩
end Go.Proofs.YtcnjgmeddkidaaaGreatDoor.sm

namespace Go.Proofs.YtcnjgmeddkidaaaGreatDoor.sm
open Go.RowKit Go.WideShapes
open st
set_option linter.unusedVariables false

/-- Rows of texts are the same. -/
def SameT (ms ms' : List ByteArray) : Prop := ms.length = ms'.length ∧ ∀ j, j < ms.length → ms.getD j ky.nt = ms'.getD j ky.nt
def dSameTs (ms ms' : List ByteArray) (k : Nat) : Decidable (∀ j, j < k → ms.getD j ky.nt = ms'.getD j ky.nt) := @Nat.decidableBallLT k (fun j _ => ms.getD j ky.nt = ms'.getD j ky.nt) (fun j _ => ow.decB _ _)
def dSameT (ms ms' : List ByteArray) : Decidable (SameT ms ms') := @instDecidableAnd _ _ _ (dSameTs ms ms' ms.length)
def sameT (ms ms' : List ByteArray) : Bool := @decide (SameT ms ms') (dSameT ms ms')
theorem sameT_no {ms ms' : List ByteArray} (h : ¬ SameT ms ms') : sameT ms ms' = false := ow.df h
theorem sameT_yes {ms ms' : List ByteArray} (h : SameT ms ms') : sameT ms ms' = true := ow.dt h

set_option maxHeartbeats 2000000 in
set_option maxRecDepth 100000 in
theorem equalT_any (N M : Nat) (v u : Value) (ms ms' : List ByteArray) (w : World) (h1 : tx.TextsIn w N v ms) (h2 : tx.TextsIn w M u ms') (hs : tx.Smalls ms) (hs' : tx.Smalls ms') :
    Calls Tryz.prog 77 #[v, u] w fun e w' => e = .returned (.bool (sameT ms ms')) ∧ Below w.heap.size w w' := by
  obtain ⟨a, cap, rfl, h1⟩ := h1
  obtain ⟨c, cap2, rfl, h2⟩ := h2
  obtain ⟨n, hn⟩ : ∃ n, n = ms.length := ⟨_, rfl⟩
  obtain ⟨m, hm⟩ : ∃ m, m = ms'.length := ⟨_, rfl⟩
  have HN : Hid (n = ms.length) := hn
  have HM : Hid (m = ms'.length) := hm
  have hl : n ≤ 1048576 := by rw [hn]; exact hs.1
  have hl2 : m ≤ 1048576 := by rw [hm]; exact hs'.1
  have HS : Hid (tx.Smalls ms ∧ tx.Smalls ms') := ⟨hs, hs'⟩
  have H1 : Hid (ms = [] ∨ ∃ b off, a = some ⟨b, off, none⟩ ∧ b < N ∧ ∀ j, j < ms.length → w.cell? ⟨b, off + j, none⟩ = some (.string (ms.getD j ky.nt))) := h1
  have H2 : Hid (ms' = [] ∨ ∃ b off, c = some ⟨b, off, none⟩ ∧ b < M ∧ ∀ j, j < ms'.length → w.cell? ⟨b, off + j, none⟩ = some (.string (ms'.getD j ky.nt))) := h2
  rw [← hn, ← hm]
  clear h1 h2 hs hs' hn hm
  by_cases hnm : ¬ n = m
  · have hnm' : ((n : Int) != (m : Int)) = true := by simp; omega
    have HR : Hid (sameT ms ms' = false) := sameT_no (fun y => hnm (by have := y.1; have := HN.out; have := HM.out; omega))
    go_enter Tryz.func77, Tryz.ntmps77
    go_wp2
    go_ret
    exact ⟨mu.ret_bool HR.out.symm, Below.refl _ _⟩
  have hnm : n = m := Decidable.of_not_not hnm
  subst hnm
  have hnm' : ((n : Int) != (n : Int)) = false := by simp
  go_enter Tryz.func77, Tryz.ntmps77
  go_wp2
  go_loopw [13] (fun i wr => ∃ k : Nat, k ≤ n ∧ i = .int .i64 k ∧ (∀ j, j < k → ms.getD j ky.nt = ms'.getD j ky.nt) ∧ Below w.heap.size w wr) (fun i _ => n - (intOf i).toNat)
  case atStart => exact ⟨0, Nat.zero_le _, rfl, fun j hj => absurd hj (Nat.not_lt_zero _), Below.refl _ _⟩
  case round =>
    obtain ⟨k, hk, rfl, hal, hbw⟩ := hrel
    have HAL : Hid (∀ j, j < k → ms.getD j ky.nt = ms'.getD j ky.nt) := hal
    clear hal
    by_cases hlt : k < n
    · have hka : k < ms.length := by rw [← HN.out]; exact hlt
      have hkb : k < ms'.length := by rw [← HM.out]; exact hlt
      rcases H1.out with e | ⟨b, off, rfl, hbN, hcells⟩
      · rw [e] at hka; simp at hka
      rcases H2.out with e | ⟨b2, off2, rfl, hbM, hcells2⟩
      · rw [e] at hkb; simp at hkb
      have c0 := (hbw.cell (p := ⟨b, off + k, none⟩) (World.block_lt_of_cell? w _ (hcells k hka))).trans (hcells k hka)
      have d0 := (hbw.cell (p := ⟨b2, off2 + k, none⟩) (World.block_lt_of_cell? w _ (hcells2 k hkb))).trans (hcells2 k hkb)
      have HNE : Hid (¬ ms.getD k ky.nt = ms'.getD k ky.nt → sameT ms ms' = false) := fun h => sameT_no (fun y => h (y.2 k hka))
      have HEQ : Hid (ms.getD k ky.nt = ms'.getD k ky.nt → ∀ j, j < k + 1 → ms.getD j ky.nt = ms'.getD j ky.nt) := fun h j hj => by
        by_cases e : j = k
        · rw [e]; exact h
        · exact HAL.out j (by omega)
      clear hcells hka hcells2 hkb
      generalize ms.getD k ky.nt = x at c0 HNE HEQ
      generalize ms'.getD k ky.nt = y at d0 HNE HEQ
      have hlt' : (k : Int) < (n : Int) := by omega
      have hk0 : (0 : Int) ≤ (k : Int) := by omega
      by_cases hxy : x = y
      · have HX : Hid (∀ j, j < k + 1 → ms.getD j ky.nt = ms'.getD j ky.nt) := HEQ.out hxy
        have hx' : (x.toList == y.toList) = true := by rw [hxy]; simp
        clear hxy HNE HEQ
        go_wp2_with fail
        go_quiet (fail)
        have b3 := bel_drewN hbw nq
        clear c0 d0 hbw
        go_wp2
        go_roundw
        case rel => exact ⟨k + 1, by omega, by go_num, HX.out, b3⟩
        case measure => simp [intOf]; omega
      · have HR : Hid (sameT ms ms' = false) := HNE.out hxy
        have hx' : (x.toList == y.toList) = false := ky.ne_list hxy
        clear hxy HNE HEQ
        go_wp2_with fail
        go_quiet (fail)
        have b3 := bel_drewN hbw nq
        clear c0 d0 hbw
        go_wp2
        go_ret
        exact ⟨mu.ret_bool HR.out.symm, b3⟩
    · have HR : Hid (sameT ms ms' = true) := sameT_yes ⟨by have := HN.out; have := HM.out; omega, fun j hj => HAL.out j (by have := HN.out; omega)⟩
      go_wp2
      go_ret
      exact ⟨mu.ret_bool HR.out.symm, hbw⟩

open bx
/-- Boxes are the same. -/
def SameB (x y : Bx) : Prop := x.nm = y.nm ∧ x.vd = y.vd ∧ x.nx = y.nx ∧ SameM x.ms y.ms ∧ SameT x.ks y.ks
def dSameB (x y : Bx) : Decidable (SameB x y) := @instDecidableAnd _ _ (ow.decB _ _) (@instDecidableAnd _ _ _ (@instDecidableAnd _ _ _ (@instDecidableAnd _ _ (dSameM x.ms y.ms) (dSameT x.ks y.ks))))
def sameB (x y : Bx) : Bool := @decide (SameB x y) (dSameB x y)
theorem sameB_no {x y : Bx} (h : ¬ SameB x y) : sameB x y = false := ow.df h
theorem sameB_is {x y : Bx} (h1 : x.nm = y.nm) (h2 : x.vd = y.vd) (h3 : x.nx = y.nx) (h4 : sameM x.ms y.ms = true) : sameB x y = sameT x.ks y.ks := by
  have h4' : SameM x.ms y.ms := ow.dof h4
  rw [Bool.eq_iff_iff]
  constructor
  · intro h
    have h' : SameB x y := ow.dof h
    exact sameT_yes h'.2.2.2.2
  · intro h
    have h' : SameT x.ks y.ks := ow.dof h
    exact ow.dt ⟨h1, h2, h3, h4', h'⟩
theorem sameM_of {ms ms' : List St} (h : sameM ms ms' = false) : ¬ SameM ms ms' := fun y => by rw [sameM_yes y] at h; cases h

set_option maxHeartbeats 4000000 in
set_option maxRecDepth 100000 in
theorem sameBox_any (x y : Bx) (v u v' u' : Value) (w : World) (h1 : RowsAt w v u x.ms x.ks) (h2 : RowsAt w v' u' y.ms y.ks) (hx : bx.Small x) (hy : bx.Small y) :
    Calls Tryz.prog 54 #[BV x v u, BV y v' u'] w fun e w' => e = .returned (.bool (sameB x y)) ∧ Below w.heap.size w w' := by
  have hbw := (bx.new_below w 54 #[.string x.nm, .int .i64 x.vd, .int .i64 x.nx, v, u]).alloc (by simp) (.cells #[.string y.nm, .int .i64 y.vd, .int .i64 y.nx, v', u'] 54)
  have L0 := (lies_new w 54 x v u).keep (bx.new_below _ 54 #[.string y.nm, .int .i64 y.vd, .int .i64 y.nx, v', u'])
  have M0 := lies_new (w.alloc (.cells #[.string x.nm, .int .i64 x.vd, .int .i64 x.nx, v, u] 54)) 54 y v' u'
  have HA := rows_below h1 hbw
  have HB := rows_below h2 hbw
  obtain ⟨⟨a, cap, rfl, _⟩, ⟨a1, cap1, rfl, _⟩⟩ := h1
  obtain ⟨⟨a', cap', rfl, _⟩, ⟨a1', cap1', rfl, _⟩⟩ := h2
  have HX : Hid (bx.Small x ∧ bx.Small y) := ⟨hx, hy⟩
  have HF : Hid (¬ (x.nm = y.nm ∧ x.vd = y.vd ∧ x.nx = y.nx ∧ SameM x.ms y.ms) → sameB x y = false) := fun h => sameB_no fun z => h ⟨z.1, z.2.1, z.2.2.1, z.2.2.2.1⟩
  have HT : Hid (x.nm = y.nm → x.vd = y.vd → x.nx = y.nx → sameM x.ms y.ms = true → sameB x y = sameT x.ks y.ks) := sameB_is
  obtain ⟨nm, vd, nx, ms, ks⟩ := x
  obtain ⟨nm', vd', nx', ms', ks'⟩ := y
  unfold BV
  simp only at hbw L0 M0 HA HB HX HF HT ⊢
  clear hx hy
  rw [show (w.alloc (.cells #[.string nm, .int .i64 vd, .int .i64 nx, .slice a ms.length cap, .slice a1 ks.length cap1] 54)).heap.size = w.heap.size + 1 by simp] at M0
  generalize sameB ⟨nm, vd, nx, ms, ks⟩ ⟨nm', vd', nx', ms', ks'⟩ = R at HF HT ⊢
  by_cases q0 : ¬ nm = nm'
  · have q0' : (nm.toList == nm'.toList) = false := ky.ne_list q0
    have HZ : Hid (R = false) := HF.out fun z => q0 z.1
    clear q0
    go_enter Tryz.func54, Tryz.ntmps54
    go_wp2
    go_ret
    exact ⟨mu.ret_bool HZ.out.symm, hbw⟩
  have q0 : nm = nm' := Classical.not_not.1 q0
  have q0' : (nm.toList == nm'.toList) = true := by rw [q0]; simp
  have HQ0 : Hid (nm = nm') := q0
  clear q0
  by_cases q1 : ¬ vd = vd'
  · have q1' : (vd == vd') = false := by simp [q1]
    have HZ : Hid (R = false) := HF.out fun z => q1 z.2.1
    clear q1
    go_enter Tryz.func54, Tryz.ntmps54
    go_wp2
    go_ret
    exact ⟨mu.ret_bool HZ.out.symm, hbw⟩
  have q1 : vd = vd' := Decidable.of_not_not q1
  have q1' : (vd == vd') = true := by simp [q1]
  have HQ1 : Hid (vd = vd') := q1
  clear q1
  by_cases q2 : ¬ nx = nx'
  · have q2' : (nx == nx') = false := by simp [q2]
    have HZ : Hid (R = false) := HF.out fun z => q2 z.2.2.1
    clear q2
    go_enter Tryz.func54, Tryz.ntmps54
    go_wp2
    go_ret
    exact ⟨mu.ret_bool HZ.out.symm, hbw⟩
  have q2 : nx = nx' := Decidable.of_not_not q2
  have q2' : (nx == nx') = true := by simp [q2]
  have HQ2 : Hid (nx = nx') := q2
  clear q2
  go_enter Tryz.func54, Tryz.ntmps54
  go_wp2_with fail
  generalize World.alloc _ _ = w0 at hbw L0 M0 HA HB ⊢
  have HA : Hid (RowsAt w0 (.slice a ms.length cap) (.slice a1 ks.length cap1) ms ks) := HA
  have HB : Hid (RowsAt w0 (.slice a' ms'.length cap') (.slice a1' ks'.length cap1') ms' ks') := HB
  refine (equalM_any _ _ _ _ ms ms' _ HA.out.1 HB.out.1 HX.out.1.2.2.1 HX.out.2.2.2.1).mono ?_
  rintro e w2 ⟨rfl, hb2⟩
  have HA2 : Hid (RowsAt w2 (.slice a ms.length cap) (.slice a1 ks.length cap1) ms ks) := rows_below HA.out hb2
  have HB2 : Hid (RowsAt w2 (.slice a' ms'.length cap') (.slice a1' ks'.length cap1') ms' ks') := rows_below HB.out hb2
  have c4 := (L0.keep hb2).c4
  have d4 := (M0.keep hb2).c4
  have b3 := hbw.trans (hb2.mono hbw.size)
  clear hbw hb2 HA HB L0 M0
  have HSM : Hid (sameM ms ms' = false → ¬ SameM ms ms') := sameM_of
  generalize sameM ms ms' = sm at HT HSM ⊢
  cases sm
  · have HZ : Hid (R = false) := HF.out fun z => HSM.out (by trivial) z.2.2.2
    go_wp2
    go_ret
    exact ⟨mu.ret_bool HZ.out.symm, b3⟩
  have HZ : Hid (R = sameT ks ks') := HT.out HQ0.out HQ1.out HQ2.out (by trivial)
  go_wp2_with fail
  refine (equalT_any _ _ _ _ ks ks' _ HA2.out.2 HB2.out.2 HX.out.1.2.2.2 HX.out.2.2.2.2).mono ?_
  rintro e w3 ⟨rfl, hb3⟩
  have b4 := b3.trans (hb3.mono b3.size)
  clear b3 hb3 HA2 HB2 c4 d4
  generalize sameT ks ks' = st at HZ ⊢
  cases st
  · go_wp2
    go_ret
    exact ⟨mu.ret_bool HZ.out.symm, b4⟩
  · go_wp2
    go_ret
    exact ⟨mu.ret_bool HZ.out.symm, b4⟩
end Go.Proofs.YtcnjgmeddkidaaaGreatDoor.sm
