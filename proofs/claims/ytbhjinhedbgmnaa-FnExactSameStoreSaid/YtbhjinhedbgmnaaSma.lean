/-
  Two stored mails are held against each other, and rows of them, and rows of texts.
-/
import Derived.Test.YtbhjinhedbgmnaaBxa
import Derived.Test.YtbhjinhedbgmnaaMub
import Derived.DeepKeys
import Derived.Deep.QuietTactic
import Derived.BigQuiet
namespace Go.Proofs.Ytbhjinhedbgmnaa.sm
open Go.RowKit Go.WideShapes
open st
set_option linter.unusedVariables false

def lits (x : St) : List Lit := [.int .i64 x.u, .int .i64 x.f, .string x.t.data.toList]
theorem lits_inj {x y : St} : lits x = lits y ↔ x = y := by
  obtain ⟨u, f, t⟩ := x
  obtain ⟨u', f', t'⟩ := y
  constructor
  · intro h
    simp only [lits, List.cons.injEq, Lit.int.injEq, Lit.string.injEq, true_and, and_true] at h
    obtain ⟨rfl, rfl, h⟩ := h
    rw [WideShapes.bytes_inj h]
  · rintro h
    rw [h]
theorem wf_of {z : Int} (h : In z) : (Lit.int .i64 z).wf = true := WalkArith.wf_i64 (by have h1 := h.1; have h2 := h.2; omega)
set_option maxRecDepth 100000 in
theorem lits_of (x : St) (hx : Small x) : Try.prog.keyLits 2 49 [.int .i64 x.u, .int .i64 x.f, .string x.t] = some (lits x) := by
  obtain ⟨u, f, t⟩ := x
  obtain ⟨h0, h1, h2⟩ := hx
  simp only at h0 h1 h2
  have w0 := wf_of h0
  have w1 := wf_of h1
  have hc : Try.prog.cellsOf 49 = 3 := by kernel_rfl
  have hi : Try.prog.cellsOf 3 = 1 := by kernel_rfl
  have hs : Try.prog.cellsOf 9 = 1 := by kernel_rfl
  simp [Program.keyLits, Try.underlying49, Try.underlying3, Try.underlying9, hc, hi, hs, w0, w1, lits, show t.size ≤ maxLen by unfold maxLen; omega]
theorem formed_of (x : St) : (Value.agg #[.int .i64 x.u, .int .i64 x.f, .string x.t]).formed Try.prog 49 = true := by
  have hc : Try.prog.cellsOf 49 = 3 := by kernel_rfl
  simp [Value.formed, Try.underlying49, hc]
theorem key_at : Try.prog.keyTypeAt 2 49 = true := by kernel_rfl
def dEqS (x y : St) : Decidable (x = y) := decidable_of_iff (x.u = y.u ∧ x.f = y.f ∧ x.t.data = y.t.data) ⟨fun ⟨a, b, c⟩ => by cases x; cases y; simp only at a b c; rw [a, b, ByteArray.ext c], fun h => by rw [h]; exact ⟨rfl, rfl, rfl⟩⟩
def eqS (x y : St) : Bool := @decide (x = y) (dEqS x y)
theorem eq_run (x y : St) (hx : Small x) (hy : Small y) (w : World) : (Op.equal 49 (.agg #[.int .i64 x.u, .int .i64 x.f, .string x.t]) (.agg #[.int .i64 y.u, .int .i64 y.f, .string y.t])).run Try.prog w = .ok (eqS x y) w := by
  obtain ⟨r, h1, h2⟩ := run_equalIn_deep (P := Try.prog) 9998 2 49 key_at w 2 2 (.agg #[.int .i64 x.u, .int .i64 x.f, .string x.t]) (.agg #[.int .i64 y.u, .int .i64 y.f, .string y.t]) (lits x) (lits y) (formed_of x) (formed_of y) (by simpa [Value.cells] using lits_of x hx) (by simpa [Value.cells] using lits_of y hy)
  have hr : r = eqS x y := by
    unfold eqS
    by_cases e : x = y
    · rw [ow.dt e]
      exact h2.2 (lits_inj.2 e)
    · rw [ow.df e]
      exact Bool.eq_false_iff.2 fun z => e (lits_inj.1 (h2.1 z))
  rw [← hr]
  exact h1
theorem ne_run (x y : St) (hx : Small x) (hy : Small y) (w : World) : (Go.binOp .neq 49 (.agg #[.int .i64 x.u, .int .i64 x.f, .string x.t]) (.agg #[.int .i64 y.u, .int .i64 y.f, .string y.t])).run Try.prog w = .ok (.bool (!eqS x y)) w := by
  simp [Go.binOp, eq_run x y hx hy w, Result.andThen]
theorem guard_run (x y : Operand) (a b : Array Value) (w : World) : (eqGuard .neq 49 x y (.agg a) (.agg b)).run Try.prog w = .ok () w := by
  have h : Try.prog.eqGuardType Try.prog.depth 49 = false := by kernel_rfl
  simp [eqGuard, h, Result.andThen]

/-- Rows of mails are the same. -/
def SameM (ms ms' : List St) : Prop := ms.length = ms'.length ∧ ∀ j, j < ms.length → ms.getD j noS = ms'.getD j noS
def dSameMs (ms ms' : List St) (k : Nat) : Decidable (∀ j, j < k → ms.getD j noS = ms'.getD j noS) := @Nat.decidableBallLT k (fun j _ => ms.getD j noS = ms'.getD j noS) (fun j _ => dEqS _ _)
def dSameM (ms ms' : List St) : Decidable (SameM ms ms') := @instDecidableAnd _ _ _ (dSameMs ms ms' ms.length)
def sameM (ms ms' : List St) : Bool := @decide (SameM ms ms') (dSameM ms ms')
theorem sameM_no {ms ms' : List St} (h : ¬ SameM ms ms') : sameM ms ms' = false := ow.df h
theorem sameM_yes {ms ms' : List St} (h : SameM ms ms') : sameM ms ms' = true := ow.dt h
theorem eqS_yes {x y : St} (h : x = y) : eqS x y = true := ow.dt h
theorem eqS_no {x y : St} (h : ¬ x = y) : eqS x y = false := ow.df h
theorem bel_drewN {B : Nat} {a w : World} (h : Below B a w) (n : Nat) : Below B a (w.drewN n) := ⟨h.os, h.tape, h.output, h.size, h.block⟩

set_option maxHeartbeats 2000000 in
set_option maxRecDepth 100000 in
theorem equalM_any (N M : Nat) (v u : Value) (ms ms' : List St) (w : World) (h1 : MailsIn w N v ms) (h2 : MailsIn w M u ms') (hs : Smalls ms) (hs' : Smalls ms') :
    Calls Try.prog 76 #[v, u] w fun e w' => e = .returned (.bool (sameM ms ms')) ∧ Below w.heap.size w w' := by
  obtain ⟨a, cap, rfl, h1⟩ := h1
  obtain ⟨c, cap2, rfl, h2⟩ := h2
  obtain ⟨n, hn⟩ : ∃ n, n = ms.length := ⟨_, rfl⟩
  obtain ⟨m, hm⟩ : ∃ m, m = ms'.length := ⟨_, rfl⟩
  have HN : Hid (n = ms.length) := hn
  have HM : Hid (m = ms'.length) := hm
  have hl : n ≤ 1048576 := by rw [hn]; exact hs.1
  have hl2 : m ≤ 1048576 := by rw [hm]; exact hs'.1
  have HS : Hid (Smalls ms ∧ Smalls ms') := ⟨hs, hs'⟩
  have H1 : Hid (ms = [] ∨ ∃ b off, a = some ⟨b, off, none⟩ ∧ b < N ∧ ∀ j, j < ms.length → At3 w b (off + j * 3) (ms.getD j noS)) := h1
  have H2 : Hid (ms' = [] ∨ ∃ b off, c = some ⟨b, off, none⟩ ∧ b < M ∧ ∀ j, j < ms'.length → At3 w b (off + j * 3) (ms'.getD j noS)) := h2
  rw [← hn, ← hm]
  clear h1 h2 hs hs' hn hm
  by_cases hnm : ¬ n = m
  · have hnm' : ((n : Int) != (m : Int)) = true := by simp; omega
    have HR : Hid (sameM ms ms' = false) := sameM_no (fun y => hnm (by have := y.1; have := HN.out; have := HM.out; omega))
    go_enter Try.func76, Try.ntmps76
    go_wp2
    go_ret
    exact ⟨mu.ret_bool HR.out.symm, Below.refl _ _⟩
  have hnm : n = m := Decidable.of_not_not hnm
  subst hnm
  have hnm' : ((n : Int) != (n : Int)) = false := by simp
  go_enter Try.func76, Try.ntmps76
  go_wp2
  go_loopw [13] (fun i wr => ∃ k : Nat, k ≤ n ∧ i = .int .i64 k ∧ (∀ j, j < k → ms.getD j noS = ms'.getD j noS) ∧ Below w.heap.size w wr) (fun i _ => n - (intOf i).toNat)
  case atStart => exact ⟨0, Nat.zero_le _, rfl, fun j hj => absurd hj (Nat.not_lt_zero _), Below.refl _ _⟩
  case round =>
    obtain ⟨k, hk, rfl, hal, hbw⟩ := hrel
    have HAL : Hid (∀ j, j < k → ms.getD j noS = ms'.getD j noS) := hal
    clear hal
    by_cases hlt : k < n
    · have hka : k < ms.length := by rw [← HN.out]; exact hlt
      have hkb : k < ms'.length := by rw [← HM.out]; exact hlt
      rcases H1.out with e | ⟨b, off, rfl, _, hcells⟩
      · rw [e] at hka; simp at hka
      rcases H2.out with e | ⟨b2, off2, rfl, _, hcells2⟩
      · rw [e] at hkb; simp at hkb
      have ha := (hcells k hka).keep hbw (hcells k hka).lt
      have hb := (hcells2 k hkb).keep hbw (hcells2 k hkb).lt
      have hsa := HS.out.1.2 k hka
      have hsb := HS.out.2.2 k hkb
      have HNE : Hid (¬ ms.getD k noS = ms'.getD k noS → sameM ms ms' = false) := fun h => sameM_no (fun y => h (y.2 k hka))
      have HEQ : Hid (ms.getD k noS = ms'.getD k noS → ∀ j, j < k + 1 → ms.getD j noS = ms'.getD j noS) := fun h j hj => by
        by_cases e : j = k
        · rw [e]; exact h
        · exact HAL.out j (by omega)
      clear hcells hka hcells2 hkb
      generalize ms.getD k noS = x at ha hsa HNE HEQ
      generalize ms'.getD k noS = y at hb hsb HNE HEQ
      have hrun := fun W => ne_run x y hsa hsb W
      have hgd := guard_run
      obtain ⟨c0, c1, c2⟩ := ha
      obtain ⟨d0, d1, d2⟩ := hb
      clear hsa hsb
      have hlt' : (k : Int) < (n : Int) := by omega
      have hk0 : (0 : Int) ≤ (k : Int) := by omega
      by_cases hxy : x = y
      · have HX : Hid (∀ j, j < k + 1 → ms.getD j noS = ms'.getD j noS) := HEQ.out hxy
        rw [eqS_yes hxy] at hrun
        simp only [Bool.not_true] at hrun
        clear hxy HNE HEQ
        go_wp2_with fail
        go_quiet (fail)
        have b3 := bel_drewN hbw nq
        clear c0 c1 c2 d0 d1 d2 hrun hbw
        go_wp2
        go_roundw
        case rel => exact ⟨k + 1, by omega, by go_num, HX.out, b3⟩
        case measure => simp [intOf]; omega
      · have HR : Hid (sameM ms ms' = false) := HNE.out hxy
        rw [eqS_no hxy] at hrun
        simp only [Bool.not_false] at hrun
        clear hxy HNE HEQ
        go_wp2_with fail
        go_quiet (fail)
        have b3 := bel_drewN hbw nq
        clear c0 c1 c2 d0 d1 d2 hrun hbw
        go_wp2
        go_ret
        exact ⟨mu.ret_bool HR.out.symm, b3⟩
    · have HR : Hid (sameM ms ms' = true) := sameM_yes ⟨by have := HN.out; have := HM.out; omega, fun j hj => HAL.out j (by have := HN.out; omega)⟩
      go_wp2
      go_ret
      exact ⟨mu.ret_bool HR.out.symm, hbw⟩
end Go.Proofs.Ytbhjinhedbgmnaa.sm
