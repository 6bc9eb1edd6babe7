/-
  Two lists of ranges held against each other by the laws.
-/
import Derived.Test.YtofpnabfecimhaaDoorSbk
import Derived.Test.YtofpnabfecimhaaDoorRgf
import Derived.Test.YtofpnabfecimhaaDoorSrd
import Derived.DeepKeys
import Derived.Deep.QuietTactic
import Derived.BigQuiet
import Derived.WideShapes
namespace Go.Proofs.YtofpnabfecimhaaDoor.nu
open Go.RowKit Go.WideShapes
open rg
set_option linter.unusedVariables false

theorem wf_of {z : Int} (h : rg.In z) : (Lit.int .i64 z).wf = true := WalkArith.wf_i64 (by have h1 := h.1; have h2 := h.2; omega)
set_option maxRecDepth 100000 in
theorem lits_of (x y : Int) (hx : rg.In x) (hy : rg.In y) : Tryd.prog.keyLits 2 38 [.int .i64 x, .int .i64 y] = some [.int .i64 x, .int .i64 y] := by
  have w0 := wf_of hx
  have w1 := wf_of hy
  have hc : Tryd.prog.cellsOf 38 = 2 := by kernel_rfl
  have hi : Tryd.prog.cellsOf 3 = 1 := by kernel_rfl
  simp [Program.keyLits, Tryd.underlying38, Tryd.underlying3, hc, hi, w0, w1]
theorem formed_of (x y : Int) : (Value.agg #[.int .i64 x, .int .i64 y]).formed Tryd.prog 38 = true := by
  have hc : Tryd.prog.cellsOf 38 = 2 := by kernel_rfl
  simp [Value.formed, Tryd.underlying38, hc]
theorem key_at : Tryd.prog.keyTypeAt 2 38 = true := by kernel_rfl
theorem eq_run (x y : Int) (hx : rg.In x) (hy : rg.In y) (w : World) : (Op.equal 38 (.agg #[.int .i64 x, .int .i64 y]) (.agg #[.int .i64 x, .int .i64 y])).run Tryd.prog w = .ok true w := by
  obtain ⟨r, h1, h2⟩ := run_equalIn_deep (P := Tryd.prog) 9998 2 38 key_at w 2 2 (.agg #[.int .i64 x, .int .i64 y]) (.agg #[.int .i64 x, .int .i64 y]) _ _ (formed_of x y) (formed_of x y) (by simpa [Value.cells] using lits_of x y hx hy) (by simpa [Value.cells] using lits_of x y hx hy)
  have hr : r = true := h2.2 rfl
  rw [← hr]
  exact h1
theorem ne_run (x y : Int) (hx : rg.In x) (hy : rg.In y) (w : World) : (Go.binOp .neq 38 (.agg #[.int .i64 x, .int .i64 y]) (.agg #[.int .i64 x, .int .i64 y])).run Tryd.prog w = .ok (.bool false) w := by
  simp [Go.binOp, eq_run x y hx hy w, Result.andThen]
theorem guard_run (x y : Operand) (a b : Array Value) (w : World) : (eqGuard .neq 38 x y (.agg a) (.agg b)).run Tryd.prog w = .ok () w := by
  have h : Tryd.prog.eqGuardType Tryd.prog.depth 38 = false := by kernel_rfl
  simp [eqGuard, h, Result.andThen]

/-- Whether one of the first ranges has the number. -/
def Due (ps : List Pr) (n top : Int) (k : Nat) (v : Value) : Prop := ∃ D : Bool, v = .bool D ∧ (D = true ↔ ∃ j, j < k ∧ Hit (ps.getD j no) n top)
theorem due_start (ps : List Pr) (n top : Int) : Due ps n top 0 (.bool false) := ⟨false, rfl, ⟨fun h => absurd h (by simp), fun ⟨j, hj, _⟩ => absurd hj (Nat.not_lt_zero _)⟩⟩
theorem due_step {ps : List Pr} {n top : Int} {k : Nat} {D E : Bool} {x : Pr} (h : D = true ↔ ∃ j, j < k ∧ Hit (ps.getD j no) n top) (hx : ps.getD k no = x) (he : E = true ↔ (D = true ∨ Hit x n top)) : Due ps n top (k + 1) (.bool E) := by
  refine ⟨E, rfl, ?_⟩
  rw [he, h]
  constructor
  · rintro (⟨j, hj, hh⟩ | hh)
    · exact ⟨j, by omega, hh⟩
    · exact ⟨k, by omega, by rw [hx]; exact hh⟩
  · rintro ⟨j, hj, hh⟩
    by_cases e : j = k
    · subst e; right; rw [← hx]; exact hh
    · left; exact ⟨j, by omega, hh⟩
theorem due_end {ps : List Pr} {n top : Int} {D : Bool} (h : D = true ↔ ∃ j, j < ps.length ∧ Hit (ps.getD j no) n top) : D = hasB ps n top := by
  cases D
  · exact (hasB_no (fun y => by have := h.2 y; cases this)).symm
  · exact (hasB_yes (h.1 rfl)).symm
theorem sh_at {ps : List Pr} {n top : Int} (h : SetIs ps) (hn : Num n) (ht : rg.End top) : SH ps n top = (hasB ps n top, 0) := by
  unfold SH
  rw [if_neg (by have := h.2.1; omega), if_neg (by rw [setB_yes h]; simp), if_neg (by simp only [not_or, Classical.not_not]; exact ⟨hn, ht⟩)]
theorem sr_at {ps : List Pr} (h : SetIs ps) : SR ps = (⟨(txl ps ps.length).toArray⟩, 0) := by
  unfold SR
  rw [if_neg (by have := h.2.1; omega), if_neg (by rw [setB_yes h]; simp)]
set_option maxHeartbeats 2000000 in
set_option maxRecDepth 100000 in
theorem same_any (v u : Value) (ps : List Pr) (w : World) (h1 : RgAt w v ps) (h2 : RgAt w u ps) (hs : SetIs ps) :
    Calls Tryd.prog 12 #[v, u] w fun e w' => e = .returned (.bool true) ∧ Below w.heap.size w w' := by
  obtain ⟨a, cap, rfl, h1⟩ := h1
  obtain ⟨c, cap2, rfl, h2⟩ := h2
  obtain ⟨n, hn'⟩ : ∃ n, n = ps.length := ⟨_, rfl⟩
  have HN : Hid (n = ps.length) := hn'
  have HS : Hid (SetIs ps) := hs
  have hn : n ≤ 50 := by rw [hn']; exact hs.2.1
  have H1 : Hid (ps = [] ∨ ∃ b off, a = some ⟨b, off, none⟩ ∧ ∀ j, j < ps.length → w.cell? ⟨b, off + j * 2, none⟩ = some (.int .i64 (ps.getD j no).1) ∧ w.cell? ⟨b, off + j * 2 + 1, none⟩ = some (.int .i64 (ps.getD j no).2)) := h1
  have H2 : Hid (ps = [] ∨ ∃ b off, c = some ⟨b, off, none⟩ ∧ ∀ j, j < ps.length → w.cell? ⟨b, off + j * 2, none⟩ = some (.int .i64 (ps.getD j no).1) ∧ w.cell? ⟨b, off + j * 2 + 1, none⟩ = some (.int .i64 (ps.getD j no).2)) := h2
  rw [← hn']
  clear h1 h2 hn' hs
  have hnn : ((n : Int) != (n : Int)) = false := by simp
  go_enter Tryd.func12, Tryd.ntmps12
  go_wp2
  go_loopw [5] (fun i wr => ∃ k : Nat, k ≤ n ∧ i = .int .i64 k ∧ Below w.heap.size w wr) (fun i _ => n - (intOf i).toNat)
  case atStart => exact ⟨0, Nat.zero_le _, rfl, Below.refl _ _⟩
  case round =>
    obtain ⟨k, hk, rfl, hbw⟩ := hrel
    by_cases hlt : k < n
    · have hka : k < ps.length := by rw [← HN.out]; exact hlt
      obtain ⟨e0, e1⟩ := HS.out.2.2 k hka
      rcases H1.out with e | ⟨b, off, rfl, hcells⟩
      · rw [e] at hka; simp at hka
      rcases H2.out with e | ⟨b2, off2, rfl, hcells2⟩
      · rw [e] at hka; simp at hka
      obtain ⟨v0, v1⟩ := hcells k hka
      obtain ⟨u0, u1⟩ := hcells2 k hka
      have hblt : b < w.heap.size := World.block_lt_of_cell? w _ v0
      have hblt2 : b2 < w.heap.size := World.block_lt_of_cell? w _ u0
      have c0 := (hbw.cell (p := ⟨b, off + k * 2, none⟩) hblt).trans v0
      have c1 := (hbw.cell (p := ⟨b, off + k * 2 + 1, none⟩) hblt).trans v1
      have d0 := (hbw.cell (p := ⟨b2, off2 + k * 2, none⟩) hblt2).trans u0
      have d1 := (hbw.cell (p := ⟨b2, off2 + k * 2 + 1, none⟩) hblt2).trans u1
      clear hcells hcells2 hka v0 v1 u0 u1
      generalize (ps.getD k no).1 = x at c0 d0 e0
      generalize (ps.getD k no).2 = y at c1 d1 e1
      have hr := ne_run x y ⟨by have := e0.1; omega, by have := e0.2; omega⟩ ⟨by have := e1.1; omega, by have := e1.2; omega⟩
      have hg := guard_run
      have hlt' : (k : Int) < (n : Int) := by omega
      have hk0 : (0 : Int) ≤ (k : Int) := by omega
      have HWR : Hid (∀ z, Below w.heap.size w (wr.drewN z)) := fun z => below_drewN hbw z
      clear hbw e0 e1
      go_wp2_with fail
      go_quiet (fail)
      clear hr hg
      go_wp2
      go_roundw
      case rel => exact ⟨k + 1, by omega, by go_num, HWR.out _⟩
      case measure => simp [intOf]; omega
    · have hkn : k = n := by omega
      subst hkn
      go_wp2
      go_ret
      exact ⟨rfl, hbw⟩
end Go.Proofs.YtofpnabfecimhaaDoor.nu
