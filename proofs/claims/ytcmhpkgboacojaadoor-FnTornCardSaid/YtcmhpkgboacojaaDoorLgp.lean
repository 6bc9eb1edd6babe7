/-
  A copied log.
-/
import Derived.Test.YtcmhpkgboacojaaDoorLgd
namespace Go.Proofs.YtcmhpkgboacojaaDoor.lg
open Go.ChangeShapes Go.WideShapes Go.ChangeAt Go.RowKit Go.Deep Go.Joins
set_option linter.unusedVariables false

set_option maxHeartbeats 1000000 in
set_option maxRecDepth 100000 in
theorem copied_any (r : Int) (d : ByteArray) (s : Int) (w : World) (hd : d.size ≤ 1048576) :
    Calls Tryd.prog 34 #[LV r d s] w fun e w' => e = .returned (LV r d s) ∧ Below w.heap.size w w' := by
  obtain ⟨A1, R1, b1⟩ := two_new w 28 r d s
  unfold LV
  go_enter Tryd.func34, Tryd.ntmps34
  go_wp2_with fail
  generalize (w.alloc (.cells #[.int .i64 r, .string d, .int .i64 s] 28)).alloc (.cells #[.int .i64 0, .string ⟨#[]⟩, .int .i64 0] 28) = w1 at A1 R1 b1 ⊢
  refine (clone_any _ w1 hd).mono ?_
  rintro e w2 ⟨rfl, k2⟩
  have A2 := A1.keep k2
  have R2 := R1.keep k2
  have b2 := b1.trans (k2.mono b1.size)
  clear A1 R1 k2 b1
  have a0 := A2.c0
  have a1 := A2.c1
  have a2 := A2.c2
  have g1 := A2.f 1
  have r0 := R2.c0
  have r1 := R2.c1'
  have r2 := R2.c2'
  have f0 := R2.f 0
  have f1 := R2.f 1
  have f2 := R2.f 2
  go_wp2
  have A5 := (R2.other (g' := w.heap.size) 1 (.string d) (by omega)).put (a' := .int .i64 r) (b' := .string d) (c' := .int .i64 s)
  have b5 : Below w.heap.size w (lg.put (w2.setCell ⟨w.heap.size, 1, none⟩ (.string d)) (w.heap.size + 1) (.int .i64 r) (.string d) (.int .i64 s)) := put_below (b2.setCell (p := ⟨w.heap.size, 1, none⟩) (Nat.le_refl _) _) (by omega)
  change bodyPost _ _ _ _ _ (lg.put (w2.setCell ⟨w.heap.size, 1, none⟩ (.string d)) (w.heap.size + 1) (.int .i64 r) (.string d) (.int .i64 s))
  generalize lg.put _ _ _ _ _ = W5 at A5 b5 ⊢
  have d0 := A5.c0
  have d1 := A5.c1
  have d2 := A5.c2
  exact bodyPost_ret (v := .agg #[.int .i64 r, .string d, .int .i64 s]) (by simp [results, Tryd.results34, go_sem, d0, d1, d2]) rfl ⟨rfl, b5⟩
end Go.Proofs.YtcmhpkgboacojaaDoor.lg
