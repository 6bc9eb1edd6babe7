/-
  A stored mail: copied, and found in a rising row by halves.
-/
import Derived.Test.YtbhjinhedbgmnabBxd
import Derived.Test.YtbhjinhedbgmnabShf
namespace Go.Proofs.Ytbhjinhedbgmnab.st
open Go.ChangeShapes Go.WideShapes Go.ChangeAt Go.RowKit Go.Deep Go.Joins
set_option linter.unusedVariables false

def B3 (w : World) (g : Nat) (t : TypeId) (a b c : Value) : Prop := w.heap[g]? = some (.cells #[a, b, c] t (0, 0))
section
variable {w w' : World} {g : Nat} {t : TypeId} {a b c a' b' c' : Value}
theorem b3_new (w : World) (t : TypeId) (a b c : Value) : B3 (w.alloc (.cells #[a, b, c] t)) w.heap.size t a b c := by
  show (w.heap.push (.cells #[a, b, c] t))[w.heap.size]? = _
  simp
theorem B3.c0 (h : B3 w g t a b c) : w.cell? ⟨g, 0, none⟩ = some a := by rw [cell_of_row _ _ 0 _ _ _ h]; rfl
theorem B3.c1 (h : B3 w g t a b c) : w.cell? ⟨g, 1, none⟩ = some b := by rw [cell_of_row _ _ 1 _ _ _ h]; rfl
theorem B3.c1' (h : B3 w g t a b c) : w.cell? ⟨g, 0 + 1, none⟩ = some b := by rw [cell_of_row _ _ _ _ _ _ h]; rfl
theorem B3.c2 (h : B3 w g t a b c) : w.cell? ⟨g, 2, none⟩ = some c := by rw [cell_of_row _ _ 2 _ _ _ h]; rfl
theorem B3.c2' (h : B3 w g t a b c) : w.cell? ⟨g, 0 + 2, none⟩ = some c := by rw [cell_of_row _ _ _ _ _ _ h]; rfl
theorem B3.f (h : B3 w g t a b c) (j : Nat) : w.frozen? ⟨g, j, none⟩ = false := frozen_of_row _ _ _ _ _ h
theorem B3.lt (h : B3 w g t a b c) : g < w.heap.size := (Array.getElem?_eq_some_iff.1 h).1
theorem B3.keep (h : B3 w g t a b c) (hb : Below w.heap.size w w') : B3 w' g t a b c := (hb.block g h.lt).trans h
theorem B3.put0 (h : B3 w g t a b c) (u : Value) : B3 (w.setCell ⟨g, 0, none⟩ u) g t u b c := heap_setCell_same _ g 0 _ _ _ h
theorem B3.put1 (h : B3 w g t a b c) (u : Value) : B3 (w.setCell ⟨g, 1, none⟩ u) g t a u c := heap_setCell_same _ g 1 _ _ _ h
theorem B3.put2 (h : B3 w g t a b c) (u : Value) : B3 (w.setCell ⟨g, 2, none⟩ u) g t a b u := heap_setCell_same _ g 2 _ _ _ h
/-- All three cells are written. -/
def put (w : World) (g : Nat) (a b c : Value) : World := ((w.setCell ⟨g, 0, none⟩ a).setCell ⟨g, 1, none⟩ b).setCell ⟨g, 2, none⟩ c
theorem B3.put (h : B3 w g t a b c) : B3 (put w g a' b' c') g t a' b' c' := ((h.put0 a').put1 b').put2 c'
theorem put_below {B : Nat} {w0 : World} (k : Below B w0 w) (hb : B ≤ g) : Below B w0 (put w g a b c) := ((k.setCell (p := ⟨g, 0, none⟩) hb _).setCell (p := ⟨g, 1, none⟩) hb _).setCell (p := ⟨g, 2, none⟩) hb _
theorem put_size : (put w g a b c).heap.size = w.heap.size := by unfold put; simp
theorem B3.other {g' : Nat} (h : B3 w g t a b c) (j : Nat) (u : Value) (hg : g ≠ g') : B3 (w.setCell ⟨g', j, none⟩ u) g t a b c := by
  unfold B3
  rw [heap_setCell_other _ _ _ _ hg]
  exact h
theorem new_below (w : World) (T : TypeId) (cs : Array Value) : Below w.heap.size w (w.alloc (.cells cs T)) := (Below.refl _ _).alloc (Nat.le_refl _) _
end
/-- A stored mail as the program has it. -/
def SV (e : St) : Value := .agg #[.int .i64 e.u, .int .i64 e.f, .string e.t]

theorem clone_any (s : ByteArray) (w : World) (hs : s.size ≤ 1048576) :
    Calls Try.prog 62 #[.string s] w fun e w' => e = .returned (.string s) ∧ Below w.heap.size w w' := by
  go_enter Try.func62, Try.ntmps62
  go_wp2_with fail
  refine (Try.stringslite_Clone s _ (by omega)).mono ?_
  rintro e w' ⟨rfl, hb⟩
  go_wp2
  go_ret
  exact ⟨rfl, hb⟩

set_option maxHeartbeats 1000000 in
set_option maxRecDepth 100000 in
theorem copied_any (x : St) (w : World) (hd : x.t.size ≤ 1048576) :
    Calls Try.prog 64 #[SV x] w fun e w' => e = .returned (SV x) ∧ Below w.heap.size w w' := by
  obtain ⟨u, f, t⟩ := x
  unfold SV
  simp only at hd ⊢
  have A1 := (b3_new w 97 (.int .i64 u) (.int .i64 f) (.string t)).keep (new_below _ 97 #[.int .i64 0, .int .i64 0, .string ⟨#[]⟩])
  have R1 := b3_new (w.alloc (.cells #[.int .i64 u, .int .i64 f, .string t] 97)) 97 (.int .i64 0) (.int .i64 0) (.string ⟨#[]⟩)
  have b1 : Below w.heap.size w ((w.alloc (.cells #[.int .i64 u, .int .i64 f, .string t] 97)).alloc (.cells #[.int .i64 0, .int .i64 0, .string ⟨#[]⟩] 97)) := (new_below w _ _).trans ((new_below _ _ _).mono (by simp))
  go_enter Try.func64, Try.ntmps64
  go_wp2_with fail
  rw [show (w.alloc (.cells #[.int .i64 u, .int .i64 f, .string t] 97)).heap.size = w.heap.size + 1 from by simp] at R1
  generalize (w.alloc (.cells #[.int .i64 u, .int .i64 f, .string t] 97)).alloc (.cells #[.int .i64 0, .int .i64 0, .string ⟨#[]⟩] 97) = w1 at A1 R1 b1 ⊢
  refine (clone_any _ w1 hd).mono ?_
  rintro e w2 ⟨rfl, k2⟩
  have A2 := A1.keep k2
  have R2 := R1.keep k2
  have b2 := b1.trans (k2.mono b1.size)
  clear A1 R1 k2 b1
  have a0 := A2.c0
  have a1 := A2.c1
  have a2 := A2.c2
  have g2 := A2.f 2
  have r0 := R2.c0
  have r1 := R2.c1'
  have r2 := R2.c2'
  have f0 := R2.f 0
  have f1 := R2.f 1
  have f2 := R2.f 2
  go_wp2
  have A5 := (R2.other (g' := w.heap.size) 2 (.string t) (by omega)).put (a' := .int .i64 u) (b' := .int .i64 f) (c' := .string t)
  have b5 : Below w.heap.size w (st.put (w2.setCell ⟨w.heap.size, 2, none⟩ (.string t)) (w.heap.size + 1) (.int .i64 u) (.int .i64 f) (.string t)) := put_below (b2.setCell (p := ⟨w.heap.size, 2, none⟩) (Nat.le_refl _) _) (by omega)
  change bodyPost _ _ _ _ _ (st.put (w2.setCell ⟨w.heap.size, 2, none⟩ (.string t)) (w.heap.size + 1) (.int .i64 u) (.int .i64 f) (.string t))
  generalize st.put _ _ _ _ _ = W5 at A5 b5 ⊢
  have d0 := A5.c0
  have d1 := A5.c1
  have d2 := A5.c2
  exact bodyPost_ret (v := .agg #[.int .i64 u, .int .i64 f, .string t]) (by simp [results, Try.results64, go_sem, d0, d1, d2]) rfl ⟨rfl, b5⟩

def cmpI (a b : Int) : Int := if a < b then -1 else if b < a then 1 else 0
end Go.Proofs.Ytbhjinhedbgmnab.st
