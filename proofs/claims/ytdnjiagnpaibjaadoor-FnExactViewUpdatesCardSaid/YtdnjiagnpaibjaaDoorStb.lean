/-
  A stored mail: copied, and found in a rising row by halves.
-/
import Derived.Test.YtdnjiagnpaibjaaDoorBxd
import Derived.Test.YtdnjiagnpaibjaaDoorShf
namespace Go.Proofs.YtdnjiagnpaibjaaDoor.st
open Go.ChangeShapes Go.WideShapes Go.ChangeAt Go.RowKit Go.Deep Go.Joins
set_option linter.unusedVariables false

def B3 (w : World) (g : Nat) (t : TypeId) (a b c : Value) : Prop := w.heap[g]? = some (.cells #[a, b, c] t (0, 0))
section
variable {w w' : World} {g : Nat} {t : TypeId} {a b c a' b' c' : Value}
theorem b3_new (w : World) (t : TypeId) (a b c : Value) : B3 (w.alloc (.cells #[a, b, c] t)) w.heap.size t a b c := by
  show (w.heap.push (.cells #[a, b, c] t))[w.heap.size]? = _
  simp
theorem B3.c0 (h : B3 w g t a b c) : w.cell? ⟨g, 0, none⟩ = some a := by rw [cell_of_row _ _ 0 _ _ _ h]; rfl
theorem B3.c1 (h : B3 w g t a b c) : w.cell? ⟨g, 1, none⟩ = some b := by rw [cell_of_row _ _ 1 _ _ _ h]; rfl
theorem B3.c1' (h : B3 w g t a b c) : w.cell? ⟨g, 0 + 1, none⟩ = some b := by rw [cell_of_row _ _ _ _ _ _ h]; rfl
theorem B3.c2 (h : B3 w g t a b c) : w.cell? ⟨g, 2, none⟩ = some c := by rw [cell_of_row _ _ 2 _ _ _ h]; rfl
theorem B3.c2' (h : B3 w g t a b c) : w.cell? ⟨g, 0 + 2, none⟩ = some c := by rw [cell_of_row _ _ _ _ _ _ h]; rfl
theorem B3.f (h : B3 w g t a b c) (j : Nat) : w.frozen? ⟨g, j, none⟩ = false := frozen_of_row _ _ _ _ _ h
theorem B3.lt (h : B3 w g t a b c) : g < w.heap.size := (Array.getElem?_eq_some_iff.1 h).1
theorem B3.keep (h : B3 w g t a b c) (hb : Below w.heap.size w w') : B3 w' g t a b c := (hb.block g h.lt).trans h
theorem B3.put0 (h : B3 w g t a b c) (u : Value) : B3 (w.setCell ⟨g, 0, none⟩ u) g t u b c := heap_setCell_same _ g 0 _ _ _ h
theorem B3.put1 (h : B3 w g t a b c) (u : Value) : B3 (w.setCell ⟨g, 1, none⟩ u) g t a u c := heap_setCell_same _ g 1 _ _ _ h
theorem B3.put2 (h : B3 w g t a b c) (u : Value) : B3 (w.setCell ⟨g, 2, none⟩ u) g t a b u := heap_setCell_same _ g 2 _ _ _ h
/-- All three cells are written. -/
def put (w : World) (g : Nat) (a b c : Value) : World := ((w.setCell ⟨g, 0, none⟩ a).setCell ⟨g, 1, none⟩ b).setCell ⟨g, 2, none⟩ c
theorem B3.put (h : B3 w g t a b c) : B3 (put w g a' b' c') g t a' b' c' := ((h.put0 a').put1 b').put2 c'
theorem put_below {B : Nat} {w0 : World} (k : Below B w0 w) (hb : B ≤ g) : Below B w0 (put w g a b c) := ((k.setCell (p := ⟨g, 0, none⟩) hb _).setCell (p := ⟨g, 1, none⟩) hb _).setCell (p := ⟨g, 2, none⟩) hb _
theorem put_size : (put w g a b c).heap.size = w.heap.size := by unfold put; simp
theorem B3.other {g' : Nat} (h : B3 w g t a b c) (j : Nat) (u : Value) (hg : g ≠ g') : B3 (w.setCell ⟨g', j, none⟩ u) g t a b c := by
  unfold B3
  rw [heap_setCell_other _ _ _ _ hg]
  exact h
theorem new_below (w : World) (T : TypeId) (cs : Array Value) : Below w.heap.size w (w.alloc (.cells cs T)) := (Below.refl _ _).alloc (Nat.le_refl _) _
end
/-- A stored mail as the program has it. -/
def SV (e : St) : Value := .agg #[.int .i64 e.u, .int .i64 e.f, .string e.t]

theorem clone_any (s : ByteArray) (w : World) (hs : s.size ≤ 1048576) :
    Calls Tryd.prog 39 #[.string s] w fun e w' => e = .returned (.string s) ∧ Below w.heap.size w w' := by
  go_enter Tryd.func39, Tryd.ntmps39
  go_wp2_with fail
  refine (Tryd.stringslite_Clone s _ (by omega)).mono ?_
  rintro e w' ⟨rfl, hb⟩
  go_wp2
  go_ret
  exact ⟨rfl, hb⟩

def cmpI (a b : Int) : Int := if a < b then -1 else if b < a then 1 else 0
theorem nan_any (a : Int) (w : World) : Calls Tryd.prog 102 #[.int .i64 a] w fun e w' => e = .returned (.bool false) ∧ w' = w := by
  have h : ((a : Int) != a) = false := by simp
  go_enter Tryd.func102, Tryd.ntmps102
  go_wp2
  go_ret
  exact ⟨rfl, rfl⟩
theorem compare_any (a b : Int) (w : World) : Calls Tryd.prog 81 #[.int .i64 a, .int .i64 b] w fun e w' => e = .returned (.int .i64 (cmpI a b)) ∧ w' = w := by
  by_cases h1 : a < b
  · have hc : cmpI a b = -1 := by simp [cmpI, h1]
    have HC : Hid (cmpI a b = -1) := hc
    clear hc
    go_enter Tryd.func81, Tryd.ntmps81
    go_wp2_with (go_at_call 102; refine (nan_any _ _).mono ?_; rintro e w' ⟨rfl, rfl⟩)
    go_ret
    exact ⟨by rw [HC.out]; rfl, rfl⟩
  by_cases h2 : b < a
  · have hc : cmpI a b = 1 := by simp [cmpI, h1, h2]
    have HC : Hid (cmpI a b = 1) := hc
    clear hc
    have h1' : b ≤ a := by omega
    go_enter Tryd.func81, Tryd.ntmps81
    go_wp2_with (go_at_call 102; refine (nan_any _ _).mono ?_; rintro e w' ⟨rfl, rfl⟩)
    go_ret
    exact ⟨by rw [HC.out]; rfl, rfl⟩
  · have hc : cmpI a b = 0 := by simp [cmpI, h1, h2]
    have HC : Hid (cmpI a b = 0) := hc
    clear hc
    have h1' : b ≤ a := by omega
    have h2' : a ≤ b := by omega
    go_enter Tryd.func81, Tryd.ntmps81
    go_wp2_with (go_at_call 102; refine (nan_any _ _).mono ?_; rintro e w' ⟨rfl, rfl⟩)
    go_ret
    exact ⟨by rw [HC.out]; rfl, rfl⟩
theorem byUid_any (x : St) (z : Int) (w : World) : Calls Tryd.prog 80 #[SV x, .int .i64 z] w fun e w' => e = .returned (.int .i64 (cmpI x.u z)) ∧ Below w.heap.size w w' := by
  obtain ⟨u, f, t⟩ := x
  have hb := new_below w 49 #[.int .i64 u, .int .i64 f, .string t]
  unfold SV
  simp only
  go_enter Tryd.func80, Tryd.ntmps80
  go_wp2_with fail
  refine (compare_any _ _ _).mono ?_
  rintro e w' ⟨rfl, rfl⟩
  go_wp2
  go_ret
  exact ⟨rfl, hb⟩
end Go.Proofs.YtdnjiagnpaibjaaDoor.st
