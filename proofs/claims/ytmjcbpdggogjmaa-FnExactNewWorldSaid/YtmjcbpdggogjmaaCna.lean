/-
  A row of four connections: its cells, told by a function of the place; both functions that make a new world.
-/
import Derived.Test.YtmjcbpdggogjmaaEna
import Derived.Test.YtmjcbpdggogjmaaMrt
namespace Go.Proofs.Ytmjcbpdggogjmaa.cn
open Go.ChangeShapes Go.WideShapes Go.ChangeAt Go.RowKit Go.Deep Go.Joins
open en lg
set_option linter.unusedVariables false

/-- A row of four connections, nine cells each. -/
def Row (w : World) (g : Nat) (f : Nat → Value) : Prop := ∃ c : Array Value, w.heap[g]? = some (.cells c 55 (0, 0)) ∧ c.size = 36 ∧ ∀ j, j < 36 → c[j]? = some (f j)
section
variable {w w' : World} {g : Nat} {f : Nat → Value}
theorem Row.cell (h : Row w g f) (j : Nat) (hj : j < 36) : w.cell? ⟨g, j, none⟩ = some (f j) := by
  obtain ⟨c, h1, _, h3⟩ := h
  rw [cell_of_row w _ _ _ _ _ h1]
  exact h3 j hj
theorem Row.fr (h : Row w g f) (j : Nat) : w.frozen? ⟨g, j, none⟩ = false := by
  obtain ⟨c, h1, _, _⟩ := h
  exact frozen_of_row _ _ _ _ _ h1
theorem Row.lt (h : Row w g f) : g < w.heap.size := by
  obtain ⟨c, h1, _, _⟩ := h
  exact (Array.getElem?_eq_some_iff.1 h1).1
theorem Row.keep (h : Row w g f) (e : w'.heap[g]? = w.heap[g]?) : Row w' g f := by
  obtain ⟨c, h1, h2, h3⟩ := h
  exact ⟨c, e.trans h1, h2, h3⟩
theorem Row.below (h : Row w g f) (b : Below w.heap.size w w') : Row w' g f := h.keep (b.block g h.lt)
/-- A function that is another one at one place. -/
def upd (f : Nat → Value) (j : Nat) (v : Value) : Nat → Value := fun i => if i = j then v else f i
theorem Row.put (h : Row w g f) (j : Nat) (v : Value) : Row (w.setCell ⟨g, j, none⟩ v) g (upd f j v) := by
  obtain ⟨c, h1, h2, h3⟩ := h
  refine ⟨c.setIfInBounds j v, heap_setCell_same _ _ _ _ _ _ h1, by simp [h2], fun i hi => ?_⟩
  unfold upd
  by_cases e : i = j
  · subst e
    rw [if_pos rfl, Array.getElem?_setIfInBounds_self_of_lt (by omega)]
  · rw [if_neg e, Array.getElem?_setIfInBounds_ne (fun x => e x.symm)]
    exact h3 i hi
end
/-- A connection that is closed, cell by cell. -/
def zr : Nat → Value
  | 0 => .int .i64 0
  | 1 => .string ⟨#[]⟩
  | 2 => .int .i64 0
  | 3 => .string ⟨#[]⟩
  | 4 => .bool false
  | 5 => .slice none 0 0
  | 6 => .string ⟨#[]⟩
  | 7 => .int .i64 0
  | _ => .bool false
def zf (j : Nat) : Value := zr (j % 9)
theorem infoC : (Try.prog.info? 55).map (fun i => (i.zero, i.size, i.bytes)) = some (some (.agg #[.int .i64 0, .string ⟨#[]⟩, .int .i64 0, .string ⟨#[]⟩, .bool false, .slice none 0 0, .string ⟨#[]⟩, .int .i64 0, .bool false]), 9, 112) := by kernel_rfl
/-- The value of a connection that is closed. -/
def zv : Value := .agg #[.int .i64 0, .string ⟨#[]⟩, .int .i64 0, .string ⟨#[]⟩, .bool false, .slice none 0 0, .string ⟨#[]⟩, .int .i64 0, .bool false]
theorem made_at (j : Nat) (hj : j < 36) : (madeCells zv.cells (4 * 9))[j]? = some (zf j) := by
  unfold madeCells
  rw [Array.getElem?_map, Array.getElem?_range, if_pos (by omega)]
  show some _ = some _
  have hq : j % 9 < 9 := Nat.mod_lt _ (by omega)
  unfold zf
  show some ((_ : Array Value)[j % 9]!) = _
  generalize j % 9 = r at hq ⊢
  match r, hq with
  | 0, _ => rfl
  | 1, _ => rfl
  | 2, _ => rfl
  | 3, _ => rfl
  | 4, _ => rfl
  | 5, _ => rfl
  | 6, _ => rfl
  | 7, _ => rfl
  | 8, _ => rfl
theorem row_own {w : World} {base g : Nat} (h : w.ownsRow base 55 9 (.slice (some ⟨g, 0, none⟩) 4 4) 4 (madeCells zv.cells (4 * 9)).toList) : Row w g zf := by
  have hc := h
  rcases h.2 with ⟨e, _⟩ | ⟨g1, cap, cur, e, hb, hh, hn, hm, hz, ht⟩
  · cases e
  cases e
  refine ⟨cur, hh, by omega, fun j hj => ?_⟩
  rw [← cell_of_row w g j cur _ _ hh, hc.cellAt j (by omega), Array.getElem?_toList]
  exact made_at j hj
theorem grown_none {w w' : World} (h : w.grownBy w' none) : Below w.heap.size w w' := ⟨h.os, h.tape, h.output, h.size, fun k hk => h.block k hk (fun e => by cases e)⟩

set_option maxHeartbeats 1000000 in
set_option maxRecDepth 100000 in
theorem closed_any (w : World) : Calls Try.prog 12 #[] w fun e w' => e = .returned (.slice (some ⟨w.heap.size, 0, none⟩) 4 4) ∧ Row w' w.heap.size zf ∧ Below w.heap.size w w' := by
  obtain ⟨i0, hi, hz0, hz1, hz2⟩ := info_parts infoC
  go_enter Try.func12, Try.ntmps12
  go_wp2_with (at_make; refine wpList_make_full _ rfl _ _ 27 rfl w.heap.size 55 i0 _ 9 Try.underlying27 hi hz0 hz1 _ _ _ _ 4 rfl rfl rfl rfl (by rw [hz2]; omega) (by unfold maxLen; omega) (Nat.le_refl _) ?_; intro w1 hown1 hg1)
  have hr := row_own hown1
  have hb := grown_none hg1
  clear hown1 hg1
  go_wp2
  go_ret
  exact ⟨rfl, hr, hb⟩
end Go.Proofs.Ytmjcbpdggogjmaa.cn
