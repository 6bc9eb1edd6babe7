/-
  An engine that is new: both functions; the laws' own helpers at one without boxes.
-/
import Derived.Test.YtmjcbpdggogjmaaLgb
namespace Go.Proofs.Ytmjcbpdggogjmaa.en
open Go.ChangeShapes Go.WideShapes Go.ChangeAt Go.RowKit Go.Deep Go.Joins
open lg (newLog RV LV new_below)
set_option linter.unusedVariables false

/-- An engine: its log's three cells, its boxes. -/
def EV (r : Int) (d : ByteArray) (s : Int) (v : Value) : Value := .agg #[.int .i64 r, .string d, .int .i64 s, v]
/-- An engine that lies as a variable. -/
def LiesE (w : World) (b : Nat) (r : Int) (d : ByteArray) (s : Int) (v : Value) : Prop := w.heap[b]? = some (.cells #[.int .i64 r, .string d, .int .i64 s, v] 26 (0, 0))
section
variable {w w' : World} {b : Nat} {r : Int} {d : ByteArray} {s : Int} {v : Value}
theorem LiesE.c0 (h : LiesE w b r d s v) : w.cell? ⟨b, 0, none⟩ = some (.int .i64 r) := by rw [cell_of_row w _ _ _ _ _ h]; rfl
theorem LiesE.c1 (h : LiesE w b r d s v) : w.cell? ⟨b, 0 + 1, none⟩ = some (.string d) := by rw [cell_of_row w _ _ _ _ _ h]; rfl
theorem LiesE.c2 (h : LiesE w b r d s v) : w.cell? ⟨b, 0 + 2, none⟩ = some (.int .i64 s) := by rw [cell_of_row w _ _ _ _ _ h]; rfl
theorem LiesE.c3 (h : LiesE w b r d s v) : w.cell? ⟨b, 0 + 3, none⟩ = some v := by rw [cell_of_row w _ _ _ _ _ h]; rfl
theorem LiesE.c1' (h : LiesE w b r d s v) : w.cell? ⟨b, 1, none⟩ = some (.string d) := h.c1
theorem LiesE.c2' (h : LiesE w b r d s v) : w.cell? ⟨b, 2, none⟩ = some (.int .i64 s) := h.c2
theorem LiesE.c3' (h : LiesE w b r d s v) : w.cell? ⟨b, 3, none⟩ = some v := h.c3
theorem LiesE.f (h : LiesE w b r d s v) (j : Nat) : w.frozen? ⟨b, j, none⟩ = false := frozen_of_row _ _ _ _ _ h
theorem LiesE.lt (h : LiesE w b r d s v) : b < w.heap.size := World.block_lt_of_cell? w _ h.c0
theorem LiesE.keep (h : LiesE w b r d s v) (hb : Below w.heap.size w w') : LiesE w' b r d s v := (hb.block b h.lt).trans h
theorem liesE_new (w : World) (r : Int) (d : ByteArray) (s : Int) (v : Value) : LiesE (w.alloc (.cells #[.int .i64 r, .string d, .int .i64 s, v] 26)) w.heap.size r d s v := by show (w.heap.push _)[w.heap.size]? = _; simp
/-- All four cells are written. -/
def put4 (w : World) (g : Nat) (a b c d : Value) : World := (((w.setCell ⟨g, 0, none⟩ a).setCell ⟨g, 1, none⟩ b).setCell ⟨g, 2, none⟩ c).setCell ⟨g, 3, none⟩ d
theorem LiesE.put {r' : Int} {d' : ByteArray} {s' : Int} {v' : Value} (h : LiesE w b r d s v) : LiesE (put4 w b (.int .i64 r') (.string d') (.int .i64 s') v') b r' d' s' v' :=
  heap_setCell_same _ b 3 _ _ _ (heap_setCell_same _ b 2 _ _ _ (heap_setCell_same _ b 1 _ _ _ (heap_setCell_same _ b 0 _ _ _ h)))
theorem put4_below {B g : Nat} {w0 : World} {a b c d : Value} (k : Below B w0 w) (hb : B ≤ g) : Below B w0 (put4 w g a b c d) :=
  (((k.setCell (p := ⟨g, 0, none⟩) hb _).setCell (p := ⟨g, 1, none⟩) hb _).setCell (p := ⟨g, 2, none⟩) hb _).setCell (p := ⟨g, 3, none⟩) hb _
end
/-- A slice of boxes that has none. -/
def No (v : Value) : Prop := ∃ a c, v = .slice a 0 c

set_option maxHeartbeats 1000000 in
set_option maxRecDepth 100000 in
theorem impl_ne (room : Int) (w : World) : Calls Try.prog 11 #[.int .i64 room] w fun e w' => (∃ r d s c v, newLog room = RV r d s c ∧ No v ∧ e = .returned (.tuple #[EV r d s v, .int .i64 c])) ∧ Below w.heap.size w w' := by
  obtain ⟨r, d, s, c, hx⟩ := lg.newLog_form room
  have L0 := liesE_new w 0 ⟨#[]⟩ 0 (.slice none 0 0)
  have b0 := new_below w 26 #[.int .i64 0, .string ⟨#[]⟩, .int .i64 0, .slice none 0 0]
  go_enter Try.func11, Try.ntmps11
  go_wp2_with fail
  generalize w.alloc _ = w0 at L0 b0 ⊢
  refine (lg.impl_new room _).mono ?_
  rintro e w1 ⟨rfl, b1⟩
  rw [hx]
  unfold RV LV
  have L1 := L0.keep b1
  have b2 := b0.trans (b1.mono b0.size)
  clear L0 b0 b1
  have L2 := L1.keep (new_below w1 23 #[.int .i64 r, .string d, .int .i64 s])
  have b3 := b2.trans ((new_below w1 23 #[.int .i64 r, .string d, .int .i64 s]).mono b2.size)
  have c0 := L2.c0
  have c1 := L2.c1
  have c2 := L2.c2
  have c3 := L2.c3
  have f0 := L2.f 0
  have f1 := L2.f 1
  have f2 := L2.f 2
  have f3 := L2.f 3
  have HL : Hid (LiesE (w1.alloc (.cells #[.int .i64 r, .string d, .int .i64 s] 23)) w.heap.size 0 ⟨#[]⟩ 0 (.slice none 0 0)) := L2
  clear L1 L2 b2
  have HX : Hid (newLog room = RV r d s c) := hx
  clear hx
  go_wp2
  have A5 := HL.out.put (r' := r) (d' := d) (s' := s) (v' := .slice none 0 0)
  have b5 := put4_below (a := .int .i64 r) (b := .string d) (c := .int .i64 s) (d := .slice none 0 0) b3 (Nat.le_refl w.heap.size)
  change bodyPost _ _ _ _ _ (put4 _ w.heap.size (.int .i64 r) (.string d) (.int .i64 s) (.slice none 0 0))
  generalize put4 _ _ _ _ _ _ = W5 at A5 b5 ⊢
  have d0 := A5.c0
  have d1 := A5.c1'
  have d2 := A5.c2'
  have d3 := A5.c3'
  exact bodyPost_ret (v := .tuple #[EV r d s (.slice none 0 0), .int .i64 c]) (by simp [results, Try.results11, go_sem, d0, d1, d2, d3, EV]) rfl ⟨⟨r, d, s, c, _, HX.out, ⟨_, _, rfl⟩, rfl⟩, b5⟩


set_option maxHeartbeats 1000000 in
set_option maxRecDepth 100000 in
theorem eqBoxS_none (a a' : Option Addr) (c c' : Nat) (w : World) : Calls Try.prog 21 #[.slice a 0 c, .slice a' 0 c'] w fun e w' => e = .returned (.bool true) ∧ w' = w := by
  go_enter Try.func21, Try.ntmps21
  go_wp2
  refine wp_loop_rounds 1 ?_
  rw [rounds_succ]
  go_wp2
  go_ret
  exact ⟨rfl, rfl⟩
set_option maxHeartbeats 1000000 in
set_option maxRecDepth 100000 in
theorem markBoxS_none (a : Option Addr) (c : Nat) (w : World) : Calls Try.prog 23 #[.slice a 0 c, .int .i64 1] w fun e w' => e = .returned (.int .i64 1) ∧ w' = w := by
  go_enter Try.func23, Try.ntmps23
  go_wp2
  refine wp_loop_rounds 1 ?_
  rw [rounds_succ]
  go_wp2
  go_ret
  exact ⟨rfl, rfl⟩
set_option maxHeartbeats 1000000 in
set_option maxRecDepth 100000 in
theorem heldBoxS_none (a : Option Addr) (c : Nat) (w : World) : Calls Try.prog 26 #[.slice a 0 c, .int .i64 1] w fun e w' => e = .returned (.int .i64 1) ∧ w' = w := by
  go_enter Try.func26, Try.ntmps26
  go_wp2
  refine wp_loop_rounds 1 ?_
  rw [rounds_succ]
  go_wp2
  go_ret
  exact ⟨rfl, rfl⟩
set_option maxHeartbeats 1000000 in
set_option maxRecDepth 100000 in
theorem eqE_none (r : Int) (d : ByteArray) (s : Int) (a a' : Option Addr) (c c' : Nat) (w : World) : Calls Try.prog 13 #[EV r d s (.slice a 0 c), EV r d s (.slice a' 0 c')] w fun e w' => e = .returned (.bool true) ∧ Below w.heap.size w w' := by
  unfold EV
  have L0 := (liesE_new w r d s (.slice a 0 c)).keep (new_below _ 26 #[.int .i64 r, .string d, .int .i64 s, .slice a' 0 c'])
  have M0 := liesE_new (w.alloc (.cells #[.int .i64 r, .string d, .int .i64 s, .slice a 0 c] 26)) r d s (.slice a' 0 c')
  have b0 := (new_below w 26 #[.int .i64 r, .string d, .int .i64 s, .slice a 0 c]).alloc (by simp) (.cells #[.int .i64 r, .string d, .int .i64 s, .slice a' 0 c'] 26)
  rw [show (w.alloc (.cells #[.int .i64 r, .string d, .int .i64 s, .slice a 0 c] 26)).heap.size = w.heap.size + 1 by simp] at M0
  go_enter Try.func13, Try.ntmps13
  go_wp2_with fail
  generalize World.alloc _ _ = w0 at b0 L0 M0 ⊢
  refine (lg.eqLog_same r d s _).mono ?_
  rintro e w2 ⟨rfl, hb2⟩
  have c3 := (L0.keep hb2).c3
  have d3 := (M0.keep hb2).c3
  have b3 := b0.trans (hb2.mono b0.size)
  clear b0 hb2 L0 M0
  go_wp2_with fail
  refine (eqBoxS_none a a' c c' _).mono ?_
  rintro e w3 ⟨rfl, rfl⟩
  go_wp2
  go_ret
  exact ⟨rfl, b3⟩
set_option maxHeartbeats 1000000 in
theorem markE_none (r : Int) (d : ByteArray) (s : Int) (a : Option Addr) (c : Nat) (w : World) : Calls Try.prog 15 #[EV r d s (.slice a 0 c), .int .i64 1] w fun e w' => e = .returned (.int .i64 1) ∧ Below w.heap.size w w' := by
  unfold EV
  have b0 := new_below w 26 #[.int .i64 r, .string d, .int .i64 s, .slice a 0 c]
  go_enter Try.func15, Try.ntmps15
  go_wp2_with fail
  refine (markBoxS_none a c _).mono ?_
  rintro e w3 ⟨rfl, rfl⟩
  go_wp2
  go_ret
  exact ⟨rfl, b0⟩
set_option maxHeartbeats 1000000 in
theorem heldE_none (r : Int) (d : ByteArray) (s : Int) (a : Option Addr) (c : Nat) (w : World) : Calls Try.prog 17 #[EV r d s (.slice a 0 c), .int .i64 1] w fun e w' => e = .returned (.int .i64 1) ∧ Below w.heap.size w w' := by
  unfold EV
  have b0 := new_below w 26 #[.int .i64 r, .string d, .int .i64 s, .slice a 0 c]
  go_enter Try.func17, Try.ntmps17
  go_wp2_with fail
  refine (heldBoxS_none a c _).mono ?_
  rintro e w3 ⟨rfl, rfl⟩
  go_wp2
  go_ret
  exact ⟨rfl, b0⟩
end Go.Proofs.Ytmjcbpdggogjmaa.en
