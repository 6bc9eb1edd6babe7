/-
  Connections as rows: copied and held against each other by the law's own functions.
  Connections as rows, held against each other.
-/
import Derived.Test.YtncnbhekgkemfaaGreatDoorPkac
import Derived.Test.YtncnbhekgkemfaaGreatDoorPkab

namespace Go.Proofs.YtncnbhekgkemfaaGreatDoor.cn
open Go.RowKit
open im (Im)
open ow (Reads)
set_option linter.unusedVariables false

set_option maxHeartbeats 1000000 in
set_option maxRecDepth 100000 in
theorem toNntp_any (g : ByteArray) (n : Int) (o : Bool) (w : World) : Calls Tryz.prog 58 #[.agg #[.string g, .int .i64 n, .bool o]] w fun e w' => e = .returned (.agg #[.string g, .int .i64 n, .bool o]) ∧ Below w.heap.size w w' := by
  go_enter Tryz.func58, Tryz.ntmps58
  go_wp2
  refine bodyPost_ret (v := .agg #[.string g, .int .i64 n, .bool o]) (by simp [results, Tryz.results58, go_sem]) rfl ⟨rfl, ?_⟩
  exact (((Below.refl _ w).alloc (Nat.le_refl _) _).alloc (by simp) _).alloc (by simp; omega) _

def putI (w : World) (g : Nat) (x : Cn) (v : Value) : World := (((w.setCell ⟨g, 2, none⟩ (.int .i64 x.st)).setCell ⟨g, 3, none⟩ (.string x.bx)).setCell ⟨g, 4, none⟩ (.bool x.ro)).setCell ⟨g, 5, none⟩ v
def putN (w : World) (g : Nat) (x : Cn) : World := ((w.setCell ⟨g, 6, none⟩ (.string x.g)).setCell ⟨g, 7, none⟩ (.int .i64 x.n)).setCell ⟨g, 8, none⟩ (.bool x.o)
theorem set_other {w : World} {g k j : Nat} {u : Value} (h : k ≠ g) : (w.setCell ⟨g, j, none⟩ u).heap[k]? = w.heap[k]? := heap_setCell_other _ ⟨g, j, none⟩ _ _ h
theorem putI_other {w : World} {g k : Nat} {x : Cn} {v : Value} (h : k ≠ g) : (putI w g x v).heap[k]? = w.heap[k]? := by
  unfold putI
  rw [set_other h, set_other h, set_other h, set_other h]
theorem putN_other {w : World} {g k : Nat} {x : Cn} (h : k ≠ g) : (putN w g x).heap[k]? = w.heap[k]? := by
  unfold putN
  rw [set_other h, set_other h, set_other h]
theorem putI_below {B g : Nat} {w0 w : World} {x : Cn} {v : Value} (k : Below B w0 w) (hb : B ≤ g) : Below B w0 (putI w g x v) :=
  (((k.setCell (p := ⟨g, 2, none⟩) hb _).setCell (p := ⟨g, 3, none⟩) hb _).setCell (p := ⟨g, 4, none⟩) hb _).setCell (p := ⟨g, 5, none⟩) hb _
theorem putN_below {B g : Nat} {w0 w : World} {x : Cn} (k : Below B w0 w) (hb : B ≤ g) : Below B w0 (putN w g x) :=
  ((k.setCell (p := ⟨g, 6, none⟩) hb _).setCell (p := ⟨g, 7, none⟩) hb _).setCell (p := ⟨g, 8, none⟩) hb _
theorem putI_size {w : World} {g : Nat} {x : Cn} {v : Value} : (putI w g x v).heap.size = w.heap.size := by unfold putI; simp
theorem putN_size {w : World} {g : Nat} {x : Cn} : (putN w g x).heap.size = w.heap.size := by unfold putN; simp
/-- All nine cells are written. -/
def putA (w : World) (g : Nat) (x : Cn) (v : Value) : World := ((((((((w.setCell ⟨g, 0, none⟩ (.int .i64 x.kd)).setCell ⟨g, 1, none⟩ (.string x.bf)).setCell ⟨g, 2, none⟩ (.int .i64 x.st)).setCell ⟨g, 3, none⟩ (.string x.bx)).setCell ⟨g, 4, none⟩ (.bool x.ro)).setCell ⟨g, 5, none⟩ v).setCell ⟨g, 6, none⟩ (.string x.g)).setCell ⟨g, 7, none⟩ (.int .i64 x.n)).setCell ⟨g, 8, none⟩ (.bool x.o)
theorem putA_other {w : World} {g k : Nat} {x : Cn} {v : Value} (h : k ≠ g) : (putA w g x v).heap[k]? = w.heap[k]? := by
  unfold putA
  rw [set_other h, set_other h, set_other h, set_other h, set_other h, set_other h, set_other h, set_other h, set_other h]
theorem putA_below {B g : Nat} {w0 w : World} {x : Cn} {v : Value} (k : Below B w0 w) (hb : B ≤ g) : Below B w0 (putA w g x v) :=
  ((((((((k.setCell (p := ⟨g, 0, none⟩) hb _).setCell (p := ⟨g, 1, none⟩) hb _).setCell (p := ⟨g, 2, none⟩) hb _).setCell (p := ⟨g, 3, none⟩) hb _).setCell (p := ⟨g, 4, none⟩) hb _).setCell (p := ⟨g, 5, none⟩) hb _).setCell (p := ⟨g, 6, none⟩) hb _).setCell (p := ⟨g, 7, none⟩) hb _).setCell (p := ⟨g, 8, none⟩) hb _
theorem nine {w : World} {b : Nat} {T : TypeId} {a0 a1 a2 a3 a4 a5 a6 a7 a8 : Value} (h : w.heap[b]? = some (.cells #[a0, a1, a2, a3, a4, a5, a6, a7, a8] T (0, 0))) (v0 v1 v2 v3 v4 v5 v6 v7 v8 : Value) : (((((((((w.setCell ⟨b, 0, none⟩ v0).setCell ⟨b, 1, none⟩ v1).setCell ⟨b, 2, none⟩ v2).setCell ⟨b, 3, none⟩ v3).setCell ⟨b, 4, none⟩ v4).setCell ⟨b, 5, none⟩ v5).setCell ⟨b, 6, none⟩ v6).setCell ⟨b, 7, none⟩ v7).setCell ⟨b, 8, none⟩ v8).heap[b]? = some (.cells #[v0, v1, v2, v3, v4, v5, v6, v7, v8] T (0, 0)) := by
  have h0 : (w.setCell ⟨b, 0, none⟩ v0).heap[b]? = some (.cells #[v0, a1, a2, a3, a4, a5, a6, a7, a8] T (0, 0)) := heap_setCell_same _ b 0 _ _ _ h
  have h1 : ((w.setCell ⟨b, 0, none⟩ v0).setCell ⟨b, 1, none⟩ v1).heap[b]? = some (.cells #[v0, v1, a2, a3, a4, a5, a6, a7, a8] T (0, 0)) := heap_setCell_same _ b 1 _ _ _ h0
  have h2 : (((w.setCell ⟨b, 0, none⟩ v0).setCell ⟨b, 1, none⟩ v1).setCell ⟨b, 2, none⟩ v2).heap[b]? = some (.cells #[v0, v1, v2, a3, a4, a5, a6, a7, a8] T (0, 0)) := heap_setCell_same _ b 2 _ _ _ h1
  have h3 : ((((w.setCell ⟨b, 0, none⟩ v0).setCell ⟨b, 1, none⟩ v1).setCell ⟨b, 2, none⟩ v2).setCell ⟨b, 3, none⟩ v3).heap[b]? = some (.cells #[v0, v1, v2, v3, a4, a5, a6, a7, a8] T (0, 0)) := heap_setCell_same _ b 3 _ _ _ h2
  have h4 : (((((w.setCell ⟨b, 0, none⟩ v0).setCell ⟨b, 1, none⟩ v1).setCell ⟨b, 2, none⟩ v2).setCell ⟨b, 3, none⟩ v3).setCell ⟨b, 4, none⟩ v4).heap[b]? = some (.cells #[v0, v1, v2, v3, v4, a5, a6, a7, a8] T (0, 0)) := heap_setCell_same _ b 4 _ _ _ h3
  have h5 : ((((((w.setCell ⟨b, 0, none⟩ v0).setCell ⟨b, 1, none⟩ v1).setCell ⟨b, 2, none⟩ v2).setCell ⟨b, 3, none⟩ v3).setCell ⟨b, 4, none⟩ v4).setCell ⟨b, 5, none⟩ v5).heap[b]? = some (.cells #[v0, v1, v2, v3, v4, v5, a6, a7, a8] T (0, 0)) := heap_setCell_same _ b 5 _ _ _ h4
  have h6 : (((((((w.setCell ⟨b, 0, none⟩ v0).setCell ⟨b, 1, none⟩ v1).setCell ⟨b, 2, none⟩ v2).setCell ⟨b, 3, none⟩ v3).setCell ⟨b, 4, none⟩ v4).setCell ⟨b, 5, none⟩ v5).setCell ⟨b, 6, none⟩ v6).heap[b]? = some (.cells #[v0, v1, v2, v3, v4, v5, v6, a7, a8] T (0, 0)) := heap_setCell_same _ b 6 _ _ _ h5
  have h7 : ((((((((w.setCell ⟨b, 0, none⟩ v0).setCell ⟨b, 1, none⟩ v1).setCell ⟨b, 2, none⟩ v2).setCell ⟨b, 3, none⟩ v3).setCell ⟨b, 4, none⟩ v4).setCell ⟨b, 5, none⟩ v5).setCell ⟨b, 6, none⟩ v6).setCell ⟨b, 7, none⟩ v7).heap[b]? = some (.cells #[v0, v1, v2, v3, v4, v5, v6, v7, a8] T (0, 0)) := heap_setCell_same _ b 7 _ _ _ h6
  have h8 : (((((((((w.setCell ⟨b, 0, none⟩ v0).setCell ⟨b, 1, none⟩ v1).setCell ⟨b, 2, none⟩ v2).setCell ⟨b, 3, none⟩ v3).setCell ⟨b, 4, none⟩ v4).setCell ⟨b, 5, none⟩ v5).setCell ⟨b, 6, none⟩ v6).setCell ⟨b, 7, none⟩ v7).setCell ⟨b, 8, none⟩ v8).heap[b]? = some (.cells #[v0, v1, v2, v3, v4, v5, v6, v7, v8] T (0, 0)) := heap_setCell_same _ b 8 _ _ _ h7
  exact h8
theorem putA_lies {w : World} {b : Nat} {T : TypeId} {y x : Cn} {u v : Value} (h : Lies w b T y u) : Lies (putA w b x v) b T x v := nine h _ _ _ _ _ _ _ _ _
/-- A connection with its kind and bytes alone; with its session besides. -/
def half (x : Cn) : Cn := ⟨x.kd, x.bf, 0, ⟨#[]⟩, false, [], ⟨#[]⟩, 0, false⟩
def most (x : Cn) : Cn := ⟨x.kd, x.bf, x.st, x.bx, x.ro, x.vw, ⟨#[]⟩, 0, false⟩
theorem Lies.putI {w : World} {b : Nat} {T : TypeId} {x : Cn} {u v : Value} (h : Lies w b T (half x) u) : Lies (putI w b x v) b T (most x) v :=
  heap_setCell_same _ b 5 _ _ _ (heap_setCell_same _ b 4 _ _ _ (heap_setCell_same _ b 3 _ _ _ (heap_setCell_same _ b 2 _ _ _ h)))
theorem Lies.putN {w : World} {b : Nat} {T : TypeId} {x : Cn} {v : Value} (h : Lies w b T (most x) v) : Lies (putN w b x) b T x v :=
  heap_setCell_same _ b 8 _ _ _ (heap_setCell_same _ b 7 _ _ _ (heap_setCell_same _ b 6 _ _ _ h))

set_option maxHeartbeats 2000000 in
set_option maxRecDepth 100000 in
theorem toConn_any (x : Cn) (v : Value) (w : World) (h : Reads .i64 w v x.vw) (hn : x.vw.length ≤ 1048576) :
    Calls Tryz.prog 34 #[CV x v] w fun e w' => ∃ V, e = .returned (CV x V) ∧ w'.ownsRow w.heap.size 3 1 V x.vw.length (x.vw.map (Value.int .i64)) ∧ Below w.heap.size w w' := by
  have HR : Hid (Reads .i64 w v x.vw) := h
  obtain ⟨a, cap, rfl, _⟩ := h
  obtain ⟨W, hW⟩ : ∃ W, W = ((w.alloc (.cells (cells x (.slice a x.vw.length cap)) 66)).alloc (.cells (cells noC (.slice none 0 0)) 52)).alloc (.cells (cells (half x) (.slice none 0 0)) 52) := ⟨_, rfl⟩
  have b3 : Below w.heap.size w W := by rw [hW]; exact ((new_below w _ _).alloc (by simp) _).alloc (by simp; omega) _
  have sz : W.heap.size = w.heap.size + 3 := by rw [hW]; simp
  have k0 : Lies W w.heap.size 66 x (.slice a x.vw.length cap) := by
    rw [hW]; exact ((lies_new w 66 x (.slice a x.vw.length cap)).keep (new_below _ _ _)).keep (new_below _ _ _)
  have k1 : W.heap[w.heap.size + 1]? = some (.cells (cells noC (.slice none 0 0)) 52 (0, 0)) := by rw [hW]; exact im.new1 _ _ _ _
  have k2 : Lies W (w.heap.size + 1 + 1) 52 (half x) (.slice none 0 0) := by rw [hW]; exact im.new2 _ _ _ _
  have HW : Hid (((w.alloc (.cells (cells x (.slice a x.vw.length cap)) 66)).alloc (.cells (cells noC (.slice none 0 0)) 52)).alloc (.cells (cells (half x) (.slice none 0 0)) 52) = W) := hW.symm
  have HA : Hid (Reads .i64 W (.slice a x.vw.length cap) x.vw) := im.reads_below HR.out b3
  have HTI : Hid (∀ u, Reads .i64 W u x.vw → Calls Tryz.prog 57 #[.agg #[.int .i64 x.st, .string x.bx, .bool x.ro, u]] W fun e w' => ∃ V, e = .returned (.agg #[.int .i64 x.st, .string x.bx, .bool x.ro, V]) ∧ w'.ownsRow W.heap.size 3 1 V x.vw.length (x.vw.map (Value.int .i64)) ∧ Below W.heap.size W w') := fun u hu => im.toImap_any x.im u W hu hn
  clear hW HR
  unfold CV
  have HX := half x
  obtain ⟨kd, bf, st, bx, ro, vw, g, n, o⟩ := x
  simp only [cells, noC, half] at *
  clear HX
  go_enter Tryz.func34, Tryz.ntmps34
  go_wp2_with fail
  rw [HW.out]
  refine (HTI.out _ HA.out).mono ?_
  rintro e w2 ⟨V, rfl, hown, hb2⟩
  obtain ⟨aV, cV, rfl⟩ := im.own_form hown
  have m0 := k0.keep hb2
  have m1 := (hb2.block (w.heap.size + 1) (by omega)).trans k1
  have m2 : Lies w2 (w.heap.size + 1 + 1) 52 (half ⟨kd, bf, st, bx, ro, vw, g, n, o⟩) (.slice none 0 0) := (show Lies _ _ _ _ _ from Lies.keep (show Lies W (w.heap.size + 1 + 1) 52 (half ⟨kd, bf, st, bx, ro, vw, g, n, o⟩) (.slice none 0 0) from k2) hb2)
  have b4 := b3.trans (hb2.mono b3.size)
  have hs2 : w.heap.size + 3 ≤ w2.heap.size := by rw [← sz]; exact hb2.size
  have HOWN : Hid (w2.ownsRow W.heap.size 3 1 (.slice aV vw.length cV) vw.length (vw.map (Value.int .i64))) := hown
  have HSZ : Hid (W.heap.size = w.heap.size + 3) := sz
  have M0 : Hid (Lies w2 w.heap.size 66 ⟨kd, bf, st, bx, ro, vw, g, n, o⟩ (.slice a vw.length cap)) := m0
  have M1 : Hid (w2.heap[w.heap.size + 1]? = some (.cells (cells noC (.slice none 0 0)) 52 (0, 0))) := m1
  have M2 : Hid (Lies w2 (w.heap.size + 1 + 1) 52 (half ⟨kd, bf, st, bx, ro, vw, g, n, o⟩) (.slice none 0 0)) := m2
  have c20 := m2.c 2
  have c21 := m2.c 3
  have c22 := m2.c 4
  have c23 := m2.c 5
  have f20 := m2.f 2
  have f21 := m2.f 3
  have f22 := m2.f 4
  have f23 := m2.f 5
  have c06 := m0.c 6
  have c07 := m0.c 7
  have c08 := m0.c 8
  simp only [cells, half] at c20 c21 c22 c23 c06 c07 c08
  have HB4 : Hid (Below w.heap.size w w2) := b4
  clear k0 k1 k2 hb2 b3 sz hown m0 m1 m2 b4 HTI HA HW
  go_wp2_with fail
  have X : Cn := ⟨kd, bf, st, bx, ro, vw, g, n, o⟩
  have b5 : Below w.heap.size w (putI w2 (w.heap.size + 1 + 1) ⟨kd, bf, st, bx, ro, vw, g, n, o⟩ (.slice aV vw.length cV)) := putI_below HB4.out (by omega)
  have n2 : Lies (putI w2 (w.heap.size + 1 + 1) ⟨kd, bf, st, bx, ro, vw, g, n, o⟩ (.slice aV vw.length cV)) (w.heap.size + 1 + 1) 52 (most ⟨kd, bf, st, bx, ro, vw, g, n, o⟩) (.slice aV vw.length cV) := M2.out.putI
  have n1 : (putI w2 (w.heap.size + 1 + 1) ⟨kd, bf, st, bx, ro, vw, g, n, o⟩ (.slice aV vw.length cV)).heap[w.heap.size + 1]? = some (.cells (cells noC (.slice none 0 0)) 52 (0, 0)) := (putI_other (by omega)).trans M1.out
  have s3 : (putI w2 (w.heap.size + 1 + 1) ⟨kd, bf, st, bx, ro, vw, g, n, o⟩ (.slice aV vw.length cV)).heap.size = w2.heap.size := putI_size
  have ow3 : (putI w2 (w.heap.size + 1 + 1) ⟨kd, bf, st, bx, ro, vw, g, n, o⟩ (.slice aV vw.length cV)).ownsRow W.heap.size 3 1 (.slice aV vw.length cV) vw.length (vw.map (Value.int .i64)) := im.own_block HOWN.out (fun q hq => putI_other (by have := HSZ.out; omega))
  refine (toNntp_any g n o (putI w2 (w.heap.size + 1 + 1) ⟨kd, bf, st, bx, ro, vw, g, n, o⟩ (.slice aV vw.length cV))).mono ?_
  rintro e w4 ⟨rfl, hb4⟩
  generalize putI w2 (w.heap.size + 1 + 1) ⟨kd, bf, st, bx, ro, vw, g, n, o⟩ (.slice aV vw.length cV) = w3 at b5 n2 n1 s3 ow3 hb4
  have q1 := (hb4.block (w.heap.size + 1) (by omega)).trans n1
  have q2 := n2.keep hb4
  have b6 := b5.trans (hb4.mono b5.size)
  have OW4 : Hid (w4.ownsRow W.heap.size 3 1 (.slice aV vw.length cV) vw.length (vw.map (Value.int .i64))) := ow.own_below ow3 hb4
  have Q1 : Hid (w4.heap[w.heap.size + 1]? = some (.cells (cells noC (.slice none 0 0)) 52 (0, 0))) := q1
  have Q2 : Hid (Lies w4 (w.heap.size + 1 + 1) 52 (most ⟨kd, bf, st, bx, ro, vw, g, n, o⟩) (.slice aV vw.length cV)) := q2
  have HB6 : Hid (Below w.heap.size w w4) := b6
  clear b5 n2 n1 s3 ow3 hb4 b6 HOWN M0 M1 M2 HB4 c20 c21 c22 c23 f20 f21 f22 f23 c06 c07 c08 hs2 X
  have c0 := q2.c 0
  have c1 := q2.c 1
  have c2 := q2.c 2
  have c3 := q2.c 3
  have c4 := q2.c 4
  have c5 := q2.c 5
  have c6 := q2.c 6
  have c7 := q2.c 7
  have c8 := q2.c 8
  have d0 : ∀ j, w4.cell? ⟨w.heap.size + 1, j, none⟩ = (cells noC (.slice none 0 0))[j]? := fun j => by rw [cell_of_row w4 _ _ _ _ _ q1]
  have e0 := d0 0
  have e1 := d0 1
  have e2 := d0 2
  have e3 := d0 3
  have e4 := d0 4
  have e5 := d0 5
  have e6 := d0 6
  have e7 := d0 7
  have e8 := d0 8
  have f1 : ∀ j, w4.frozen? ⟨w.heap.size + 1, j, none⟩ = false := fun j => frozen_of_row w4 _ j _ _ q1
  have f2 : ∀ j, w4.frozen? ⟨w.heap.size + 1 + 1, j, none⟩ = false := fun j => q2.f j
  simp only [cells, most, noC] at c0 c1 c2 c3 c4 c5 c6 c7 c8 e0 e1 e2 e3 e4 e5 e6 e7 e8
  clear q1 q2 d0
  go_wp2
  change bodyPost _ _ _ _ _ (putA (putN w4 (w.heap.size + 1 + 1) ⟨kd, bf, st, bx, ro, vw, g, n, o⟩) (w.heap.size + 1) ⟨kd, bf, st, bx, ro, vw, g, n, o⟩ (.slice aV vw.length cV))
  have L5 : Lies (putA (putN w4 (w.heap.size + 1 + 1) ⟨kd, bf, st, bx, ro, vw, g, n, o⟩) (w.heap.size + 1) ⟨kd, bf, st, bx, ro, vw, g, n, o⟩ (.slice aV vw.length cV)) (w.heap.size + 1) 52 ⟨kd, bf, st, bx, ro, vw, g, n, o⟩ (.slice aV vw.length cV) := putA_lies (y := noC) (u := .slice none 0 0) ((putN_other (by omega)).trans Q1.out)
  have B5 : Below w.heap.size w (putA (putN w4 (w.heap.size + 1 + 1) ⟨kd, bf, st, bx, ro, vw, g, n, o⟩) (w.heap.size + 1) ⟨kd, bf, st, bx, ro, vw, g, n, o⟩ (.slice aV vw.length cV)) := putA_below (putN_below HB6.out (by omega)) (by omega)
  have O5 : (putA (putN w4 (w.heap.size + 1 + 1) ⟨kd, bf, st, bx, ro, vw, g, n, o⟩) (w.heap.size + 1) ⟨kd, bf, st, bx, ro, vw, g, n, o⟩ (.slice aV vw.length cV)).ownsRow w.heap.size 3 1 (.slice aV vw.length cV) vw.length (vw.map (Value.int .i64)) :=
    im.own_mono (im.own_block OW4.out (fun q hq => (putA_other (by have := HSZ.out; omega)).trans (putN_other (by have := HSZ.out; omega)))) (by have := HSZ.out; omega)
  generalize putA _ _ _ _ = W5 at L5 B5 O5 ⊢
  have x0 := L5.c 0
  have x1 := L5.c 1
  have x2 := L5.c 2
  have x3 := L5.c 3
  have x4 := L5.c 4
  have x5 := L5.c 5
  have x6 := L5.c 6
  have x7 := L5.c 7
  have x8 := L5.c 8
  simp only [cells] at x0 x1 x2 x3 x4 x5 x6 x7 x8
  refine bodyPost_ret (v := .agg #[.int .i64 kd, .string bf, .int .i64 st, .string bx, .bool ro, .slice aV vw.length cV, .string g, .int .i64 n, .bool o]) (by simp [results, Tryz.results34, go_sem, x0, x1, x2, x3, x4, x5, x6, x7, x8]) rfl ⟨_, rfl, O5, B5⟩

theorem infoCn : (Tryz.prog.info? 52).map (fun i => (i.zero, i.size, i.bytes)) = some (some (.agg (cells noC (.slice none 0 0))), 9, 112) := by kernel_rfl
/-- The first k connections lie in a row. -/
def Lay (xs : List Cn) (us : Nat → Value) (k : Nat) (ys : List Value) : Prop := ∀ j, j < k → ∀ q, q < 9 → ys[j * 9 + q]? = (cells (xs.getD j noC) (us j))[q]?
def upd (us : Nat → Value) (k : Nat) (v : Value) : Nat → Value := fun j => if j = k then v else us j
/-- Nine values behind each other are set. -/
def set9 (ys : List Value) (o : Nat) (x : Cn) (v : Value) : List Value := (((((((((ys.set o (.int .i64 x.kd)).set (o + 1) (.string x.bf)).set (o + 2) (.int .i64 x.st)).set (o + 3) (.string x.bx)).set (o + 4) (.bool x.ro)).set (o + 5) v).set (o + 6) (.string x.g)).set (o + 7) (.int .i64 x.n)).set (o + 8) (.bool x.o))
theorem set9_len (ys : List Value) (o : Nat) (x : Cn) (v : Value) : (set9 ys o x v).length = ys.length := by simp [set9]
theorem set9_other {ys : List Value} {o j : Nat} {x : Cn} {v : Value} (h : j < o ∨ o + 8 < j) : (set9 ys o x v)[j]? = ys[j]? := by
  unfold set9
  rw [List.getElem?_set_ne (by omega), List.getElem?_set_ne (by omega), List.getElem?_set_ne (by omega), List.getElem?_set_ne (by omega), List.getElem?_set_ne (by omega), List.getElem?_set_ne (by omega), List.getElem?_set_ne (by omega), List.getElem?_set_ne (by omega), List.getElem?_set_ne (by omega)]
theorem set9_at {ys : List Value} {o q : Nat} {x : Cn} {v : Value} (h : o + 8 < ys.length) (hq : q < 9) : (set9 ys o x v)[o + q]? = (cells x v)[q]? := by
  have hc : q = 0 ∨ q = 1 ∨ q = 2 ∨ q = 3 ∨ q = 4 ∨ q = 5 ∨ q = 6 ∨ q = 7 ∨ q = 8 := by omega
  unfold set9
  rcases hc with rfl | rfl | rfl | rfl | rfl | rfl | rfl | rfl | rfl <;> simp [List.getElem?_set, cells] <;> omega
theorem lay_step {xs : List Cn} {us : Nat → Value} {k : Nat} {ys : List Value} (h : Lay xs us k ys) (hl : k * 9 + 8 < ys.length) {x : Cn} (hx : xs.getD k noC = x) (V : Value) : Lay xs (upd us k V) (k + 1) (set9 ys (k * 9) x V) := by
  intro j hj q hq
  by_cases e : j = k
  · subst e
    rw [hx, set9_at hl hq]
    unfold upd
    rw [if_pos rfl]
  · rw [set9_other (by omega)]
    have := h j (by omega) q hq
    unfold upd
    rw [if_neg e]
    exact this
theorem conns_lay {w : World} {base e g n cap : Nat} {xs : List Cn} {us : Nat → Value} {ys : List Value} (hn : n = xs.length) (h : w.ownsRow base e 9 (.slice (some ⟨g, 0, none⟩) n cap) n ys) (hl : Lay xs us n ys) (hv : ∀ j, j < n → View w g (us j) (xs.getD j noC).vw) : ConnsAt w (.slice (some ⟨g, 0, none⟩) n cap) xs us := by
  subst hn
  refine ⟨⟨_, cap, rfl, .inr ⟨g, 0, rfl, fun j hj q hq => ?_⟩⟩, fun j hj => view_reads (hv j hj)⟩
  rw [Nat.zero_add, h.cellAt (j * 9 + q) (by omega), hl j hj q hq]

set_option maxHeartbeats 4000000 in
set_option maxRecDepth 100000 in
theorem toConnS_any (v : Value) (xs : List Cn) (vs : Nat → Value) (w : World) (h : ConnsAt w v xs vs) (hs : Smalls xs) :
    Calls Tryz.prog 14 #[v] w fun e w' => e = .returned (.slice (some ⟨w.heap.size, 0, none⟩) xs.length xs.length) ∧ (∃ us, ConnsAt w' (.slice (some ⟨w.heap.size, 0, none⟩) xs.length xs.length) xs us ∧ ∀ j, j < xs.length → View w' w.heap.size (us j) (xs.getD j noC).vw) ∧ Below w.heap.size w w' := by
  have HALL : Hid (∀ W, Below w.heap.size w W → ConnsAt W v xs vs) := fun W hW => conns_below h hW
  obtain ⟨⟨a, cap, rfl, hc1⟩, _⟩ := h
  obtain ⟨i0, hi, hz0, hz1, hz2⟩ := info_parts infoCn
  obtain ⟨n, hn⟩ : ∃ n, n = xs.length := ⟨_, rfl⟩
  have HN : Hid (n = xs.length) := hn
  have H1 : Hid (xs = [] ∨ ∃ b off, a = some ⟨b, off, none⟩ ∧ ∀ j, j < xs.length → At9 w b (off + j * 9) (xs.getD j noC) (vs j)) := hc1
  have HS : Hid (Smalls xs) := hs
  have hl : n ≤ 1048576 := by rw [hn]; exact hs.1
  rw [← hn] at HALL ⊢
  clear hc1 hs hn
  go_enter Tryz.func14, Tryz.ntmps14
  go_wp2_with (at_make; refine wpList_make_full _ rfl _ _ 36 rfl w.heap.size 52 i0 _ 9 Tryz.underlying36 hi hz0 hz1 _ _ _ _ n rfl rfl rfl rfl (by rw [hz2]; omega) (by unfold maxLen; omega) (Nat.le_refl _) ?_; intro w1 hown1 hg1)
  have hb1 : Below w.heap.size w w1 := (Below.refl _ _).grown hg1 (Nat.le_refl _) (fun k hk => by cases hk)
  clear hg1
  go_loopw [4] (fun i wr => ∃ (k : Nat) (ys : List Value) (us : Nat → Value), k ≤ n ∧ i = .int .i64 k ∧ ys.length = n * 9 ∧ Lay xs us k ys ∧ (∀ j, j < k → View wr w.heap.size (us j) (xs.getD j noC).vw) ∧ wr.ownsRow w.heap.size 52 9 (.slice (some ⟨w.heap.size, 0, none⟩) n n) n ys ∧ Below w.heap.size w wr) (fun i _ => n - (intOf i).toNat)
  case atStart => exact ⟨0, _, fun _ => .slice none 0 0, Nat.zero_le _, rfl, hown1.1.symm ▸ rfl, fun j hj => absurd hj (Nat.not_lt_zero _), fun j hj => absurd hj (Nat.not_lt_zero _), hown1, hb1⟩
  case round =>
    clear hown1 hb1
    obtain ⟨k, ys, us, hk, rfl, hyl, hm, hv, hown, hbw⟩ := hrel
    have HM : Hid (Lay xs us k ys) := hm
    have HL : Hid (ys.length = n * 9) := hyl
    have HV : Hid (∀ j, j < k → View wr w.heap.size (us j) (xs.getD j noC).vw) := hv
    clear hm hyl hv
    by_cases hlt : k < n
    · have hka : k < xs.length := by rw [← HN.out]; exact hlt
      rcases H1.out with e | ⟨b, off, rfl, hcells⟩
      · rw [e] at hka; simp at hka
      have hat := (hcells k hka).keep hbw (hcells k hka).lt
      have hr1 := (HALL.out wr hbw).2 k hka
      have hsm := HS.out.2 k hka
      clear hcells hka
      generalize hx : xs.getD k noC = x at hat hr1 hsm
      have HX : Hid (xs.getD k noC = x) := hx
      clear hx
      generalize vs k = q at hat hr1
      have HTC : Hid (Calls Tryz.prog 34 #[.agg (cells x q)] wr fun e w' => ∃ V, e = .returned (.agg (cells x V)) ∧ w'.ownsRow wr.heap.size 3 1 V x.vw.length (x.vw.map (Value.int .i64)) ∧ Below wr.heap.size wr w') := toConn_any x q wr hr1 hsm.2.2.1
      have c0 := hat 0 (by omega)
      have c1 := hat 1 (by omega)
      have c2 := hat 2 (by omega)
      have c3 := hat 3 (by omega)
      have c4 := hat 4 (by omega)
      have c5 := hat 5 (by omega)
      have c6 := hat 6 (by omega)
      have c7 := hat 7 (by omega)
      have c8 := hat 8 (by omega)
      obtain ⟨a2, cap2, rfl, _⟩ := hr1
      obtain ⟨kd, bf, st, bx, ro, vw, g, m, o⟩ := x
      simp only [cells, Nat.add_zero] at c0 c1 c2 c3 c4 c5 c6 c7 c8 HTC
      have hlt' : (k : Int) < (n : Int) := by omega
      clear hat hsm
      go_wp2_with fail
      refine HTC.out.mono ?_
      rintro e w2 ⟨V, rfl, hoV, hb2⟩
      have hown2 := ow.own_below hown hb2
      have hbw2 := hbw.trans (hb2.mono hbw.size)
      have hRlt : w.heap.size < wr.heap.size := (hown.lt _ rfl).2
      have HVV : Hid (View w2 w.heap.size V vw) := view_own hoV hRlt
      have HV2 : Hid (∀ j, j < k → View w2 w.heap.size (us j) (xs.getD j noC).vw) := fun j hj => view_below (HV.out j hj) hb2
      have HO : Hid (w2.ownsRow w.heap.size 52 9 (.slice (some ⟨w.heap.size, 0, none⟩) n n) n ys) := hown2
      have HB2 : Hid (Below w.heap.size w w2) := hbw2
      have HLY : Hid (Lay xs (upd us k V) (k + 1) (set9 ys (k * 9) ⟨kd, bf, st, bx, ro, vw, g, m, o⟩ V)) := lay_step HM.out (by rw [HL.out]; omega) HX.out V
      obtain ⟨aV, cV, rfl⟩ := im.own_form hoV
      clear hb2 hbw hown hbw2 hoV c0 c1 c2 c3 c4 c5 c6 c7 c8 HTC hRlt
      have q0 := hown2.cellAt (k * 9) (by omega)
      have q1 := hown2.cellAt (k * 9 + 1) (by omega)
      have q2 := hown2.cellAt (k * 9 + 2) (by omega)
      have q3 := hown2.cellAt (k * 9 + 3) (by omega)
      have q4 := hown2.cellAt (k * 9 + 4) (by omega)
      have q5 := hown2.cellAt (k * 9 + 5) (by omega)
      have q6 := hown2.cellAt (k * 9 + 6) (by omega)
      have q7 := hown2.cellAt (k * 9 + 7) (by omega)
      have q8 := hown2.cellAt (k * 9 + 8) (by omega)
      rw [List.getElem?_eq_getElem (by rw [HL.out]; omega)] at q0 q1 q2 q3 q4 q5 q6 q7 q8
      have f0 := hown2.frozenAt (k * 9)
      have f1 := hown2.frozenAt (k * 9 + 1)
      have f2 := hown2.frozenAt (k * 9 + 2)
      have f3 := hown2.frozenAt (k * 9 + 3)
      have f4 := hown2.frozenAt (k * 9 + 4)
      have f5 := hown2.frozenAt (k * 9 + 5)
      have f6 := hown2.frozenAt (k * 9 + 6)
      have f7 := hown2.frozenAt (k * 9 + 7)
      have f8 := hown2.frozenAt (k * 9 + 8)
      clear hown2
      generalize ys[k * 9]'(by rw [HL.out]; omega) = u0 at q0
      generalize ys[k * 9 + 1]'(by rw [HL.out]; omega) = u1 at q1
      generalize ys[k * 9 + 2]'(by rw [HL.out]; omega) = u2 at q2
      generalize ys[k * 9 + 3]'(by rw [HL.out]; omega) = u3 at q3
      generalize ys[k * 9 + 4]'(by rw [HL.out]; omega) = u4 at q4
      generalize ys[k * 9 + 5]'(by rw [HL.out]; omega) = u5 at q5
      generalize ys[k * 9 + 6]'(by rw [HL.out]; omega) = u6 at q6
      generalize ys[k * 9 + 7]'(by rw [HL.out]; omega) = u7 at q7
      generalize ys[k * 9 + 8]'(by rw [HL.out]; omega) = u8 at q8
      go_wp2
      go_roundw
      case rel => exact ⟨k + 1, set9 ys (k * 9) ⟨kd, bf, st, bx, ro, vw, g, m, o⟩ (.slice aV vw.length cV), upd us k (.slice aV vw.length cV), by omega, by go_num, by rw [set9_len]; exact HL.out, HLY.out, fun j hj => by
          have hvj : View w2 w.heap.size (upd us k (.slice aV vw.length cV) j) (xs.getD j noC).vw := by
            unfold upd
            by_cases e : j = k
            · subst e; rw [if_pos rfl, HX.out]; exact HVV.out
            · rw [if_neg e]; exact HV2.out j (by omega)
          exact view_set (view_set (view_set (view_set (view_set (view_set (view_set (view_set (view_set hvj _ _) _ _) _ _) _ _) _ _) _ _) _ _) _ _) _ _, ((((((((((((((((((HO.out.stored _ _).1.stored _ _).1.stored _ _).1.stored _ _).1.stored _ _).1.stored _ _).1.stored _ _).1.stored _ _).1.stored _ _).1))))))))), ((((((((HB2.out.setCell (Nat.le_refl _) _).setCell (Nat.le_refl _) _).setCell (Nat.le_refl _) _).setCell (Nat.le_refl _) _).setCell (Nat.le_refl _) _).setCell (Nat.le_refl _) _).setCell (Nat.le_refl _) _).setCell (Nat.le_refl _) _).setCell (Nat.le_refl _) _⟩
      case measure => simp [intOf]; omega
    · have HQ : Hid (ConnsAt wr (.slice (some ⟨w.heap.size, 0, none⟩) n n) xs us) := conns_lay HN.out hown (fun j hj => HM.out j (by omega)) (fun j hj => HV.out j (by omega))
      have HQV : Hid (∀ j, j < n → View wr w.heap.size (us j) (xs.getD j noC).vw) := fun j hj => HV.out j (by omega)
      go_wp2
      go_ret
      exact ⟨rfl, ⟨_, HQ.out, HQV.out⟩, hbw⟩
end Go.Proofs.YtncnbhekgkemfaaGreatDoor.cn

namespace Go.Proofs.YtncnbhekgkemfaaGreatDoor.cn
open Go.RowKit
open gr
open im (Im)
open ow (Reads)
set_option linter.unusedVariables false

set_option maxHeartbeats 1000000 in
set_option maxRecDepth 100000 in
theorem eqNntp_same (g : ByteArray) (n : Int) (o : Bool) (w : World) : Calls Tryz.prog 73 #[.agg #[.string g, .int .i64 n, .bool o], .agg #[.string g, .int .i64 n, .bool o]] w fun e w' => e = .returned (.bool true) ∧ Below w.heap.size w w' := by
  have h0 : (n != n) = false := by simp
  have h2 : (o != o) = false := by simp
  have b0 := (new_below w 50 #[.string g, .int .i64 n, .bool o]).alloc (by simp) (.cells #[.string g, .int .i64 n, .bool o] 50)
  go_enter Tryz.func73, Tryz.ntmps73
  go_wp2
  go_ret
  exact ⟨rfl, b0⟩

set_option maxHeartbeats 2000000 in
set_option maxRecDepth 100000 in
theorem eqConn_same (x : Cn) (v u : Value) (w : World) (h : Reads .i64 w v x.vw) (h' : Reads .i64 w u x.vw) (hn : x.vw.length ≤ 1048576) :
    Calls Tryz.prog 44 #[CV x v, CV x u] w fun e w' => e = .returned (.bool true) ∧ Below w.heap.size w w' := by
  have b0 := (new_below w 52 (cells x v)).alloc (by simp) (.cells (cells x u) 52)
  have L0 := (lies_new w 52 x v).keep (new_below _ 52 (cells x u))
  have M0 := lies_new (w.alloc (.cells (cells x v) 52)) 52 x u
  rw [show (w.alloc (.cells (cells x v) 52)).heap.size = w.heap.size + 1 by simp] at M0
  have HR : Hid (Reads .i64 ((w.alloc (.cells (cells x v) 52)).alloc (.cells (cells x u) 52)) v x.vw ∧ Reads .i64 ((w.alloc (.cells (cells x v) 52)).alloc (.cells (cells x u) 52)) u x.vw) := ⟨im.reads_below h b0, im.reads_below h' b0⟩
  obtain ⟨a, cap, rfl, _⟩ := h
  obtain ⟨a', cap', rfl, _⟩ := h'
  have HE : Hid (∀ W p q, Reads .i64 W p x.vw → Reads .i64 W q x.vw → Calls Tryz.prog 72 #[.agg #[.int .i64 x.st, .string x.bx, .bool x.ro, p], .agg #[.int .i64 x.st, .string x.bx, .bool x.ro, q]] W fun e w' => e = .returned (.bool true) ∧ Below W.heap.size W w') := fun W p q h1 h2 => im.eqImap_same x.im p q W h1 h2 hn
  unfold CV
  obtain ⟨kd, bf, st, bx, ro, vw, g, n, o⟩ := x
  have h0 : (kd != kd) = false := by simp
  simp only [cells] at *
  go_enter Tryz.func44, Tryz.ntmps44
  go_wp2_with fail
  generalize World.alloc _ _ = w0 at b0 L0 M0 HR ⊢
  have HL : Hid (Lies w0 w.heap.size 52 ⟨kd, bf, st, bx, ro, vw, g, n, o⟩ (.slice a vw.length cap)) := L0
  have HM : Hid (Lies w0 (w.heap.size + 1) 52 ⟨kd, bf, st, bx, ro, vw, g, n, o⟩ (.slice a' vw.length cap')) := M0
  clear L0 M0
  refine (HE.out w0 _ _ HR.out.1 HR.out.2).mono ?_
  rintro e w2 ⟨rfl, hb2⟩
  have L2 := HL.out.keep hb2
  have M2 := HM.out.keep hb2
  have b3 := b0.trans (hb2.mono b0.size)
  have c6 := L2.c 6
  have c7 := L2.c 7
  have c8 := L2.c 8
  have d6 := M2.c 6
  have d7 := M2.c 7
  have d8 := M2.c 8
  simp only [cells] at c6 c7 c8 d6 d7 d8
  clear b0 hb2 L2 M2 HL HM HR HE
  go_wp2_with fail
  refine (eqNntp_same g n o w2).mono ?_
  rintro e w3 ⟨rfl, hb3⟩
  have b4 := b3.trans (hb3.mono b3.size)
  clear c6 c7 c8 d6 d7 d8 hb3 b3
  go_wp2
  go_ret
  exact ⟨rfl, b4⟩

set_option maxHeartbeats 2000000 in
set_option maxRecDepth 100000 in
theorem eqConnS_any (v u : Value) (xs : List Cn) (vs us : Nat → Value) (w : World) (h1 : ConnsAt w v xs vs) (h2 : ConnsAt w u xs us) (hs : Smalls xs) :
    Calls Tryz.prog 20 #[v, u] w fun e w' => e = .returned (.bool true) ∧ Below w.heap.size w w' := by
  have HALL : Hid (∀ W, Below w.heap.size w W → ConnsAt W v xs vs ∧ ConnsAt W u xs us) := fun W hW => ⟨conns_below h1 hW, conns_below h2 hW⟩
  obtain ⟨⟨a, cap, rfl, hc1⟩, _⟩ := h1
  obtain ⟨⟨a', cap', rfl, hc2⟩, _⟩ := h2
  obtain ⟨n, hn⟩ : ∃ n, n = xs.length := ⟨_, rfl⟩
  have HN : Hid (n = xs.length) := hn
  have H1 : Hid (xs = [] ∨ ∃ b off, a = some ⟨b, off, none⟩ ∧ ∀ j, j < xs.length → At9 w b (off + j * 9) (xs.getD j noC) (vs j)) := hc1
  have H2 : Hid (xs = [] ∨ ∃ b off, a' = some ⟨b, off, none⟩ ∧ ∀ j, j < xs.length → At9 w b (off + j * 9) (xs.getD j noC) (us j)) := hc2
  have HS : Hid (Smalls xs) := hs
  have hl : n ≤ 1048576 := by rw [hn]; exact hs.1
  rw [← hn] at HALL ⊢
  clear hc1 hc2 hs hn
  go_enter Tryz.func20, Tryz.ntmps20
  go_wp2
  go_loopw [5] (fun i wr => ∃ k : Nat, k ≤ n ∧ i = .int .i64 k ∧ Below w.heap.size w wr) (fun i _ => n - (intOf i).toNat)
  case atStart => exact ⟨0, Nat.zero_le _, rfl, Below.refl _ _⟩
  case round =>
    obtain ⟨k, hk, rfl, hbw⟩ := hrel
    by_cases hlt : k < n
    · have hka : k < xs.length := by rw [← HN.out]; exact hlt
      rcases H1.out with e | ⟨b, off, rfl, hcells⟩
      · rw [e] at hka; simp at hka
      rcases H2.out with e | ⟨b', off', rfl, hcells'⟩
      · rw [e] at hka; simp at hka
      have hat := (hcells k hka).keep hbw (hcells k hka).lt
      have hau := (hcells' k hka).keep hbw (hcells' k hka).lt
      have hr1 := (HALL.out wr hbw).1.2 k hka
      have hr2 := (HALL.out wr hbw).2.2 k hka
      have hsm := HS.out.2 k hka
      clear hcells hcells' hka
      generalize xs.getD k noC = x at hat hau hr1 hr2 hsm
      generalize vs k = q at hat hr1
      generalize us k = r at hau hr2
      have HEQ : Hid (∀ y : Ext wr, Calls Tryz.prog 44 #[.agg (cells x q), .agg (cells x r)] (gw y) fun e w' => e = .returned (.bool true) ∧ Below (gw y).heap.size (gw y) w') := fun y => eqConn_same x q r (gw y) (im.reads_below hr1 (gw_below y)) (im.reads_below hr2 (gw_below y)) hsm.2.2.1
      have c0 := hat 0 (by omega)
      have c1 := hat 1 (by omega)
      have c2 := hat 2 (by omega)
      have c3 := hat 3 (by omega)
      have c4 := hat 4 (by omega)
      have c5 := hat 5 (by omega)
      have c6 := hat 6 (by omega)
      have c7 := hat 7 (by omega)
      have c8 := hat 8 (by omega)
      have d0 := hau 0 (by omega)
      have d1 := hau 1 (by omega)
      have d2 := hau 2 (by omega)
      have d3 := hau 3 (by omega)
      have d4 := hau 4 (by omega)
      have d5 := hau 5 (by omega)
      have d6 := hau 6 (by omega)
      have d7 := hau 7 (by omega)
      have d8 := hau 8 (by omega)
      have HR1 : Hid (Reads .i64 wr q x.vw) := hr1
      have HR2 : Hid (Reads .i64 wr r x.vw) := hr2
      obtain ⟨a2, cap2, rfl, _⟩ := hr1
      obtain ⟨a3, cap3, rfl, _⟩ := hr2
      obtain ⟨kd, bf, st, bx, ro, vw, g, m, o⟩ := x
      simp only [cells, Nat.add_zero] at c0 c1 c2 c3 c4 c5 c6 c7 c8 d0 d1 d2 d3 d4 d5 d6 d7 d8 HEQ
      have hlt' : (k : Int) < (n : Int) := by omega
      clear hat hau hsm
      have hk0 : (0 : Int) ≤ (k : Int) := by omega
      go_wp2_with fail
      have ne := ext_some wr
      have c0 := fun y : Ext wr => gw_cell y c0
      have d0 := fun y : Ext wr => gw_cell y d0
      have c1 := fun y : Ext wr => gw_cell y c1
      have d1 := fun y : Ext wr => gw_cell y d1
      have c2 := fun y : Ext wr => gw_cell y c2
      have d2 := fun y : Ext wr => gw_cell y d2
      have c3 := fun y : Ext wr => gw_cell y c3
      have d3 := fun y : Ext wr => gw_cell y d3
      have c4 := fun y : Ext wr => gw_cell y c4
      have d4 := fun y : Ext wr => gw_cell y d4
      have c5 := fun y : Ext wr => gw_cell y c5
      have d5 := fun y : Ext wr => gw_cell y d5
      have c6 := fun y : Ext wr => gw_cell y c6
      have d6 := fun y : Ext wr => gw_cell y d6
      have c7 := fun y : Ext wr => gw_cell y c7
      have d7 := fun y : Ext wr => gw_cell y d7
      have c8 := fun y : Ext wr => gw_cell y c8
      have d8 := fun y : Ext wr => gw_cell y d8
      refine region_lit (by kernel_rfl) (by kernel_rfl) ?_
      repeat (go_big_quiet_step ((go_at_call 44; exact grow_of (HEQ.out _))))
      refine wpQuiet_nil ?_
      rintro W' ⟨y, rfl⟩
      have b2 := hbw.trans ((gw_below y).mono hbw.size)
      generalize gw y = W' at b2 ⊢
      clear hbw c0 c1 c2 c3 c4 c5 c6 c7 c8 d0 d1 d2 d3 d4 d5 d6 d7 d8 HR1 HR2 HEQ
      go_wp2
      go_roundw
      case rel => exact ⟨k + 1, by omega, by go_num, b2⟩
      case measure => simp [intOf]; omega
    · go_wp2
      go_ret
      exact ⟨rfl, hbw⟩
end Go.Proofs.YtncnbhekgkemfaaGreatDoor.cn
