/-
  A world, copied by the law's own function.
-/
import Derived.Test.YtncnbhekgkemfaaGreatDoorPkap

namespace Go.Proofs.YtncnbhekgkemfaaGreatDoor.cn
open Go.RowKit
open bx (Bx BoxesAt noB)
open ow (Reads)
set_option linter.unusedVariables false

def putE (w : World) (g : Nat) (r : Int) (d : ByteArray) (s : Int) (v : Value) : World := (((w.setCell ⟨g, 0, none⟩ (.int .i64 r)).setCell ⟨g, 1, none⟩ (.string d)).setCell ⟨g, 2, none⟩ (.int .i64 s)).setCell ⟨g, 3, none⟩ v
def putW (w : World) (g : Nat) (r : Int) (d : ByteArray) (s : Int) (v c : Value) : World := (putE w g r d s v).setCell ⟨g, 4, none⟩ c
theorem putE_other {w : World} {g k : Nat} {r : Int} {d : ByteArray} {s : Int} {v : Value} (h : k ≠ g) : (putE w g r d s v).heap[k]? = w.heap[k]? := by
  unfold putE
  rw [set_other h, set_other h, set_other h, set_other h]
theorem putW_other {w : World} {g k : Nat} {r : Int} {d : ByteArray} {s : Int} {v c : Value} (h : k ≠ g) : (putW w g r d s v c).heap[k]? = w.heap[k]? := by
  unfold putW
  rw [set_other h, putE_other h]
theorem putE_below {B g : Nat} {w0 w : World} {r : Int} {d : ByteArray} {s : Int} {v : Value} (k : Below B w0 w) (hb : B ≤ g) : Below B w0 (putE w g r d s v) :=
  (((k.setCell (p := ⟨g, 0, none⟩) hb _).setCell (p := ⟨g, 1, none⟩) hb _).setCell (p := ⟨g, 2, none⟩) hb _).setCell (p := ⟨g, 3, none⟩) hb _
theorem putW_below {B g : Nat} {w0 w : World} {r : Int} {d : ByteArray} {s : Int} {v c : Value} (k : Below B w0 w) (hb : B ≤ g) : Below B w0 (putW w g r d s v c) := (putE_below k hb).setCell (p := ⟨g, 4, none⟩) hb _
theorem putE_size {w : World} {g : Nat} {r : Int} {d : ByteArray} {s : Int} {v : Value} : (putE w g r d s v).heap.size = w.heap.size := by unfold putE; simp
theorem putW_size {w : World} {g : Nat} {r : Int} {d : ByteArray} {s : Int} {v c : Value} : (putW w g r d s v c).heap.size = w.heap.size := by unfold putW putE; simp
theorem four {w : World} {b : Nat} {T : TypeId} {a0 a1 a2 a3 a4 : Value} (h : w.heap[b]? = some (.cells #[a0, a1, a2, a3, a4] T (0, 0))) (r : Int) (d : ByteArray) (s : Int) (v : Value) : (putE w b r d s v).heap[b]? = some (.cells #[.int .i64 r, .string d, .int .i64 s, v, a4] T (0, 0)) := by
  have h0 : (w.setCell ⟨b, 0, none⟩ (.int .i64 r)).heap[b]? = some (.cells #[.int .i64 r, a1, a2, a3, a4] T (0, 0)) := heap_setCell_same _ b 0 _ _ _ h
  have h1 : ((w.setCell ⟨b, 0, none⟩ (.int .i64 r)).setCell ⟨b, 1, none⟩ (.string d)).heap[b]? = some (.cells #[.int .i64 r, .string d, a2, a3, a4] T (0, 0)) := heap_setCell_same _ b 1 _ _ _ h0
  have h2 : (((w.setCell ⟨b, 0, none⟩ (.int .i64 r)).setCell ⟨b, 1, none⟩ (.string d)).setCell ⟨b, 2, none⟩ (.int .i64 s)).heap[b]? = some (.cells #[.int .i64 r, .string d, .int .i64 s, a3, a4] T (0, 0)) := heap_setCell_same _ b 2 _ _ _ h1
  exact heap_setCell_same _ b 3 _ _ _ h2
theorem five {w : World} {b : Nat} {T : TypeId} {a0 a1 a2 a3 a4 : Value} (h : w.heap[b]? = some (.cells #[a0, a1, a2, a3, a4] T (0, 0))) (r : Int) (d : ByteArray) (s : Int) (v c : Value) : LiesW (putW w b r d s v c) b T r d s v c :=
  heap_setCell_same _ b 4 _ _ _ (four h r d s v)

set_option maxHeartbeats 4000000 in
set_option maxRecDepth 100000 in
theorem toWorld_any (r : Int) (d : ByteArray) (s : Int) (v c : Value) (xs : List Bx) (vs : Nat → Value × Value) (cs : List Cn) (us : Nat → Value) (w : World) (h : BoxesAt w v xs vs) (hs : bx.Smalls xs) (hc : ConnsAt w c cs us) (hcs : Smalls cs) :
    Calls Tryz.prog 6 #[WV r d s v c] w fun e w' => ∃ B C qs ps, e = .returned (WV r d s (.slice (some ⟨B, 0, none⟩) xs.length xs.length) (.slice (some ⟨C, 0, none⟩) cs.length cs.length)) ∧ BoxesAt w' (.slice (some ⟨B, 0, none⟩) xs.length xs.length) xs qs ∧ (∀ j, j < xs.length → ∀ a n c, (qs j).2 = .slice a n c → n ≤ c) ∧ ConnsAt w' (.slice (some ⟨C, 0, none⟩) cs.length cs.length) cs ps ∧ Below w.heap.size w w' := by
  have HTE : Hid (∀ W, Below w.heap.size w W → Calls Tryz.prog 13 #[.agg #[.int .i64 r, .string d, .int .i64 s, v]] W fun e w' => ∃ B u us, e = .returned (.agg #[.int .i64 r, .string d, .int .i64 s, u]) ∧ eg.CopyB w' B u xs us ∧ W.heap.size ≤ B ∧ Below W.heap.size W w') := fun W hW => eg.toEngine_any r d s v xs vs W (bx.boxes_below h hW) hs
  have HTC : Hid (∀ W, Below w.heap.size w W → Calls Tryz.prog 14 #[c] W fun e w' => e = .returned (.slice (some ⟨W.heap.size, 0, none⟩) cs.length cs.length) ∧ (∃ us, ConnsAt w' (.slice (some ⟨W.heap.size, 0, none⟩) cs.length cs.length) cs us ∧ ∀ j, j < cs.length → View w' W.heap.size (us j) (cs.getD j noC).vw) ∧ Below W.heap.size W w') := fun W hW => toConnS_any c cs us W (conns_below hc hW) hcs
  obtain ⟨⟨a, cap, rfl, _⟩, _⟩ := h
  obtain ⟨⟨a2, cap2, rfl, _⟩, _⟩ := hc
  obtain ⟨W, hW⟩ : ∃ W, W = ((w.alloc (.cells #[.int .i64 r, .string d, .int .i64 s, .slice a xs.length cap, .slice a2 cs.length cap2] 29)).alloc (.cells #[.int .i64 0, .string ⟨#[]⟩, .int .i64 0, .slice none 0 0, .slice none 0 0] 38)).alloc (.cells #[.int .i64 0, .string ⟨#[]⟩, .int .i64 0, .slice none 0 0, .slice none 0 0] 38) := ⟨_, rfl⟩
  have b3 : Below w.heap.size w W := by rw [hW]; exact ((new_below w _ _).alloc (by simp) _).alloc (by simp; omega) _
  have sz : W.heap.size = w.heap.size + 3 := by rw [hW]; simp
  have k0 : LiesW W w.heap.size 29 r d s (.slice a xs.length cap) (.slice a2 cs.length cap2) := by
    rw [hW]; exact ((liesW_new w 29 r d s (.slice a xs.length cap) (.slice a2 cs.length cap2)).keep (new_below _ _ _)).keep (new_below _ _ _)
  have k1 : W.heap[w.heap.size + 1]? = some (.cells #[.int .i64 0, .string ⟨#[]⟩, .int .i64 0, .slice none 0 0, .slice none 0 0] 38 (0, 0)) := by rw [hW]; exact im.new1 _ _ _ _
  have k2 : W.heap[w.heap.size + 1 + 1]? = some (.cells #[.int .i64 0, .string ⟨#[]⟩, .int .i64 0, .slice none 0 0, .slice none 0 0] 38 (0, 0)) := by rw [hW]; exact im.new2 _ _ _ _
  have HW : Hid (((w.alloc (.cells #[.int .i64 r, .string d, .int .i64 s, .slice a xs.length cap, .slice a2 cs.length cap2] 29)).alloc (.cells #[.int .i64 0, .string ⟨#[]⟩, .int .i64 0, .slice none 0 0, .slice none 0 0] 38)).alloc (.cells #[.int .i64 0, .string ⟨#[]⟩, .int .i64 0, .slice none 0 0, .slice none 0 0] 38) = W) := hW.symm
  clear hW hs hcs
  unfold WV
  go_enter Tryz.func6, Tryz.ntmps6
  go_wp2_with fail
  rw [HW.out]
  refine (HTE.out W b3).mono ?_
  rintro e w2 ⟨B, u, qs, rfl, ⟨rfl, hB, hM, hcap⟩, hWB, hb2⟩
  have m0 := k0.keep hb2
  have m1 := (hb2.block (w.heap.size + 1) (by omega)).trans k1
  have m2 := (hb2.block (w.heap.size + 1 + 1) (by omega)).trans k2
  have b4 := b3.trans (hb2.mono b3.size)
  have HM0 : Hid (LiesW w2 w.heap.size 29 r d s (.slice a xs.length cap) (.slice a2 cs.length cap2)) := m0
  have HM1 : Hid (w2.heap[w.heap.size + 1]? = some (.cells #[.int .i64 0, .string ⟨#[]⟩, .int .i64 0, .slice none 0 0, .slice none 0 0] 38 (0, 0))) := m1
  have HM2 : Hid (w2.heap[w.heap.size + 1 + 1]? = some (.cells #[.int .i64 0, .string ⟨#[]⟩, .int .i64 0, .slice none 0 0, .slice none 0 0] 38 (0, 0))) := m2
  have HBX : Hid (BoxesAt w2 (.slice (some ⟨B, 0, none⟩) xs.length xs.length) xs qs ∧ bx.Mine w2 B xs qs) := ⟨hB, hM⟩
  have HCP : Hid (∀ j, j < xs.length → ∀ a n c, (qs j).2 = .slice a n c → n ≤ c) := hcap
  have HBB : Hid (w.heap.size + 3 ≤ B) := (show w.heap.size + 3 ≤ B by omega)
  have HB4 : Hid (Below w.heap.size w w2) := b4
  have f20 : ∀ j, w2.frozen? ⟨w.heap.size + 1 + 1, j, none⟩ = false := fun j => frozen_of_row w2 _ j _ _ m2
  have c04 := m0.c4
  have c20 : w2.cell? ⟨w.heap.size + 1 + 1, 0, none⟩ = some (.int .i64 0) := by rw [cell_of_row w2 _ _ _ _ _ m2]; rfl
  have c21 : w2.cell? ⟨w.heap.size + 1 + 1, 0 + 1, none⟩ = some (.string ⟨#[]⟩) := by rw [cell_of_row w2 _ _ _ _ _ m2]; rfl
  have c22 : w2.cell? ⟨w.heap.size + 1 + 1, 0 + 2, none⟩ = some (.int .i64 0) := by rw [cell_of_row w2 _ _ _ _ _ m2]; rfl
  have c23 : w2.cell? ⟨w.heap.size + 1 + 1, 0 + 3, none⟩ = some (.slice none 0 0) := by rw [cell_of_row w2 _ _ _ _ _ m2]; rfl
  clear k0 k1 k2 hb2 b3 sz m0 m1 m2 b4 hB hM hcap hWB HTE HW
  go_wp2_with fail
  have b5 : Below w.heap.size w (putE w2 (w.heap.size + 1 + 1) r d s (.slice (some ⟨B, 0, none⟩) xs.length xs.length)) := putE_below HB4.out (by omega)
  have n2 : (putE w2 (w.heap.size + 1 + 1) r d s (.slice (some ⟨B, 0, none⟩) xs.length xs.length)).heap[w.heap.size + 1 + 1]? = some (.cells #[.int .i64 r, .string d, .int .i64 s, .slice (some ⟨B, 0, none⟩) xs.length xs.length, .slice none 0 0] 38 (0, 0)) := four HM2.out r d s _
  have n1 : (putE w2 (w.heap.size + 1 + 1) r d s (.slice (some ⟨B, 0, none⟩) xs.length xs.length)).heap[w.heap.size + 1]? = some (.cells #[.int .i64 0, .string ⟨#[]⟩, .int .i64 0, .slice none 0 0, .slice none 0 0] 38 (0, 0)) := (putE_other (by omega)).trans HM1.out
  have hoth : ∀ q, B ≤ q → (putE w2 (w.heap.size + 1 + 1) r d s (.slice (some ⟨B, 0, none⟩) xs.length xs.length)).heap[q]? = w2.heap[q]? := fun q hq => putE_other (by have := HBB.out; omega)
  have HB3 := eg.boxes_hi HBX.out.1 HBX.out.2.2 hoth putE_size
  have HR3 := eg.rws_hi HBX.out.2.2 hoth
  have hlt1 : w.heap.size + 1 < (putE w2 (w.heap.size + 1 + 1) r d s (.slice (some ⟨B, 0, none⟩) xs.length xs.length)).heap.size := (Array.getElem?_eq_some_iff.1 n1).1
  have hlt2 : w.heap.size + 1 + 1 < (putE w2 (w.heap.size + 1 + 1) r d s (.slice (some ⟨B, 0, none⟩) xs.length xs.length)).heap.size := (Array.getElem?_eq_some_iff.1 n2).1
  refine (HTC.out (putE w2 (w.heap.size + 1 + 1) r d s (.slice (some ⟨B, 0, none⟩) xs.length xs.length)) b5).mono ?_
  rintro e w4 ⟨rfl, ⟨ps, hcn, hvw⟩, hb4⟩
  generalize putE w2 (w.heap.size + 1 + 1) r d s (.slice (some ⟨B, 0, none⟩) xs.length xs.length) = w3 at b5 n2 n1 HB3 HR3 hlt1 hlt2 hcn hvw hb4 ⊢
  have q1 := (hb4.block (w.heap.size + 1) hlt1).trans n1
  have q2 := (hb4.block (w.heap.size + 1 + 1) hlt2).trans n2
  have HQ1 : Hid (w4.heap[w.heap.size + 1]? = some (.cells #[.int .i64 0, .string ⟨#[]⟩, .int .i64 0, .slice none 0 0, .slice none 0 0] 38 (0, 0))) := q1
  have HQ2 : Hid (w4.heap[w.heap.size + 1 + 1]? = some (.cells #[.int .i64 r, .string d, .int .i64 s, .slice (some ⟨B, 0, none⟩) xs.length xs.length, .slice none 0 0] 38 (0, 0))) := q2
  have HB6 : Hid (Below w.heap.size w w4) := b5.trans (hb4.mono b5.size)
  have HBX4 : Hid (BoxesAt w4 (.slice (some ⟨B, 0, none⟩) xs.length xs.length) xs qs ∧ bx.Rws w4 B xs qs xs.length) := ⟨bx.boxes_below HB3 hb4, bx.rws_below HR3 hb4⟩
  have HCN : Hid (ConnsAt w4 (.slice (some ⟨w3.heap.size, 0, none⟩) cs.length cs.length) cs ps ∧ ∀ j, j < cs.length → View w4 w3.heap.size (ps j) (cs.getD j noC).vw) := ⟨hcn, hvw⟩
  have HL2 : Hid (w.heap.size + 1 + 1 < w3.heap.size) := hlt2
  have d0 : w4.cell? ⟨w.heap.size + 1 + 1, 0, none⟩ = some (.int .i64 r) := by rw [cell_of_row w4 _ _ _ _ _ q2]; rfl
  have d1 : w4.cell? ⟨w.heap.size + 1 + 1, 0 + 1, none⟩ = some (.string d) := by rw [cell_of_row w4 _ _ _ _ _ q2]; rfl
  have d2 : w4.cell? ⟨w.heap.size + 1 + 1, 0 + 2, none⟩ = some (.int .i64 s) := by rw [cell_of_row w4 _ _ _ _ _ q2]; rfl
  have d3 : w4.cell? ⟨w.heap.size + 1 + 1, 0 + 3, none⟩ = some (.slice (some ⟨B, 0, none⟩) xs.length xs.length) := by rw [cell_of_row w4 _ _ _ _ _ q2]; rfl
  have d4 : w4.cell? ⟨w.heap.size + 1 + 1, 0 + 4, none⟩ = some (.slice none 0 0) := by rw [cell_of_row w4 _ _ _ _ _ q2]; rfl
  have d4' : w4.cell? ⟨w.heap.size + 1 + 1, 4, none⟩ = some (.slice none 0 0) := d4
  have e0 : w4.cell? ⟨w.heap.size + 1, 0, none⟩ = some (.int .i64 0) := by rw [cell_of_row w4 _ _ _ _ _ q1]; rfl
  have e1 : w4.cell? ⟨w.heap.size + 1, 0 + 1, none⟩ = some (.string ⟨#[]⟩) := by rw [cell_of_row w4 _ _ _ _ _ q1]; rfl
  have e2 : w4.cell? ⟨w.heap.size + 1, 0 + 2, none⟩ = some (.int .i64 0) := by rw [cell_of_row w4 _ _ _ _ _ q1]; rfl
  have e3 : w4.cell? ⟨w.heap.size + 1, 0 + 3, none⟩ = some (.slice none 0 0) := by rw [cell_of_row w4 _ _ _ _ _ q1]; rfl
  have e4 : w4.cell? ⟨w.heap.size + 1, 0 + 4, none⟩ = some (.slice none 0 0) := by rw [cell_of_row w4 _ _ _ _ _ q1]; rfl
  have f1 : ∀ j, w4.frozen? ⟨w.heap.size + 1, j, none⟩ = false := fun j => frozen_of_row w4 _ j _ _ q1
  have f2 : ∀ j, w4.frozen? ⟨w.heap.size + 1 + 1, j, none⟩ = false := fun j => frozen_of_row w4 _ j _ _ q2
  clear b5 n2 n1 HB3 HR3 hlt1 hlt2 hcn hvw hb4 q1 q2 HM0 HM1 HM2 HBX HB4 f20 c04 c20 c21 c22 c23 hoth HTC
  go_wp2
  change bodyPost _ _ _ _ _ (putW (w4.setCell ⟨w.heap.size + 1 + 1, 4, none⟩ (.slice (some ⟨w3.heap.size, 0, none⟩) cs.length cs.length)) (w.heap.size + 1) r d s (.slice (some ⟨B, 0, none⟩) xs.length xs.length) (.slice (some ⟨w3.heap.size, 0, none⟩) cs.length cs.length))
  have L5 : LiesW (putW (w4.setCell ⟨w.heap.size + 1 + 1, 4, none⟩ (.slice (some ⟨w3.heap.size, 0, none⟩) cs.length cs.length)) (w.heap.size + 1) r d s (.slice (some ⟨B, 0, none⟩) xs.length xs.length) (.slice (some ⟨w3.heap.size, 0, none⟩) cs.length cs.length)) (w.heap.size + 1) 38 r d s (.slice (some ⟨B, 0, none⟩) xs.length xs.length) (.slice (some ⟨w3.heap.size, 0, none⟩) cs.length cs.length) := five ((set_other (by omega)).trans HQ1.out) r d s _ _
  have B5 : Below w.heap.size w (putW (w4.setCell ⟨w.heap.size + 1 + 1, 4, none⟩ (.slice (some ⟨w3.heap.size, 0, none⟩) cs.length cs.length)) (w.heap.size + 1) r d s (.slice (some ⟨B, 0, none⟩) xs.length xs.length) (.slice (some ⟨w3.heap.size, 0, none⟩) cs.length cs.length)) := putW_below (HB6.out.setCell (p := ⟨w.heap.size + 1 + 1, 4, none⟩) (show w.heap.size ≤ w.heap.size + 1 + 1 by omega) _) (by omega)
  have hX : ∀ q, q ≠ w.heap.size + 1 → q ≠ w.heap.size + 1 + 1 → (putW (w4.setCell ⟨w.heap.size + 1 + 1, 4, none⟩ (.slice (some ⟨w3.heap.size, 0, none⟩) cs.length cs.length)) (w.heap.size + 1) r d s (.slice (some ⟨B, 0, none⟩) xs.length xs.length) (.slice (some ⟨w3.heap.size, 0, none⟩) cs.length cs.length)).heap[q]? = w4.heap[q]? := fun q h1 h2 => (putW_other h1).trans (set_other h2)
  have hXs : (putW (w4.setCell ⟨w.heap.size + 1 + 1, 4, none⟩ (.slice (some ⟨w3.heap.size, 0, none⟩) cs.length cs.length)) (w.heap.size + 1) r d s (.slice (some ⟨B, 0, none⟩) xs.length xs.length) (.slice (some ⟨w3.heap.size, 0, none⟩) cs.length cs.length)).heap.size = w4.heap.size := by rw [putW_size]; simp
  have HB5 := eg.boxes_hi HBX4.out.1 HBX4.out.2 (fun q hq => hX q (by have := HBB.out; omega) (by have := HBB.out; omega)) hXs
  have HC5 := conns_hi HCN.out.1 HCN.out.2 (fun q hq => hX q (by have := HL2.out; omega) (by have := HL2.out; omega))
  generalize (putW (w4.setCell ⟨w.heap.size + 1 + 1, 4, none⟩ (.slice (some ⟨w3.heap.size, 0, none⟩) cs.length cs.length)) (w.heap.size + 1) r d s (.slice (some ⟨B, 0, none⟩) xs.length xs.length) (.slice (some ⟨w3.heap.size, 0, none⟩) cs.length cs.length)) = W5 at L5 B5 HB5 HC5 ⊢
  have x0 := L5.c0
  have x1 : W5.cell? ⟨w.heap.size + 1, 1, none⟩ = _ := L5.c1
  have x2 : W5.cell? ⟨w.heap.size + 1, 2, none⟩ = _ := L5.c2
  have x3 : W5.cell? ⟨w.heap.size + 1, 3, none⟩ = _ := L5.c3
  have x4 : W5.cell? ⟨w.heap.size + 1, 4, none⟩ = _ := L5.c4
  exact bodyPost_ret (v := .agg #[.int .i64 r, .string d, .int .i64 s, .slice (some ⟨B, 0, none⟩) xs.length xs.length, .slice (some ⟨w3.heap.size, 0, none⟩) cs.length cs.length]) (by simp [results, Tryz.results6, go_sem, x0, x1, x2, x3, x4]) rfl ⟨_, _, qs, ps, rfl, HB5, HCP.out, HC5, B5⟩
end Go.Proofs.YtncnbhekgkemfaaGreatDoor.cn
