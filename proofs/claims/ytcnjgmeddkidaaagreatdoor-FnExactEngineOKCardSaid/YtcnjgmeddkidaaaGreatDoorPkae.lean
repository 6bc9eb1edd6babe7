/-
  A box: copied by the law's own function.
-/
import Derived.Test.YtcnjgmeddkidaaaGreatDoorPkad

namespace Go.Proofs.YtcnjgmeddkidaaaGreatDoor.bx
open Go.ChangeShapes Go.WideShapes Go.ChangeAt Go.RowKit Go.Deep Go.Joins
open st
set_option linter.unusedVariables false

theorem mails_other {w w' : World} {N M g n cap : Nat} {es : List St} (h : MailsIn w N (.slice (some ⟨g, 0, none⟩) n cap) es) (hb : w'.heap[g]? = w.heap[g]?) (hM : g < N → g < M) : MailsIn w' M (.slice (some ⟨g, 0, none⟩) n cap) es := by
  obtain ⟨a, cp, e, h⟩ := h
  refine ⟨a, cp, e, ?_⟩
  rcases h with h | ⟨b, off, rfl, hgN, h⟩
  · exact .inl h
  · cases e
    refine .inr ⟨g, 0, rfl, hM hgN, fun j hj => ?_⟩
    obtain ⟨h0, h1, h2⟩ := h j hj
    exact ⟨by rw [← h0]; simp only [World.cell?, hb], by rw [← h1]; simp only [World.cell?, hb], by rw [← h2]; simp only [World.cell?, hb]⟩
theorem texts_other {w w' : World} {N M g n cap : Nat} {es : List ByteArray} (h : tx.TextsIn w N (.slice (some ⟨g, 0, none⟩) n cap) es) (hb : w'.heap[g]? = w.heap[g]?) (hM : g < N → g < M) : tx.TextsIn w' M (.slice (some ⟨g, 0, none⟩) n cap) es := by
  obtain ⟨a, cp, e, h⟩ := h
  refine ⟨a, cp, e, ?_⟩
  rcases h with h | ⟨b, off, rfl, hgN, h⟩
  · exact .inl h
  · cases e
    refine .inr ⟨g, 0, rfl, hM hgN, fun j hj => ?_⟩
    rw [← h j hj]; simp only [World.cell?, hb]
theorem heap_new (w : World) (o : Obj) : (w.alloc o).heap[w.heap.size]? = some o := (MapKept.heap_alloc w _).1
theorem new1 (w : World) (o0 o1 o2 : Obj) : (((w.alloc o0).alloc o1).alloc o2).heap[w.heap.size + 1]? = some o1 := by
  have h := heap_new (w.alloc o0) o1
  rw [show (w.alloc o0).heap.size = w.heap.size + 1 by simp] at h
  rw [Below.heap_alloc _ _ _ (by simp), h]
theorem new2 (w : World) (o0 o1 o2 : Obj) : (((w.alloc o0).alloc o1).alloc o2).heap[w.heap.size + 1 + 1]? = some o2 := by
  have h := heap_new ((w.alloc o0).alloc o1) o2
  rw [show ((w.alloc o0).alloc o1).heap.size = w.heap.size + 1 + 1 by simp] at h
  exact h
def zeros (T : TypeId) : Obj := .cells #[.string ⟨#[]⟩, .int .i64 0, .int .i64 0, .slice none 0 0, .slice none 0 0] T (0, 0)
/-- What the copy of a box leaves. -/
def fin (w2 : World) (b : Nat) (x : Bx) (V U : Value) : World := (((((w2.setCell ⟨b + 1 + 1, 4, none⟩ U).setCell ⟨b + 1, 0, none⟩ (.string x.nm)).setCell ⟨b + 1, 1, none⟩ (.int .i64 x.vd)).setCell ⟨b + 1, 2, none⟩ (.int .i64 x.nx)).setCell ⟨b + 1, 3, none⟩ V).setCell ⟨b + 1, 4, none⟩ U
theorem fin_block {w2 : World} {b : Nat} {T : TypeId} {u0 u1 u2 u3 u4 : Value} (h : w2.heap[b + 1]? = some (.cells #[u0, u1, u2, u3, u4] T (0, 0))) (x : Bx) (V U : Value) : Lies (fin w2 b x V U) (b + 1) T x V U := by
  have M1 := (heap_setCell_other w2 ⟨b + 1 + 1, 4, none⟩ (b + 1) U (by simp)).trans h
  have M2 := heap_setCell_same _ (b + 1) 0 _ _ (.string x.nm) M1
  have M3 := heap_setCell_same _ (b + 1) 1 _ _ (.int .i64 x.vd) M2
  have M4 := heap_setCell_same _ (b + 1) 2 _ _ (.int .i64 x.nx) M3
  have M5 := heap_setCell_same _ (b + 1) 3 _ _ V M4
  exact heap_setCell_same _ (b + 1) 4 _ _ U M5
theorem fin_other (w2 : World) (b g : Nat) (x : Bx) (V U : Value) (h1 : g ≠ b + 1) (h2 : g ≠ b + 1 + 1) : (fin w2 b x V U).heap[g]? = w2.heap[g]? := by
  unfold fin
  rw [heap_setCell_other _ _ _ _ h1, heap_setCell_other _ _ _ _ h1, heap_setCell_other _ _ _ _ h1, heap_setCell_other _ _ _ _ h1, heap_setCell_other _ _ _ _ h1, heap_setCell_other _ _ _ _ h2]
theorem fin_below {w w2 : World} {b : Nat} (h : Below b w w2) (x : Bx) (V U : Value) : Below b w (fin w2 b x V U) := by
  unfold fin
  exact (((((h.setCell (by simp; omega) _).setCell (by simp) _).setCell (by simp) _).setCell (by simp) _).setCell (by simp) _).setCell (by simp) _

set_option maxHeartbeats 2000000 in
set_option maxRecDepth 100000 in
theorem toBox_any (x : Bx) (v u : Value) (w : World) (h : RowsAt w v u x.ms x.ks) (hn : x.ms.length ≤ 1048576 ∧ x.ks.length ≤ 1048576) :
    Calls Tryz.prog 51 #[BV x v u] w fun e w' => ∃ g g', e = .returned (BV x (.slice (some ⟨g, 0, none⟩) x.ms.length x.ms.length) (.slice (some ⟨g', 0, none⟩) x.ks.length x.ks.length)) ∧ RowsAt w' (.slice (some ⟨g, 0, none⟩) x.ms.length x.ms.length) (.slice (some ⟨g', 0, none⟩) x.ks.length x.ks.length) x.ms x.ks ∧ Below w.heap.size w w' := by
  have HB : Hid (RowsAt w v u x.ms x.ks) := h
  obtain ⟨⟨a, cap, rfl, _⟩, ⟨a1, cap1, rfl, _⟩⟩ := h
  obtain ⟨W, hW⟩ : ∃ W, W = (((w.alloc (.cells #[.string x.nm, .int .i64 x.vd, .int .i64 x.nx, .slice a x.ms.length cap, .slice a1 x.ks.length cap1] 89)).alloc (.cells #[.string ⟨#[]⟩, .int .i64 0, .int .i64 0, .slice none 0 0, .slice none 0 0] 54)).alloc (.cells #[.string x.nm, .int .i64 x.vd, .int .i64 x.nx, .slice none 0 0, .slice none 0 0] 54)) := ⟨_, rfl⟩
  obtain ⟨nm, vd, nx, ms, ks⟩ := x
  unfold BV
  simp only at HB hn hW ⊢
  go_enter Tryz.func51, Tryz.ntmps51
  go_wp2_with fail
  have b3 : Below w.heap.size w W := by rw [hW]; exact ((new_below w _ _).alloc (by simp) _).alloc (by simp; omega) _
  have sz : W.heap.size = w.heap.size + 3 := by rw [hW]; simp
  have k0 : Lies W w.heap.size 89 ⟨nm, vd, nx, ms, ks⟩ (.slice a ms.length cap) (.slice a1 ks.length cap1) := by
    rw [hW]; exact ((lies_new w 89 ⟨nm, vd, nx, ms, ks⟩ (.slice a ms.length cap) (.slice a1 ks.length cap1)).keep (new_below _ _ _)).keep (new_below _ _ _)
  have k1 : W.heap[w.heap.size + 1]? = some (.cells #[.string ⟨#[]⟩, .int .i64 0, .int .i64 0, .slice none 0 0, .slice none 0 0] 54 (0, 0)) := by rw [hW]; exact new1 _ _ _ _
  have k2 : Lies W (w.heap.size + 1 + 1) 54 ⟨nm, vd, nx, ms, ks⟩ (.slice none 0 0) (.slice none 0 0) := by rw [hW]; exact new2 _ _ _ _
  rw [← hW]
  have HA : Hid (RowsAt W (.slice a ms.length cap) (.slice a1 ks.length cap1) ms ks) := rows_below HB.out b3
  have HB0 : Hid (tx.TextsIn w w.heap.size (.slice a1 ks.length cap1) ks) := HB.out.2
  clear HB hW
  refine (toStoredS_any _ _ ms _ HA.out.1 (Nat.le_refl _) hn.1).mono ?_
  rintro e w2 ⟨rfl, hv', hb2⟩
  have HV : Hid (MailsIn w2 w2.heap.size (.slice (some ⟨W.heap.size, 0, none⟩) ms.length ms.length) ms) := hv'
  clear hv'
  have m0 := k0.keep hb2
  have m1 := (hb2.block (w.heap.size + 1) (by omega)).trans k1
  have m2 := k2.keep hb2
  have b4 := b3.trans (hb2.mono b3.size)
  have HA2 : Hid (RowsAt w2 (.slice a ms.length cap) (.slice a1 ks.length cap1) ms ks) := rows_below HA.out hb2
  have HSZ : Hid (W.heap.size = w.heap.size + 3) := sz
  have HS2 : Hid (W.heap.size ≤ w2.heap.size) := hb2.size
  clear k0 k1 k2 hb2 b3 sz
  have c04 := m0.c4
  have c23 := m2.c3
  have f2 : w2.frozen? ⟨w.heap.size + 1 + 1, 3, none⟩ = false := frozen_of_row w2 _ 3 _ _ m2
  have f2' : w2.frozen? ⟨w.heap.size + 1 + 1, 0 + 3, none⟩ = false := f2
  have HW2 : Hid (w2.heap[w.heap.size + 1 + 1]? = some (.cells #[.string nm, .int .i64 vd, .int .i64 nx, .slice none 0 0, .slice none 0 0] 54 (0, 0))) := m2
  have HW1 : Hid (w2.heap[w.heap.size + 1]? = some (.cells #[.string ⟨#[]⟩, .int .i64 0, .int .i64 0, .slice none 0 0, .slice none 0 0] 54 (0, 0))) := m1
  clear m0 m1 m2
  go_wp2_with fail
  obtain ⟨V, hV⟩ : ∃ V, V = Value.slice (some ⟨W.heap.size, 0, none⟩) ms.length ms.length := ⟨_, rfl⟩
  obtain ⟨w3, hw3⟩ : ∃ w3, w3 = w2.setCell ⟨w.heap.size + 1 + 1, 3, none⟩ V := ⟨_, rfl⟩
  have b5 : Below w.heap.size w w3 := by rw [hw3]; exact b4.setCell (by simp; omega) _
  have s3 : w3.heap.size = w2.heap.size := by rw [hw3]; simp
  have n2 : Lies w3 (w.heap.size + 1 + 1) 54 ⟨nm, vd, nx, ms, ks⟩ V (.slice none 0 0) := by rw [hw3]; exact heap_setCell_same _ _ 3 _ _ _ HW2.out
  have n1 : w3.heap[w.heap.size + 1]? = some (.cells #[.string ⟨#[]⟩, .int .i64 0, .int .i64 0, .slice none 0 0, .slice none 0 0] 54 (0, 0)) := by rw [hw3, heap_setCell_other _ _ _ _ (by simp)]; exact HW1.out
  have HV3 : Hid (MailsIn w3 w3.heap.size (.slice (some ⟨W.heap.size, 0, none⟩) ms.length ms.length) ms) := mails_other HV.out (by rw [hw3, heap_setCell_other _ _ _ _ (by rw [HSZ.out]; simp)]) (fun h => by rw [s3]; exact h)
  have HA3 : Hid (tx.TextsIn w3 w.heap.size (.slice a1 ks.length cap1) ks) := tx.texts_below HB0.out b5 (Nat.le_refl _)
  rw [← hV, ← hw3]
  have HVH : Hid (V = Value.slice (some ⟨W.heap.size, 0, none⟩) ms.length ms.length) := hV
  clear hV
  clear HV HA2 c04 c23 f2 f2' HW1 HW2 b4
  refine (tx.toTexts_any _ _ ks _ HA3.out b5.size hn.2).mono ?_
  rintro e w4 ⟨rfl, hv4, hb4⟩
  have HU : Hid (tx.TextsIn w4 w4.heap.size (.slice (some ⟨w3.heap.size, 0, none⟩) ks.length ks.length) ks) := hv4
  have HV4 : Hid (MailsIn w4 w4.heap.size (.slice (some ⟨W.heap.size, 0, none⟩) ms.length ms.length) ms) := mails_more (mails_below HV3.out hb4 (Nat.le_refl _)) hb4.size
  have q1 := (hb4.block (w.heap.size + 1) (by have := HSZ.out; have := HS2.out; omega)).trans n1
  have q2 := n2.keep hb4
  have b6 := b5.trans (hb4.mono b5.size)
  have HS3 : Hid (w.heap.size + 3 ≤ w3.heap.size) := by have := HSZ.out; have := HS2.out; exact (by omega : w.heap.size + 3 ≤ w3.heap.size)
  clear hv4 hb4 n1 n2 b5 HV3 HA3 s3 hw3
  have c10 : w4.cell? ⟨w.heap.size + 1, 0, none⟩ = some (.string ⟨#[]⟩) := by rw [cell_of_row w4 _ _ _ _ _ q1]; rfl
  have c11 : w4.cell? ⟨w.heap.size + 1, 0 + 1, none⟩ = some (.int .i64 0) := by rw [cell_of_row w4 _ _ _ _ _ q1]; rfl
  have c12 : w4.cell? ⟨w.heap.size + 1, 0 + 2, none⟩ = some (.int .i64 0) := by rw [cell_of_row w4 _ _ _ _ _ q1]; rfl
  have c13 : w4.cell? ⟨w.heap.size + 1, 0 + 3, none⟩ = some (.slice none 0 0) := by rw [cell_of_row w4 _ _ _ _ _ q1]; rfl
  have c14 : w4.cell? ⟨w.heap.size + 1, 0 + 4, none⟩ = some (.slice none 0 0) := by rw [cell_of_row w4 _ _ _ _ _ q1]; rfl
  have c20 := q2.c0
  have c21 := q2.c1
  have c22 := q2.c2
  have c23 := q2.c3
  have c24 := q2.c4
  have f1 : ∀ j, w4.frozen? ⟨w.heap.size + 1, j, none⟩ = false := fun j => frozen_of_row w4 _ j _ _ q1
  have f2 : ∀ j, w4.frozen? ⟨w.heap.size + 1 + 1, j, none⟩ = false := fun j => frozen_of_row w4 _ j _ _ q2
  have HQ1 : Hid (w4.heap[w.heap.size + 1]? = some (.cells #[.string ⟨#[]⟩, .int .i64 0, .int .i64 0, .slice none 0 0, .slice none 0 0] 54 (0, 0))) := q1
  clear q1 q2
  simp only at c20 c21 c22
  obtain rfl := HVH.out
  clear HVH
  go_wp2
  have M5 := fin_block HQ1.out ⟨nm, vd, nx, ms, ks⟩ (.slice (some ⟨W.heap.size, 0, none⟩) ms.length ms.length) (.slice (some ⟨w3.heap.size, 0, none⟩) ks.length ks.length)
  have b7 := fin_below b6 ⟨nm, vd, nx, ms, ks⟩ (.slice (some ⟨W.heap.size, 0, none⟩) ms.length ms.length) (.slice (some ⟨w3.heap.size, 0, none⟩) ks.length ks.length)
  have hsz : (fin w4 w.heap.size ⟨nm, vd, nx, ms, ks⟩ (.slice (some ⟨W.heap.size, 0, none⟩) ms.length ms.length) (.slice (some ⟨w3.heap.size, 0, none⟩) ks.length ks.length)).heap.size = w4.heap.size := by simp [fin]
  have hat : MailsIn (fin w4 w.heap.size ⟨nm, vd, nx, ms, ks⟩ (.slice (some ⟨W.heap.size, 0, none⟩) ms.length ms.length) (.slice (some ⟨w3.heap.size, 0, none⟩) ks.length ks.length)) (fin w4 w.heap.size ⟨nm, vd, nx, ms, ks⟩ (.slice (some ⟨W.heap.size, 0, none⟩) ms.length ms.length) (.slice (some ⟨w3.heap.size, 0, none⟩) ks.length ks.length)).heap.size (.slice (some ⟨W.heap.size, 0, none⟩) ms.length ms.length) ms := mails_other HV4.out (fin_other _ _ _ _ _ _ (by rw [HSZ.out]; omega) (by rw [HSZ.out]; omega)) (fun h => by rw [hsz]; exact h)
  have hau : tx.TextsIn (fin w4 w.heap.size ⟨nm, vd, nx, ms, ks⟩ (.slice (some ⟨W.heap.size, 0, none⟩) ms.length ms.length) (.slice (some ⟨w3.heap.size, 0, none⟩) ks.length ks.length)) (fin w4 w.heap.size ⟨nm, vd, nx, ms, ks⟩ (.slice (some ⟨W.heap.size, 0, none⟩) ms.length ms.length) (.slice (some ⟨w3.heap.size, 0, none⟩) ks.length ks.length)).heap.size (.slice (some ⟨w3.heap.size, 0, none⟩) ks.length ks.length) ks := texts_other HU.out (fin_other _ _ _ _ _ _ (by have := HS3.out; omega) (by have := HS3.out; omega)) (fun h => by rw [hsz]; exact h)
  clear c10 c11 c12 c13 c14 c20 c21 c22 c23 c24 f1 f2 HV4 HU b6 HQ1 hsz
  change bodyPost _ _ _ _ _ (fin w4 w.heap.size ⟨nm, vd, nx, ms, ks⟩ (.slice (some ⟨W.heap.size, 0, none⟩) ms.length ms.length) (.slice (some ⟨w3.heap.size, 0, none⟩) ks.length ks.length))
  generalize fin w4 w.heap.size ⟨nm, vd, nx, ms, ks⟩ (.slice (some ⟨W.heap.size, 0, none⟩) ms.length ms.length) (.slice (some ⟨w3.heap.size, 0, none⟩) ks.length ks.length) = X at M5 b7 hat hau ⊢
  have x0 : X.cell? ⟨w.heap.size + 1, 0, none⟩ = some (.string nm) := M5.c0
  have x1 : X.cell? ⟨w.heap.size + 1, 1, none⟩ = some (.int .i64 vd) := M5.c1
  have x2 : X.cell? ⟨w.heap.size + 1, 2, none⟩ = some (.int .i64 nx) := M5.c2
  have x3 : X.cell? ⟨w.heap.size + 1, 3, none⟩ = some (.slice (some ⟨W.heap.size, 0, none⟩) ms.length ms.length) := M5.c3
  have x4 : X.cell? ⟨w.heap.size + 1, 4, none⟩ = some (.slice (some ⟨w3.heap.size, 0, none⟩) ks.length ks.length) := M5.c4
  exact bodyPost_ret (v := .agg #[.string nm, .int .i64 vd, .int .i64 nx, (.slice (some ⟨W.heap.size, 0, none⟩) ms.length ms.length), (.slice (some ⟨w3.heap.size, 0, none⟩) ks.length ks.length)]) (by simp [results, Tryz.results51, go_sem, x0, x1, x2, x3, x4]) rfl ⟨_, _, rfl, ⟨hat, hau⟩, b7⟩
end Go.Proofs.YtcnjgmeddkidaaaGreatDoor.bx
