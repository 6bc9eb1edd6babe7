/-
  Boxes as rows: measured, copied and compared by the law's own functions; as an argument, opened.
-/
import Derived.Test.YtncnbhekgkemfaaGreatDoorPkaf
import Derived.Test.YtncnbhekgkemfaaGreatDoorPkab

namespace Go.Proofs.YtncnbhekgkemfaaGreatDoor.bx
open Go.ChangeShapes Go.WideShapes Go.ChangeAt Go.RowKit Go.Deep Go.Joins
open st gr
set_option linter.unusedVariables false

set_option maxHeartbeats 2000000 in
set_option maxRecDepth 100000 in
theorem toBox_far (x : Bx) (v u : Value) (w : World) (h : RowsAt w v u x.ms x.ks) (hn : x.ms.length ≤ 1048576 ∧ x.ks.length ≤ 1048576) :
    Calls Tryz.prog 56 #[BV x v u] w fun e w' => ∃ g g', e = .returned (BV x (.slice (some ⟨g, 0, none⟩) x.ms.length x.ms.length) (.slice (some ⟨g', 0, none⟩) x.ks.length x.ks.length)) ∧ RowsAt w' (.slice (some ⟨g, 0, none⟩) x.ms.length x.ms.length) (.slice (some ⟨g', 0, none⟩) x.ks.length x.ks.length) x.ms x.ks ∧ Below w.heap.size w w' ∧ w.heap.size ≤ g ∧ w.heap.size ≤ g' := by
  have HB : Hid (RowsAt w v u x.ms x.ks) := h
  obtain ⟨⟨a, cap, rfl, _⟩, ⟨a1, cap1, rfl, _⟩⟩ := h
  obtain ⟨W, hW⟩ : ∃ W, W = (((w.alloc (.cells #[.string x.nm, .int .i64 x.vd, .int .i64 x.nx, .slice a x.ms.length cap, .slice a1 x.ks.length cap1] 92)).alloc (.cells #[.string ⟨#[]⟩, .int .i64 0, .int .i64 0, .slice none 0 0, .slice none 0 0] 99)).alloc (.cells #[.string x.nm, .int .i64 x.vd, .int .i64 x.nx, .slice none 0 0, .slice none 0 0] 99)) := ⟨_, rfl⟩
  obtain ⟨nm, vd, nx, ms, ks⟩ := x
  unfold BV
  simp only at HB hn hW ⊢
  go_enter Tryz.func56, Tryz.ntmps56
  go_wp2_with fail
  have b3 : Below w.heap.size w W := by rw [hW]; exact ((new_below w _ _).alloc (by simp) _).alloc (by simp; omega) _
  have sz : W.heap.size = w.heap.size + 3 := by rw [hW]; simp
  have k0 : Lies W w.heap.size 92 ⟨nm, vd, nx, ms, ks⟩ (.slice a ms.length cap) (.slice a1 ks.length cap1) := by
    rw [hW]; exact ((lies_new w 92 ⟨nm, vd, nx, ms, ks⟩ (.slice a ms.length cap) (.slice a1 ks.length cap1)).keep (new_below _ _ _)).keep (new_below _ _ _)
  have k1 : W.heap[w.heap.size + 1]? = some (.cells #[.string ⟨#[]⟩, .int .i64 0, .int .i64 0, .slice none 0 0, .slice none 0 0] 99 (0, 0)) := by rw [hW]; exact new1 _ _ _ _
  have k2 : Lies W (w.heap.size + 1 + 1) 99 ⟨nm, vd, nx, ms, ks⟩ (.slice none 0 0) (.slice none 0 0) := by rw [hW]; exact new2 _ _ _ _
  rw [← hW]
  have HA : Hid (RowsAt W (.slice a ms.length cap) (.slice a1 ks.length cap1) ms ks) := rows_below HB.out b3
  have HB0 : Hid (tx.TextsIn w w.heap.size (.slice a1 ks.length cap1) ks) := HB.out.2
  clear HB hW
  refine (toStoredS_any _ _ ms _ HA.out.1 (Nat.le_refl _) hn.1).mono ?_
  rintro e w2 ⟨rfl, hv', hb2⟩
  have HV : Hid (MailsIn w2 w2.heap.size (.slice (some ⟨W.heap.size, 0, none⟩) ms.length ms.length) ms) := hv'
  clear hv'
  have m0 := k0.keep hb2
  have m1 := (hb2.block (w.heap.size + 1) (by omega)).trans k1
  have m2 := k2.keep hb2
  have b4 := b3.trans (hb2.mono b3.size)
  have HA2 : Hid (RowsAt w2 (.slice a ms.length cap) (.slice a1 ks.length cap1) ms ks) := rows_below HA.out hb2
  have HSZ : Hid (W.heap.size = w.heap.size + 3) := sz
  have HS2 : Hid (W.heap.size ≤ w2.heap.size) := hb2.size
  clear k0 k1 k2 hb2 b3 sz
  have c04 := m0.c4
  have c23 := m2.c3
  have f2 : w2.frozen? ⟨w.heap.size + 1 + 1, 3, none⟩ = false := frozen_of_row w2 _ 3 _ _ m2
  have f2' : w2.frozen? ⟨w.heap.size + 1 + 1, 0 + 3, none⟩ = false := f2
  have HW2 : Hid (w2.heap[w.heap.size + 1 + 1]? = some (.cells #[.string nm, .int .i64 vd, .int .i64 nx, .slice none 0 0, .slice none 0 0] 99 (0, 0))) := m2
  have HW1 : Hid (w2.heap[w.heap.size + 1]? = some (.cells #[.string ⟨#[]⟩, .int .i64 0, .int .i64 0, .slice none 0 0, .slice none 0 0] 99 (0, 0))) := m1
  clear m0 m1 m2
  go_wp2_with fail
  obtain ⟨V, hV⟩ : ∃ V, V = Value.slice (some ⟨W.heap.size, 0, none⟩) ms.length ms.length := ⟨_, rfl⟩
  obtain ⟨w3, hw3⟩ : ∃ w3, w3 = w2.setCell ⟨w.heap.size + 1 + 1, 3, none⟩ V := ⟨_, rfl⟩
  have b5 : Below w.heap.size w w3 := by rw [hw3]; exact b4.setCell (by simp; omega) _
  have s3 : w3.heap.size = w2.heap.size := by rw [hw3]; simp
  have n2 : Lies w3 (w.heap.size + 1 + 1) 99 ⟨nm, vd, nx, ms, ks⟩ V (.slice none 0 0) := by rw [hw3]; exact heap_setCell_same _ _ 3 _ _ _ HW2.out
  have n1 : w3.heap[w.heap.size + 1]? = some (.cells #[.string ⟨#[]⟩, .int .i64 0, .int .i64 0, .slice none 0 0, .slice none 0 0] 99 (0, 0)) := by rw [hw3, heap_setCell_other _ _ _ _ (by simp)]; exact HW1.out
  have HV3 : Hid (MailsIn w3 w3.heap.size (.slice (some ⟨W.heap.size, 0, none⟩) ms.length ms.length) ms) := mails_other HV.out (by rw [hw3, heap_setCell_other _ _ _ _ (by rw [HSZ.out]; simp)]) (fun h => by rw [s3]; exact h)
  have HA3 : Hid (tx.TextsIn w3 w.heap.size (.slice a1 ks.length cap1) ks) := tx.texts_below HB0.out b5 (Nat.le_refl _)
  rw [← hV, ← hw3]
  have HVH : Hid (V = Value.slice (some ⟨W.heap.size, 0, none⟩) ms.length ms.length) := hV
  clear hV
  clear HV HA2 c04 c23 f2 f2' HW1 HW2 b4
  refine (tx.toTexts_any _ _ ks _ HA3.out b5.size hn.2).mono ?_
  rintro e w4 ⟨rfl, hv4, hb4⟩
  have HU : Hid (tx.TextsIn w4 w4.heap.size (.slice (some ⟨w3.heap.size, 0, none⟩) ks.length ks.length) ks) := hv4
  have HV4 : Hid (MailsIn w4 w4.heap.size (.slice (some ⟨W.heap.size, 0, none⟩) ms.length ms.length) ms) := mails_more (mails_below HV3.out hb4 (Nat.le_refl _)) hb4.size
  have q1 := (hb4.block (w.heap.size + 1) (by have := HSZ.out; have := HS2.out; omega)).trans n1
  have q2 := n2.keep hb4
  have b6 := b5.trans (hb4.mono b5.size)
  have HS3 : Hid (w.heap.size + 3 ≤ w3.heap.size) := by have := HSZ.out; have := HS2.out; exact (by omega : w.heap.size + 3 ≤ w3.heap.size)
  clear hv4 hb4 n1 n2 b5 HV3 HA3 s3 hw3
  have c10 : w4.cell? ⟨w.heap.size + 1, 0, none⟩ = some (.string ⟨#[]⟩) := by rw [cell_of_row w4 _ _ _ _ _ q1]; rfl
  have c11 : w4.cell? ⟨w.heap.size + 1, 0 + 1, none⟩ = some (.int .i64 0) := by rw [cell_of_row w4 _ _ _ _ _ q1]; rfl
  have c12 : w4.cell? ⟨w.heap.size + 1, 0 + 2, none⟩ = some (.int .i64 0) := by rw [cell_of_row w4 _ _ _ _ _ q1]; rfl
  have c13 : w4.cell? ⟨w.heap.size + 1, 0 + 3, none⟩ = some (.slice none 0 0) := by rw [cell_of_row w4 _ _ _ _ _ q1]; rfl
  have c14 : w4.cell? ⟨w.heap.size + 1, 0 + 4, none⟩ = some (.slice none 0 0) := by rw [cell_of_row w4 _ _ _ _ _ q1]; rfl
  have c20 := q2.c0
  have c21 := q2.c1
  have c22 := q2.c2
  have c23 := q2.c3
  have c24 := q2.c4
  have f1 : ∀ j, w4.frozen? ⟨w.heap.size + 1, j, none⟩ = false := fun j => frozen_of_row w4 _ j _ _ q1
  have f2 : ∀ j, w4.frozen? ⟨w.heap.size + 1 + 1, j, none⟩ = false := fun j => frozen_of_row w4 _ j _ _ q2
  have HQ1 : Hid (w4.heap[w.heap.size + 1]? = some (.cells #[.string ⟨#[]⟩, .int .i64 0, .int .i64 0, .slice none 0 0, .slice none 0 0] 99 (0, 0))) := q1
  clear q1 q2
  simp only at c20 c21 c22
  obtain rfl := HVH.out
  clear HVH
  go_wp2
  have M5 := fin_block HQ1.out ⟨nm, vd, nx, ms, ks⟩ (.slice (some ⟨W.heap.size, 0, none⟩) ms.length ms.length) (.slice (some ⟨w3.heap.size, 0, none⟩) ks.length ks.length)
  have b7 := fin_below b6 ⟨nm, vd, nx, ms, ks⟩ (.slice (some ⟨W.heap.size, 0, none⟩) ms.length ms.length) (.slice (some ⟨w3.heap.size, 0, none⟩) ks.length ks.length)
  have hsz : (fin w4 w.heap.size ⟨nm, vd, nx, ms, ks⟩ (.slice (some ⟨W.heap.size, 0, none⟩) ms.length ms.length) (.slice (some ⟨w3.heap.size, 0, none⟩) ks.length ks.length)).heap.size = w4.heap.size := by simp [fin]
  have hat : MailsIn (fin w4 w.heap.size ⟨nm, vd, nx, ms, ks⟩ (.slice (some ⟨W.heap.size, 0, none⟩) ms.length ms.length) (.slice (some ⟨w3.heap.size, 0, none⟩) ks.length ks.length)) (fin w4 w.heap.size ⟨nm, vd, nx, ms, ks⟩ (.slice (some ⟨W.heap.size, 0, none⟩) ms.length ms.length) (.slice (some ⟨w3.heap.size, 0, none⟩) ks.length ks.length)).heap.size (.slice (some ⟨W.heap.size, 0, none⟩) ms.length ms.length) ms := mails_other HV4.out (fin_other _ _ _ _ _ _ (by rw [HSZ.out]; omega) (by rw [HSZ.out]; omega)) (fun h => by rw [hsz]; exact h)
  have hau : tx.TextsIn (fin w4 w.heap.size ⟨nm, vd, nx, ms, ks⟩ (.slice (some ⟨W.heap.size, 0, none⟩) ms.length ms.length) (.slice (some ⟨w3.heap.size, 0, none⟩) ks.length ks.length)) (fin w4 w.heap.size ⟨nm, vd, nx, ms, ks⟩ (.slice (some ⟨W.heap.size, 0, none⟩) ms.length ms.length) (.slice (some ⟨w3.heap.size, 0, none⟩) ks.length ks.length)).heap.size (.slice (some ⟨w3.heap.size, 0, none⟩) ks.length ks.length) ks := texts_other HU.out (fin_other _ _ _ _ _ _ (by have := HS3.out; omega) (by have := HS3.out; omega)) (fun h => by rw [hsz]; exact h)
  clear c10 c11 c12 c13 c14 c20 c21 c22 c23 c24 f1 f2 HV4 HU b6 HQ1 hsz
  change bodyPost _ _ _ _ _ (fin w4 w.heap.size ⟨nm, vd, nx, ms, ks⟩ (.slice (some ⟨W.heap.size, 0, none⟩) ms.length ms.length) (.slice (some ⟨w3.heap.size, 0, none⟩) ks.length ks.length))
  generalize fin w4 w.heap.size ⟨nm, vd, nx, ms, ks⟩ (.slice (some ⟨W.heap.size, 0, none⟩) ms.length ms.length) (.slice (some ⟨w3.heap.size, 0, none⟩) ks.length ks.length) = X at M5 b7 hat hau ⊢
  have x0 : X.cell? ⟨w.heap.size + 1, 0, none⟩ = some (.string nm) := M5.c0
  have x1 : X.cell? ⟨w.heap.size + 1, 1, none⟩ = some (.int .i64 vd) := M5.c1
  have x2 : X.cell? ⟨w.heap.size + 1, 2, none⟩ = some (.int .i64 nx) := M5.c2
  have x3 : X.cell? ⟨w.heap.size + 1, 3, none⟩ = some (.slice (some ⟨W.heap.size, 0, none⟩) ms.length ms.length) := M5.c3
  have x4 : X.cell? ⟨w.heap.size + 1, 4, none⟩ = some (.slice (some ⟨w3.heap.size, 0, none⟩) ks.length ks.length) := M5.c4
  exact bodyPost_ret (v := .agg #[.string nm, .int .i64 vd, .int .i64 nx, (.slice (some ⟨W.heap.size, 0, none⟩) ms.length ms.length), (.slice (some ⟨w3.heap.size, 0, none⟩) ks.length ks.length)]) (by simp [results, Tryz.results56, go_sem, x0, x1, x2, x3, x4]) rfl ⟨_, _, rfl, ⟨hat, hau⟩, b7, by rw [HSZ.out]; omega, by have := HS3.out; omega⟩
def noB : Bx := ⟨⟨#[]⟩, 0, 0, [], []⟩
def At5 (w : World) (b o : Nat) (x : Bx) (p : Value × Value) : Prop :=
  w.cell? ⟨b, o, none⟩ = some (.string x.nm) ∧ w.cell? ⟨b, o + 1, none⟩ = some (.int .i64 x.vd) ∧ w.cell? ⟨b, o + 2, none⟩ = some (.int .i64 x.nx) ∧ w.cell? ⟨b, o + 3, none⟩ = some p.1 ∧ w.cell? ⟨b, o + 4, none⟩ = some p.2
theorem At5.lt {w : World} {b o : Nat} {x : Bx} {p : Value × Value} (h : At5 w b o x p) : b < w.heap.size := World.block_lt_of_cell? w _ h.1
theorem At5.keep {w w' : World} {n b o : Nat} {x : Bx} {p : Value × Value} (h : At5 w b o x p) (hb : Below n w w') (hn : b < n) : At5 w' b o x p := by
  obtain ⟨h0, h1, h2, h3, h4⟩ := h
  exact ⟨(hb.cell (p := ⟨b, o, none⟩) hn).trans h0, (hb.cell (p := ⟨b, o + 1, none⟩) hn).trans h1, (hb.cell (p := ⟨b, o + 2, none⟩) hn).trans h2, (hb.cell (p := ⟨b, o + 3, none⟩) hn).trans h3, (hb.cell (p := ⟨b, o + 4, none⟩) hn).trans h4⟩
/-- The cells of boxes. -/
def CellsIn (w : World) (n : Nat) (v : Value) (xs : List Bx) (vs : Nat → Value × Value) : Prop :=
  ∃ a cap, v = .slice a xs.length cap ∧ (xs = [] ∨ ∃ b off, a = some ⟨b, off, none⟩ ∧ b < n ∧ ∀ j, j < xs.length → At5 w b (off + j * 5) (xs.getD j noB) (vs j))
/-- A slice of boxes with all their rows, in blocks below n. -/
def BoxesIn (w : World) (n : Nat) (v : Value) (xs : List Bx) (vs : Nat → Value × Value) : Prop :=
  CellsIn w n v xs vs ∧ ∀ j, j < xs.length → RowsIn w n (vs j).1 (vs j).2 (xs.getD j noB).ms (xs.getD j noB).ks
theorem boxes_in_below {w w' : World} {n k : Nat} {v : Value} {xs : List Bx} {vs : Nat → Value × Value} (h : BoxesIn w n v xs vs) (hb : Below k w w') (hk : n ≤ k) : BoxesIn w' n v xs vs := by
  obtain ⟨⟨a, cap, rfl, h⟩, h2⟩ := h
  refine ⟨⟨a, cap, rfl, ?_⟩, fun j hj => rows_in_below (h2 j hj) hb hk⟩
  rcases h with h | ⟨b, off, rfl, hb', h⟩
  · exact .inl h
  · exact .inr ⟨b, off, rfl, hb', fun j hj => (h j hj).keep hb (by omega)⟩
theorem boxes_more {w : World} {n k : Nat} {v : Value} {xs : List Bx} {vs : Nat → Value × Value} (h : BoxesIn w n v xs vs) (hk : n ≤ k) : BoxesIn w k v xs vs := by
  obtain ⟨⟨a, cap, rfl, h⟩, h2⟩ := h
  refine ⟨⟨a, cap, rfl, ?_⟩, fun j hj => rows_more (h2 j hj) hk⟩
  rcases h with h | ⟨b, off, rfl, hb', h⟩
  · exact .inl h
  · exact .inr ⟨b, off, rfl, by omega, h⟩
def BoxesAt (w : World) (v : Value) (xs : List Bx) (vs : Nat → Value × Value) : Prop := BoxesIn w w.heap.size v xs vs
theorem boxes_below {w w' : World} {v : Value} {xs : List Bx} {vs : Nat → Value × Value} (h : BoxesAt w v xs vs) (hb : Below w.heap.size w w') : BoxesAt w' v xs vs := boxes_more (boxes_in_below h hb (Nat.le_refl _)) hb.size
def Smalls (xs : List Bx) : Prop := xs.length ≤ 1048576 ∧ ∀ j, j < xs.length → Small (xs.getD j noB)
def SmallsTo (xs : List Bx) (k : Nat) : Prop := xs.length ≤ 1048576 ∧ ∀ j, j < k → Small (xs.getD j noB)

set_option maxHeartbeats 1000000 in
set_option maxRecDepth 100000 in
theorem szBoxS_any (v : Value) (xs : List Bx) (vs : Nat → Value × Value) (left : Int) (w : World) (h : BoxesAt w v xs vs) (h0 : 0 ≤ left) (h1 : left ≤ 1048576) (hl : xs.length ≤ maxLen) (hs : ∀ j, j < xs.length → Held (xs.getD j noB)) :
    Calls Tryz.prog 22 #[v, .int .i64 left] w fun e w' => (∃ z : Int, e = .returned (.int .i64 z) ∧ z ≤ left ∧ -1 ≤ z ∧ (0 ≤ z → Smalls xs)) ∧ Below w.heap.size w w' := by
  have HALL : Hid (BoxesAt w v xs vs) := h
  obtain ⟨⟨a, cap, rfl, hc⟩, _⟩ := h
  obtain ⟨n, hn⟩ : ∃ n, n = xs.length := ⟨_, rfl⟩
  have HN : Hid (n = xs.length) := hn
  have HH : Hid (xs = [] ∨ ∃ b off, a = some ⟨b, off, none⟩ ∧ b < w.heap.size ∧ ∀ j, j < xs.length → At5 w b (off + j * 5) (xs.getD j noB) (vs j)) := hc
  have HS : Hid (∀ j, j < xs.length → Held (xs.getD j noB)) := hs
  rw [← hn] at hl HALL ⊢
  clear hc hs hn
  unfold maxLen at hl
  by_cases g0 : left - (n : Int) < 0
  · go_enter Tryz.func22, Tryz.ntmps22
    go_wp2
    go_ret
    exact ⟨⟨-1, rfl, by omega, by omega, by omega⟩, Below.refl _ _⟩
  go_enter Tryz.func22, Tryz.ntmps22
  go_wp2
  go_loopw [1, 5] (fun z i wr => ∃ (k : Nat) (y : Int), k ≤ n ∧ 0 ≤ y ∧ y ≤ left ∧ z = .int .i64 y ∧ i = .int .i64 k ∧ SmallsTo xs k ∧ Below w.heap.size w wr) (fun _ i _ => n - (intOf i).toNat)
  case atStart => exact ⟨0, left - (n : Int), Nat.zero_le _, by omega, by omega, rfl, rfl, ⟨by rw [← HN.out]; omega, fun j hj => absurd hj (Nat.not_lt_zero _)⟩, Below.refl _ _⟩
  case round =>
    obtain ⟨k, y, hk, hy0, hy1, rfl, rfl, hsm, hbw⟩ := hrel
    have HSM : Hid (SmallsTo xs k) := hsm
    clear hsm
    by_cases hlt : k < n
    · have hka : k < xs.length := by rw [← HN.out]; exact hlt
      rcases HH.out with e | ⟨b, off, rfl, _, hcells⟩
      · rw [e] at hka; simp at hka
      have hat := (hcells k hka).keep hbw (hcells k hka).lt
      have hrw := (boxes_in_below HALL.out hbw (Nat.le_refl _)).2 k hka
      have hhd := HS.out k hka
      clear hcells hka
      generalize hx : xs.getD k noB = x at hat hhd hrw
      have HX : Hid (xs.getD k noB = x) := hx
      generalize vs k = q at hat hrw
      obtain ⟨q1, q2⟩ := q
      obtain ⟨c0, c1, c2, c3, c4⟩ := hat
      simp only at c0 c1 c2 c3 c4 hrw
      clear hx
      have HRW : Hid (RowsAt wr q1 q2 x.ms x.ks) := rows_more hrw hbw.size
      have HHD : Hid (Held x) := hhd
      obtain ⟨⟨a2, cap2, rfl, _⟩, ⟨a3, cap3, rfl, _⟩⟩ := hrw
      clear hhd
      go_wp2_with fail
      refine (szBox_any x _ _ y wr HRW.out hy0 (by omega) HHD.out).mono ?_
      rintro e w2 ⟨⟨z, rfl, hz0, hz1, hz2⟩, hb2⟩
      have HZ : Hid (0 ≤ z → Small x) := hz2
      clear hz2 HRW HHD c0 c1 c2 c3 c4
      by_cases hz : z < 0
      · go_wp2
        go_ret
        exact ⟨⟨-1, rfl, by omega, by omega, by omega⟩, hbw.trans (hb2.mono hbw.size)⟩
      · go_wp2
        go_roundw
        case rel => exact ⟨k + 1, z, by omega, by omega, by omega, rfl, by go_num, ⟨HSM.out.1, fun j hj => by by_cases hjk : j = k; subst hjk; rw [HX.out]; exact HZ.out (by omega); exact HSM.out.2 j (by omega)⟩, hbw.trans (hb2.mono hbw.size)⟩
        case measure => simp [intOf]; omega
    · go_wp2
      go_ret
      exact ⟨⟨y, rfl, by omega, by omega, fun _ => ⟨HSM.out.1, fun j hj => HSM.out.2 j (by have := HN.out; omega)⟩⟩, hbw⟩

section
variable {H : Type} {enc : TypeId × Value → H} {w : World} {base : Nat} {spare : Nat → Bool} {held : Bool}
theorem cellsB : Tryz.prog.cellsOf 92 = 5 := by kernel_rfl
theorem open_boxes {fuel : Nat} {v : Value} {x : DataW H × List MemPlace} (h : DataW.trod enc Tryz.prog w base spare held fuel 24 [v] = some x) :
    ∃ (xs : List Bx) (vs : Nat → Value × Value), BoxesAt w v xs vs ∧ xs.length ≤ maxLen ∧ ∀ j, j < xs.length → Held (xs.getD j noB) := by
  rcases open_slice Tryz.underlying24 h with ⟨hc, _⟩ | ⟨a, len, cap, m, n, D, Pl, hc, _, hl, hm, hmm, _, hall⟩
  · cases hc
    exact ⟨[], fun _ => (.slice none 0 0, .slice none 0 0), ⟨⟨none, 0, rfl, .inl rfl⟩, fun j hj => absurd hj (Nat.not_lt_zero _)⟩, Nat.zero_le _, fun j hj => absurd hj (Nat.not_lt_zero _)⟩
  · cases hc
    have hml : len ≤ m := by rw [hmm]; split <;> omega
    have each : ∀ i, ∃ e : Bx × (Value × Value), i < len → Held e.1 ∧ RowsAt w e.2.1 e.2.2 e.1.ms e.1.ks ∧ ∀ k, k < 5 → w.cell? (a.add (i * 5 + k)) = ([.string e.1.nm, .int .i64 e.1.vd, .int .i64 e.1.nx, e.2.1, e.2.2] : List Value)[k]? := by
      intro i
      by_cases hi : i < len
      · obtain ⟨cs', h1, h2⟩ := hall i (by omega)
        obtain ⟨x, v1, u1, rfl, hr, hh⟩ := trod_box h2
        rw [cellsB] at h1
        obtain ⟨_, hlen, hcell⟩ := World.cells?_some h1
        refine ⟨(x, (v1, u1)), fun _ => ⟨hh, hr, fun k hk => ?_⟩⟩
        have := hcell k hk
        rw [add_add] at this
        rw [this]
      · exact ⟨(noB, (.slice none 0 0, .slice none 0 0)), fun h => absurd h hi⟩
    obtain ⟨q, hq⟩ := Classical.axiomOfChoice each
    have hget : ∀ j, j < len → ((List.range len).map fun i => (q i).1).getD j noB = (q j).1 := by
      intro j hj
      simp [List.getD_eq_getElem?_getD, hj]
    refine ⟨(List.range len).map fun i => (q i).1, fun i => (q i).2, ⟨⟨some a, cap, by simp, ?_⟩, ?_⟩, by simp; omega, ?_⟩
    · by_cases h0 : len = 0
      · left; simp [h0]
      · right
        have c0 := (hq 0 (by omega)).2.2 0 (by omega)
        obtain ⟨b, off, spot⟩ := a
        have c0' := c0.trans (show ([.string (q 0).1.nm, .int .i64 (q 0).1.vd, .int .i64 (q 0).1.nx, (q 0).2.1, (q 0).2.2] : List Value)[0]? = some (.string (q 0).1.nm) from rfl)
        have hspot : spot = none := by simpa [Addr.add] using World.cell?_spot c0'
        subst hspot
        have hblt : b < w.heap.size := by simpa [Addr.add] using World.block_lt_of_cell? w _ c0'
        refine ⟨b, off, rfl, hblt, fun j hj => ?_⟩
        have hj' : j < len := by simpa using hj
        have hc := (hq j hj').2.2
        have hadd : ∀ k : Nat, ((⟨b, off, none⟩ : Addr).add (j * 5 + k)) = ⟨b, off + j * 5 + k, none⟩ := fun k => by simp [Addr.add, Nat.add_assoc]
        rw [hget j hj']
        have g0 := hc 0 (by omega)
        have g1 := hc 1 (by omega)
        have g2 := hc 2 (by omega)
        have g3 := hc 3 (by omega)
        have g4 := hc 4 (by omega)
        rw [hadd] at g0 g1 g2 g3 g4
        exact ⟨g0, g1, g2, g3, g4⟩
    · intro j hj
      have hj' : j < len := by simpa using hj
      rw [hget j hj']
      exact (hq j hj').2.1
    · intro j hj
      have hj' : j < len := by simpa using hj
      rw [hget j hj']
      exact (hq j hj').1
end
end Go.Proofs.YtncnbhekgkemfaaGreatDoor.bx
