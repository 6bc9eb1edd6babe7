/-
  The specification's Commit.
-/
import Derived.Test.YtnhcbiomkiljpaaGreatDoorPkbk

namespace Go.Proofs.YtnhcbiomkiljpaaGreatDoor.eg
open Go.RowKit Go.WideShapes
open bx bl
open lg (LV RV fr app1)
set_option linter.unusedVariables false

/-- What the cells of an engine that is empty are. -/
theorem eng_cell {w : World} {g : Nat} {T : TypeId} (h : LiesE w g T 0 ⟨#[]⟩ 0 (.slice none 0 0)) {i : Nat} {y : Value} (hc : w.cell? ⟨g, i, none⟩ = some y) : (i = 0 ∧ y = .int .i64 0) ∨ (i = 1 ∧ y = .string ⟨#[]⟩) ∨ (i = 2 ∧ y = .int .i64 0) ∨ (i = 3 ∧ y = .slice none 0 0) := by
  rw [cell_of_row w _ _ _ _ _ h] at hc
  match i, hc with
  | 0, hc => exact .inl ⟨rfl, by simpa using hc.symm⟩
  | 1, hc => exact .inr (.inl ⟨rfl, by simpa using hc.symm⟩)
  | 2, hc => exact .inr (.inr (.inl ⟨rfl, by simpa using hc.symm⟩))
  | 3, hc => exact .inr (.inr (.inr ⟨rfl, by simpa using hc.symm⟩))
  | n + 4, hc => simp at hc
theorem mails_eng {w w' : World} {n g : Nat} {T : TypeId} {u : Value} {ms : List st.St} (h : st.MailsIn w n u ms) (hg : LiesE w g T 0 ⟨#[]⟩ 0 (.slice none 0 0)) (hw : ∀ q, q ≠ g → w'.heap[q]? = w.heap[q]?) : st.MailsIn w' n u ms := by
  obtain ⟨a, cap, e, h⟩ := h
  refine ⟨a, cap, e, ?_⟩
  rcases h with h | ⟨b, off, rfl, hb, h⟩
  · exact .inl h
  · refine .inr ⟨b, off, rfl, hb, fun j hj => ?_⟩
    obtain ⟨h0, h1, h2⟩ := h j hj
    have hne : b ≠ g := by
      rintro rfl
      rcases eng_cell hg h0 with ⟨i0, y0⟩ | ⟨i0, y0⟩ | ⟨i0, y0⟩ | ⟨i0, y0⟩ <;> rcases eng_cell hg h1 with ⟨i1, y1⟩ | ⟨i1, y1⟩ | ⟨i1, y1⟩ | ⟨i1, y1⟩ <;> first | cases y0; done | cases y1; done | omega
    have hb' := hw b hne
    exact ⟨by rw [← h0]; simp only [World.cell?, hb'], by rw [← h1]; simp only [World.cell?, hb'], by rw [← h2]; simp only [World.cell?, hb']⟩
theorem texts_eng {w w' : World} {n g : Nat} {T : TypeId} {u : Value} {ks : List ByteArray} (h : tx.TextsIn w n u ks) (hk : ∀ j, j < ks.length → 1 ≤ (ks.getD j ky.nt).size) (hg : LiesE w g T 0 ⟨#[]⟩ 0 (.slice none 0 0)) (hw : ∀ q, q ≠ g → w'.heap[q]? = w.heap[q]?) : tx.TextsIn w' n u ks := by
  obtain ⟨a, cap, e, h⟩ := h
  refine ⟨a, cap, e, ?_⟩
  rcases h with h | ⟨b, off, rfl, hb, h⟩
  · exact .inl h
  · refine .inr ⟨b, off, rfl, hb, fun j hj => ?_⟩
    have h0 := h j hj
    have hne : b ≠ g := by
      rintro rfl
      rcases eng_cell hg h0 with ⟨i0, y0⟩ | ⟨i0, y0⟩ | ⟨i0, y0⟩ | ⟨i0, y0⟩
      · cases y0
      · have := hk j hj
        rw [Value.string.inj y0] at this
        exact absurd this (by decide)
      · cases y0
      · cases y0
    rw [← h0]; simp only [World.cell?, hw b hne]
/-- Right boxes are as they were where an empty engine was written. -/
theorem boxes_eng {w w' : World} {g : Nat} {T : TypeId} {L : Value} {ys : List Bx} {us : Nat → Value × Value} (h : BoxesAt w L ys us) (hok : sok ys = true) (hg : LiesE w g T 0 ⟨#[]⟩ 0 (.slice none 0 0)) (hw : ∀ q, q ≠ g → w'.heap[q]? = w.heap[q]?) (hs : w'.heap.size = w.heap.size) : BoxesAt w' L ys us := by
  obtain ⟨⟨a, cap, e, h⟩, h2⟩ := h
  unfold BoxesAt
  rw [hs]
  refine ⟨⟨a, cap, e, ?_⟩, fun j hj => ⟨mails_eng (h2 j hj).1 hg hw, texts_eng (h2 j hj).2 (fun i hi => ?_) hg hw⟩⟩
  · rcases h with h | ⟨b, off, rfl, hb, h⟩
    · exact .inl h
    · refine .inr ⟨b, off, rfl, hb, fun j hj => ?_⟩
      obtain ⟨h0, h1, h2, h3, h4⟩ := h j hj
      have hne : b ≠ g := by
        rintro rfl
        rcases eng_cell hg h0 with ⟨i0, y0⟩ | ⟨i0, y0⟩ | ⟨i0, y0⟩ | ⟨i0, y0⟩ <;> rcases eng_cell hg h2 with ⟨i1, y1⟩ | ⟨i1, y1⟩ | ⟨i1, y1⟩ | ⟨i1, y1⟩ <;> first | cases y0; done | cases y1; done | omega
      have hb' := hw b hne
      exact ⟨by rw [← h0]; simp only [World.cell?, hb'], by rw [← h1]; simp only [World.cell?, hb'], by rw [← h2]; simp only [World.cell?, hb'], by rw [← h3]; simp only [World.cell?, hb'], by rw [← h4]; simp only [World.cell?, hb']⟩
  · have := (sa.bok_iff.1 ((sok_of hok).2 j hj).1).2.2.2.2.2.1.2
    exact (this i hi).1

set_option maxHeartbeats 4000000 in
set_option maxRecDepth 100000 in
theorem ownE_any (r : Int) (d : ByteArray) (s : Int) (v : Value) (bs : List Bx) (vs : Nat → Value × Value) (w : World) (hB : BoxesAt w v bs vs) (hf : Fines bs vs) (hs : Smalls bs) :
    Calls Tryz.prog 23 #[EV r d s v] w fun e w' => (∃ L us, e = .returned (EV r d s L) ∧ OwnL w' (w.heap.size + 2) L bs us) ∧ Below w.heap.size w w' := by
  have HA : Hid (BoxesAt w v bs vs ∧ Fines bs vs ∧ Smalls bs) := ⟨hB, hf, hs⟩
  obtain ⟨⟨a, cap, rfl, _⟩, _⟩ := hB
  clear hf hs
  obtain ⟨W, hW⟩ : ∃ W, W = ((w.alloc (.cells #[.int .i64 r, .string d, .int .i64 s, .slice a bs.length cap] 35)).alloc (.cells #[.int .i64 0, .string ⟨#[]⟩, .int .i64 0, .slice none 0 0] 35)) := ⟨_, rfl⟩
  unfold EV
  go_enter Tryz.func23, Tryz.ntmps23
  go_wp2_with fail
  have b2 : Below w.heap.size w W := by rw [hW]; exact (new_below w _ _).alloc (by simp) _
  have sz : W.heap.size = w.heap.size + 2 := by rw [hW]; simp
  have k0 : LiesE W w.heap.size 35 r d s (.slice a bs.length cap) := by
    rw [hW]; exact (liesE_new w 35 r d s (.slice a bs.length cap)).keep (new_below _ _ _)
  have k1 : LiesE W (w.heap.size + 1) 35 0 ⟨#[]⟩ 0 (.slice none 0 0) := by
    have := liesE_new (w.alloc (.cells #[.int .i64 r, .string d, .int .i64 s, .slice a bs.length cap] 35)) 35 0 ⟨#[]⟩ 0 (.slice none 0 0)
    rw [show (w.alloc (.cells #[.int .i64 r, .string d, .int .i64 s, .slice a bs.length cap] 35)).heap.size = w.heap.size + 1 by simp] at this
    rw [hW]; exact this
  rw [← hW]
  clear hW
  refine (spec_own _ bs vs W (boxes_below HA.out.1 b2) HA.out.2.1 HA.out.2.2).mono ?_
  rintro e w2 ⟨⟨L, us, rfl, hO⟩, hb2⟩
  obtain ⟨La, Ln, Lc, rfl⟩ := slice_fine (own_fine hO.1)
  rw [sz] at hO
  have HO : Hid (OwnL w2 (w.heap.size + 2) (.slice La Ln Lc) bs us) := hO
  have m0 := k0.keep hb2
  have m1 := k1.keep hb2
  have HM : Hid (LiesE w2 w.heap.size 35 r d s (.slice a bs.length cap) ∧ LiesE w2 (w.heap.size + 1) 35 0 ⟨#[]⟩ 0 (.slice none 0 0)) := ⟨m0, m1⟩
  have HB : Hid (Below w.heap.size w w2) := b2.trans (hb2.mono b2.size)
  clear k0 k1 b2 sz hO hb2 HA
  have c0 := m0.c0
  have c1 := m0.c1
  have c2 := m0.c2
  have c3 := m0.c3
  have f3 := m0.f 3
  have f3' : w2.frozen? ⟨w.heap.size, 0 + 3, none⟩ = false := m0.f 3
  have e0 := m1.c0
  have e1 := m1.c1
  have e2 := m1.c2
  have e3 := m1.c3
  have g0 := m1.f 0
  have g1 := m1.f 1
  have g2 := m1.f 2
  have g3 := m1.f 3
  clear m0 m1
  go_wp2
  change bodyPost _ _ _ _ _ (put4 (w2.setCell ⟨w.heap.size, 3, none⟩ (.slice La Ln Lc)) (w.heap.size + 1) (.int .i64 r) (.string d) (.int .i64 s) (.slice La Ln Lc))
  have M1 : LiesE (w2.setCell ⟨w.heap.size, 3, none⟩ (.slice La Ln Lc)) (w.heap.size + 1) 35 0 ⟨#[]⟩ 0 (.slice none 0 0) := (heap_setCell_other w2 ⟨w.heap.size, 3, none⟩ (w.heap.size + 1) _ (by simp)).trans HM.out.2
  have A5 := M1.put (r' := r) (d' := d) (s' := s) (v' := .slice La Ln Lc)
  have b4 : Below w.heap.size w (w2.setCell ⟨w.heap.size, 3, none⟩ (.slice La Ln Lc)) := HB.out.setCell (p := ⟨w.heap.size, 3, none⟩) (Nat.le_refl _) _
  have b5 := put4_below (a := .int .i64 r) (b := .string d) (c := .int .i64 s) (d := .slice La Ln Lc) b4 (Nat.le_succ w.heap.size)
  have O5 := ownL_hi HO.out (w' := put4 (w2.setCell ⟨w.heap.size, 3, none⟩ (.slice La Ln Lc)) (w.heap.size + 1) (.int .i64 r) (.string d) (.int .i64 s) (.slice La Ln Lc)) (fun q hq => (put4_other _ _ _ _ _ _ _ (by omega)).trans (heap_setCell_other w2 ⟨w.heap.size, 3, none⟩ q _ (by simp; omega)))
  generalize put4 _ _ _ _ _ _ = W5 at A5 b5 O5 ⊢
  have d0 : W5.cell? ⟨w.heap.size + 1, 0, none⟩ = some (.int .i64 r) := A5.c0
  have d1 : W5.cell? ⟨w.heap.size + 1, 1, none⟩ = some (.string d) := A5.c1
  have d2 : W5.cell? ⟨w.heap.size + 1, 2, none⟩ = some (.int .i64 s) := A5.c2
  have d3 : W5.cell? ⟨w.heap.size + 1, 3, none⟩ = some (.slice La Ln Lc) := A5.c3
  exact bodyPost_ret (v := .agg #[.int .i64 r, .string d, .int .i64 s, .slice La Ln Lc]) (by simp [results, Tryz.results23, go_sem, d0, d1, d2, d3]) rfl ⟨⟨_, us, rfl, O5⟩, b5⟩
end Go.Proofs.YtnhcbiomkiljpaaGreatDoor.eg
