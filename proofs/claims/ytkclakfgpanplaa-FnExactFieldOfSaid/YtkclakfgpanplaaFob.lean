/-
  The laws' own measure, copy and comparison of mails.
-/
import Derived.Test.YtkclakfgpanplaaFlb
import Derived.Test.YtkclakfgpanplaaBxt
namespace Go.Proofs.Ytkclakfgpanplaa.fo
open Go.RowKit
open fa
set_option linter.unusedVariables false

set_option maxHeartbeats 2000000 in
set_option maxRecDepth 100000 in
theorem szMail_any (v : Value) (T : ByteArray) (ps : List Pr) (left : Int) (w : World) (h : AttrsAt w v ps) (h0 : 0 ≤ left) (h1 : left ≤ 1048576) (hT : T.size ≤ maxLen) (hl : ps.length ≤ maxLen) (hs : ∀ j, j < ps.length → (ps.getD j no).1.size ≤ maxLen ∧ (ps.getD j no).2.size ≤ maxLen) :
    Calls Try.prog 12 #[.agg #[v, .string T], .int .i64 left] w fun e w' => (∃ z : Int, e = .returned (.int .i64 z) ∧ z ≤ left ∧ -1 ≤ z ∧ (0 ≤ z → Small ps ∧ T.size ≤ 1048576)) ∧ Below w.heap.size w w' := by
  have hT' : T.size ≤ 9223372036854775807 := hT
  have k1 := h
  obtain ⟨a, cap, rfl, _⟩ := h
  have bx : Below w.heap.size w (w.alloc (.cells #[.slice a ps.length cap, .string T] 30)) := (Below.refl _ _).alloc (Nat.le_refl _) _
  have HSZ := szAttrS_any (.slice a ps.length cap) ps left _ (at_below k1 bx) h0 h1 hl hs
  have HX : Hid (b2.Box (w.alloc (.cells #[.slice a ps.length cap, .string T] 30)) w.heap.size 30 (.slice a ps.length cap) (.string T)) := b2.new _ _ _ _
  have HBX : Hid (Below w.heap.size w (w.alloc (.cells #[.slice a ps.length cap, .string T] 30))) := bx
  clear hs k1 bx hl
  go_enter Try.func12, Try.ntmps12
  go_wp2_with fail
  refine HSZ.mono ?_
  rintro e w2 ⟨⟨z, rfl, hz0, hz1, hz2⟩, hb2⟩
  have HZ : Hid (0 ≤ z → Small ps) := hz2
  have c1 := (HX.out.below hb2).c1
  have hb3 := HBX.out.trans (hb2.mono HBX.out.size)
  clear hz2 hb2 HSZ
  by_cases hz : z < 0
  · go_wp2
    go_ret
    exact ⟨⟨-1, rfl, by omega, by omega, by omega⟩, hb3⟩
  by_cases g1 : z - (T.size : Int) < 0
  · go_wp2
    go_ret
    exact ⟨⟨-1, rfl, by omega, by omega, by omega⟩, hb3⟩
  · go_wp2
    go_ret
    exact ⟨⟨_, rfl, by omega, by omega, fun _ => ⟨HZ.out (by omega), by omega⟩⟩, hb3⟩
theorem at_other {w w' : World} {g n cap : Nat} {ps : List Pr} (h : AttrsAt w (.slice (some ⟨g, 0, none⟩) n cap) ps) (hb : w'.heap[g]? = w.heap[g]?) : AttrsAt w' (.slice (some ⟨g, 0, none⟩) n cap) ps := by
  obtain ⟨a, c, hv, h⟩ := h
  cases hv
  refine ⟨_, _, rfl, ?_⟩
  rcases h with h | ⟨b, off, hv, h⟩
  · exact .inl h
  · cases hv
    refine .inr ⟨_, _, rfl, fun j hj => ?_⟩
    obtain ⟨h0, h1⟩ := h j hj
    exact ⟨(World.cell?_of_block (w := w) (a := ⟨g, 0 + j * 2, none⟩) hb).trans h0, (World.cell?_of_block (w := w) (a := ⟨g, 0 + j * 2 + 1, none⟩) hb).trans h1⟩
set_option maxHeartbeats 2000000 in
set_option maxRecDepth 100000 in
theorem toMail_any (v : Value) (T : ByteArray) (ps : List Pr) (w : World) (h : AttrsAt w v ps) (hn : ps.length ≤ 1048576) :
    Calls Try.prog 14 #[.agg #[v, .string T]] w fun e w' => ∃ v', e = .returned (.agg #[v', .string T]) ∧ AttrsAt w' v' ps ∧ Below w.heap.size w w' := by
  have k1 := h
  obtain ⟨a, cap, rfl, _⟩ := h
  obtain ⟨W, hW⟩ : ∃ W, W = ((w.alloc (.cells #[.slice a ps.length cap, .string T] 30)).alloc (.cells #[.slice none 0 0, .string ⟨#[]⟩] 36)).alloc (.cells #[.slice none 0 0, .string ⟨#[]⟩] 36) := ⟨_, rfl⟩
  have b3 : Below w.heap.size w W := by rw [hW]; exact (((Below.refl _ w).alloc (Nat.le_refl _) _).alloc (by simp) _).alloc (by simp; omega) _
  have sz : W.heap.size = w.heap.size + 3 := by rw [hW]; simp
  have X0 : b2.Box W w.heap.size 30 (.slice a ps.length cap) (.string T) := by rw [hW]; exact ((b2.new w _ _ _).below ((Below.refl _ _).alloc (Nat.le_refl _) _)).below ((Below.refl _ _).alloc (Nat.le_refl _) _)
  have X1 : b2.Box W (w.heap.size + 1) 36 (.slice none 0 0) (.string ⟨#[]⟩) := by
    rw [hW]
    have := (b2.new (w.alloc (.cells #[.slice a ps.length cap, .string T] 30)) 36 (.slice none 0 0) (.string ⟨#[]⟩)).below ((Below.refl _ _).alloc (Nat.le_refl _) (.cells #[.slice none 0 0, .string ⟨#[]⟩] 36))
    simpa using this
  have X2 : b2.Box W (w.heap.size + 1 + 1) 36 (.slice none 0 0) (.string ⟨#[]⟩) := by
    rw [hW]
    have := b2.new ((w.alloc (.cells #[.slice a ps.length cap, .string T] 30)).alloc (.cells #[.slice none 0 0, .string ⟨#[]⟩] 36)) 36 (.slice none 0 0) (.string ⟨#[]⟩)
    simpa using this
  have HTO := toAttrS_any (.slice a ps.length cap) ps W (at_below k1 b3) hn
  have HW : Hid (W = ((w.alloc (.cells #[.slice a ps.length cap, .string T] 30)).alloc (.cells #[.slice none 0 0, .string ⟨#[]⟩] 36)).alloc (.cells #[.slice none 0 0, .string ⟨#[]⟩] 36)) := hW
  have HX0 : Hid (b2.Box W w.heap.size 30 (.slice a ps.length cap) (.string T)) := X0
  have HX1 : Hid (b2.Box W (w.heap.size + 1) 36 (.slice none 0 0) (.string ⟨#[]⟩)) := X1
  have HX2 : Hid (b2.Box W (w.heap.size + 1 + 1) 36 (.slice none 0 0) (.string ⟨#[]⟩)) := X2
  have HSZ : Hid (W.heap.size = w.heap.size + 3) := sz
  have HB3 : Hid (Below w.heap.size w W) := b3
  clear X0 X1 X2 sz b3 hW k1
  go_enter Try.func14, Try.ntmps14
  go_wp2_with fail
  rw [← HW.out]
  refine HTO.mono ?_
  rintro e w2 ⟨rfl, hat, hb2⟩
  have Y0 := HX0.out.below hb2
  have Y1 := HX1.out.below hb2
  have Y2 := HX2.out.below hb2
  have HAT : Hid (AttrsAt w2 (.slice (some ⟨W.heap.size, 0, none⟩) ps.length ps.length) ps) := hat
  have HB4 : Hid (Below w.heap.size w w2) := HB3.out.trans (hb2.mono HB3.out.size)
  have HY1 : Hid (b2.Box w2 (w.heap.size + 1) 36 (.slice none 0 0) (.string ⟨#[]⟩)) := Y1
  have HY2 : Hid (b2.Box w2 (w.heap.size + 1 + 1) 36 (.slice none 0 0) (.string ⟨#[]⟩)) := Y2
  have c00 := Y0.c0
  have c01 := Y0.c1
  have c10 := Y1.c0
  have c11 := Y1.c1
  have c20 := Y2.c0
  have c21 := Y2.c1
  have f10 := Y1.f 0
  have f11 := Y1.f 1
  have f20 := Y2.f 0
  have f21 := Y2.f 1
  clear hat hb2 Y0 Y1 Y2 HTO
  generalize hln : ps.length = ln at *
  go_wp2
  have hne : w.heap.size + 1 ≠ w.heap.size + 1 + 1 := by omega
  obtain ⟨u, hu⟩ : ∃ u, u = Value.slice (some ⟨W.heap.size, 0, none⟩) ln ln := ⟨_, rfl⟩
  have Z2 := HY2.out.put (a' := .slice (some ⟨W.heap.size, 0, none⟩) ln ln) (b' := .string T)
  have Z1 : b2.Box (b2.put w2 (w.heap.size + 1 + 1) (.slice (some ⟨W.heap.size, 0, none⟩) ln ln) (.string T)) (w.heap.size + 1) 36 (.slice none 0 0) (.string ⟨#[]⟩) := by
    unfold b2.put b2.Box
    rw [heap_setCell_other _ _ _ _ hne, heap_setCell_other _ _ _ _ hne]
    exact HY1.out
  have b5 := b2.put_below (g := w.heap.size + 1 + 1) (a := .slice (some ⟨W.heap.size, 0, none⟩) ln ln) (b := .string T) HB4.out (by omega)
  have V1 := Z1.put (a' := .slice (some ⟨W.heap.size, 0, none⟩) ln ln) (b' := .string T)
  have b6 := b2.put_below (g := w.heap.size + 1) (a := .slice (some ⟨W.heap.size, 0, none⟩) ln ln) (b := .string T) b5 (by omega)
  have hat2 : AttrsAt (b2.put (b2.put w2 (w.heap.size + 1 + 1) (.slice (some ⟨W.heap.size, 0, none⟩) ln ln) (.string T)) (w.heap.size + 1) (.slice (some ⟨W.heap.size, 0, none⟩) ln ln) (.string T)) (.slice (some ⟨W.heap.size, 0, none⟩) ln ln) ps := by
    have h1 : W.heap.size ≠ w.heap.size + 1 := by rw [HSZ.out]; omega
    have h2 : W.heap.size ≠ w.heap.size + 1 + 1 := by rw [HSZ.out]; omega
    refine at_other HAT.out ?_
    unfold b2.put
    rw [heap_setCell_other _ _ _ _ h1, heap_setCell_other _ _ _ _ h1, heap_setCell_other _ _ _ _ h2, heap_setCell_other _ _ _ _ h2]
  clear c00 c01 c10 c11 c20 c21 f10 f11 f20 f21 Z1 Z2 b5 hu
  unfold b2.put at V1 b6 hat2
  generalize hX : World.setCell _ _ _ = X at V1 b6 hat2 ⊢
  clear hX
  have c0 := V1.c0
  have c1 := V1.c1
  exact bodyPost_ret (v := .agg #[.slice (some ⟨W.heap.size, 0, none⟩) ln ln, .string T]) (by simp [results, Try.results14, go_sem, c0, c1]) rfl ⟨_, rfl, hat2, b6⟩
set_option maxHeartbeats 1000000 in
set_option maxRecDepth 100000 in
theorem eqMail_any (v u : Value) (T : ByteArray) (ps : List Pr) (w : World) (h1 : AttrsAt w v ps) (h2 : AttrsAt w u ps) (hn : ps.length ≤ 1048576) :
    Calls Try.prog 16 #[.agg #[v, .string T], .agg #[u, .string T]] w fun e w' => e = .returned (.bool true) ∧ Below w.heap.size w w' := by
  have k1 := h1
  have k2 := h2
  obtain ⟨a, cap, rfl, _⟩ := h1
  obtain ⟨c, cap2, rfl, _⟩ := h2
  have b0 : Below w.heap.size w ((w.alloc (.cells #[.slice a ps.length cap, .string T] 36)).alloc (.cells #[.slice c ps.length cap2, .string T] 36)) := ((Below.refl _ w).alloc (Nat.le_refl _) _).alloc (by simp) _
  have H1 : Hid (AttrsAt ((w.alloc (.cells #[.slice a ps.length cap, .string T] 36)).alloc (.cells #[.slice c ps.length cap2, .string T] 36)) (.slice a ps.length cap) ps) := at_below k1 b0
  have H2 : Hid (AttrsAt ((w.alloc (.cells #[.slice a ps.length cap, .string T] 36)).alloc (.cells #[.slice c ps.length cap2, .string T] 36)) (.slice c ps.length cap2) ps) := at_below k2 b0
  have X1 := b2.new w 36 (.slice a ps.length cap) (.string T)
  have X1' := X1.below ((Below.refl _ _).alloc (Nat.le_refl _) (.cells #[.slice c ps.length cap2, .string T] 36))
  have X2 := b2.new (w.alloc (.cells #[.slice a ps.length cap, .string T] 36)) 36 (.slice c ps.length cap2) (.string T)
  rw [show (w.alloc (.cells #[.slice a ps.length cap, .string T] 36)).heap.size = w.heap.size + 1 from by simp] at X2
  have HX1 : Hid (b2.Box ((w.alloc (.cells #[.slice a ps.length cap, .string T] 36)).alloc (.cells #[.slice c ps.length cap2, .string T] 36)) w.heap.size 36 (.slice a ps.length cap) (.string T)) := X1'
  have HX2 : Hid (b2.Box ((w.alloc (.cells #[.slice a ps.length cap, .string T] 36)).alloc (.cells #[.slice c ps.length cap2, .string T] 36)) (w.heap.size + 1) 36 (.slice c ps.length cap2) (.string T)) := X2
  have HB0 : Hid (Below w.heap.size w ((w.alloc (.cells #[.slice a ps.length cap, .string T] 36)).alloc (.cells #[.slice c ps.length cap2, .string T] 36))) := b0
  clear X1 X1' X2 b0 k1 k2
  go_enter Try.func16, Try.ntmps16
  go_wp2_with fail
  generalize hW : World.alloc _ _ = W at HX1 HX2 H1 H2 HB0 ⊢
  clear hW
  refine (eqAttrS_any _ _ ps W H1.out H2.out hn).mono ?_
  rintro e w1 ⟨rfl, hb1⟩
  have c1 := (HX1.out.below hb1).c1
  have d1 := (HX2.out.below hb1).c1
  have hb3 := HB0.out.trans (hb1.mono HB0.out.size)
  have hTT : (T.toList == T.toList) = true := by simp
  clear hb1
  go_wp2
  go_ret
  exact ⟨rfl, hb3⟩
end Go.Proofs.Ytkclakfgpanplaa.fo
