/-
  withFlags: the flags of one mail of a box, changed in its own row.
  (impl.Box).mutated where mails go: the box's row of mails is gone over.
-/
import Derived.Test.YtncnbhekgkemfaaGreatDoorPkat
import Derived.Deep.RegionWith
import Derived.Test.YtncnbhekgkemfaaGreatDoorPkau

namespace Go.Proofs.YtncnbhekgkemfaaGreatDoor.bl
open Go.ChangeShapes Go.WideShapes Go.ChangeAt Go.RowKit Go.Deep Go.Joins
open st gr bx mx
set_option linter.unusedVariables false
theorem put5w_zero {w : World} {g : Nat} {T : TypeId} {x : Bx} {v u : Value} (h : Lies w g T x v u) : Lies (put5w w g (.string ⟨#[]⟩) (.int .i64 0) (.int .i64 0) (.slice none 0 0) (.slice none 0 0)) g T B0 (.slice none 0 0) (.slice none 0 0) :=
  heap_setCell_same _ g 4 _ _ _ (heap_setCell_same _ g 3 _ _ _ (heap_setCell_same _ g 2 _ _ _ (heap_setCell_same _ g 1 _ _ _ (heap_setCell_same _ g 0 _ _ _ h))))


theorem drew_grown {w x : World} {r : Option Nat} (h : w.grownBy x r) : w.grownBy x.drew r := ⟨h.os, h.tape, h.output, h.size, h.block⟩
set_option maxHeartbeats 4000000 in
set_option maxRecDepth 100000 in
theorem withFlags_any (y : Bx) (v u : Value) (m : mu.Mu) (iv : Value) (base : Nat) (w : World) (hm : OwnM w base v y.ms) (hk : OwnK w base u y.ks) (hiv : ∃ a n c, iv = .slice a n c) (hl : y.ms.length ≤ 30) (hr : Rising y.ms) (hmo : m.m = 1 ∨ m.m = 2 ∨ m.m = 3) :
    Calls Tryz.prog 121 #[BV y v u, mu.MV m iv] w fun e w' => ((∃ y', e = .returned (.tuple #[BV y' v u, .int .i64 0]) ∧ Wf y m y' 0 ∧ OwnM w' base v y'.ms ∧ OwnK w' base u y'.ks) ∨ (e = .returned (.tuple #[BV B0 (.slice none 0 0) (.slice none 0 0), .int .i64 17]) ∧ Wf y m B0 17 ∧ OwnM w' base v y.ms ∧ OwnK w' base u y.ks)) ∧ w.grownBy w' v.ownBlock := by
  obtain ⟨ia, inn, ic, rfl⟩ := hiv
  obtain ⟨va, vn, vc, rfl⟩ := slice_fine (own_fine hm)
  obtain ⟨ua, un, uc, rfl⟩ := slice_fine (own_fine hk)
  obtain ⟨W, hW⟩ : ∃ W, W = (((w.alloc (.cells #[.string y.nm, .int .i64 y.vd, .int .i64 y.nx, .slice va vn vc, .slice ua un uc] 99)).alloc (.cells #[.int .i64 m.k, .int .i64 m.u, .int .i64 m.m, .int .i64 m.f, .string m.b, .slice ia inn ic] 104)).alloc (.cells #[.string ⟨#[]⟩, .int .i64 0, .int .i64 0, .slice none 0 0, .slice none 0 0] 99)) := ⟨_, rfl⟩
  have b3 : Below w.heap.size w W := by rw [hW]; exact ((bx.new_below w _ _).alloc (by simp) _).alloc (by simp; omega) _
  have k0 : bx.Lies W w.heap.size 99 y (.slice va vn vc) (.slice ua un uc) := by
    rw [hW]; exact ((bx.lies_new w 99 y (.slice va vn vc) (.slice ua un uc)).keep (bx.new_below _ _ _)).keep (bx.new_below _ _ _)
  have k1 : mu.Lies W (w.heap.size + 1) 104 m (.slice ia inn ic) := by rw [hW]; exact new1 _ _ _ _
  have k2 : bx.Lies W (w.heap.size + 1 + 1) 99 B0 (.slice none 0 0) (.slice none 0 0) := by rw [hW]; exact new2 _ _ _ _
  have HM : Hid (OwnM W base (.slice va vn vc) y.ms ∧ OwnK W base (.slice ua un uc) y.ks) := ⟨ow.own_below hm b3, ow.own_below hk b3⟩
  have HR : Hid (Rising y.ms) := hr
  have HL : Hid (bx.Lies W w.heap.size 99 y (.slice va vn vc) (.slice ua un uc) ∧ mu.Lies W (w.heap.size + 1) 104 m (.slice ia inn ic) ∧ bx.Lies W (w.heap.size + 1 + 1) 99 B0 (.slice none 0 0) (.slice none 0 0)) := ⟨k0, k1, k2⟩
  have HB : Hid (Below w.heap.size w W) := b3
  have c0 := k0.c0
  have c1 := k0.c1
  have c2 := k0.c2
  have c3 := k0.c3
  have c4 := k0.c4
  have d1 := k1.c1
  unfold BV mu.MV
  clear hm hk hr b3 k0 k1 k2
  go_enter Tryz.func121, Tryz.ntmps121
  go_wp2_with (rw [← hW])
  clear hW
  refine (mailAt_any y _ _ m.u W ⟨ownM_in HM.out.1 (Nat.le_refl _), ownK_in HM.out.2 (Nat.le_refl _)⟩ hl HR.out).mono ?_
  rintro e W1 ⟨⟨i, b, rfl, hf, hil⟩, hb1⟩
  have HM1 : Hid (OwnM W1 base (.slice va vn vc) y.ms ∧ OwnK W1 base (.slice ua un uc) y.ks) := ⟨ow.own_below HM.out.1 hb1, ow.own_below HM.out.2 hb1⟩
  have HL1 : Hid (bx.Lies W1 w.heap.size 99 y (.slice va vn vc) (.slice ua un uc) ∧ mu.Lies W1 (w.heap.size + 1) 104 m (.slice ia inn ic) ∧ bx.Lies W1 (w.heap.size + 1 + 1) 99 B0 (.slice none 0 0) (.slice none 0 0)) := ⟨HL.out.1.keep hb1, HL.out.2.1.keep hb1, HL.out.2.2.keep hb1⟩
  have HB1 : Hid (Below w.heap.size w W1) := HB.out.trans (hb1.mono HB.out.size)
  clear HM HL HB HR hb1 c0 c1 c2 c3 c4 d1
  cases b with
  | false =>
    have HF : Hid (∀ k, k < y.ms.length → (y.ms.getD k noS).u ≠ m.u) := by
      rcases hf with ⟨e, _⟩ | ⟨_, h⟩
      · cases e
      · exact h
    clear hf
    have R0 := HL1.out.2.2
    have r0 : W1.cell? ⟨w.heap.size + 1 + 1, 0, none⟩ = some (.string ⟨#[]⟩) := R0.c0
    have r1 : W1.cell? ⟨w.heap.size + 1 + 1, 0 + 1, none⟩ = some (.int .i64 0) := R0.c1
    have r2 : W1.cell? ⟨w.heap.size + 1 + 1, 0 + 2, none⟩ = some (.int .i64 0) := R0.c2
    have r3 := R0.c3
    have r4 := R0.c4
    have fr := R0.f
    have HE : Hid (bx.Lies (put5w W1 (w.heap.size + 1 + 1) (.string ⟨#[]⟩) (.int .i64 0) (.int .i64 0) (.slice none 0 0) (.slice none 0 0)) (w.heap.size + 1 + 1) 99 B0 (.slice none 0 0) (.slice none 0 0) ∧ Below w.heap.size w (put5w W1 (w.heap.size + 1 + 1) (.string ⟨#[]⟩) (.int .i64 0) (.int .i64 0) (.slice none 0 0) (.slice none 0 0)) ∧ OwnM (put5w W1 (w.heap.size + 1 + 1) (.string ⟨#[]⟩) (.int .i64 0) (.int .i64 0) (.slice none 0 0) (.slice none 0 0)) base (.slice va vn vc) y.ms ∧ OwnK (put5w W1 (w.heap.size + 1 + 1) (.string ⟨#[]⟩) (.int .i64 0) (.int .i64 0) (.slice none 0 0) (.slice none 0 0)) base (.slice ua un uc) y.ks) :=
      ⟨put5w_zero R0, put5w_below HB1.out (by omega), own_grown HM1.out.1 (put5w_grown _ _ _ _ _ _ _) (row_box HM1.out.1 R0 (by decide)), own_grown HM1.out.2 (put5w_grown _ _ _ _ _ _ _) (row_box HM1.out.2 R0 (by decide))⟩
    clear R0
    go_wp2
    change bodyPost _ _ _ _ _ (put5w W1 (w.heap.size + 1 + 1) (.string ⟨#[]⟩) (.int .i64 0) (.int .i64 0) (.slice none 0 0) (.slice none 0 0))
    generalize put5w _ _ _ _ _ _ _ = W9 at HE ⊢
    have d0 : W9.cell? ⟨w.heap.size + 1 + 1, 0, none⟩ = some (.string ⟨#[]⟩) := HE.out.1.c0
    have d1 : W9.cell? ⟨w.heap.size + 1 + 1, 0 + 1, none⟩ = some (.int .i64 0) := HE.out.1.c1
    have d2 : W9.cell? ⟨w.heap.size + 1 + 1, 0 + 2, none⟩ = some (.int .i64 0) := HE.out.1.c2
    have d3 := HE.out.1.c3
    have d4 := HE.out.1.c4
    exact bodyPost_ret (v := .tuple #[.agg #[.string ⟨#[]⟩, .int .i64 0, .int .i64 0, .slice none 0 0, .slice none 0 0], .int .i64 17]) (by simp [results, Tryz.results121, go_sem, d0, d1, d2, d3, d4]) rfl ⟨.inr ⟨rfl, .inr ⟨HF.out, rfl, rfl⟩, HE.out.2.2.1, HE.out.2.2.2⟩, ow.grown_below HE.out.2.1⟩
  | true =>
    obtain ⟨hi, hu⟩ : i < y.ms.length ∧ (y.ms.getD i noS).u = m.u := by
      rcases hf with ⟨_, h1, h2⟩ | ⟨e, _⟩
      · exact ⟨h1, h2⟩
      · cases e
    have HU : Hid ((y.ms.getD i noS).u = m.u) := hu
    clear hf hu
    obtain ⟨g, rfl, hvn⟩ : ∃ g, va = some ⟨g, 0, none⟩ ∧ vn = y.ms.length := by
      rcases HM1.out.1.2 with ⟨e, hz⟩ | ⟨g, cap, cur, e, _⟩
      · omega
      · cases e; exact ⟨g, rfl, rfl⟩
    subst hvn
    have hown : W1.ownsRow base 110 3 (.slice (some ⟨g, 0, none⟩) y.ms.length vc) y.ms.length (mc y.ms) := HM1.out.1
    obtain ⟨e0, e1, e2⟩ := mc_at y.ms i hi
    have L0 := HL1.out.1
    have L1 := HL1.out.2.1
    have L2 := HL1.out.2.2
    have c3 := L0.c3
    have d3 := L1.c3
    have q1 := (hown.cellAt (i * 3 + 1) (by omega)).trans e1
    have f1 := hown.frozenAt (i * 3 + 1)
    have hi' : (i : Int) < (y.ms.length : Int) := by omega
    have hi0 : (0 : Int) ≤ (i : Int) := by omega
    generalize hE : y.ms.getD i noS = E at q1
    have HEE : Hid (y.ms.getD i noS = E) := hE
    clear hown e0 e1 e2 L0 L2 hE
    rcases hmo with hmo | hmo | hmo
    · have d2 : W1.cell? ⟨w.heap.size + 1, 0 + 2, none⟩ = some (.int .i64 1) := by rw [← hmo]; exact L1.c2
      clear L1
      go_upto_region 12 with fail
      have HX : Hid (OwnM (W1.setCell ⟨g, i * 3 + 1, none⟩ (.int .i64 m.f)) base (.slice (some ⟨g, 0, none⟩) y.ms.length vc) (setF y.ms i m.f) ∧ OwnK (W1.setCell ⟨g, i * 3 + 1, none⟩ (.int .i64 m.f)) base (.slice ua un uc) y.ks ∧ bx.Lies (W1.setCell ⟨g, i * 3 + 1, none⟩ (.int .i64 m.f)) w.heap.size 99 y (.slice (some ⟨g, 0, none⟩) y.ms.length vc) (.slice ua un uc) ∧ bx.Lies (W1.setCell ⟨g, i * 3 + 1, none⟩ (.int .i64 m.f)) (w.heap.size + 1 + 1) 99 B0 (.slice none 0 0) (.slice none 0 0) ∧ w.grownBy (W1.setCell ⟨g, i * 3 + 1, none⟩ (.int .i64 m.f)) (some g)) :=
        ⟨ownM_setF HM1.out.1 hi _, row_other HM1.out.2 (u := (.slice (some ⟨g, 0, none⟩) y.ms.length vc)) (mk.grown_set _ _ _ _) (rowkinds HM1.out.2 HM1.out.1 (by decide)), lies_row HL1.out.1 HM1.out.1 (mk.grown_set _ _ _ _) (by decide), lies_row HL1.out.2.2 HM1.out.1 (mk.grown_set _ _ _ _) (by decide), ow.grown_trans (ow.grown_below HB1.out) (mk.grown_set _ _ _ _)⟩
      clear c3 d3 q1 f1 d2
      generalize W1.setCell _ _ = X at HX ⊢
      have c0 := HX.out.2.2.1.c0
      have c1 := HX.out.2.2.1.c1
      have c2 := HX.out.2.2.1.c2
      have c3 := HX.out.2.2.1.c3
      have c4 := HX.out.2.2.1.c4
      have r0 : X.cell? ⟨w.heap.size + 1 + 1, 0, none⟩ = some (.string ⟨#[]⟩) := HX.out.2.2.2.1.c0
      have r1 : X.cell? ⟨w.heap.size + 1 + 1, 0 + 1, none⟩ = some (.int .i64 0) := HX.out.2.2.2.1.c1
      have r2 : X.cell? ⟨w.heap.size + 1 + 1, 0 + 2, none⟩ = some (.int .i64 0) := HX.out.2.2.2.1.c2
      have r3 := HX.out.2.2.2.1.c3
      have r4 := HX.out.2.2.2.1.c4
      have fr := HX.out.2.2.2.1.f
      have HE : Hid (bx.Lies (put5w X (w.heap.size + 1 + 1) (.string y.nm) (.int .i64 y.vd) (.int .i64 y.nx) (.slice (some ⟨g, 0, none⟩) y.ms.length vc) (.slice ua un uc)) (w.heap.size + 1 + 1) 99 y (.slice (some ⟨g, 0, none⟩) y.ms.length vc) (.slice ua un uc) ∧ OwnM (put5w X (w.heap.size + 1 + 1) (.string y.nm) (.int .i64 y.vd) (.int .i64 y.nx) (.slice (some ⟨g, 0, none⟩) y.ms.length vc) (.slice ua un uc)) base (.slice (some ⟨g, 0, none⟩) y.ms.length vc) (setF y.ms i m.f) ∧ OwnK (put5w X (w.heap.size + 1 + 1) (.string y.nm) (.int .i64 y.vd) (.int .i64 y.nx) (.slice (some ⟨g, 0, none⟩) y.ms.length vc) (.slice ua un uc)) base (.slice ua un uc) y.ks ∧ w.grownBy (put5w X (w.heap.size + 1 + 1) (.string y.nm) (.int .i64 y.vd) (.int .i64 y.nx) (.slice (some ⟨g, 0, none⟩) y.ms.length vc) (.slice ua un uc)) (some g)) :=
        ⟨put5w_lies HX.out.2.2.2.1, own_grown HX.out.1 (put5w_grown _ _ _ _ _ _ _) (row_box HX.out.1 HX.out.2.2.2.1 (by decide)), own_grown HX.out.2.1 (put5w_grown _ _ _ _ _ _ _) (row_box HX.out.2.1 HX.out.2.2.2.1 (by decide)), put5w_new HX.out.2.2.2.2 (by omega)⟩
      clear HX
      go_wp2
      change bodyPost _ _ _ _ _ (put5w X (w.heap.size + 1 + 1) (.string y.nm) (.int .i64 y.vd) (.int .i64 y.nx) (.slice (some ⟨g, 0, none⟩) y.ms.length vc) (.slice ua un uc))
      generalize put5w _ _ _ _ _ _ _ = W9 at HE ⊢
      have x0 := HE.out.1.c0
      have x1 := HE.out.1.c1
      have x2 := HE.out.1.c2
      have x3 := HE.out.1.c3
      have x4 := HE.out.1.c4
      exact bodyPost_ret (v := .tuple #[.agg #[.string y.nm, .int .i64 y.vd, .int .i64 y.nx, (.slice (some ⟨g, 0, none⟩) y.ms.length vc), (.slice ua un uc)], .int .i64 0]) (by simp [results, Tryz.results121, go_sem, x0, x1, x2, x3, x4]) rfl ⟨.inl ⟨⟨y.nm, y.vd, y.nx, setF y.ms i m.f, y.ks⟩, rfl, .inl ⟨i, hi, HU.out, by rw [HEE.out, flg_set hmo], rfl⟩, HE.out.2.1, HE.out.2.2.1⟩, HE.out.2.2.2⟩
    · have d2 : W1.cell? ⟨w.heap.size + 1, 0 + 2, none⟩ = some (.int .i64 2) := by rw [← hmo]; exact L1.c2
      clear L1
      go_upto_region 9 with fail
      go_region_with fail
      all_goals (go_upto_region 12 with fail)
      all_goals (
        have hx0 : (OwnM (W1.setCell ⟨g, i * 3 + 1, none⟩ (.int .i64 (bits .or .i64 E.f m.f))) base (.slice (some ⟨g, 0, none⟩) y.ms.length vc) (setF y.ms i (bits .or .i64 E.f m.f)) ∧ OwnK (W1.setCell ⟨g, i * 3 + 1, none⟩ (.int .i64 (bits .or .i64 E.f m.f))) base (.slice ua un uc) y.ks ∧ bx.Lies (W1.setCell ⟨g, i * 3 + 1, none⟩ (.int .i64 (bits .or .i64 E.f m.f))) w.heap.size 99 y (.slice (some ⟨g, 0, none⟩) y.ms.length vc) (.slice ua un uc) ∧ bx.Lies (W1.setCell ⟨g, i * 3 + 1, none⟩ (.int .i64 (bits .or .i64 E.f m.f))) (w.heap.size + 1 + 1) 99 B0 (.slice none 0 0) (.slice none 0 0) ∧ w.grownBy (W1.setCell ⟨g, i * 3 + 1, none⟩ (.int .i64 (bits .or .i64 E.f m.f))) (some g)) :=
          ⟨ownM_setF HM1.out.1 hi _, row_other HM1.out.2 (u := (.slice (some ⟨g, 0, none⟩) y.ms.length vc)) (mk.grown_set _ _ _ _) (rowkinds HM1.out.2 HM1.out.1 (by decide)), lies_row HL1.out.1 HM1.out.1 (mk.grown_set _ _ _ _) (by decide), lies_row HL1.out.2.2 HM1.out.1 (mk.grown_set _ _ _ _) (by decide), ow.grown_trans (ow.grown_below HB1.out) (mk.grown_set _ _ _ _)⟩
        have HX : Hid (OwnM (W1.setCell ⟨g, i * 3 + 1, none⟩ (.int .i64 (bits .or .i64 E.f m.f))).drew base (.slice (some ⟨g, 0, none⟩) y.ms.length vc) (setF y.ms i (bits .or .i64 E.f m.f)) ∧ OwnK (W1.setCell ⟨g, i * 3 + 1, none⟩ (.int .i64 (bits .or .i64 E.f m.f))).drew base (.slice ua un uc) y.ks ∧ bx.Lies (W1.setCell ⟨g, i * 3 + 1, none⟩ (.int .i64 (bits .or .i64 E.f m.f))).drew w.heap.size 99 y (.slice (some ⟨g, 0, none⟩) y.ms.length vc) (.slice ua un uc) ∧ bx.Lies (W1.setCell ⟨g, i * 3 + 1, none⟩ (.int .i64 (bits .or .i64 E.f m.f))).drew (w.heap.size + 1 + 1) 99 B0 (.slice none 0 0) (.slice none 0 0) ∧ w.grownBy (W1.setCell ⟨g, i * 3 + 1, none⟩ (.int .i64 (bits .or .i64 E.f m.f))).drew (some g)) := ⟨hx0.1, hx0.2.1, hx0.2.2.1, hx0.2.2.2.1, drew_grown hx0.2.2.2.2⟩
        clear hx0
        clear c3 d3 q1 f1 d2
        generalize World.drew _ = X at HX ⊢
        have c0 := HX.out.2.2.1.c0
        have c1 := HX.out.2.2.1.c1
        have c2 := HX.out.2.2.1.c2
        have c3 := HX.out.2.2.1.c3
        have c4 := HX.out.2.2.1.c4
        have r0 : X.cell? ⟨w.heap.size + 1 + 1, 0, none⟩ = some (.string ⟨#[]⟩) := HX.out.2.2.2.1.c0
        have r1 : X.cell? ⟨w.heap.size + 1 + 1, 0 + 1, none⟩ = some (.int .i64 0) := HX.out.2.2.2.1.c1
        have r2 : X.cell? ⟨w.heap.size + 1 + 1, 0 + 2, none⟩ = some (.int .i64 0) := HX.out.2.2.2.1.c2
        have r3 := HX.out.2.2.2.1.c3
        have r4 := HX.out.2.2.2.1.c4
        have fr := HX.out.2.2.2.1.f
        have HE : Hid (bx.Lies (put5w X (w.heap.size + 1 + 1) (.string y.nm) (.int .i64 y.vd) (.int .i64 y.nx) (.slice (some ⟨g, 0, none⟩) y.ms.length vc) (.slice ua un uc)) (w.heap.size + 1 + 1) 99 y (.slice (some ⟨g, 0, none⟩) y.ms.length vc) (.slice ua un uc) ∧ OwnM (put5w X (w.heap.size + 1 + 1) (.string y.nm) (.int .i64 y.vd) (.int .i64 y.nx) (.slice (some ⟨g, 0, none⟩) y.ms.length vc) (.slice ua un uc)) base (.slice (some ⟨g, 0, none⟩) y.ms.length vc) (setF y.ms i (bits .or .i64 E.f m.f)) ∧ OwnK (put5w X (w.heap.size + 1 + 1) (.string y.nm) (.int .i64 y.vd) (.int .i64 y.nx) (.slice (some ⟨g, 0, none⟩) y.ms.length vc) (.slice ua un uc)) base (.slice ua un uc) y.ks ∧ w.grownBy (put5w X (w.heap.size + 1 + 1) (.string y.nm) (.int .i64 y.vd) (.int .i64 y.nx) (.slice (some ⟨g, 0, none⟩) y.ms.length vc) (.slice ua un uc)) (some g)) :=
          ⟨put5w_lies HX.out.2.2.2.1, own_grown HX.out.1 (put5w_grown _ _ _ _ _ _ _) (row_box HX.out.1 HX.out.2.2.2.1 (by decide)), own_grown HX.out.2.1 (put5w_grown _ _ _ _ _ _ _) (row_box HX.out.2.1 HX.out.2.2.2.1 (by decide)), put5w_new HX.out.2.2.2.2 (by omega)⟩
        clear HX
        go_wp2
        change bodyPost _ _ _ _ _ (put5w X (w.heap.size + 1 + 1) (.string y.nm) (.int .i64 y.vd) (.int .i64 y.nx) (.slice (some ⟨g, 0, none⟩) y.ms.length vc) (.slice ua un uc))
        generalize put5w _ _ _ _ _ _ _ = W9 at HE ⊢
        have x0 := HE.out.1.c0
        have x1 := HE.out.1.c1
        have x2 := HE.out.1.c2
        have x3 := HE.out.1.c3
        have x4 := HE.out.1.c4
        exact bodyPost_ret (v := .tuple #[.agg #[.string y.nm, .int .i64 y.vd, .int .i64 y.nx, (.slice (some ⟨g, 0, none⟩) y.ms.length vc), (.slice ua un uc)], .int .i64 0]) (by simp [results, Tryz.results121, go_sem, x0, x1, x2, x3, x4]) rfl ⟨.inl ⟨⟨y.nm, y.vd, y.nx, setF y.ms i (bits .or .i64 E.f m.f), y.ks⟩, rfl, .inl ⟨i, hi, HU.out, by rw [HEE.out, flg_add hmo], rfl⟩, HE.out.2.1, HE.out.2.2.1⟩, HE.out.2.2.2⟩)
    · have d2 : W1.cell? ⟨w.heap.size + 1, 0 + 2, none⟩ = some (.int .i64 3) := by rw [← hmo]; exact L1.c2
      clear L1
      go_upto_region 11 with fail
      go_region_with fail
      all_goals (go_upto_region 12 with fail)
      all_goals (
        have hx0 : (OwnM (W1.setCell ⟨g, i * 3 + 1, none⟩ (.int .i64 (bits .andNot .i64 E.f m.f))) base (.slice (some ⟨g, 0, none⟩) y.ms.length vc) (setF y.ms i (bits .andNot .i64 E.f m.f)) ∧ OwnK (W1.setCell ⟨g, i * 3 + 1, none⟩ (.int .i64 (bits .andNot .i64 E.f m.f))) base (.slice ua un uc) y.ks ∧ bx.Lies (W1.setCell ⟨g, i * 3 + 1, none⟩ (.int .i64 (bits .andNot .i64 E.f m.f))) w.heap.size 99 y (.slice (some ⟨g, 0, none⟩) y.ms.length vc) (.slice ua un uc) ∧ bx.Lies (W1.setCell ⟨g, i * 3 + 1, none⟩ (.int .i64 (bits .andNot .i64 E.f m.f))) (w.heap.size + 1 + 1) 99 B0 (.slice none 0 0) (.slice none 0 0) ∧ w.grownBy (W1.setCell ⟨g, i * 3 + 1, none⟩ (.int .i64 (bits .andNot .i64 E.f m.f))) (some g)) :=
          ⟨ownM_setF HM1.out.1 hi _, row_other HM1.out.2 (u := (.slice (some ⟨g, 0, none⟩) y.ms.length vc)) (mk.grown_set _ _ _ _) (rowkinds HM1.out.2 HM1.out.1 (by decide)), lies_row HL1.out.1 HM1.out.1 (mk.grown_set _ _ _ _) (by decide), lies_row HL1.out.2.2 HM1.out.1 (mk.grown_set _ _ _ _) (by decide), ow.grown_trans (ow.grown_below HB1.out) (mk.grown_set _ _ _ _)⟩
        have HX : Hid (OwnM (W1.setCell ⟨g, i * 3 + 1, none⟩ (.int .i64 (bits .andNot .i64 E.f m.f))).drew base (.slice (some ⟨g, 0, none⟩) y.ms.length vc) (setF y.ms i (bits .andNot .i64 E.f m.f)) ∧ OwnK (W1.setCell ⟨g, i * 3 + 1, none⟩ (.int .i64 (bits .andNot .i64 E.f m.f))).drew base (.slice ua un uc) y.ks ∧ bx.Lies (W1.setCell ⟨g, i * 3 + 1, none⟩ (.int .i64 (bits .andNot .i64 E.f m.f))).drew w.heap.size 99 y (.slice (some ⟨g, 0, none⟩) y.ms.length vc) (.slice ua un uc) ∧ bx.Lies (W1.setCell ⟨g, i * 3 + 1, none⟩ (.int .i64 (bits .andNot .i64 E.f m.f))).drew (w.heap.size + 1 + 1) 99 B0 (.slice none 0 0) (.slice none 0 0) ∧ w.grownBy (W1.setCell ⟨g, i * 3 + 1, none⟩ (.int .i64 (bits .andNot .i64 E.f m.f))).drew (some g)) := ⟨hx0.1, hx0.2.1, hx0.2.2.1, hx0.2.2.2.1, drew_grown hx0.2.2.2.2⟩
        clear hx0
        clear c3 d3 q1 f1 d2
        generalize World.drew _ = X at HX ⊢
        have c0 := HX.out.2.2.1.c0
        have c1 := HX.out.2.2.1.c1
        have c2 := HX.out.2.2.1.c2
        have c3 := HX.out.2.2.1.c3
        have c4 := HX.out.2.2.1.c4
        have r0 : X.cell? ⟨w.heap.size + 1 + 1, 0, none⟩ = some (.string ⟨#[]⟩) := HX.out.2.2.2.1.c0
        have r1 : X.cell? ⟨w.heap.size + 1 + 1, 0 + 1, none⟩ = some (.int .i64 0) := HX.out.2.2.2.1.c1
        have r2 : X.cell? ⟨w.heap.size + 1 + 1, 0 + 2, none⟩ = some (.int .i64 0) := HX.out.2.2.2.1.c2
        have r3 := HX.out.2.2.2.1.c3
        have r4 := HX.out.2.2.2.1.c4
        have fr := HX.out.2.2.2.1.f
        have HE : Hid (bx.Lies (put5w X (w.heap.size + 1 + 1) (.string y.nm) (.int .i64 y.vd) (.int .i64 y.nx) (.slice (some ⟨g, 0, none⟩) y.ms.length vc) (.slice ua un uc)) (w.heap.size + 1 + 1) 99 y (.slice (some ⟨g, 0, none⟩) y.ms.length vc) (.slice ua un uc) ∧ OwnM (put5w X (w.heap.size + 1 + 1) (.string y.nm) (.int .i64 y.vd) (.int .i64 y.nx) (.slice (some ⟨g, 0, none⟩) y.ms.length vc) (.slice ua un uc)) base (.slice (some ⟨g, 0, none⟩) y.ms.length vc) (setF y.ms i (bits .andNot .i64 E.f m.f)) ∧ OwnK (put5w X (w.heap.size + 1 + 1) (.string y.nm) (.int .i64 y.vd) (.int .i64 y.nx) (.slice (some ⟨g, 0, none⟩) y.ms.length vc) (.slice ua un uc)) base (.slice ua un uc) y.ks ∧ w.grownBy (put5w X (w.heap.size + 1 + 1) (.string y.nm) (.int .i64 y.vd) (.int .i64 y.nx) (.slice (some ⟨g, 0, none⟩) y.ms.length vc) (.slice ua un uc)) (some g)) :=
          ⟨put5w_lies HX.out.2.2.2.1, own_grown HX.out.1 (put5w_grown _ _ _ _ _ _ _) (row_box HX.out.1 HX.out.2.2.2.1 (by decide)), own_grown HX.out.2.1 (put5w_grown _ _ _ _ _ _ _) (row_box HX.out.2.1 HX.out.2.2.2.1 (by decide)), put5w_new HX.out.2.2.2.2 (by omega)⟩
        clear HX
        go_wp2
        change bodyPost _ _ _ _ _ (put5w X (w.heap.size + 1 + 1) (.string y.nm) (.int .i64 y.vd) (.int .i64 y.nx) (.slice (some ⟨g, 0, none⟩) y.ms.length vc) (.slice ua un uc))
        generalize put5w _ _ _ _ _ _ _ = W9 at HE ⊢
        have x0 := HE.out.1.c0
        have x1 := HE.out.1.c1
        have x2 := HE.out.1.c2
        have x3 := HE.out.1.c3
        have x4 := HE.out.1.c4
        exact bodyPost_ret (v := .tuple #[.agg #[.string y.nm, .int .i64 y.vd, .int .i64 y.nx, (.slice (some ⟨g, 0, none⟩) y.ms.length vc), (.slice ua un uc)], .int .i64 0]) (by simp [results, Tryz.results121, go_sem, x0, x1, x2, x3, x4]) rfl ⟨.inl ⟨⟨y.nm, y.vd, y.nx, setF y.ms i (bits .andNot .i64 E.f m.f), y.ks⟩, rfl, .inl ⟨i, hi, HU.out, by rw [HEE.out, flg_less hmo], rfl⟩, HE.out.2.1, HE.out.2.2.1⟩, HE.out.2.2.2⟩)
end Go.Proofs.YtncnbhekgkemfaaGreatDoor.bl

namespace Go.Proofs.YtncnbhekgkemfaaGreatDoor.bl
open Go.ChangeShapes Go.WideShapes Go.ChangeAt Go.RowKit Go.Deep Go.Joins
open st gr bx mx
set_option linter.unusedVariables false

set_option maxHeartbeats 1000000 in
set_option maxRecDepth 100000 in
theorem dele_any (v : Value) (base : Nat) (ms : List St) (w : World) (h : OwnM w base v ms) (hb : base ≤ w.heap.size) (hn : ms.length ≤ 30) :
    Calls Tryz.prog 122 #[v, .func (Fn.func 123) #[] #[]] w fun e w' => (∃ a k c, e = .returned (.slice a k c) ∧ OwnM w' base (.slice a k c) (kept ms) ∧ (Value.slice a k c).ownBlock = v.ownBlock) ∧ w.grownBy w' v.ownBlock := by
  have h' : w.ownsRow base 110 3 v ms.length (mc ms) := h
  rcases h'.2 with ⟨rfl, hz⟩ | ⟨g, cap, cur, rfl, _⟩
  · have hms : ms = [] := List.eq_nil_of_length_eq_zero hz
    subst hms
    have HF : Hid (Calls Tryz.prog 133 #[.slice none 0 0, .func (Fn.func 123) #[] #[]] w fun e w' => (∃ r : Int, e = .returned (.int .i64 r) ∧ Fst [] r) ∧ Below w.heap.size w w') := first_any w.heap.size _ [] w (ownM_in h (Nat.le_refl _)) (Nat.le_refl _) (by simp)
    clear h h' hz
    go_enter Tryz.func122, Tryz.ntmps122
    go_wp2_with fail
    refine HF.out.mono ?_
    rintro e w1 ⟨⟨r, rfl, hr⟩, b1⟩
    have hr : r = -1 := by
      rcases hr with ⟨k, _, hk, _⟩ | ⟨e, _⟩
      · exact absurd hk (Nat.not_lt_zero _)
      · exact e
    subst hr
    clear HF
    go_wp2
    go_ret
    exact ⟨⟨none, 0, 0, rfl, World.ownsRow_nil _ _ _ _, rfl⟩, ow.grown_below b1⟩
  · exact (dele_some g _ cap base ms w h hb hn).mono fun e w' ⟨⟨k, he, ho⟩, hg⟩ => ⟨⟨_, k, cap, he, ho, rfl⟩, hg⟩
theorem set_new {w x : World} {r : Option Nat} {G j : Nat} {a : Value} (h : w.grownBy x r) (hG : w.heap.size ≤ G) : w.grownBy (x.setCell ⟨G, j, none⟩ a) r :=
  ⟨(mk.grown_set x G j a).os.trans h.os, (mk.grown_set x G j a).tape.trans h.tape, (mk.grown_set x G j a).output.trans h.output, Nat.le_trans h.size (mk.grown_set x G j a).size, fun k hk hr => ((mk.grown_set x G j a).block k (Nat.lt_of_lt_of_le hk h.size) (by intro e; cases e; omega)).trans (h.block k hk hr)⟩
set_option maxHeartbeats 4000000 in
set_option maxRecDepth 100000 in
theorem mutated_gone (y : Bx) (v u : Value) (m : mu.Mu) (iv : Value) (base : Nat) (w : World) (hm : OwnM w base v y.ms) (hk : OwnK w base u y.ks) (hbs : base ≤ w.heap.size) (hiv : ∃ a n c, iv = .slice a n c) (hl : y.ms.length ≤ 30) (hmk : m.k = 4) :
    Calls Tryz.prog 98 #[BV y v u, mu.MV m iv] w fun e w' => (∃ v', e = .returned (.tuple #[BV ⟨y.nm, y.vd, y.nx, kept y.ms, y.ks⟩ v' u, .int .i64 0]) ∧ OwnM w' base v' (kept y.ms) ∧ OwnK w' base u y.ks ∧ v'.ownBlock = v.ownBlock) ∧ w.grownBy w' v.ownBlock := by
  obtain ⟨ia, inn, ic, rfl⟩ := hiv
  obtain ⟨va, vn, vc, rfl⟩ := slice_fine (own_fine hm)
  obtain ⟨ua, un, uc, rfl⟩ := slice_fine (own_fine hk)
  obtain ⟨W, hW⟩ : ∃ W, W = (((w.alloc (.cells #[.string y.nm, .int .i64 y.vd, .int .i64 y.nx, .slice va vn vc, .slice ua un uc] 99)).alloc (.cells #[.int .i64 4, .int .i64 m.u, .int .i64 m.m, .int .i64 m.f, .string m.b, .slice ia inn ic] 104)).alloc (.cells #[.string ⟨#[]⟩, .int .i64 0, .int .i64 0, .slice none 0 0, .slice none 0 0] 99)) := ⟨_, rfl⟩
  have b3 : Below w.heap.size w W := by rw [hW]; exact ((bx.new_below w _ _).alloc (by simp) _).alloc (by simp; omega) _
  have k0 : bx.Lies W w.heap.size 99 y (.slice va vn vc) (.slice ua un uc) := by
    rw [hW]; exact ((bx.lies_new w 99 y (.slice va vn vc) (.slice ua un uc)).keep (bx.new_below _ _ _)).keep (bx.new_below _ _ _)
  have k1 : mu.Lies W (w.heap.size + 1) 104 m (.slice ia inn ic) := by rw [hW, ← hmk]; exact new1 _ _ _ _
  have k2 : bx.Lies W (w.heap.size + 1 + 1) 99 B0 (.slice none 0 0) (.slice none 0 0) := by rw [hW]; exact new2 _ _ _ _
  have HM : Hid (OwnM W base (.slice va vn vc) y.ms ∧ OwnK W base (.slice ua un uc) y.ks) := ⟨ow.own_below hm b3, ow.own_below hk b3⟩
  have HL : Hid (bx.Lies W w.heap.size 99 y (.slice va vn vc) (.slice ua un uc) ∧ bx.Lies W (w.heap.size + 1 + 1) 99 B0 (.slice none 0 0) (.slice none 0 0)) := ⟨k0, k2⟩
  have HB : Hid (Below w.heap.size w W) := b3
  have c3 := k0.c3
  have d0 : W.cell? ⟨w.heap.size + 1, 0, none⟩ = some (.int .i64 4) := by rw [← hmk]; exact k1.c0
  unfold BV mu.MV
  rw [hmk]
  have HD : Hid (Calls Tryz.prog 122 #[.slice va vn vc, .func (Fn.func 123) #[] #[]] W fun e w' => (∃ a k c, e = .returned (.slice a k c) ∧ OwnM w' base (.slice a k c) (kept y.ms) ∧ (Value.slice a k c).ownBlock = (Value.slice va vn vc).ownBlock) ∧ W.grownBy w' (Value.slice va vn vc).ownBlock) := dele_any _ base y.ms W HM.out.1 (by have := b3.size; omega) hl
  clear hm hk b3 k0 k1 k2
  go_enter Tryz.func98, Tryz.ntmps98
  go_wp2_with (rw [← hW])
  clear hW
  refine HD.out.mono ?_
  rintro e X ⟨⟨a, k, c, rfl, ho, hob⟩, hg⟩
  have HX : Hid (OwnM X base (.slice a k c) (kept y.ms) ∧ OwnK X base (.slice ua un uc) y.ks ∧ bx.Lies X w.heap.size 99 y (.slice va vn vc) (.slice ua un uc) ∧ bx.Lies X (w.heap.size + 1 + 1) 99 B0 (.slice none 0 0) (.slice none 0 0) ∧ w.grownBy X (Value.slice va vn vc).ownBlock) :=
    ⟨ho, row_other HM.out.2 hg (rowkinds HM.out.2 HM.out.1 (by decide)), lies_row HL.out.1 HM.out.1 hg (by decide), lies_row HL.out.2 HM.out.1 hg (by decide), ow.grown_trans (ow.grown_below HB.out) hg⟩
  have HK : Hid (OwnM (X.setCell ⟨w.heap.size, 3, none⟩ (.slice a k c)) base (.slice a k c) (kept y.ms) ∧ OwnK (X.setCell ⟨w.heap.size, 3, none⟩ (.slice a k c)) base (.slice ua un uc) y.ks ∧ bx.Lies (X.setCell ⟨w.heap.size, 3, none⟩ (.slice a k c)) w.heap.size 99 y (.slice a k c) (.slice ua un uc) ∧ bx.Lies (X.setCell ⟨w.heap.size, 3, none⟩ (.slice a k c)) (w.heap.size + 1 + 1) 99 B0 (.slice none 0 0) (.slice none 0 0) ∧ w.grownBy (X.setCell ⟨w.heap.size, 3, none⟩ (.slice a k c)) (Value.slice va vn vc).ownBlock) :=
    ⟨own_var HX.out.1 HX.out.2.2.1 (by decide), own_var HX.out.2.1 HX.out.2.2.1 (by decide), HX.out.2.2.1.put3 _, HX.out.2.2.2.1.other (by omega), set_new HX.out.2.2.2.2 (Nat.le_refl _)⟩
  have HO : Hid ((Value.slice a k c).ownBlock = (Value.slice va vn vc).ownBlock) := hob
  have q3 := HX.out.2.2.1.c3
  have q3f := HX.out.2.2.1.f 3
  clear ho hg HX HD HM HL HB c3 d0 hob
  have c0 := HK.out.2.2.1.c0
  have c1 := HK.out.2.2.1.c1
  have c2 := HK.out.2.2.1.c2
  have c3 := HK.out.2.2.1.c3
  have c4 := HK.out.2.2.1.c4
  have r0 : (X.setCell ⟨w.heap.size, 3, none⟩ (.slice a k c)).cell? ⟨w.heap.size + 1 + 1, 0, none⟩ = some (.string ⟨#[]⟩) := HK.out.2.2.2.1.c0
  have r1 : (X.setCell ⟨w.heap.size, 3, none⟩ (.slice a k c)).cell? ⟨w.heap.size + 1 + 1, 0 + 1, none⟩ = some (.int .i64 0) := HK.out.2.2.2.1.c1
  have r2 : (X.setCell ⟨w.heap.size, 3, none⟩ (.slice a k c)).cell? ⟨w.heap.size + 1 + 1, 0 + 2, none⟩ = some (.int .i64 0) := HK.out.2.2.2.1.c2
  have r3 := HK.out.2.2.2.1.c3
  have r4 := HK.out.2.2.2.1.c4
  have fr := HK.out.2.2.2.1.f
  have HE : Hid (bx.Lies (put5w (X.setCell ⟨w.heap.size, 3, none⟩ (.slice a k c)) (w.heap.size + 1 + 1) (.string y.nm) (.int .i64 y.vd) (.int .i64 y.nx) (.slice a k c) (.slice ua un uc)) (w.heap.size + 1 + 1) 99 y (.slice a k c) (.slice ua un uc) ∧ OwnM (put5w (X.setCell ⟨w.heap.size, 3, none⟩ (.slice a k c)) (w.heap.size + 1 + 1) (.string y.nm) (.int .i64 y.vd) (.int .i64 y.nx) (.slice a k c) (.slice ua un uc)) base (.slice a k c) (kept y.ms) ∧ OwnK (put5w (X.setCell ⟨w.heap.size, 3, none⟩ (.slice a k c)) (w.heap.size + 1 + 1) (.string y.nm) (.int .i64 y.vd) (.int .i64 y.nx) (.slice a k c) (.slice ua un uc)) base (.slice ua un uc) y.ks ∧ w.grownBy (put5w (X.setCell ⟨w.heap.size, 3, none⟩ (.slice a k c)) (w.heap.size + 1 + 1) (.string y.nm) (.int .i64 y.vd) (.int .i64 y.nx) (.slice a k c) (.slice ua un uc)) (Value.slice va vn vc).ownBlock) :=
    ⟨put5w_lies HK.out.2.2.2.1, own_grown HK.out.1 (put5w_grown _ _ _ _ _ _ _) (row_box HK.out.1 HK.out.2.2.2.1 (by decide)), own_grown HK.out.2.1 (put5w_grown _ _ _ _ _ _ _) (row_box HK.out.2.1 HK.out.2.2.2.1 (by decide)), put5w_new HK.out.2.2.2.2 (by omega)⟩
  clear HK
  go_wp2
  change bodyPost _ _ _ _ _ (put5w (X.setCell ⟨w.heap.size, 3, none⟩ (.slice a k c)) (w.heap.size + 1 + 1) (.string y.nm) (.int .i64 y.vd) (.int .i64 y.nx) (.slice a k c) (.slice ua un uc))
  clear c0 c1 c2 c3 c4 r0 r1 r2 r3 r4 fr q3 q3f
  generalize put5w _ _ _ _ _ _ _ = W9 at HE ⊢
  have x0 := HE.out.1.c0
  have x1 := HE.out.1.c1
  have x2 := HE.out.1.c2
  have x3 := HE.out.1.c3
  have x4 := HE.out.1.c4
  exact bodyPost_ret (v := .tuple #[.agg #[.string y.nm, .int .i64 y.vd, .int .i64 y.nx, .slice a k c, .slice ua un uc], .int .i64 0]) (by simp [results, Tryz.results98, go_sem, x0, x1, x2, x3, x4]) rfl ⟨⟨_, rfl, HE.out.2.1, HE.out.2.2.1, HO.out⟩, HE.out.2.2.2⟩
end Go.Proofs.YtncnbhekgkemfaaGreatDoor.bl
