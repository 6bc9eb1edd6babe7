/-
  The walk of the law of ApplyMutation: both functions answer alike, nothing that was handed in is changed, what is answered is memory of its own.
-/
import Derived.Test.YtgjjeabjnkenkaaPkbm

namespace Go.Proofs.Ytgjjeabjnkenkaa.sa
open Go.ChangeShapes Go.WideShapes Go.ChangeAt Go.RowKit Go.Deep Go.Joins
open st gr bx mx bl wi ml
set_option linter.unusedVariables false
def F16 (A1 AG : Value) (x : mu.Mu) : Nat → Value → World → Prop
  | 0, v, _ => v = A1
  | 1, v, _ => v = AG
  | 2, v, X => ∃ g, v = mu.MV x (.slice (some ⟨g, 0, none⟩) x.ps.length x.ps.length) ∧ it.AttrsAt X (.slice (some ⟨g, 0, none⟩) x.ps.length x.ps.length) x.ps
  | 3, v, _ => v = .bool true
  | 4, v, _ => v = .bool false
  | _, _, _ => True
theorem F16.keep {A1 AG : Value} {m : mu.Mu} {x x' : World} (hb : Below x.heap.size x x') : ∀ (j : Nat) (v : Value), F16 A1 AG m j v x → F16 A1 AG m j v x'
  | 0, v, h => h
  | 1, v, h => h
  | 2, v, ⟨g, e, h⟩ => ⟨g, e, it.at_below h hb⟩
  | 3, v, h => h
  | 4, v, h => h
  | n + 5, v, h => trivial
def J9 (W : World) (F : Nat → Value → World → Prop) (D : Nat → Prop) (f : Nat → Value) (x : World) : Prop := Below W.heap.size W x ∧ ∀ j, D j → F j (f j) x
theorem J9.grow {W : World} {A1 AG : Value} {m : mu.Mu} {D : Nat → Prop} {f : Nat → Value} {x x' : World} {i : Nat} (h : J9 W (F16 A1 AG m) D f x) (y : Value) (hb : Below x.heap.size x x') (hi : F16 A1 AG m i y x') : J9 W (F16 A1 AG m) (fun j => j = i ∨ D j) (rs.upd f i y) x' := by
  refine ⟨h.1.trans (hb.mono h.1.size), fun j hj => ?_⟩
  by_cases e : j = i
  · subst e
    rw [rs.upd_same]
    exact hi
  · rw [rs.upd_other f i y e]
    exact F16.keep hb j _ (h.2 j (hj.resolve_left e))
set_option maxHeartbeats 8000000 in
set_option maxRecDepth 100000 in
theorem walk (v : Value) (xs : List Bx) (vs : Nat → Value × Value) (x : mu.Mu) (iv : Value) (w : World) (h : BoxesAt w v xs vs) (hl : xs.length ≤ maxLen) (hh : ∀ j, j < xs.length → bx.Held (xs.getD j noB)) (hi : it.AttrsAt w iv x.ps) (hx : mu.Held x) :
    Calls Try.prog 3 #[v, mu.MV x iv] w fun e w' => e = .returned (.bool true) ∧ Below w.heap.size w w' := by
  have L0 := mu.lies_new w 25 x iv
  have b0 := mu.new_below w 25 #[.int .i64 x.k, .int .i64 x.u, .int .i64 x.m, .int .i64 x.f, .string x.b, iv]
  have HS : Hid ((∀ j, j < xs.length → bx.Held (xs.getD j noB)) ∧ mu.Held x) := ⟨hh, hx⟩
  have HA := boxes_below h b0
  have HI := it.at_below hi b0
  obtain ⟨⟨a, cap, rfl, hd1⟩, hd2⟩ := h
  obtain ⟨ia, ic, rfl, hd3⟩ := hi
  clear hd1 hd2 hd3 hh hx
  unfold mu.MV
  go_enter Try.func3, Try.ntmps3
  go_wp2_with fail
  generalize w.alloc _ = w0 at L0 b0 HA HI ⊢
  have HARG : Hid (∀ W, Below w0.heap.size w0 W → mu.Lies W w.heap.size 25 x (.slice ia x.ps.length ic) ∧ it.AttrsAt W (.slice ia x.ps.length ic) x.ps ∧ BoxesAt W (.slice a xs.length cap) xs vs) := fun W hW => ⟨L0.keep hW, it.at_below HI hW, boxes_below HA hW⟩
  have HB0 : Hid (Below w.heap.size w w0 ∧ w.heap.size ≤ w0.heap.size) := ⟨b0, b0.size⟩
  clear L0 HA HI b0
  refine (szBoxS_any _ xs vs 1048576 w0 (HARG.out w0 (Below.refl _ _)).2.2 (by omega) (by omega) hl HS.out.1).mono ?_
  rintro e w1 ⟨⟨z, rfl, hz0, hz1, hz2⟩, b1⟩
  by_cases hz : z < 0
  · have HE : Hid (Below w.heap.size w w1) := HB0.out.1.trans (b1.mono HB0.out.2)
    go_wp2
    go_ret
    exact ⟨rfl, HE.out⟩
  have HSM : Hid (bx.Smalls xs) := hz2 (by omega)
  clear hz2
  have c0 := (HARG.out w1 b1).1.c0
  have c1 := (HARG.out w1 b1).1.c1
  have c2 := (HARG.out w1 b1).1.c2
  have c3 := (HARG.out w1 b1).1.c3
  have c4 := (HARG.out w1 b1).1.c4
  have c5 := (HARG.out w1 b1).1.c5
  go_wp2_with fail
  refine (mu.szMut_any x _ z w1 (HARG.out w1 b1).2.1 (by omega) (by omega) HS.out.2).mono ?_
  rintro e w2 ⟨⟨z2, rfl, hy0, hy1, hy2⟩, hb2⟩
  have b2 := b1.trans (hb2.mono b1.size)
  clear HS c0 c1 c2 c3 c4 c5 hb2 b1
  by_cases hzz : z2 < 0
  · have HE : Hid (Below w.heap.size w w2) := HB0.out.1.trans (b2.mono HB0.out.2)
    go_wp2
    go_ret
    exact ⟨rfl, HE.out⟩
  have HMM : Hid (mu.Small x) := hy2 (by omega)
  have hpl : x.ps.length ≤ 1048576 := HMM.out.2.2.1
  clear hy2
  have c0 := (HARG.out w2 b2).1.c0
  have c1 := (HARG.out w2 b2).1.c1
  have c2 := (HARG.out w2 b2).1.c2
  have c3 := (HARG.out w2 b2).1.c3
  have c4 := (HARG.out w2 b2).1.c4
  have c5 := (HARG.out w2 b2).1.c5
  go_wp2_with fail
  clear c0 c1 c2 c3 c4 c5
  rename_i K2 hK2
  refine rs.region_st (by kernel_rfl) (fun f => { tmps := List.toArray ((.slice a xs.length cap : Value) :: .agg #[.int .i64 x.k, .int .i64 x.u, .int .i64 x.m, .int .i64 x.f, .string x.b, .slice ia x.ps.length ic] :: undef :: .pointer (some ⟨w.heap.size, 0, none⟩) :: .bool false :: .int .i64 z2 :: f 8 :: f 9 :: undef :: undef :: undef :: undef :: undef :: undef :: undef :: undef :: undef :: .slice a xs.length cap :: .int .i64 1048576 :: .int .i64 z :: .int .i64 z :: .bool (decide (z < 0)) :: .agg #[.int .i64 x.k, .int .i64 x.u, .int .i64 x.m, .int .i64 x.f, .string x.b, .slice ia x.ps.length ic] :: .int .i64 z :: .int .i64 z2 :: .int .i64 z2 :: .bool (decide (z2 < 0)) :: f 5 :: f 0 :: f 1 :: f 2 :: f 3 :: f 4 :: f 6 :: f 7 :: undef :: undef :: undef :: undef :: undef :: undef :: undef :: undef :: undef :: undef :: undef :: undef :: undef :: undef :: undef :: undef :: undef :: undef :: undef :: undef :: undef :: undef :: undef :: undef :: undef :: undef :: undef :: undef :: undef :: undef :: undef :: undef :: undef :: undef :: undef :: undef :: undef :: undef :: undef :: undef :: undef :: undef :: undef :: undef :: undef :: undef :: undef :: undef :: undef :: undef :: undef :: undef :: undef :: undef :: undef :: undef :: undef :: undef :: undef :: undef :: undef :: undef :: undef :: undef :: undef :: undef :: undef :: undef :: undef :: undef :: undef :: undef :: undef :: undef :: undef :: undef :: undef :: undef :: undef :: undef :: undef :: undef :: undef :: undef :: []), defers := [] }) (J8 w2 (F8 w2.heap.size (.slice a xs.length cap) (.agg #[.int .i64 x.k, .int .i64 x.u, .int .i64 x.m, .int .i64 x.f, .string x.b, .slice ia x.ps.length ic]) xs x)) (fun j => match j with  | _ => undef) rfl ⟨(Below.refl _ _).drew, fun j hj => hj.elim⟩ (rs.deps_of (by kernel_rfl)) ?_ ?_
  · intro i o ho D f X hJ hall hni hcl
    match i, ho with
    | 0, ho =>
      cases ho
      have HJ : Hid (J8 w2 (F8 w2.heap.size (.slice a xs.length cap) (.agg #[.int .i64 x.k, .int .i64 x.u, .int .i64 x.m, .int .i64 x.f, .string x.b, .slice ia x.ps.length ic]) xs x) D f X) := hJ
      clear hJ hall hcl
      refine wpOp_step rfl (fun K' hK => ?_)
      go_simp
      exact hK _ _ ⟨.slice a xs.length cap, by simp [rs.upd], HJ.out.pure _ rfl⟩
    | 1, ho =>
      cases ho
      have d0 : D 0 := hall { on := 0, ground := Ground.data } (by simp) rfl
      have h0 : f 0 = .slice a xs.length cap := hJ.2 0 d0
      have hbx := b2.trans (hJ.1.mono b2.size)
      have HJ : Hid (J8 w2 (F8 w2.heap.size (.slice a xs.length cap) (.agg #[.int .i64 x.k, .int .i64 x.u, .int .i64 x.m, .int .i64 x.f, .string x.b, .slice ia x.ps.length ic]) xs x) D f X) := hJ
      clear hJ hall hcl
      refine wpOp_step rfl (fun K' hK => ?_)
      simp only [h0]
      go_wp2_with (go_at_call 10; refine (toBoxS_own _ xs vs X (HARG.out X hbx).2.2 HSM.out).mono ?_; rintro e X' ⟨rfl, ⟨gp, hgp, hmp, hcp⟩, hb⟩)
      exact ⟨.slice (some ⟨X.heap.size, 0, none⟩) xs.length xs.length, by simp [rs.upd, h0], HJ.out.grow _ hb ⟨_, gp, rfl, hgp, mine_fines hmp, ⟨fun a n c e => by cases e; exact Nat.le_refl _, hcp⟩⟩⟩
    | 2, ho =>
      cases ho
      have hbx := b2.trans (hJ.1.mono b2.size)
      have hLX := (HARG.out X hbx).1
      have q0 := hLX.c0
      have q1 := hLX.c1
      have q2 := hLX.c2
      have q3 := hLX.c3
      have q4 := hLX.c4
      have q5 := hLX.c5
      have HJ : Hid (J8 w2 (F8 w2.heap.size (.slice a xs.length cap) (.agg #[.int .i64 x.k, .int .i64 x.u, .int .i64 x.m, .int .i64 x.f, .string x.b, .slice ia x.ps.length ic]) xs x) D f X) := hJ
      clear hLX
      clear hJ hall hcl
      refine wpOp_step rfl (fun K' hK => ?_)
      go_wp2_with fail
      exact ⟨.agg #[.int .i64 x.k, .int .i64 x.u, .int .i64 x.m, .int .i64 x.f, .string x.b, .slice ia x.ps.length ic], by simp [rs.upd], HJ.out.pure _ rfl⟩
    | 3, ho =>
      cases ho
      have d2 : D 2 := hall { on := 2, ground := Ground.data } (by simp) rfl
      have h2 : f 2 = .agg #[.int .i64 x.k, .int .i64 x.u, .int .i64 x.m, .int .i64 x.f, .string x.b, .slice ia x.ps.length ic] := hJ.2 2 d2
      have hbx := b2.trans (hJ.1.mono b2.size)
      have HJ : Hid (J8 w2 (F8 w2.heap.size (.slice a xs.length cap) (.agg #[.int .i64 x.k, .int .i64 x.u, .int .i64 x.m, .int .i64 x.f, .string x.b, .slice ia x.ps.length ic]) xs x) D f X) := hJ
      clear hJ hall hcl
      refine wpOp_step rfl (fun K' hK => ?_)
      simp only [h2]
      go_wp2_with (go_at_call 11; refine (mu.toMut_any x _ X (HARG.out X hbx).2.1 hpl).mono ?_; rintro e X' ⟨g, rfl, hv, hb⟩)
      exact ⟨mu.MV x (.slice (some ⟨g, 0, none⟩) x.ps.length x.ps.length), by simp [rs.upd, h2], HJ.out.grow _ hb ⟨g, rfl, hv⟩⟩
    | 4, ho =>
      cases ho
      have d1 : D 1 := hall { on := 1, ground := Ground.data } (by simp) rfl
      have d3 : D 3 := hall { on := 3, ground := Ground.data } (by simp) rfl
      obtain ⟨B1, gp, h1, hB1, hF1, hC1⟩ := hJ.2 1 d1
      obtain ⟨g3, h3, hA3⟩ := hJ.2 3 d3
      rw [h1] at hB1 hC1
      have HJ : Hid (J8 w2 (F8 w2.heap.size (.slice a xs.length cap) (.agg #[.int .i64 x.k, .int .i64 x.u, .int .i64 x.m, .int .i64 x.f, .string x.b, .slice ia x.ps.length ic]) xs x) D f X) := hJ
      have hbs := hJ.1.size
      clear hJ hall hcl
      refine wpOp_step rfl (fun K' hK => ?_)
      unfold mu.MV at h3
      simp only [h1, h3]
      go_wp2_with (go_at_call 9; refine (spec_am _ xs gp x _ X hB1 hF1 HSM.out hC1 hA3 HMM.out).mono ?_; rintro e X' ⟨⟨L, ys, us, c, rfl, hAp, hO⟩, hb⟩; obtain ⟨La, Ln, Lc, rfl⟩ := slice_fine (own_fine hO.1))
      exact ⟨.tuple #[.slice La Ln Lc, .int .i64 c], by simp [rs.upd, h1, h3], HJ.out.grow _ hb ⟨La, Ln, Lc, c, ys, us, rfl, hAp, ownL_le hO hbs⟩⟩
    | 5, ho =>
      cases ho
      have d4 : D 4 := hall { on := 4, ground := Ground.data } (by simp) rfl
      obtain ⟨La, Ln, Lc, c, ys, us, h4, hAp, hO⟩ := hJ.2 4 d4
      have HJ : Hid (J8 w2 (F8 w2.heap.size (.slice a xs.length cap) (.agg #[.int .i64 x.k, .int .i64 x.u, .int .i64 x.m, .int .i64 x.f, .string x.b, .slice ia x.ps.length ic]) xs x) D f X) := hJ
      have HQ : Hid (Ap xs x ys c ∧ OwnL X w2.heap.size (.slice La Ln Lc) ys us) := ⟨hAp, hO⟩
      clear hAp hO
      clear hJ hall hcl
      refine wpOp_step rfl (fun K' hK => ?_)
      simp only [h4]
      go_simp
      exact hK _ _ ⟨.tuple #[.slice La Ln Lc, .int .i64 c], by simp [rs.upd, h4], HJ.out.pure _ ⟨La, Ln, Lc, c, ys, us, rfl, HQ.out⟩⟩
    | 6, ho =>
      cases ho
      have d5 : D 5 := hall { on := 5, ground := Ground.data } (by simp) rfl
      obtain ⟨La, Ln, Lc, c, ys, us, h5, hAp, hO⟩ := hJ.2 5 d5
      have HJ : Hid (J8 w2 (F8 w2.heap.size (.slice a xs.length cap) (.agg #[.int .i64 x.k, .int .i64 x.u, .int .i64 x.m, .int .i64 x.f, .string x.b, .slice ia x.ps.length ic]) xs x) D f X) := hJ
      have HQ : Hid (Ap xs x ys c ∧ OwnL X w2.heap.size (.slice La Ln Lc) ys us) := ⟨hAp, hO⟩
      clear hAp hO
      clear hJ hall hcl
      refine wpOp_step rfl (fun K' hK => ?_)
      simp only [h5]
      go_simp
      exact hK _ _ ⟨.slice La Ln Lc, by simp [rs.upd, h5], HJ.out.pure _ ⟨La, Ln, Lc, c, ys, us, rfl, HQ.out⟩⟩
    | 7, ho =>
      cases ho
      have d5 : D 5 := hall { on := 5, ground := Ground.data } (by simp) rfl
      obtain ⟨La, Ln, Lc, c, ys, us, h5, hAp, hO⟩ := hJ.2 5 d5
      have HJ : Hid (J8 w2 (F8 w2.heap.size (.slice a xs.length cap) (.agg #[.int .i64 x.k, .int .i64 x.u, .int .i64 x.m, .int .i64 x.f, .string x.b, .slice ia x.ps.length ic]) xs x) D f X) := hJ
      have HQ : Hid (Ap xs x ys c) := hAp
      clear hAp hO
      clear hJ hall hcl
      refine wpOp_step rfl (fun K' hK => ?_)
      simp only [h5]
      go_simp
      exact hK _ _ ⟨.int .i64 c, by simp [rs.upd, h5], HJ.out.pure _ ⟨ys, c, rfl, HQ.out⟩⟩
    | 8, ho =>
      cases ho
      have d6 : D 6 := hall { on := 6, ground := Ground.data } (by simp) rfl
      obtain ⟨La, Ln, Lc, c, ys, us, h6, hAp, hO⟩ := hJ.2 6 d6
      have HJ : Hid (J8 w2 (F8 w2.heap.size (.slice a xs.length cap) (.agg #[.int .i64 x.k, .int .i64 x.u, .int .i64 x.m, .int .i64 x.f, .string x.b, .slice ia x.ps.length ic]) xs x) D f X) := hJ
      have HQ : Hid (Ap xs x ys c ∧ OwnL X w2.heap.size (.slice La Ln Lc) ys us) := ⟨hAp, hO⟩
      clear hAp hO
      clear hJ hall hcl
      refine wpOp_step rfl (fun K' hK => ?_)
      simp only [h6]
      go_simp
      exact hK _ _ ⟨.slice La Ln Lc, by simp [rs.upd, h6], HJ.out.pure _ ⟨La, Ln, Lc, c, ys, us, rfl, HQ.out⟩⟩
    | 9, ho =>
      cases ho
      have d7 : D 7 := hall { on := 7, ground := Ground.data } (by simp) rfl
      obtain ⟨ys, c, h7, hAp⟩ := hJ.2 7 d7
      have HJ : Hid (J8 w2 (F8 w2.heap.size (.slice a xs.length cap) (.agg #[.int .i64 x.k, .int .i64 x.u, .int .i64 x.m, .int .i64 x.f, .string x.b, .slice ia x.ps.length ic]) xs x) D f X) := hJ
      have HQ : Hid (Ap xs x ys c) := hAp
      clear hAp
      clear hJ hall hcl
      refine wpOp_step rfl (fun K' hK => ?_)
      simp only [h7]
      go_simp
      exact hK _ _ ⟨.int .i64 c, by simp [rs.upd, h7], HJ.out.pure _ ⟨ys, c, rfl, HQ.out⟩⟩
    | k + 10, ho => simp at ho
  · intro D f w3 hD hJ
    obtain ⟨Sa, Sn, Sc, c, ys, us0, h8, hAp, hO⟩ := hJ.2 8 (hD 8 (by decide))
    obtain ⟨ys', c', h9, hAp'⟩ := hJ.2 9 (hD 9 (by decide))
    obtain ⟨rfl, rfl⟩ := ap_one hAp' hAp
    have b3 := b2.trans (hJ.1.mono b2.size)
    have HSP : Hid (Ap xs x ys' c' ∧ OwnL w3 w2.heap.size (.slice Sa Sn Sc) ys' us0) := ⟨hAp, hO⟩
    rw [h8, h9]
    clear hJ hD hAp hO hAp' h8 h9
    generalize f 0 = e_0
    generalize f 1 = e_1
    generalize f 2 = e_2
    generalize f 3 = e_3
    generalize f 4 = e_4
    generalize f 5 = e_5
    generalize f 6 = e_6
    generalize f 7 = e_7
    clear f D
    go_wp2_with fail
    refine (toBoxS_own _ xs vs w3 (HARG.out w3 b3).2.2 HSM.out).mono ?_
    rintro e w4 ⟨rfl, ⟨gx, hgx, hmx, hcx⟩, hb4⟩
    have HX : Hid (BoxesAt w4 (.slice (some ⟨w3.heap.size, 0, none⟩) xs.length xs.length) xs gx ∧ Mine w4 w3.heap.size xs gx) := ⟨hgx, hmx⟩
    have HSP4 : Hid (OwnL w4 w2.heap.size (.slice Sa Sn Sc) ys' us0) := ownL_below HSP.out.2 hb4
    have b4 := b3.trans (hb4.mono b3.size)
    have HC4 : Hid (Below w3.heap.size w3 w4) := hb4
    clear hgx hmx hcx hb4
    have c0 := (HARG.out w4 b4).1.c0
    have c1 := (HARG.out w4 b4).1.c1
    have c2 := (HARG.out w4 b4).1.c2
    have c3 := (HARG.out w4 b4).1.c3
    have c4 := (HARG.out w4 b4).1.c4
    have c5 := (HARG.out w4 b4).1.c5
    go_wp2_with fail
    refine (mu.toMut_own x _ w4 (HARG.out w4 b4).2.1 hpl).mono ?_
    rintro e w5' ⟨g5, rfl, hv5, hb5, xs5, ho5⟩
    clear c0 c1 c2 c3 c4 c5
    have b5' := b4.trans (hb5.mono b4.size)
    have k5 := mu.new_below w5' 34 #[.int .i64 x.k, .int .i64 x.u, .int .i64 x.m, .int .i64 x.f, .string x.b, .slice (some ⟨g5, 0, none⟩) x.ps.length x.ps.length]
    have M5 := mu.lies_new w5' 34 x (.slice (some ⟨g5, 0, none⟩) x.ps.length x.ps.length)
    have b5 := b5'.trans (k5.mono b5'.size)
    have HV5 := it.at_below hv5 k5
    have HO5 := ow.own_below ho5 k5
    have e5 := hb5.trans (k5.mono hb5.size)
    have hb5s := hb5.size
    clear hv5 ho5 hb5 b5'
    unfold mu.MV
    go_wp2_with fail
    have hP5 := hb5s
    generalize w5'.heap.size = P5 at M5 hP5 ⊢
    generalize w5'.alloc _ = w5 at M5 b5 HV5 HO5 e5 ⊢
    have HM5 : Hid (mu.Lies w5 P5 34 x (.slice (some ⟨g5, 0, none⟩) x.ps.length x.ps.length) ∧ it.AttrsAt w5 (.slice (some ⟨g5, 0, none⟩) x.ps.length x.ps.length) x.ps ∧ w5.ownsRow w4.heap.size 75 2 (.slice (some ⟨g5, 0, none⟩) x.ps.length x.ps.length) x.ps.length xs5) := ⟨M5, HV5, HO5⟩
    have HP5 : Hid (w4.heap.size ≤ P5 ∧ w3.heap.size ≤ w4.heap.size ∧ w4.heap.size ≤ g5 ∧ g5 < w5.heap.size) := ⟨hP5, HC4.out.size, (own_at HO5).1, (own_at HO5).2⟩
    clear hP5 hb5s
    have HE5 : Hid (Below w4.heap.size w4 w5) := e5
    have HC5 : Hid (Below w3.heap.size w3 w5) := HC4.out.trans (e5.mono HC4.out.size)
    clear M5 HV5 HO5 e5 k5
    refine (impl_am _ xs gx x _ w5 (boxes_below HX.out.1 HE5.out) (.inr ⟨_, _, _, rfl⟩) (mine_fines HX.out.2) HSM.out HM5.out.2.1 HMM.out).mono ?_
    rintro e w6 ⟨⟨G, ys2, ug, c2, rfl, hAp2, hG⟩, hb6⟩
    obtain ⟨rfl, rfl⟩ := ap_one hAp2 HSP.out.1
    obtain ⟨Ga, Gn, Gc, rfl⟩ := slice_fine (own_fine hG.1)
    have HG6 : Hid (OwnL w6 w5.heap.size (.slice Ga Gn Gc) ys2 ug) := hG
    have HH6 : Hid (Below w5.heap.size w5 w6) := hb6
    have HC6 : Hid (Below w3.heap.size w3 w6) := HC5.out.trans (hb6.mono HC5.out.size)
    have HE6 : Hid (Below w4.heap.size w4 w6) := HE5.out.trans (hb6.mono HE5.out.size)
    have HFY : Hid (Few ys2 ∧ bx.Smalls ys2) := ap_few HSM.out HMM.out hAp2
    have cc : ((c2 : Int) != c2) = false := by simp
    clear hG hb6 hAp2 b4 b5 HSP4 HC5 HE5
    go_wp2_with fail
    refine (eqBoxS_any _ _ ys2 ug us0 w6 (ownL_boxes HG6.out) (ownL_boxes (ownL_below HSP.out.2 HC6.out)) HFY.out.2).mono ?_
    rintro e w7 ⟨rfl, hb7⟩
    have HG7 : Hid (OwnL w7 w5.heap.size (.slice Ga Gn Gc) ys2 ug) := ownL_below HG6.out hb7
    have HH7 : Hid (Below w5.heap.size w5 w7) := HH6.out.trans (hb7.mono HH6.out.size)
    have HC7 : Hid (Below w3.heap.size w3 w7) := HC6.out.trans (hb7.mono HC6.out.size)
    have HE7 : Hid (Below w4.heap.size w4 w7) := HE6.out.trans (hb7.mono HE6.out.size)
    have b7 := b3.trans (HC7.out.mono b3.size)
    clear hb7 HG6 HH6 HC6 HE6
    go_wp2_with fail
    refine (toBoxS_any _ xs vs w7 (HARG.out w7 b7).2.2 HSM.out).mono ?_
    rintro e w8 ⟨rfl, ⟨gt, hgt, hct⟩, hb8⟩
    have HT8 : Hid (BoxesAt w8 (.slice (some ⟨w7.heap.size, 0, none⟩) xs.length xs.length) xs gt) := hgt
    have HG8 : Hid (OwnL w8 w5.heap.size (.slice Ga Gn Gc) ys2 ug) := ownL_below HG7.out hb8
    have HH8 : Hid (Below w5.heap.size w5 w8) := HH7.out.trans (hb8.mono HH7.out.size)
    have HC8 : Hid (Below w3.heap.size w3 w8) := HC7.out.trans (hb8.mono HC7.out.size)
    have HE8 : Hid (Below w4.heap.size w4 w8) := HE7.out.trans (hb8.mono HE7.out.size)
    clear hb8 hgt hct HG7 HH7 HC7 HE7 b7
    go_wp2_with fail
    refine (eqBoxS_any _ _ xs gx gt w8 (boxes_below HX.out.1 HE8.out) HT8.out HSM.out).mono ?_
    rintro e w9 ⟨rfl, hb9⟩
    have HG9 : Hid (OwnL w9 w5.heap.size (.slice Ga Gn Gc) ys2 ug) := ownL_below HG8.out hb9
    have HH9 : Hid (Below w5.heap.size w5 w9) := HH8.out.trans (hb9.mono HH8.out.size)
    have HC9 : Hid (Below w3.heap.size w3 w9) := HC8.out.trans (hb9.mono HC8.out.size)
    have HE9 : Hid (Below w4.heap.size w4 w9) := HE8.out.trans (hb9.mono HE8.out.size)
    have b9 := b3.trans (HC9.out.mono b3.size)
    clear hb9 HT8 HG8 HH8 HC8 HE8
    go_wp2_with fail
    refine rs.region_st (by kernel_rfl) (fun f => { tmps := List.toArray ((.slice a xs.length cap : Value) :: .agg #[.int .i64 x.k, .int .i64 x.u, .int .i64 x.m, .int .i64 x.f, .string x.b, .slice ia x.ps.length ic] :: undef :: .pointer (some ⟨w.heap.size, 0, none⟩) :: .bool false :: .int .i64 z2 :: .slice Sa Sn Sc :: .int .i64 c2 :: .slice (some ⟨w3.heap.size, 0, none⟩) xs.length xs.length :: .pointer (some ⟨P5, 0, none⟩) :: .slice Ga Gn Gc :: .int .i64 c2 :: undef :: undef :: undef :: undef :: undef :: .slice a xs.length cap :: .int .i64 1048576 :: .int .i64 z :: .int .i64 z :: .bool (decide (z < 0)) :: .agg #[.int .i64 x.k, .int .i64 x.u, .int .i64 x.m, .int .i64 x.f, .string x.b, .slice ia x.ps.length ic] :: .int .i64 z :: .int .i64 z2 :: .int .i64 z2 :: .bool (decide (z2 < 0)) :: e_5 :: e_0 :: e_1 :: e_2 :: e_3 :: e_4 :: e_6 :: e_7 :: .slice a xs.length cap :: .slice (some ⟨w3.heap.size, 0, none⟩) xs.length xs.length :: .agg #[.int .i64 x.k, .int .i64 x.u, .int .i64 x.m, .int .i64 x.f, .string x.b, .slice ia x.ps.length ic] :: .agg #[.int .i64 x.k, .int .i64 x.u, .int .i64 x.m, .int .i64 x.f, .string x.b, .slice (some ⟨g5, 0, none⟩) x.ps.length x.ps.length] :: .tuple #[.slice Ga Gn Gc, .int .i64 c2] :: .slice (some ⟨w3.heap.size, 0, none⟩) xs.length xs.length :: .agg #[.int .i64 x.k, .int .i64 x.u, .int .i64 x.m, .int .i64 x.f, .string x.b, .slice (some ⟨g5, 0, none⟩) x.ps.length x.ps.length] :: .tuple #[.slice Ga Gn Gc, .int .i64 c2] :: .slice Ga Gn Gc :: .int .i64 c2 :: .slice Ga Gn Gc :: .slice Sa Sn Sc :: .bool true :: .bool false :: .bool false :: .int .i64 c2 :: .int .i64 c2 :: .bool false :: .bool false :: .slice (some ⟨w3.heap.size, 0, none⟩) xs.length xs.length :: .slice a xs.length cap :: .slice (some ⟨w7.heap.size, 0, none⟩) xs.length xs.length :: .bool true :: .bool false :: f 0 :: f 1 :: f 2 :: f 3 :: f 4 :: undef :: undef :: undef :: undef :: undef :: undef :: undef :: undef :: undef :: undef :: undef :: undef :: undef :: undef :: undef :: undef :: undef :: undef :: undef :: undef :: undef :: undef :: undef :: undef :: undef :: undef :: undef :: undef :: undef :: undef :: undef :: undef :: undef :: undef :: undef :: undef :: undef :: undef :: undef :: undef :: undef :: undef :: undef :: undef :: undef :: undef :: undef :: undef :: undef :: undef :: undef :: undef :: undef :: undef :: undef :: []), defers := [] }) (J9 w9 (F16 (.agg #[.int .i64 x.k, .int .i64 x.u, .int .i64 x.m, .int .i64 x.f, .string x.b, .slice (some ⟨g5, 0, none⟩) x.ps.length x.ps.length]) (.agg #[.int .i64 x.k, .int .i64 x.u, .int .i64 x.m, .int .i64 x.f, .string x.b, .slice ia x.ps.length ic]) x)) (fun j => undef) rfl ⟨(Below.refl _ _).drew, fun j hj => hj.elim⟩ (rs.deps_of (by kernel_rfl)) ?_ ?_
    · intro i o ho D f X hJ hall hni hcl
      match i, ho with
      | 0, ho =>
        cases ho
        have hLX := (HM5.out.1.keep HH9.out).keep hJ.1
        have q0 := hLX.c0
        have q1 := hLX.c1
        have q2 := hLX.c2
        have q3 := hLX.c3
        have q4 := hLX.c4
        have q5 := hLX.c5
        have HJ : Hid (J9 w9 (F16 (.agg #[.int .i64 x.k, .int .i64 x.u, .int .i64 x.m, .int .i64 x.f, .string x.b, .slice (some ⟨g5, 0, none⟩) x.ps.length x.ps.length]) (.agg #[.int .i64 x.k, .int .i64 x.u, .int .i64 x.m, .int .i64 x.f, .string x.b, .slice ia x.ps.length ic]) x) D f X) := hJ
        clear hLX
        clear hJ hall hcl
        refine wpOp_step rfl (fun K' hK => ?_)
        go_wp2_with fail
        exact ⟨.agg #[.int .i64 x.k, .int .i64 x.u, .int .i64 x.m, .int .i64 x.f, .string x.b, .slice (some ⟨g5, 0, none⟩) x.ps.length x.ps.length], by simp [rs.upd], HJ.out.grow _ (Below.refl _ _) rfl⟩
      | 1, ho =>
        cases ho
        have hbx := b9.trans (hJ.1.mono b9.size)
        have hLX := (HARG.out X hbx).1
        have q0 := hLX.c0
        have q1 := hLX.c1
        have q2 := hLX.c2
        have q3 := hLX.c3
        have q4 := hLX.c4
        have q5 := hLX.c5
        have HJ : Hid (J9 w9 (F16 (.agg #[.int .i64 x.k, .int .i64 x.u, .int .i64 x.m, .int .i64 x.f, .string x.b, .slice (some ⟨g5, 0, none⟩) x.ps.length x.ps.length]) (.agg #[.int .i64 x.k, .int .i64 x.u, .int .i64 x.m, .int .i64 x.f, .string x.b, .slice ia x.ps.length ic]) x) D f X) := hJ
        clear hLX
        clear hJ hall hcl
        refine wpOp_step rfl (fun K' hK => ?_)
        go_wp2_with fail
        exact ⟨.agg #[.int .i64 x.k, .int .i64 x.u, .int .i64 x.m, .int .i64 x.f, .string x.b, .slice ia x.ps.length ic], by simp [rs.upd], HJ.out.grow _ (Below.refl _ _) rfl⟩
      | 2, ho =>
        cases ho
        have d1 : D 1 := hall { on := 1, ground := Ground.data } (by simp) rfl
        have h1 : f 1 = .agg #[.int .i64 x.k, .int .i64 x.u, .int .i64 x.m, .int .i64 x.f, .string x.b, .slice ia x.ps.length ic] := hJ.2 1 d1
        have hbx := b9.trans (hJ.1.mono b9.size)
        have HJ : Hid (J9 w9 (F16 (.agg #[.int .i64 x.k, .int .i64 x.u, .int .i64 x.m, .int .i64 x.f, .string x.b, .slice (some ⟨g5, 0, none⟩) x.ps.length x.ps.length]) (.agg #[.int .i64 x.k, .int .i64 x.u, .int .i64 x.m, .int .i64 x.f, .string x.b, .slice ia x.ps.length ic]) x) D f X) := hJ
        clear hJ hall hcl
        refine wpOp_step rfl (fun K' hK => ?_)
        simp only [h1]
        go_wp2_with (go_at_call 11; refine (mu.toMut_any x _ X (HARG.out X hbx).2.1 hpl).mono ?_; rintro e X' ⟨g, rfl, hv, hb⟩)
        exact ⟨mu.MV x (.slice (some ⟨g, 0, none⟩) x.ps.length x.ps.length), by simp [rs.upd, h1], HJ.out.grow _ hb ⟨g, rfl, hv⟩⟩
      | 3, ho =>
        cases ho
        have d0 : D 0 := hall { on := 0, ground := Ground.data } (by simp) rfl
        have d2 : D 2 := hall { on := 2, ground := Ground.data } (by simp) rfl
        have h0 : f 0 = .agg #[.int .i64 x.k, .int .i64 x.u, .int .i64 x.m, .int .i64 x.f, .string x.b, .slice (some ⟨g5, 0, none⟩) x.ps.length x.ps.length] := hJ.2 0 d0
        obtain ⟨g2, h2, hA2⟩ := hJ.2 2 d2
        have hA1 := it.at_below (it.at_below HM5.out.2.1 HH9.out) hJ.1
        have HJ : Hid (J9 w9 (F16 (.agg #[.int .i64 x.k, .int .i64 x.u, .int .i64 x.m, .int .i64 x.f, .string x.b, .slice (some ⟨g5, 0, none⟩) x.ps.length x.ps.length]) (.agg #[.int .i64 x.k, .int .i64 x.u, .int .i64 x.m, .int .i64 x.f, .string x.b, .slice ia x.ps.length ic]) x) D f X) := hJ
        clear hJ hall hcl
        refine wpOp_step rfl (fun K' hK => ?_)
        unfold mu.MV at h2
        simp only [h0, h2]
        go_wp2_with (go_at_call 14; refine (mu.eqMut_any x _ _ X hA1 hA2 hpl).mono ?_; rintro e X' ⟨rfl, hb⟩)
        exact ⟨.bool true, by simp [rs.upd, h0, h2], HJ.out.grow _ hb rfl⟩
      | 4, ho =>
        cases ho
        have d3 : D 3 := hall { on := 3, ground := Ground.data } (by simp) rfl
        have h3 : f 3 = .bool true := hJ.2 3 d3
        have HJ : Hid (J9 w9 (F16 (.agg #[.int .i64 x.k, .int .i64 x.u, .int .i64 x.m, .int .i64 x.f, .string x.b, .slice (some ⟨g5, 0, none⟩) x.ps.length x.ps.length]) (.agg #[.int .i64 x.k, .int .i64 x.u, .int .i64 x.m, .int .i64 x.f, .string x.b, .slice ia x.ps.length ic]) x) D f X) := hJ
        clear hJ hall hcl
        refine wpOp_step rfl (fun K' hK => ?_)
        simp only [h3]
        go_simp
        exact hK _ _ ⟨.bool false, by simp [rs.upd, h3], HJ.out.grow _ (Below.refl _ _) rfl⟩
      | k + 5, ho => simp at ho
    · intro D f w10 hD hJ
      have h4 : f 4 = .bool false := hJ.2 4 (hD 4 (by decide))
      have hb10 := hJ.1
      have HG10 : Hid (OwnL w10 w5.heap.size (.slice Ga Gn Gc) ys2 ug) := ownL_below HG9.out hb10
      have HH10 : Hid (Below w5.heap.size w5 w10) := HH9.out.trans (hb10.mono HH9.out.size)
      have HC10 : Hid (Below w3.heap.size w3 w10) := HC9.out.trans (hb10.mono HC9.out.size)
      have HE10 : Hid (Below w4.heap.size w4 w10) := HE9.out.trans (hb10.mono HE9.out.size)
      rw [h4]
      clear hJ hD h4 hb10 HG9 HH9 HC9 HE9 b9
      generalize f 0 = f_0
      generalize f 1 = f_1
      generalize f 2 = f_2
      generalize f 3 = f_3
      clear f D
      go_wp2_with fail
      refine (markBoxS_any w3.heap.size w4.heap.size xs gx w10 (mine_below HX.out.2 HE10.out) (mine_ahead HX.out.2) HSM.out).mono ?_
      rintro e w11 ⟨⟨z9, ⟨hz9, hz9'⟩, rfl⟩, hmk⟩
      have HG11 : Hid (OwnL w11 w5.heap.size (.slice Ga Gn Gc) ys2 ug) := ownL_mk HG10.out hmk (Nat.le_trans (Nat.le_trans HP5.out.2.2.1 (Nat.le_of_lt HP5.out.2.2.2)) (Nat.le_refl _))
      have HM11 : Hid (mu.Lies w11 P5 34 x (.slice (some ⟨g5, 0, none⟩) x.ps.length x.ps.length) ∧ w11.ownsRow w4.heap.size 75 2 (.slice (some ⟨g5, 0, none⟩) x.ps.length x.ps.length) x.ps.length xs5) := ⟨(hmk.block P5 (HM5.out.1.keep HH10.out).lt (.inr HP5.out.1)).trans (HM5.out.1.keep HH10.out), own_mk (ow.own_below HM5.out.2.2 HH10.out) hmk (Nat.le_refl _)⟩
      have HC11 : Hid (Below w3.heap.size w3 w11) := HC10.out.trans (hmk.bel HC10.out.size)
      have HS11 : Hid (w5.heap.size ≤ w11.heap.size) := Nat.le_trans HH10.out.size hmk.size
      clear hmk HG10 HH10 HC10 HE10 HX
      have c0 := HM11.out.1.c0
      have c1 := HM11.out.1.c1
      have c2' := HM11.out.1.c2
      have c3 := HM11.out.1.c3
      have c4 := HM11.out.1.c4
      have c5 := HM11.out.1.c5
      go_wp2_with fail
      clear c0 c1 c2' c3 c4 c5
      refine (markMut_some w4.heap.size x.ps.length g5 x.ps.length xs5 z9 w11 _ _ _ _ _ HM11.out.2 hpl (by omega) (by omega)).mono ?_
      rintro e w12 ⟨rfl, hg12⟩
      have HG12 : Hid (OwnL w12 w5.heap.size (.slice Ga Gn Gc) ys2 ug) := ownL_one HG11.out hg12 HP5.out.2.2.2
      have HC12 : Hid (Below w3.heap.size w3 w12) := HC11.out.grown hg12 HC11.out.size (fun k hk => by cases hk; exact Nat.le_trans HP5.out.2.1 HP5.out.2.2.1)
      have HS12 : Hid (w5.heap.size ≤ w12.heap.size) := Nat.le_trans HS11.out hg12.size
      clear hg12 HG11 HC11 HM11 HS11
      have hk0 : ¬ z9 + 2 * (x.ps.length : Int) < 0 := by omega
      have hk1 : decide (z9 + 2 * (x.ps.length : Int) < 0) = false := decide_eq_false hk0
      clear hk0
      generalize z9 + 2 * (x.ps.length : Int) = kk at hk1 ⊢
      go_wp2_with fail
      refine (eqBoxS_any _ _ ys2 ug us0 w12 (ownL_boxes HG12.out) (ownL_boxes (ownL_below HSP.out.2 HC12.out)) HFY.out.2).mono ?_
      rintro e w13 ⟨rfl, hb13⟩
      have HG13 : Hid (OwnL w13 w5.heap.size (.slice Ga Gn Gc) ys2 ug) := ownL_below HG12.out hb13
      have HC13 : Hid (Below w3.heap.size w3 w13) := HC12.out.trans (hb13.mono HC12.out.size)
      have HS13 : Hid (w5.heap.size ≤ w13.heap.size) := Nat.le_trans HS12.out hb13.size
      clear hb13 HG12 HC12 HS12
      go_wp2_with fail
      refine (markBoxS_own _ w5.heap.size ys2 ug w13 HG13.out HFY.out.1 HS13.out).mono ?_
      rintro e w14 ⟨rfl, ⟨cs14, hMB⟩, hb14⟩
      have HMB : Hid (MB w14 w5.heap.size (.slice Ga Gn Gc) ys2 ug ys2.length cs14) := hMB
      have HC14 : Hid (Below w3.heap.size w3 w14) := HC13.out.trans (hb14.mono (Nat.le_trans HP5.out.2.1 (Nat.le_trans HP5.out.2.2.1 (Nat.le_of_lt HP5.out.2.2.2))))
      clear hb14 hMB HG13 HC13 HS13
      have hQ0 := (kAt_in HFY.out.1 (Nat.le_refl ys2.length)).1
      have HHD : Hid (∀ W, Below w14.heap.size w14 W → Calls Try.prog 17 #[.slice Ga Gn Gc, .int .i64 1] W fun e w' => e = .returned (.int .i64 (kAt ys2 ys2.length)) ∧ Below W.heap.size W w') := fun W hW => heldBoxS_any _ w5.heap.size ys2 ug cs14 W (mb_below HMB.out hW) HFY.out.1
      generalize kAt ys2 ys2.length = Q at hQ0 HHD ⊢
      have qq : ((Q : Int) != Q) = false := by simp
      have hQn : decide (Q < 0) = false := decide_eq_false (by omega)
      clear hQ0 HMB
      go_wp2_with fail
      refine (HHD.out w14 (Below.refl _ _)).mono ?_
      rintro e w15 ⟨rfl, hb15⟩
      have HD15 : Hid (Below w14.heap.size w14 w15) := hb15
      have HC15 : Hid (Below w3.heap.size w3 w15) := HC14.out.trans (hb15.mono HC14.out.size)
      have b15 := b3.trans (HC15.out.mono b3.size)
      clear hb15 HC14
      go_wp2_with fail
      refine rs.region_st (by kernel_rfl) (fun f => { tmps := List.toArray ((.slice a xs.length cap : Value) :: .agg #[.int .i64 x.k, .int .i64 x.u, .int .i64 x.m, .int .i64 x.f, .string x.b, .slice ia x.ps.length ic] :: undef :: .pointer (some ⟨w.heap.size, 0, none⟩) :: .bool false :: .int .i64 z2 :: .slice Sa Sn Sc :: .int .i64 c2 :: .slice (some ⟨w3.heap.size, 0, none⟩) xs.length xs.length :: .pointer (some ⟨P5, 0, none⟩) :: .slice Ga Gn Gc :: .int .i64 c2 :: .int .i64 kk :: .int .i64 Q :: .int .i64 Q :: f 8 :: f 9 :: .slice a xs.length cap :: .int .i64 1048576 :: .int .i64 z :: .int .i64 z :: .bool (decide (z < 0)) :: .agg #[.int .i64 x.k, .int .i64 x.u, .int .i64 x.m, .int .i64 x.f, .string x.b, .slice ia x.ps.length ic] :: .int .i64 z :: .int .i64 z2 :: .int .i64 z2 :: .bool (decide (z2 < 0)) :: e_5 :: e_0 :: e_1 :: e_2 :: e_3 :: e_4 :: e_6 :: e_7 :: .slice a xs.length cap :: .slice (some ⟨w3.heap.size, 0, none⟩) xs.length xs.length :: .agg #[.int .i64 x.k, .int .i64 x.u, .int .i64 x.m, .int .i64 x.f, .string x.b, .slice ia x.ps.length ic] :: .agg #[.int .i64 x.k, .int .i64 x.u, .int .i64 x.m, .int .i64 x.f, .string x.b, .slice (some ⟨g5, 0, none⟩) x.ps.length x.ps.length] :: .tuple #[.slice Ga Gn Gc, .int .i64 c2] :: .slice (some ⟨w3.heap.size, 0, none⟩) xs.length xs.length :: .agg #[.int .i64 x.k, .int .i64 x.u, .int .i64 x.m, .int .i64 x.f, .string x.b, .slice (some ⟨g5, 0, none⟩) x.ps.length x.ps.length] :: .tuple #[.slice Ga Gn Gc, .int .i64 c2] :: .slice Ga Gn Gc :: .int .i64 c2 :: .slice Ga Gn Gc :: .slice Sa Sn Sc :: .bool true :: .bool false :: .bool false :: .int .i64 c2 :: .int .i64 c2 :: .bool false :: .bool false :: .slice (some ⟨w3.heap.size, 0, none⟩) xs.length xs.length :: .slice a xs.length cap :: .slice (some ⟨w7.heap.size, 0, none⟩) xs.length xs.length :: .bool true :: .bool false :: f_0 :: f_1 :: f_2 :: f_3 :: .bool false :: .slice (some ⟨w3.heap.size, 0, none⟩) xs.length xs.length :: .int .i64 1 :: .int .i64 z9 :: .agg #[.int .i64 x.k, .int .i64 x.u, .int .i64 x.m, .int .i64 x.f, .string x.b, .slice (some ⟨g5, 0, none⟩) x.ps.length x.ps.length] :: .int .i64 z9 :: .int .i64 kk :: .int .i64 kk :: .bool false :: .bool false :: .slice Ga Gn Gc :: .slice Sa Sn Sc :: .bool true :: .bool false :: .bool false :: .bool false :: .int .i64 c2 :: .int .i64 c2 :: .bool false :: .bool false :: .slice Ga Gn Gc :: .int .i64 1 :: .int .i64 Q :: .slice Ga Gn Gc :: .int .i64 1 :: .int .i64 Q :: .int .i64 Q :: .bool false :: .int .i64 Q :: .int .i64 Q :: .bool false :: f 5 :: f 0 :: f 1 :: f 2 :: f 3 :: f 4 :: f 6 :: f 7 :: undef :: undef :: undef :: undef :: undef :: undef :: undef :: undef :: undef :: undef :: undef :: undef :: undef :: undef :: undef :: undef :: undef :: []), defers := [] }) (J8 w15 (F8 w15.heap.size (.slice a xs.length cap) (.agg #[.int .i64 x.k, .int .i64 x.u, .int .i64 x.m, .int .i64 x.f, .string x.b, .slice ia x.ps.length ic]) xs x)) (fun j => match j with  | _ => undef) rfl ⟨(Below.refl _ _).drew, fun j hj => hj.elim⟩ (rs.deps_of (by kernel_rfl)) ?_ ?_
      · intro i o ho D f X hJ hall hni hcl
        match i, ho with
        | 0, ho =>
          cases ho
          have HJ : Hid (J8 w15 (F8 w15.heap.size (.slice a xs.length cap) (.agg #[.int .i64 x.k, .int .i64 x.u, .int .i64 x.m, .int .i64 x.f, .string x.b, .slice ia x.ps.length ic]) xs x) D f X) := hJ
          clear hJ hall hcl
          refine wpOp_step rfl (fun K' hK => ?_)
          go_simp
          exact hK _ _ ⟨.slice a xs.length cap, by simp [rs.upd], HJ.out.pure _ rfl⟩
        | 1, ho =>
          cases ho
          have d0 : D 0 := hall { on := 0, ground := Ground.data } (by simp) rfl
          have h0 : f 0 = .slice a xs.length cap := hJ.2 0 d0
          have hbx := b15.trans (hJ.1.mono b15.size)
          have HJ : Hid (J8 w15 (F8 w15.heap.size (.slice a xs.length cap) (.agg #[.int .i64 x.k, .int .i64 x.u, .int .i64 x.m, .int .i64 x.f, .string x.b, .slice ia x.ps.length ic]) xs x) D f X) := hJ
          clear hJ hall hcl
          refine wpOp_step rfl (fun K' hK => ?_)
          simp only [h0]
          go_wp2_with (go_at_call 10; refine (toBoxS_own _ xs vs X (HARG.out X hbx).2.2 HSM.out).mono ?_; rintro e X' ⟨rfl, ⟨gp, hgp, hmp, hcp⟩, hb⟩)
          exact ⟨.slice (some ⟨X.heap.size, 0, none⟩) xs.length xs.length, by simp [rs.upd, h0], HJ.out.grow _ hb ⟨_, gp, rfl, hgp, mine_fines hmp, ⟨fun a n c e => by cases e; exact Nat.le_refl _, hcp⟩⟩⟩
        | 2, ho =>
          cases ho
          have hbx := b15.trans (hJ.1.mono b15.size)
          have hLX := (HARG.out X hbx).1
          have q0 := hLX.c0
          have q1 := hLX.c1
          have q2 := hLX.c2
          have q3 := hLX.c3
          have q4 := hLX.c4
          have q5 := hLX.c5
          have HJ : Hid (J8 w15 (F8 w15.heap.size (.slice a xs.length cap) (.agg #[.int .i64 x.k, .int .i64 x.u, .int .i64 x.m, .int .i64 x.f, .string x.b, .slice ia x.ps.length ic]) xs x) D f X) := hJ
          clear hLX
          clear hJ hall hcl
          refine wpOp_step rfl (fun K' hK => ?_)
          go_wp2_with fail
          exact ⟨.agg #[.int .i64 x.k, .int .i64 x.u, .int .i64 x.m, .int .i64 x.f, .string x.b, .slice ia x.ps.length ic], by simp [rs.upd], HJ.out.pure _ rfl⟩
        | 3, ho =>
          cases ho
          have d2 : D 2 := hall { on := 2, ground := Ground.data } (by simp) rfl
          have h2 : f 2 = .agg #[.int .i64 x.k, .int .i64 x.u, .int .i64 x.m, .int .i64 x.f, .string x.b, .slice ia x.ps.length ic] := hJ.2 2 d2
          have hbx := b15.trans (hJ.1.mono b15.size)
          have HJ : Hid (J8 w15 (F8 w15.heap.size (.slice a xs.length cap) (.agg #[.int .i64 x.k, .int .i64 x.u, .int .i64 x.m, .int .i64 x.f, .string x.b, .slice ia x.ps.length ic]) xs x) D f X) := hJ
          clear hJ hall hcl
          refine wpOp_step rfl (fun K' hK => ?_)
          simp only [h2]
          go_wp2_with (go_at_call 11; refine (mu.toMut_any x _ X (HARG.out X hbx).2.1 hpl).mono ?_; rintro e X' ⟨g, rfl, hv, hb⟩)
          exact ⟨mu.MV x (.slice (some ⟨g, 0, none⟩) x.ps.length x.ps.length), by simp [rs.upd, h2], HJ.out.grow _ hb ⟨g, rfl, hv⟩⟩
        | 4, ho =>
          cases ho
          have d1 : D 1 := hall { on := 1, ground := Ground.data } (by simp) rfl
          have d3 : D 3 := hall { on := 3, ground := Ground.data } (by simp) rfl
          obtain ⟨B1, gp, h1, hB1, hF1, hC1⟩ := hJ.2 1 d1
          obtain ⟨g3, h3, hA3⟩ := hJ.2 3 d3
          rw [h1] at hB1 hC1
          have HJ : Hid (J8 w15 (F8 w15.heap.size (.slice a xs.length cap) (.agg #[.int .i64 x.k, .int .i64 x.u, .int .i64 x.m, .int .i64 x.f, .string x.b, .slice ia x.ps.length ic]) xs x) D f X) := hJ
          have hbs := hJ.1.size
          clear hJ hall hcl
          refine wpOp_step rfl (fun K' hK => ?_)
          unfold mu.MV at h3
          simp only [h1, h3]
          go_wp2_with (go_at_call 12; refine (impl_am _ xs gp x _ X hB1 (.inr ⟨_, _, _, rfl⟩) hF1 HSM.out hA3 HMM.out).mono ?_; rintro e X' ⟨⟨L, ys, us, c, rfl, hAp, hO⟩, hb⟩; obtain ⟨La, Ln, Lc, rfl⟩ := slice_fine (own_fine hO.1))
          exact ⟨.tuple #[.slice La Ln Lc, .int .i64 c], by simp [rs.upd, h1, h3], HJ.out.grow _ hb ⟨La, Ln, Lc, c, ys, us, rfl, hAp, ownL_le hO hbs⟩⟩
        | 5, ho =>
          cases ho
          have d4 : D 4 := hall { on := 4, ground := Ground.data } (by simp) rfl
          obtain ⟨La, Ln, Lc, c, ys, us, h4, hAp, hO⟩ := hJ.2 4 d4
          have HJ : Hid (J8 w15 (F8 w15.heap.size (.slice a xs.length cap) (.agg #[.int .i64 x.k, .int .i64 x.u, .int .i64 x.m, .int .i64 x.f, .string x.b, .slice ia x.ps.length ic]) xs x) D f X) := hJ
          have HQ : Hid (Ap xs x ys c ∧ OwnL X w15.heap.size (.slice La Ln Lc) ys us) := ⟨hAp, hO⟩
          clear hAp hO
          clear hJ hall hcl
          refine wpOp_step rfl (fun K' hK => ?_)
          simp only [h4]
          go_simp
          exact hK _ _ ⟨.tuple #[.slice La Ln Lc, .int .i64 c], by simp [rs.upd, h4], HJ.out.pure _ ⟨La, Ln, Lc, c, ys, us, rfl, HQ.out⟩⟩
        | 6, ho =>
          cases ho
          have d5 : D 5 := hall { on := 5, ground := Ground.data } (by simp) rfl
          obtain ⟨La, Ln, Lc, c, ys, us, h5, hAp, hO⟩ := hJ.2 5 d5
          have HJ : Hid (J8 w15 (F8 w15.heap.size (.slice a xs.length cap) (.agg #[.int .i64 x.k, .int .i64 x.u, .int .i64 x.m, .int .i64 x.f, .string x.b, .slice ia x.ps.length ic]) xs x) D f X) := hJ
          have HQ : Hid (Ap xs x ys c ∧ OwnL X w15.heap.size (.slice La Ln Lc) ys us) := ⟨hAp, hO⟩
          clear hAp hO
          clear hJ hall hcl
          refine wpOp_step rfl (fun K' hK => ?_)
          simp only [h5]
          go_simp
          exact hK _ _ ⟨.slice La Ln Lc, by simp [rs.upd, h5], HJ.out.pure _ ⟨La, Ln, Lc, c, ys, us, rfl, HQ.out⟩⟩
        | 7, ho =>
          cases ho
          have d5 : D 5 := hall { on := 5, ground := Ground.data } (by simp) rfl
          obtain ⟨La, Ln, Lc, c, ys, us, h5, hAp, hO⟩ := hJ.2 5 d5
          have HJ : Hid (J8 w15 (F8 w15.heap.size (.slice a xs.length cap) (.agg #[.int .i64 x.k, .int .i64 x.u, .int .i64 x.m, .int .i64 x.f, .string x.b, .slice ia x.ps.length ic]) xs x) D f X) := hJ
          have HQ : Hid (Ap xs x ys c) := hAp
          clear hAp hO
          clear hJ hall hcl
          refine wpOp_step rfl (fun K' hK => ?_)
          simp only [h5]
          go_simp
          exact hK _ _ ⟨.int .i64 c, by simp [rs.upd, h5], HJ.out.pure _ ⟨ys, c, rfl, HQ.out⟩⟩
        | 8, ho =>
          cases ho
          have d6 : D 6 := hall { on := 6, ground := Ground.data } (by simp) rfl
          obtain ⟨La, Ln, Lc, c, ys, us, h6, hAp, hO⟩ := hJ.2 6 d6
          have HJ : Hid (J8 w15 (F8 w15.heap.size (.slice a xs.length cap) (.agg #[.int .i64 x.k, .int .i64 x.u, .int .i64 x.m, .int .i64 x.f, .string x.b, .slice ia x.ps.length ic]) xs x) D f X) := hJ
          have HQ : Hid (Ap xs x ys c ∧ OwnL X w15.heap.size (.slice La Ln Lc) ys us) := ⟨hAp, hO⟩
          clear hAp hO
          clear hJ hall hcl
          refine wpOp_step rfl (fun K' hK => ?_)
          simp only [h6]
          go_simp
          exact hK _ _ ⟨.slice La Ln Lc, by simp [rs.upd, h6], HJ.out.pure _ ⟨La, Ln, Lc, c, ys, us, rfl, HQ.out⟩⟩
        | 9, ho =>
          cases ho
          have d7 : D 7 := hall { on := 7, ground := Ground.data } (by simp) rfl
          obtain ⟨ys, c, h7, hAp⟩ := hJ.2 7 d7
          have HJ : Hid (J8 w15 (F8 w15.heap.size (.slice a xs.length cap) (.agg #[.int .i64 x.k, .int .i64 x.u, .int .i64 x.m, .int .i64 x.f, .string x.b, .slice ia x.ps.length ic]) xs x) D f X) := hJ
          have HQ : Hid (Ap xs x ys c) := hAp
          clear hAp
          clear hJ hall hcl
          refine wpOp_step rfl (fun K' hK => ?_)
          simp only [h7]
          go_simp
          exact hK _ _ ⟨.int .i64 c, by simp [rs.upd, h7], HJ.out.pure _ ⟨ys, c, rfl, HQ.out⟩⟩
        | k + 10, ho => simp at ho
      · intro D f w16 hD hJ
        obtain ⟨Ha, Hn, Hc, c3, ys3, us3, h8, hAp, hO⟩ := hJ.2 8 (hD 8 (by decide))
        obtain ⟨ys4, c4, h9, hAp'⟩ := hJ.2 9 (hD 9 (by decide))
        obtain ⟨rfl, rfl⟩ := ap_one hAp' hAp
        obtain ⟨rfl, rfl⟩ := ap_one hAp HSP.out.1
        have hb16 := hJ.1
        have HD16 : Hid (Below w14.heap.size w14 w16) := HD15.out.trans (hb16.mono HD15.out.size)
        have HC16 : Hid (Below w3.heap.size w3 w16) := HC15.out.trans (hb16.mono HC15.out.size)
        have HH16 : Hid (OwnL w16 w15.heap.size (.slice Ha Hn Hc) ys4 us3) := hO
        rw [h8, h9]
        clear hJ hD hAp hO hAp' h8 h9 hb16 HD15 HC15 b15
        generalize f 0 = g_0
        generalize f 1 = g_1
        generalize f 2 = g_2
        generalize f 3 = g_3
        generalize f 4 = g_4
        generalize f 5 = g_5
        generalize f 6 = g_6
        generalize f 7 = g_7
        clear f D
        go_wp2_with fail
        refine (eqBoxS_any _ _ ys4 us3 us0 w16 (ownL_boxes HH16.out) (ownL_boxes (ownL_below HSP.out.2 HC16.out)) HFY.out.2).mono ?_
        rintro e w17 ⟨rfl, hb17⟩
        have HD17 : Hid (Below w14.heap.size w14 w17) := HD16.out.trans (hb17.mono HD16.out.size)
        have HC17 : Hid (Below w3.heap.size w3 w17) := HC16.out.trans (hb17.mono HC16.out.size)
        clear hb17 HD16 HC16 HH16
        go_wp2_with fail
        refine (HHD.out w17 HD17.out).mono ?_
        rintro e w18 ⟨rfl, hb18⟩
        have HC18 : Hid (Below w3.heap.size w3 w18) := HC17.out.trans (hb18.mono HC17.out.size)
        have HE : Hid (Below w.heap.size w w18) := (HB0.out.1.trans (b3.mono HB0.out.2)).trans (HC18.out.mono (HB0.out.1.trans (b3.mono HB0.out.2)).size)
        clear hb18 HD17 HC17 HC18
        go_wp2
        go_ret
        exact ⟨rfl, HE.out⟩
end Go.Proofs.Ytgjjeabjnkenkaa.sa
