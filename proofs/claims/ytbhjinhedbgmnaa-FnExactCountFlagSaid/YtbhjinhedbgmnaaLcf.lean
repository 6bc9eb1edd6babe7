/-
  Both CountFlag functions answer alike at every box and flags, and the box that was handed in is as it was; for every input.
-/
import Derived.Test.YtbhjinhedbgmnaaBxh
import Derived.WalkKit
import Derived.ProofKit
import Derived.OpenShut
import Derived.ChangeOld
import Derived.Below
import Derived.Carry
import Derived.Lib.SmallJoins
import Derived.Deep.RegionHeld
namespace Go.Proofs.Ytbhjinhedbgmnaa.fnExactCountFlag
open Go.ChangeShapes Go.WideShapes Go.ChangeAt Go.RowKit Go.Joins Go.Deep
set_option linter.unusedVariables false

theorem own : ownKnob Try.prog.godebug = none := by kernel_rfl
theorem laidOut : laidOutB Try.prog = true := by kernel_rfl

open bx st
set_option maxHeartbeats 4000000 in
set_option maxRecDepth 100000 in
theorem walk (x : Bx) (v v1 : Value) (z : Int) (w : World) (h : RowsAt w v v1 x.ms x.ks) (hh : bx.Held x) (hzi : st.In z) :
    Calls Try.prog 5 #[BV x v v1, .int .i64 z] w fun e w' => e = .returned (.bool true) ∧ Below w.heap.size w w' := by
  have L0 := lies_new w 36 x v v1
  have b0 := new_below w 36 #[.string x.nm, .int .i64 x.vd, .int .i64 x.nx, v, v1]
  have HA : Hid (RowsAt (w.alloc (.cells #[.string x.nm, .int .i64 x.vd, .int .i64 x.nx, v, v1] 36)) v v1 x.ms x.ks) := rows_below h b0
  have HS : Hid (bx.Held x) := hh
  obtain ⟨⟨a, cap, rfl, _⟩, ⟨a1, cap1, rfl, _⟩⟩ := h
  clear hh
  obtain ⟨nm, vd, nx, ms, ks⟩ := x
  unfold BV
  simp only at L0 b0 HA HS ⊢
  go_enter Try.func5, Try.ntmps5
  go_wp2_with fail
  generalize w.alloc _ = w0 at L0 b0 HA ⊢
  refine (szBox_any ⟨nm, vd, nx, ms, ks⟩ _ _ 1048576 w0 HA.out (by omega) (by omega) HS.out).mono ?_
  rintro e w1 ⟨⟨zz, rfl, hz0, hz1, hz2⟩, hb1⟩
  have L1 := L0.keep hb1
  have HA1 : Hid (RowsAt w1 (.slice a ms.length cap) (.slice a1 ks.length cap1) ms ks) := rows_below HA.out hb1
  have b1 := b0.trans (hb1.mono b0.size)
  clear hb1 L0 HA b0 HS
  by_cases hz : zz < 0
  · go_wp2
    go_ret
    exact ⟨rfl, b1⟩
  have hsm := hz2 (by omega)
  have HSM : Hid (bx.Small ⟨nm, vd, nx, ms, ks⟩) := hsm
  have hpl : ms.length ≤ 1048576 ∧ ks.length ≤ 1048576 := ⟨hsm.2.2.1.1, hsm.2.2.2.1⟩
  clear hz2 hsm
  have c0 := L1.c0
  have c1 := L1.c1
  have c2 := L1.c2
  have c3 := L1.c3
  have c4 := L1.c4
  simp only at c0 c1 c2
  go_wp2_with fail
  refine (toBox_any ⟨nm, vd, nx, ms, ks⟩ _ _ w1 HA1.out hpl).mono ?_
  rintro e w2 ⟨g2, g3, rfl, hv2, hb2⟩
  have L2 := L1.keep hb2
  have HA2 : Hid (RowsAt w2 (.slice a ms.length cap) (.slice a1 ks.length cap1) ms ks) := rows_below HA1.out hb2
  have b2 := b1.trans (hb2.mono b1.size)
  have HV2 : Hid (RowsAt w2 (.slice (some ⟨g2, 0, none⟩) ms.length ms.length) (.slice (some ⟨g3, 0, none⟩) ks.length ks.length) ms ks) := hv2
  clear hb2 L1 HA1 b1 hv2 c0 c1 c2 c3 c4
  unfold BV
  simp only
  go_wp2_with fail
  refine (spec_cf ⟨nm, vd, nx, ms, ks⟩ _ _ z w2 HV2.out HSM.out (fun a n c e => by cases e; exact Nat.le_refl _) hzi).mono ?_
  rintro e w3 ⟨rfl, hb3⟩
  have L3 := L2.keep hb3
  have HA3 : Hid (RowsAt w3 (.slice a ms.length cap) (.slice a1 ks.length cap1) ms ks) := rows_below HA2.out hb3
  have b3 := b2.trans (hb3.mono b2.size)
  clear hb3 L2 HA2 b2 HV2
  have c0 := L3.c0
  have c1 := L3.c1
  have c2 := L3.c2
  have c3 := L3.c3
  have c4 := L3.c4
  simp only at c0 c1 c2
  generalize hR : FnExactCountFlag_a ⟨nm, vd, nx, ms, ks⟩ z = oa
  generalize hR2 : FnExactCountFlag_b ⟨nm, vd, nx, ms, ks⟩ z = ob
  have HR : Hid (FnExactCountFlag_a ⟨nm, vd, nx, ms, ks⟩ z = oa ∧ FnExactCountFlag_b ⟨nm, vd, nx, ms, ks⟩ z = ob) := ⟨hR, hR2⟩
  clear hR hR2
  go_wp2_with fail
  refine (toBox_any ⟨nm, vd, nx, ms, ks⟩ _ _ w3 HA3.out hpl).mono ?_
  rintro e w4 ⟨g4, g5, rfl, hv4, hb4⟩
  have L4 := L3.keep hb4
  have HA4 : Hid (RowsAt w4 (.slice a ms.length cap) (.slice a1 ks.length cap1) ms ks) := rows_below HA3.out hb4
  have b4 := b3.trans (hb4.mono b3.size)
  have HV4 : Hid (RowsAt w4 (.slice (some ⟨g4, 0, none⟩) ms.length ms.length) (.slice (some ⟨g5, 0, none⟩) ks.length ks.length) ms ks) := hv4
  clear hb4 L3 HA3 b3 hv4 c0 c1 c2 c3 c4
  unfold BV
  simp only
  have hb5 := new_below w4 41 #[.string nm, .int .i64 vd, .int .i64 nx, .slice (some ⟨g4, 0, none⟩) ms.length ms.length, .slice (some ⟨g5, 0, none⟩) ks.length ks.length]
  have M5 := lies_new w4 41 ⟨nm, vd, nx, ms, ks⟩ (.slice (some ⟨g4, 0, none⟩) ms.length ms.length) (.slice (some ⟨g5, 0, none⟩) ks.length ks.length)
  simp only at M5
  have L5 := L4.keep hb5
  have HA5 := rows_below HA4.out hb5
  have HV5 := rows_below HV4.out hb5
  have b5 := b4.trans (hb5.mono b4.size)
  clear hb5 L4 HA4 b4 HV4
  go_wp2_with fail
  generalize w4.alloc _ = w5 at M5 L5 HA5 HV5 b5 ⊢
  have HA5 : Hid (RowsAt w5 (.slice a ms.length cap) (.slice a1 ks.length cap1) ms ks) := HA5
  have HV5 : Hid (RowsAt w5 (.slice (some ⟨g4, 0, none⟩) ms.length ms.length) (.slice (some ⟨g5, 0, none⟩) ks.length ks.length) ms ks) := HV5
  refine (impl_cf ⟨nm, vd, nx, ms, ks⟩ _ _ z w5 HV5.out HSM.out hzi).mono ?_
  rintro e w6 ⟨rfl, hb6⟩
  rw [HR.out.1, HR.out.2]
  have M6 := M5.keep hb6
  have L6 := L5.keep hb6
  have HA6 : Hid (RowsAt w6 (.slice a ms.length cap) (.slice a1 ks.length cap1) ms ks) := rows_below HA5.out hb6
  have HV6 : Hid (RowsAt w6 (.slice (some ⟨g4, 0, none⟩) ms.length ms.length) (.slice (some ⟨g5, 0, none⟩) ks.length ks.length) ms ks) := rows_below HV5.out hb6
  have b6 := b5.trans (hb6.mono b5.size)
  clear hb6 M5 L5 HA5 HV5 b5 HR
  have cc : ((oa : Int) != oa) = false := by simp
  have cd : ((ob : Int) != ob) = false := by simp
  go_wp2_with fail
  have c0 := L6.c0
  have c1 := L6.c1
  have c2 := L6.c2
  have c3 := L6.c3
  have c4 := L6.c4
  have d0 := M6.c0
  have d1 := M6.c1
  have d2 := M6.c2
  have d3 := M6.c3
  have d4 := M6.c4
  simp only at c0 c1 c2 d0 d1 d2
  have HK : Hid (∀ x, Below w6.heap.size w6 x → x.cell? ⟨w.heap.size, 0, none⟩ = some (.string nm) ∧ x.cell? ⟨w.heap.size, 0 + 1, none⟩ = some (.int .i64 vd) ∧ x.cell? ⟨w.heap.size, 0 + 2, none⟩ = some (.int .i64 nx) ∧ x.cell? ⟨w.heap.size, 0 + 3, none⟩ = some (.slice a ms.length cap) ∧ x.cell? ⟨w.heap.size, 0 + 4, none⟩ = some (.slice a1 ks.length cap1) ∧ x.cell? ⟨w4.heap.size, 0, none⟩ = some (.string nm) ∧ x.cell? ⟨w4.heap.size, 0 + 1, none⟩ = some (.int .i64 vd) ∧ x.cell? ⟨w4.heap.size, 0 + 2, none⟩ = some (.int .i64 nx) ∧ x.cell? ⟨w4.heap.size, 0 + 3, none⟩ = some (.slice (some ⟨g4, 0, none⟩) ms.length ms.length) ∧ x.cell? ⟨w4.heap.size, 0 + 4, none⟩ = some (.slice (some ⟨g5, 0, none⟩) ks.length ks.length)) := fun x hx => ⟨(L6.keep hx).c0, (L6.keep hx).c1, (L6.keep hx).c2, (L6.keep hx).c3, (L6.keep hx).c4, (M6.keep hx).c0, (M6.keep hx).c1, (M6.keep hx).c2, (M6.keep hx).c3, (M6.keep hx).c4⟩
  have HT : Hid (∀ x, Below w6.heap.size w6 x → Calls Try.prog 16 #[.agg #[.string nm, .int .i64 vd, .int .i64 nx, .slice a ms.length cap, .slice a1 ks.length cap1]] x fun e w' => ∃ g g', e = .returned (.agg #[.string nm, .int .i64 vd, .int .i64 nx, .slice (some ⟨g, 0, none⟩) ms.length ms.length, .slice (some ⟨g', 0, none⟩) ks.length ks.length]) ∧ RowsAt w' (.slice (some ⟨g, 0, none⟩) ms.length ms.length) (.slice (some ⟨g', 0, none⟩) ks.length ks.length) ms ks ∧ Below w6.heap.size w6 w' ∧ w'.cell? ⟨w.heap.size, 0, none⟩ = some (.string nm) ∧ w'.cell? ⟨w.heap.size, 0 + 1, none⟩ = some (.int .i64 vd) ∧ w'.cell? ⟨w.heap.size, 0 + 2, none⟩ = some (.int .i64 nx) ∧ w'.cell? ⟨w.heap.size, 0 + 3, none⟩ = some (.slice a ms.length cap) ∧ w'.cell? ⟨w.heap.size, 0 + 4, none⟩ = some (.slice a1 ks.length cap1) ∧ w'.cell? ⟨w4.heap.size, 0, none⟩ = some (.string nm) ∧ w'.cell? ⟨w4.heap.size, 0 + 1, none⟩ = some (.int .i64 vd) ∧ w'.cell? ⟨w4.heap.size, 0 + 2, none⟩ = some (.int .i64 nx) ∧ w'.cell? ⟨w4.heap.size, 0 + 3, none⟩ = some (.slice (some ⟨g4, 0, none⟩) ms.length ms.length) ∧ w'.cell? ⟨w4.heap.size, 0 + 4, none⟩ = some (.slice (some ⟨g5, 0, none⟩) ks.length ks.length)) := fun x hx =>
    (toBox_any ⟨nm, vd, nx, ms, ks⟩ _ _ x (rows_below HA6.out hx) hpl).mono fun e w' ⟨g, g', he, hv', hb'⟩ => ⟨g, g', he, hv', hx.trans (hb'.mono hx.size), HK.out _ (hx.trans (hb'.mono hx.size))⟩
  have HE : Hid (∀ x g g', RowsAt x (.slice (some ⟨g, 0, none⟩) ms.length ms.length) (.slice (some ⟨g', 0, none⟩) ks.length ks.length) ms ks → Below w6.heap.size w6 x → Calls Try.prog 18 #[.agg #[.string nm, .int .i64 vd, .int .i64 nx, .slice (some ⟨g4, 0, none⟩) ms.length ms.length, .slice (some ⟨g5, 0, none⟩) ks.length ks.length], .agg #[.string nm, .int .i64 vd, .int .i64 nx, .slice (some ⟨g, 0, none⟩) ms.length ms.length, .slice (some ⟨g', 0, none⟩) ks.length ks.length]] x fun e w' => e = .returned (.bool true) ∧ Below w6.heap.size w6 w' ∧ w'.cell? ⟨w.heap.size, 0, none⟩ = some (.string nm) ∧ w'.cell? ⟨w.heap.size, 0 + 1, none⟩ = some (.int .i64 vd) ∧ w'.cell? ⟨w.heap.size, 0 + 2, none⟩ = some (.int .i64 nx) ∧ w'.cell? ⟨w.heap.size, 0 + 3, none⟩ = some (.slice a ms.length cap) ∧ w'.cell? ⟨w.heap.size, 0 + 4, none⟩ = some (.slice a1 ks.length cap1) ∧ w'.cell? ⟨w4.heap.size, 0, none⟩ = some (.string nm) ∧ w'.cell? ⟨w4.heap.size, 0 + 1, none⟩ = some (.int .i64 vd) ∧ w'.cell? ⟨w4.heap.size, 0 + 2, none⟩ = some (.int .i64 nx) ∧ w'.cell? ⟨w4.heap.size, 0 + 3, none⟩ = some (.slice (some ⟨g4, 0, none⟩) ms.length ms.length) ∧ w'.cell? ⟨w4.heap.size, 0 + 4, none⟩ = some (.slice (some ⟨g5, 0, none⟩) ks.length ks.length)) := fun x g g' h2 hx =>
    (eqBox_any ⟨nm, vd, nx, ms, ks⟩ _ _ _ _ x (rows_below HV6.out hx) h2 hpl).mono fun e w' ⟨he, hb'⟩ => ⟨he, hx.trans (hb'.mono hx.size), HK.out _ (hx.trans (hb'.mono hx.size))⟩
  have hd : Below w6.heap.size w6 w6.drew := (Below.refl _ _).drew
  have hM : w4.heap.size < w6.heap.size := M6.lt
  have hL : w.heap.size < w6.heap.size := L6.lt
  clear HA6 HV6 L6 M6
  go_region_held (fun w' => w'.cell? ⟨w.heap.size, 0, none⟩ = some (.string nm) ∧ w'.cell? ⟨w.heap.size, 0 + 1, none⟩ = some (.int .i64 vd) ∧ w'.cell? ⟨w.heap.size, 0 + 2, none⟩ = some (.int .i64 nx) ∧ w'.cell? ⟨w.heap.size, 0 + 3, none⟩ = some (.slice a ms.length cap) ∧ w'.cell? ⟨w.heap.size, 0 + 4, none⟩ = some (.slice a1 ks.length cap1) ∧ w'.cell? ⟨w4.heap.size, 0, none⟩ = some (.string nm) ∧ w'.cell? ⟨w4.heap.size, 0 + 1, none⟩ = some (.int .i64 vd) ∧ w'.cell? ⟨w4.heap.size, 0 + 2, none⟩ = some (.int .i64 nx) ∧ w'.cell? ⟨w4.heap.size, 0 + 3, none⟩ = some (.slice (some ⟨g4, 0, none⟩) ms.length ms.length) ∧ w'.cell? ⟨w4.heap.size, 0 + 4, none⟩ = some (.slice (some ⟨g5, 0, none⟩) ks.length ks.length))
    (go_keep)
    (first | (go_at_call 16; refine (HT.out _ hd).mono ?_; rintro e w7 ⟨q0, q1, rfl, h2, hb7, p0, p1, p2, p3, p4, p5, p6, p7, p8, p9⟩) | (go_at_call 18; refine (HE.out _ _ _ h2 hb7).mono ?_; rintro e w8 ⟨rfl, hb8, p0, p1, p2, p3, p4, p5, p6, p7, p8, p9⟩))
  go_wp2
  go_ret
  exact ⟨rfl, b6.trans (Below.mono (by assumption) b6.size)⟩

set_option maxRecDepth 100000 in
theorem lifted (os : Os) (started : os.Started) (H : Type) (enc : TypeId × Value → H) :
    ReturnsInHanded {} Try.checked os 5 .any (Rows.fnExactCountFlagSpec.pre6 enc Try.prog Try.f5 Rows.fnExactCountFlagRow.domain false) (Rows.fnExactCountFlagSpec.post enc Try.prog Try.f5 false true false false) := by
  refine returnsInHanded_of_change (C := Try.checked) own started (by kernel_rfl) Try.func5
    (ChangeSpec.witness6 (enc := enc) (C := Try.checked) false ⟨#[], #[.agg #[.string ⟨#[]⟩, .int .i64 0, .int .i64 0, .slice none 0 0, .slice none 0 0], .int .i64 0], []⟩ 8 (by kernel_rfl) (by kernel_rfl) (by kernel_rfl) (by kernel_rfl)) ?_
  intro W base args ds gs before hval0 hW hcnd _
  have hval : ∀ (j : Nat) t v, Try.f5.params[j]? = some t → args[j]? = some v → Value.okWide Try.prog W .any base t v := hval0
  have hW' := hW
  obtain ⟨p, q, hA0, hV, rfl, hfz, hnd⟩ := hW
  have hA : DataW.TrodAll enc Try.prog W 0 (fun _ => true) true Try.f5.params.toList args.toList ds p := hA0
  rw [Try.params5] at hA hval
  obtain ⟨v0, vs0, d0, ds0, p0, q0, hargs, rfl, rfl, h0, r0⟩ := trodAll_cons hA
  obtain ⟨v1, vs1, d1, ds1, p1, q1, rfl, rfl, rfl, h1, r1⟩ := trodAll_cons r0
  obtain ⟨rfl, rfl, rfl⟩ := trodAll_nil r1
  obtain rfl : args = #[v0, v1] := by cases args; simp_all
  obtain ⟨rfl, rfl⟩ := trodVars_none hV
  have k0 := h0
  have lt0 : ∀ x ∈ p0, x.block < W.heap.size := by obtain ⟨m, hm⟩ := k0; exact DataW.trod_lt m _ _ _ hm
  obtain ⟨x, u1, u2, rfl, hat, hh⟩ := bx.open_box (hval 0 36 v0 rfl rfl) h0
  have k1 := h1
  have lt1 : ∀ x ∈ p1, x.block < W.heap.size := by obtain ⟨m, hm⟩ := k1; exact DataW.trod_lt m _ _ _ hm
  obtain ⟨fu, h1⟩ := h1
  obtain ⟨z, rfl⟩ := okWide_int Try.underlying3 (hval 1 3 v1 rfl rfl)
  obtain ⟨z', ez, _, fz⟩ := DataW.trod_int Try.underlying3 h1
  simp [Value.cells] at ez
  subst ez
  have hzi := st.in_of_wf fz
  clear hA0 hval0
  refine (walk x u1 u2 z W hat hh hzi).mono fun e W' ⟨he, bel⟩ => ?_
  subst he
  exact ⟨_, rfl, _, _, _, [], _, [], hW', trodAll_mk1 (shut_bool Try.underlying4 _), (trodAll_cons_mk (Below.trod laidOut (by kernel_rfl) (of_decide_eq_true (by kernel_rfl)) k0 bel lt0) (trodAll_cons_mk (Below.trod laidOut (by kernel_rfl) (of_decide_eq_true (by kernel_rfl)) k1 bel lt1) trodAll_mk0)), rfl, bel.frame _, fun h => by cases h⟩

theorem over : Rows.fnExactCountFlagRow.holds Try.pinned (OpenSpec.ofChange Rows.fnExactCountFlagSpec) :=
  OpenClaim.holds_of_wide 5 Try.f5 rfl rfl rfl rfl rfl rfl rfl ⟨rfl, rfl, rfl, rfl, rfl⟩ rfl rfl rfl rfl rfl (by kernel_rfl) Try.func5 (by kernel_rfl)
    (of_decide_eq_true (by kernel_rfl)) (by unfold Func.isWrapper; first | (rw [if_pos (by decide +kernel)]; kernel_rfl) | (rw [if_neg (by decide +kernel)]; exact ⟨rfl, rfl⟩))
    (fun os started H enc _ => lifted os started H enc)

theorem proved : Rows.FnExactCountFlagSaid := over
end Go.Proofs.Ytbhjinhedbgmnaa.fnExactCountFlag
namespace Go.Proofs.Ytbhjinhedbgmnaa
theorem fnExactCountFlag_holds : Rows.FnExactCountFlagSaid := fnExactCountFlag.proved
#print axioms fnExactCountFlag_holds
end Go.Proofs.Ytbhjinhedbgmnaa
