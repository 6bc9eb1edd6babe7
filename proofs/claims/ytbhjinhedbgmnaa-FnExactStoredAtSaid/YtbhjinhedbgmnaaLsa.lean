/-
  Both StoredAt functions answer alike at every box and uid, and the box that was handed in is as it was; for every input.
-/
import Derived.Test.YtbhjinhedbgmnaaBxi
import Derived.WalkKit
import Derived.ProofKit
import Derived.OpenShut
import Derived.ChangeOld
import Derived.Below
import Derived.Carry
import Derived.Lib.SmallJoins
import Derived.Deep.RegionHeld
namespace Go.Proofs.Ytbhjinhedbgmnaa.fnExactStoredAt
open Go.ChangeShapes Go.WideShapes Go.ChangeAt Go.RowKit Go.Joins Go.Deep
set_option linter.unusedVariables false

theorem own : ownKnob Try.prog.godebug = none := by kernel_rfl
theorem laidOut : laidOutB Try.prog = true := by kernel_rfl

open bx st
set_option maxHeartbeats 4000000 in
set_option maxRecDepth 100000 in
theorem walk (x : Bx) (v v1 : Value) (z : Int) (w : World) (h : RowsAt w v v1 x.ms x.ks) (hh : bx.Held x) (hzi : st.In z) :
    Calls Try.prog 6 #[BV x v v1, .int .i64 z] w fun e w' => e = .returned (.bool true) ∧ Below w.heap.size w w' := by
  have L0 := lies_new w 36 x v v1
  have b0 := bx.new_below w 36 #[.string x.nm, .int .i64 x.vd, .int .i64 x.nx, v, v1]
  have HA : Hid (RowsAt (w.alloc (.cells #[.string x.nm, .int .i64 x.vd, .int .i64 x.nx, v, v1] 36)) v v1 x.ms x.ks) := rows_below h b0
  have HS : Hid (bx.Held x) := hh
  obtain ⟨⟨a, cap, rfl, _⟩, ⟨a1, cap1, rfl, _⟩⟩ := h
  clear hh
  obtain ⟨nm, vd, nx, ms, ks⟩ := x
  unfold BV
  simp only at L0 b0 HA HS ⊢
  go_enter Try.func6, Try.ntmps6
  go_wp2_with fail
  generalize w.alloc _ = w0 at L0 b0 HA ⊢
  refine (szBox_any ⟨nm, vd, nx, ms, ks⟩ _ _ 1048576 w0 HA.out (by omega) (by omega) HS.out).mono ?_
  rintro e w1 ⟨⟨zz, rfl, hz0, hz1, hz2⟩, hb1⟩
  have L1 := L0.keep hb1
  have HA1 : Hid (RowsAt w1 (.slice a ms.length cap) (.slice a1 ks.length cap1) ms ks) := rows_below HA.out hb1
  have b1 := b0.trans (hb1.mono b0.size)
  clear hb1 L0 HA b0 HS
  by_cases hz : zz < 0
  · go_wp2
    go_ret
    exact ⟨rfl, b1⟩
  have hsm := hz2 (by omega)
  have HSM : Hid (bx.Small ⟨nm, vd, nx, ms, ks⟩) := hsm
  have hpl : ms.length ≤ 1048576 ∧ ks.length ≤ 1048576 := ⟨hsm.2.2.1.1, hsm.2.2.2.1⟩
  clear hz2 hsm
  have c0 := L1.c0
  have c1 := L1.c1
  have c2 := L1.c2
  have c3 := L1.c3
  have c4 := L1.c4
  simp only at c0 c1 c2
  go_wp2_with fail
  refine (toBox_any ⟨nm, vd, nx, ms, ks⟩ _ _ w1 HA1.out hpl).mono ?_
  rintro e w2 ⟨g2, g3, rfl, hv2, hb2⟩
  have L2 := L1.keep hb2
  have HA2 : Hid (RowsAt w2 (.slice a ms.length cap) (.slice a1 ks.length cap1) ms ks) := rows_below HA1.out hb2
  have b2 := b1.trans (hb2.mono b1.size)
  have HV2 : Hid (RowsAt w2 (.slice (some ⟨g2, 0, none⟩) ms.length ms.length) (.slice (some ⟨g3, 0, none⟩) ks.length ks.length) ms ks) := hv2
  clear hb2 L1 HA1 b1 hv2 c0 c1 c2 c3 c4
  unfold BV
  simp only
  go_wp2_with fail
  refine (spec_sa ⟨nm, vd, nx, ms, ks⟩ _ _ z w2 HV2.out HSM.out (fun a n c e => by cases e; exact Nat.le_refl _) hzi).mono ?_
  rintro e w3' ⟨⟨s, c, rfl, hsat⟩, hb3⟩
  obtain ⟨su, sf, stx⟩ := s
  have HSAT : Hid (Sat ⟨nm, vd, nx, ms, ks⟩ z ⟨su, sf, stx⟩ c) := hsat
  have hb3a := st.new_below w3' 49 #[.int .i64 su, .int .i64 sf, .string stx]
  have S3 := b3_new w3' 49 (.int .i64 su) (.int .i64 sf) (.string stx)
  have L3 := (L2.keep hb3).keep hb3a
  have HA3 := rows_below (rows_below HA2.out hb3) hb3a
  have b3 := (b2.trans (hb3.mono b2.size)).trans (hb3a.mono (b2.trans (hb3.mono b2.size)).size)
  clear hb3 hb3a L2 HA2 b2 HV2 hsat
  have c0 := L3.c0
  have c1 := L3.c1
  have c2 := L3.c2
  have c3 := L3.c3
  have c4 := L3.c4
  simp only at c0 c1 c2
  unfold SV
  simp only
  go_wp2_with fail
  generalize w3'.heap.size = B at S3 ⊢
  generalize w3'.alloc _ = w3 at S3 L3 HA3 b3 c0 c1 c2 c3 c4 ⊢
  have HA3 : Hid (RowsAt w3 (.slice a ms.length cap) (.slice a1 ks.length cap1) ms ks) := HA3
  refine (toBox_any ⟨nm, vd, nx, ms, ks⟩ _ _ w3 HA3.out hpl).mono ?_
  rintro e w4 ⟨g4, g5, rfl, hv4, hb4⟩
  have L4 := L3.keep hb4
  have S4 := S3.keep hb4
  have HA4 : Hid (RowsAt w4 (.slice a ms.length cap) (.slice a1 ks.length cap1) ms ks) := rows_below HA3.out hb4
  have b4 := b3.trans (hb4.mono b3.size)
  have HV4 : Hid (RowsAt w4 (.slice (some ⟨g4, 0, none⟩) ms.length ms.length) (.slice (some ⟨g5, 0, none⟩) ks.length ks.length) ms ks) := hv4
  clear hb4 L3 S3 HA3 b3 hv4 c0 c1 c2 c3 c4
  unfold BV
  simp only
  have hb5 := bx.new_below w4 41 #[.string nm, .int .i64 vd, .int .i64 nx, .slice (some ⟨g4, 0, none⟩) ms.length ms.length, .slice (some ⟨g5, 0, none⟩) ks.length ks.length]
  have M5 := lies_new w4 41 ⟨nm, vd, nx, ms, ks⟩ (.slice (some ⟨g4, 0, none⟩) ms.length ms.length) (.slice (some ⟨g5, 0, none⟩) ks.length ks.length)
  simp only at M5
  have L5 := L4.keep hb5
  have S5 := S4.keep hb5
  have HA5 := rows_below HA4.out hb5
  have HV5 := rows_below HV4.out hb5
  have b5 := b4.trans (hb5.mono b4.size)
  clear hb5 L4 S4 HA4 b4 HV4
  go_wp2_with fail
  generalize w4.alloc _ = w5 at M5 L5 S5 HA5 HV5 b5 ⊢
  have HA5 : Hid (RowsAt w5 (.slice a ms.length cap) (.slice a1 ks.length cap1) ms ks) := HA5
  have HV5 : Hid (RowsAt w5 (.slice (some ⟨g4, 0, none⟩) ms.length ms.length) (.slice (some ⟨g5, 0, none⟩) ks.length ks.length) ms ks) := HV5
  refine (impl_sa ⟨nm, vd, nx, ms, ks⟩ _ _ z w5 HV5.out HSM.out hzi).mono ?_
  rintro e w6' ⟨⟨s2, c2, rfl, hsat2⟩, hb6⟩
  obtain ⟨rfl, rfl⟩ := sat_one HSAT.out hsat2
  have hb6a := st.new_below w6' 49 #[.int .i64 su, .int .i64 sf, .string stx]
  have G6 := b3_new w6' 49 (.int .i64 su) (.int .i64 sf) (.string stx)
  have M6 := (M5.keep hb6).keep hb6a
  have L6 := (L5.keep hb6).keep hb6a
  have S6 := (S5.keep hb6).keep hb6a
  have HA6 := rows_below (rows_below HA5.out hb6) hb6a
  have HV6 := rows_below (rows_below HV5.out hb6) hb6a
  have b6 := (b5.trans (hb6.mono b5.size)).trans (hb6a.mono (b5.trans (hb6.mono b5.size)).size)
  clear hb6 hb6a M5 L5 S5 HA5 HV5 b5 hsat2
  unfold SV
  simp only
  have s0 := S6.c0
  have s1 := S6.c1'
  have s2 := S6.c2'
  have g0 := G6.c0
  have g1 := G6.c1'
  have g2 := G6.c2'
  have cd : ((c : Int) != c) = false := by simp
  go_wp2_with fail
  generalize w6'.heap.size = G at G6 g0 g1 g2 ⊢
  generalize w6'.alloc _ = w6 at M6 L6 S6 G6 HA6 HV6 b6 s0 s1 s2 g0 g1 g2 ⊢
  refine (eqStored_any ⟨su, sf, stx⟩ w6).mono ?_
  rintro e w9 ⟨rfl, hb9⟩
  have HA9 : Hid (RowsAt w9 (.slice a ms.length cap) (.slice a1 ks.length cap1) ms ks) := rows_below HA6 hb9
  have HV9 : Hid (RowsAt w9 (.slice (some ⟨g4, 0, none⟩) ms.length ms.length) (.slice (some ⟨g5, 0, none⟩) ks.length ks.length) ms ks) := rows_below HV6 hb9
  have L9 := L6.keep hb9
  have M9 := M6.keep hb9
  have b9 := b6.trans (hb9.mono b6.size)
  clear hb9 HA6 HV6 L6 M6 S6 G6 b6 s0 s1 s2 g0 g1 g2
  go_wp2_with fail
  have c0 := L9.c0
  have c1 := L9.c1
  have c2 := L9.c2
  have c3 := L9.c3
  have c4 := L9.c4
  have d0 := M9.c0
  have d1 := M9.c1
  have d2 := M9.c2
  have d3 := M9.c3
  have d4 := M9.c4
  simp only at c0 c1 c2 d0 d1 d2
  have HK : Hid (∀ x, Below w9.heap.size w9 x → x.cell? ⟨w.heap.size, 0, none⟩ = some (.string nm) ∧ x.cell? ⟨w.heap.size, 0 + 1, none⟩ = some (.int .i64 vd) ∧ x.cell? ⟨w.heap.size, 0 + 2, none⟩ = some (.int .i64 nx) ∧ x.cell? ⟨w.heap.size, 0 + 3, none⟩ = some (.slice a ms.length cap) ∧ x.cell? ⟨w.heap.size, 0 + 4, none⟩ = some (.slice a1 ks.length cap1) ∧ x.cell? ⟨w4.heap.size, 0, none⟩ = some (.string nm) ∧ x.cell? ⟨w4.heap.size, 0 + 1, none⟩ = some (.int .i64 vd) ∧ x.cell? ⟨w4.heap.size, 0 + 2, none⟩ = some (.int .i64 nx) ∧ x.cell? ⟨w4.heap.size, 0 + 3, none⟩ = some (.slice (some ⟨g4, 0, none⟩) ms.length ms.length) ∧ x.cell? ⟨w4.heap.size, 0 + 4, none⟩ = some (.slice (some ⟨g5, 0, none⟩) ks.length ks.length)) := fun x hx => ⟨(L9.keep hx).c0, (L9.keep hx).c1, (L9.keep hx).c2, (L9.keep hx).c3, (L9.keep hx).c4, (M9.keep hx).c0, (M9.keep hx).c1, (M9.keep hx).c2, (M9.keep hx).c3, (M9.keep hx).c4⟩
  have HT : Hid (∀ x, Below w9.heap.size w9 x → Calls Try.prog 16 #[.agg #[.string nm, .int .i64 vd, .int .i64 nx, .slice a ms.length cap, .slice a1 ks.length cap1]] x fun e w' => ∃ g g', e = .returned (.agg #[.string nm, .int .i64 vd, .int .i64 nx, .slice (some ⟨g, 0, none⟩) ms.length ms.length, .slice (some ⟨g', 0, none⟩) ks.length ks.length]) ∧ RowsAt w' (.slice (some ⟨g, 0, none⟩) ms.length ms.length) (.slice (some ⟨g', 0, none⟩) ks.length ks.length) ms ks ∧ Below w9.heap.size w9 w' ∧ w'.cell? ⟨w.heap.size, 0, none⟩ = some (.string nm) ∧ w'.cell? ⟨w.heap.size, 0 + 1, none⟩ = some (.int .i64 vd) ∧ w'.cell? ⟨w.heap.size, 0 + 2, none⟩ = some (.int .i64 nx) ∧ w'.cell? ⟨w.heap.size, 0 + 3, none⟩ = some (.slice a ms.length cap) ∧ w'.cell? ⟨w.heap.size, 0 + 4, none⟩ = some (.slice a1 ks.length cap1) ∧ w'.cell? ⟨w4.heap.size, 0, none⟩ = some (.string nm) ∧ w'.cell? ⟨w4.heap.size, 0 + 1, none⟩ = some (.int .i64 vd) ∧ w'.cell? ⟨w4.heap.size, 0 + 2, none⟩ = some (.int .i64 nx) ∧ w'.cell? ⟨w4.heap.size, 0 + 3, none⟩ = some (.slice (some ⟨g4, 0, none⟩) ms.length ms.length) ∧ w'.cell? ⟨w4.heap.size, 0 + 4, none⟩ = some (.slice (some ⟨g5, 0, none⟩) ks.length ks.length)) := fun x hx =>
    (toBox_any ⟨nm, vd, nx, ms, ks⟩ _ _ x (rows_below HA9.out hx) hpl).mono fun e w' ⟨g, g', he, hv', hb'⟩ => ⟨g, g', he, hv', hx.trans (hb'.mono hx.size), HK.out _ (hx.trans (hb'.mono hx.size))⟩
  have HE : Hid (∀ x g g', RowsAt x (.slice (some ⟨g, 0, none⟩) ms.length ms.length) (.slice (some ⟨g', 0, none⟩) ks.length ks.length) ms ks → Below w9.heap.size w9 x → Calls Try.prog 18 #[.agg #[.string nm, .int .i64 vd, .int .i64 nx, .slice (some ⟨g4, 0, none⟩) ms.length ms.length, .slice (some ⟨g5, 0, none⟩) ks.length ks.length], .agg #[.string nm, .int .i64 vd, .int .i64 nx, .slice (some ⟨g, 0, none⟩) ms.length ms.length, .slice (some ⟨g', 0, none⟩) ks.length ks.length]] x fun e w' => e = .returned (.bool true) ∧ Below w9.heap.size w9 w' ∧ w'.cell? ⟨w.heap.size, 0, none⟩ = some (.string nm) ∧ w'.cell? ⟨w.heap.size, 0 + 1, none⟩ = some (.int .i64 vd) ∧ w'.cell? ⟨w.heap.size, 0 + 2, none⟩ = some (.int .i64 nx) ∧ w'.cell? ⟨w.heap.size, 0 + 3, none⟩ = some (.slice a ms.length cap) ∧ w'.cell? ⟨w.heap.size, 0 + 4, none⟩ = some (.slice a1 ks.length cap1) ∧ w'.cell? ⟨w4.heap.size, 0, none⟩ = some (.string nm) ∧ w'.cell? ⟨w4.heap.size, 0 + 1, none⟩ = some (.int .i64 vd) ∧ w'.cell? ⟨w4.heap.size, 0 + 2, none⟩ = some (.int .i64 nx) ∧ w'.cell? ⟨w4.heap.size, 0 + 3, none⟩ = some (.slice (some ⟨g4, 0, none⟩) ms.length ms.length) ∧ w'.cell? ⟨w4.heap.size, 0 + 4, none⟩ = some (.slice (some ⟨g5, 0, none⟩) ks.length ks.length)) := fun x g g' h2 hx =>
    (eqBox_any ⟨nm, vd, nx, ms, ks⟩ _ _ _ _ x (rows_below HV9.out hx) h2 hpl).mono fun e w' ⟨he, hb'⟩ => ⟨he, hx.trans (hb'.mono hx.size), HK.out _ (hx.trans (hb'.mono hx.size))⟩
  have hd : Below w9.heap.size w9 w9.drew := (Below.refl _ _).drew
  have hM : w4.heap.size < w9.heap.size := M9.lt
  have hL : w.heap.size < w9.heap.size := L9.lt
  clear HA9 HV9 L9 M9
  go_region_held (fun w' => w'.cell? ⟨w.heap.size, 0, none⟩ = some (.string nm) ∧ w'.cell? ⟨w.heap.size, 0 + 1, none⟩ = some (.int .i64 vd) ∧ w'.cell? ⟨w.heap.size, 0 + 2, none⟩ = some (.int .i64 nx) ∧ w'.cell? ⟨w.heap.size, 0 + 3, none⟩ = some (.slice a ms.length cap) ∧ w'.cell? ⟨w.heap.size, 0 + 4, none⟩ = some (.slice a1 ks.length cap1) ∧ w'.cell? ⟨w4.heap.size, 0, none⟩ = some (.string nm) ∧ w'.cell? ⟨w4.heap.size, 0 + 1, none⟩ = some (.int .i64 vd) ∧ w'.cell? ⟨w4.heap.size, 0 + 2, none⟩ = some (.int .i64 nx) ∧ w'.cell? ⟨w4.heap.size, 0 + 3, none⟩ = some (.slice (some ⟨g4, 0, none⟩) ms.length ms.length) ∧ w'.cell? ⟨w4.heap.size, 0 + 4, none⟩ = some (.slice (some ⟨g5, 0, none⟩) ks.length ks.length))
    (go_keep)
    (first | (go_at_call 16; refine (HT.out _ hd).mono ?_; rintro e w7 ⟨q0, q1, rfl, h2, hb7, p0, p1, p2, p3, p4, p5, p6, p7, p8, p9⟩) | (go_at_call 18; refine (HE.out _ _ _ h2 hb7).mono ?_; rintro e w8 ⟨rfl, hb8, p0, p1, p2, p3, p4, p5, p6, p7, p8, p9⟩))
  go_wp2
  go_ret
  exact ⟨rfl, b9.trans (Below.mono (by assumption) b9.size)⟩

set_option maxRecDepth 100000 in
theorem lifted (os : Os) (started : os.Started) (H : Type) (enc : TypeId × Value → H) :
    ReturnsInHanded {} Try.checked os 6 .any (Rows.fnExactStoredAtSpec.pre6 enc Try.prog Try.f6 Rows.fnExactStoredAtRow.domain false) (Rows.fnExactStoredAtSpec.post enc Try.prog Try.f6 false true false false) := by
  refine returnsInHanded_of_change (C := Try.checked) own started (by kernel_rfl) Try.func6
    (ChangeSpec.witness6 (enc := enc) (C := Try.checked) false ⟨#[], #[.agg #[.string ⟨#[]⟩, .int .i64 0, .int .i64 0, .slice none 0 0, .slice none 0 0], .int .i64 0], []⟩ 8 (by kernel_rfl) (by kernel_rfl) (by kernel_rfl) (by kernel_rfl)) ?_
  intro W base args ds gs before hval0 hW hcnd _
  have hval : ∀ (j : Nat) t v, Try.f6.params[j]? = some t → args[j]? = some v → Value.okWide Try.prog W .any base t v := hval0
  have hW' := hW
  obtain ⟨p, q, hA0, hV, rfl, hfz, hnd⟩ := hW
  have hA : DataW.TrodAll enc Try.prog W 0 (fun _ => true) true Try.f6.params.toList args.toList ds p := hA0
  rw [Try.params6] at hA hval
  obtain ⟨v0, vs0, d0, ds0, p0, q0, hargs, rfl, rfl, h0, r0⟩ := trodAll_cons hA
  obtain ⟨v1, vs1, d1, ds1, p1, q1, rfl, rfl, rfl, h1, r1⟩ := trodAll_cons r0
  obtain ⟨rfl, rfl, rfl⟩ := trodAll_nil r1
  obtain rfl : args = #[v0, v1] := by cases args; simp_all
  obtain ⟨rfl, rfl⟩ := trodVars_none hV
  have k0 := h0
  have lt0 : ∀ x ∈ p0, x.block < W.heap.size := by obtain ⟨m, hm⟩ := k0; exact DataW.trod_lt m _ _ _ hm
  obtain ⟨x, u1, u2, rfl, hat, hh⟩ := bx.open_box (hval 0 36 v0 rfl rfl) h0
  have k1 := h1
  have lt1 : ∀ x ∈ p1, x.block < W.heap.size := by obtain ⟨m, hm⟩ := k1; exact DataW.trod_lt m _ _ _ hm
  obtain ⟨fu, h1⟩ := h1
  obtain ⟨z, rfl⟩ := okWide_int Try.underlying3 (hval 1 3 v1 rfl rfl)
  obtain ⟨z', ez, _, fz⟩ := DataW.trod_int Try.underlying3 h1
  simp [Value.cells] at ez
  subst ez
  have hzi := st.in_of_wf fz
  clear hA0 hval0
  refine (walk x u1 u2 z W hat hh hzi).mono fun e W' ⟨he, bel⟩ => ?_
  subst he
  exact ⟨_, rfl, _, _, _, [], _, [], hW', trodAll_mk1 (shut_bool Try.underlying4 _), (trodAll_cons_mk (Below.trod laidOut (by kernel_rfl) (of_decide_eq_true (by kernel_rfl)) k0 bel lt0) (trodAll_cons_mk (Below.trod laidOut (by kernel_rfl) (of_decide_eq_true (by kernel_rfl)) k1 bel lt1) trodAll_mk0)), rfl, bel.frame _, fun h => by cases h⟩

theorem over : Rows.fnExactStoredAtRow.holds Try.pinned (OpenSpec.ofChange Rows.fnExactStoredAtSpec) :=
  OpenClaim.holds_of_wide 6 Try.f6 rfl rfl rfl rfl rfl rfl rfl ⟨rfl, rfl, rfl, rfl, rfl⟩ rfl rfl rfl rfl rfl (by kernel_rfl) Try.func6 (by kernel_rfl)
    (of_decide_eq_true (by kernel_rfl)) (by unfold Func.isWrapper; first | (rw [if_pos (by decide +kernel)]; kernel_rfl) | (rw [if_neg (by decide +kernel)]; exact ⟨rfl, rfl⟩))
    (fun os started H enc _ => lifted os started H enc)

theorem proved : Rows.FnExactStoredAtSaid := over
end Go.Proofs.Ytbhjinhedbgmnaa.fnExactStoredAt
namespace Go.Proofs.Ytbhjinhedbgmnaa
theorem fnExactStoredAt_holds : Rows.FnExactStoredAtSaid := fnExactStoredAt.proved
#print axioms fnExactStoredAt_holds
end Go.Proofs.Ytbhjinhedbgmnaa
