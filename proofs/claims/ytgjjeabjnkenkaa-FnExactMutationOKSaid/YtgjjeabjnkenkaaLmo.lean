/-
  Both MutationOK functions answer alike at every mutation, and the mutation that was handed in is as it was; for every input.
-/
import Derived.Test.YtgjjeabjnkenkaaMud
import Derived.WalkKit
import Derived.ProofKit
import Derived.OpenShut
import Derived.ChangeOld
import Derived.Below
import Derived.Carry
import Derived.Lib.SmallJoins
import Derived.Deep.RegionHeld
namespace Go.Proofs.Ytgjjeabjnkenkaa.fnExactMutationOK
open Go.ChangeShapes Go.WideShapes Go.ChangeAt Go.RowKit Go.Joins Go.Deep
set_option linter.unusedVariables false

theorem own : ownKnob Try.prog.godebug = none := by kernel_rfl
theorem laidOut : laidOutB Try.prog = true := by kernel_rfl

open mu it
set_option maxHeartbeats 4000000 in
set_option maxRecDepth 100000 in
theorem walk (x : Mu) (v : Value) (w : World) (h : AttrsAt w v x.ps) (hh : Held x) :
    Calls Try.prog 4 #[MV x v] w fun e w' => e = .returned (.bool true) ∧ Below w.heap.size w w' := by
  have L0 := lies_new w 25 x v
  have b0 := new_below w 25 #[.int .i64 x.k, .int .i64 x.u, .int .i64 x.m, .int .i64 x.f, .string x.b, v]
  have HA : Hid (AttrsAt (w.alloc (.cells #[.int .i64 x.k, .int .i64 x.u, .int .i64 x.m, .int .i64 x.f, .string x.b, v] 25)) v x.ps) := at_below h b0
  have HS : Hid (Held x) := hh
  obtain ⟨a, cap, rfl, _⟩ := h
  clear hh
  unfold MV
  obtain ⟨k, u, m, f, b, ps⟩ := x
  simp only at L0 b0 HA HS ⊢
  go_enter Try.func4, Try.ntmps4
  go_wp2_with fail
  generalize w.alloc _ = w0 at L0 b0 HA ⊢
  refine (szMut_any ⟨k, u, m, f, b, ps⟩ _ 1048576 w0 HA.out (by omega) (by omega) HS.out).mono ?_
  rintro e w1 ⟨⟨z, rfl, hz0, hz1, hz2⟩, hb1⟩
  have L1 := L0.keep hb1
  have HA1 : Hid (AttrsAt w1 (.slice a ps.length cap) ps) := at_below HA.out hb1
  have b1 := b0.trans (hb1.mono b0.size)
  clear hb1 L0 HA b0 HS
  by_cases hz : z < 0
  · go_wp2
    go_ret
    exact ⟨rfl, b1⟩
  have hsm := hz2 (by omega)
  have HSM : Hid (Small ⟨k, u, m, f, b, ps⟩) := hsm
  have hpl : ps.length ≤ 1048576 := hsm.2.2.1
  clear hz2 hsm
  have c0 := L1.c0
  have c1 := L1.c1
  have c2 := L1.c2
  have c3 := L1.c3
  have c4 := L1.c4
  have c5 := L1.c5
  simp only at c0 c1 c2 c3 c4 c5
  go_wp2_with fail
  refine (toMut_any ⟨k, u, m, f, b, ps⟩ _ w1 HA1.out hpl).mono ?_
  rintro e w2 ⟨g2, rfl, hv2, hb2⟩
  have L2 := L1.keep hb2
  have HA2 : Hid (AttrsAt w2 (.slice a ps.length cap) ps) := at_below HA1.out hb2
  have b2 := b1.trans (hb2.mono b1.size)
  have HV2 : Hid (AttrsAt w2 (.slice (some ⟨g2, 0, none⟩) ps.length ps.length) ps) := hv2
  clear hb2 L1 HA1 b1 hv2 c0 c1 c2 c3 c4 c5
  unfold MV
  simp only
  go_wp2_with fail
  refine (spec_mok ⟨k, u, m, f, b, ps⟩ _ w2 HV2.out HSM.out).mono ?_
  rintro e w3 ⟨rfl, hb3⟩
  have L3 := L2.keep hb3
  have HA3 : Hid (AttrsAt w3 (.slice a ps.length cap) ps) := at_below HA2.out hb3
  have b3 := b2.trans (hb3.mono b2.size)
  clear hb3 L2 HA2 b2 HV2
  have c0 := L3.c0
  have c1 := L3.c1
  have c2 := L3.c2
  have c3 := L3.c3
  have c4 := L3.c4
  have c5 := L3.c5
  simp only at c0 c1 c2 c3 c4 c5
  generalize hR : mok ⟨k, u, m, f, b, ps⟩ = o
  have HR : Hid (mok ⟨k, u, m, f, b, ps⟩ = o) := hR
  clear hR
  go_wp2_with fail
  refine (toMut_any ⟨k, u, m, f, b, ps⟩ _ w3 HA3.out hpl).mono ?_
  rintro e w4 ⟨g4, rfl, hv4, hb4⟩
  have L4 := L3.keep hb4
  have HA4 : Hid (AttrsAt w4 (.slice a ps.length cap) ps) := at_below HA3.out hb4
  have b4 := b3.trans (hb4.mono b3.size)
  have HV4 : Hid (AttrsAt w4 (.slice (some ⟨g4, 0, none⟩) ps.length ps.length) ps) := hv4
  clear hb4 L3 HA3 b3 hv4 c0 c1 c2 c3 c4 c5
  unfold MV
  simp only
  have hb5 := new_below w4 34 #[.int .i64 k, .int .i64 u, .int .i64 m, .int .i64 f, .string b, .slice (some ⟨g4, 0, none⟩) ps.length ps.length]
  have M5 := lies_new w4 34 ⟨k, u, m, f, b, ps⟩ (.slice (some ⟨g4, 0, none⟩) ps.length ps.length)
  simp only at M5
  have L5 := L4.keep hb5
  have HA5 := at_below HA4.out hb5
  have HV5 := at_below HV4.out hb5
  have b5 := b4.trans (hb5.mono b4.size)
  clear hb5 L4 HA4 b4 HV4
  go_wp2_with fail
  generalize w4.alloc _ = w5 at M5 L5 HA5 HV5 b5 ⊢
  have HA5 : Hid (AttrsAt w5 (.slice a ps.length cap) ps) := HA5
  have HV5 : Hid (AttrsAt w5 (.slice (some ⟨g4, 0, none⟩) ps.length ps.length) ps) := HV5
  refine (impl_mok ⟨k, u, m, f, b, ps⟩ _ w5 HV5.out HSM.out).mono ?_
  rintro e w6 ⟨rfl, hb6⟩
  rw [HR.out]
  have M6 := M5.keep hb6
  have L6 := L5.keep hb6
  have HA6 : Hid (AttrsAt w6 (.slice a ps.length cap) ps) := at_below HA5.out hb6
  have HV6 : Hid (AttrsAt w6 (.slice (some ⟨g4, 0, none⟩) ps.length ps.length) ps) := at_below HV5.out hb6
  have b6 := b5.trans (hb6.mono b5.size)
  clear hb6 M5 L5 HA5 HV5 b5 HR
  have cc : (o != o) = false := by simp
  go_wp2_with fail
  have c0 := L6.c0
  have c1 := L6.c1
  have c2 := L6.c2
  have c3 := L6.c3
  have c4 := L6.c4
  have c5 := L6.c5
  have d0 := M6.c0
  have d1 := M6.c1
  have d2 := M6.c2
  have d3 := M6.c3
  have d4 := M6.c4
  have d5 := M6.c5
  simp only at c0 c1 c2 c3 c4 c5 d0 d1 d2 d3 d4 d5
  have HK : Hid (∀ x, Below w6.heap.size w6 x → x.cell? ⟨w.heap.size, 0, none⟩ = some (.int .i64 k) ∧ x.cell? ⟨w.heap.size, 0 + 1, none⟩ = some (.int .i64 u) ∧ x.cell? ⟨w.heap.size, 0 + 2, none⟩ = some (.int .i64 m) ∧ x.cell? ⟨w.heap.size, 0 + 3, none⟩ = some (.int .i64 f) ∧ x.cell? ⟨w.heap.size, 0 + 4, none⟩ = some (.string b) ∧ x.cell? ⟨w.heap.size, 0 + 5, none⟩ = some (.slice a ps.length cap) ∧ x.cell? ⟨w4.heap.size, 0, none⟩ = some (.int .i64 k) ∧ x.cell? ⟨w4.heap.size, 0 + 1, none⟩ = some (.int .i64 u) ∧ x.cell? ⟨w4.heap.size, 0 + 2, none⟩ = some (.int .i64 m) ∧ x.cell? ⟨w4.heap.size, 0 + 3, none⟩ = some (.int .i64 f) ∧ x.cell? ⟨w4.heap.size, 0 + 4, none⟩ = some (.string b) ∧ x.cell? ⟨w4.heap.size, 0 + 5, none⟩ = some (.slice (some ⟨g4, 0, none⟩) ps.length ps.length)) := fun x hx => ⟨(L6.keep hx).c0, (L6.keep hx).c1, (L6.keep hx).c2, (L6.keep hx).c3, (L6.keep hx).c4, (L6.keep hx).c5, (M6.keep hx).c0, (M6.keep hx).c1, (M6.keep hx).c2, (M6.keep hx).c3, (M6.keep hx).c4, (M6.keep hx).c5⟩
  have HT : Hid (∀ x, Below w6.heap.size w6 x → Calls Try.prog 11 #[.agg #[.int .i64 k, .int .i64 u, .int .i64 m, .int .i64 f, .string b, .slice a ps.length cap]] x fun e w' => ∃ g, e = .returned (.agg #[.int .i64 k, .int .i64 u, .int .i64 m, .int .i64 f, .string b, .slice (some ⟨g, 0, none⟩) ps.length ps.length]) ∧ AttrsAt w' (.slice (some ⟨g, 0, none⟩) ps.length ps.length) ps ∧ Below w6.heap.size w6 w' ∧ w'.cell? ⟨w.heap.size, 0, none⟩ = some (.int .i64 k) ∧ w'.cell? ⟨w.heap.size, 0 + 1, none⟩ = some (.int .i64 u) ∧ w'.cell? ⟨w.heap.size, 0 + 2, none⟩ = some (.int .i64 m) ∧ w'.cell? ⟨w.heap.size, 0 + 3, none⟩ = some (.int .i64 f) ∧ w'.cell? ⟨w.heap.size, 0 + 4, none⟩ = some (.string b) ∧ w'.cell? ⟨w.heap.size, 0 + 5, none⟩ = some (.slice a ps.length cap) ∧ w'.cell? ⟨w4.heap.size, 0, none⟩ = some (.int .i64 k) ∧ w'.cell? ⟨w4.heap.size, 0 + 1, none⟩ = some (.int .i64 u) ∧ w'.cell? ⟨w4.heap.size, 0 + 2, none⟩ = some (.int .i64 m) ∧ w'.cell? ⟨w4.heap.size, 0 + 3, none⟩ = some (.int .i64 f) ∧ w'.cell? ⟨w4.heap.size, 0 + 4, none⟩ = some (.string b) ∧ w'.cell? ⟨w4.heap.size, 0 + 5, none⟩ = some (.slice (some ⟨g4, 0, none⟩) ps.length ps.length)) := fun x hx =>
    (toMut_any ⟨k, u, m, f, b, ps⟩ _ x (at_below HA6.out hx) hpl).mono fun e w' ⟨g, he, hv', hb'⟩ => ⟨g, he, hv', hx.trans (hb'.mono hx.size), HK.out _ (hx.trans (hb'.mono hx.size))⟩
  have HE : Hid (∀ x g, AttrsAt x (.slice (some ⟨g, 0, none⟩) ps.length ps.length) ps → Below w6.heap.size w6 x → Calls Try.prog 14 #[.agg #[.int .i64 k, .int .i64 u, .int .i64 m, .int .i64 f, .string b, .slice (some ⟨g4, 0, none⟩) ps.length ps.length], .agg #[.int .i64 k, .int .i64 u, .int .i64 m, .int .i64 f, .string b, .slice (some ⟨g, 0, none⟩) ps.length ps.length]] x fun e w' => e = .returned (.bool true) ∧ Below w6.heap.size w6 w' ∧ w'.cell? ⟨w.heap.size, 0, none⟩ = some (.int .i64 k) ∧ w'.cell? ⟨w.heap.size, 0 + 1, none⟩ = some (.int .i64 u) ∧ w'.cell? ⟨w.heap.size, 0 + 2, none⟩ = some (.int .i64 m) ∧ w'.cell? ⟨w.heap.size, 0 + 3, none⟩ = some (.int .i64 f) ∧ w'.cell? ⟨w.heap.size, 0 + 4, none⟩ = some (.string b) ∧ w'.cell? ⟨w.heap.size, 0 + 5, none⟩ = some (.slice a ps.length cap) ∧ w'.cell? ⟨w4.heap.size, 0, none⟩ = some (.int .i64 k) ∧ w'.cell? ⟨w4.heap.size, 0 + 1, none⟩ = some (.int .i64 u) ∧ w'.cell? ⟨w4.heap.size, 0 + 2, none⟩ = some (.int .i64 m) ∧ w'.cell? ⟨w4.heap.size, 0 + 3, none⟩ = some (.int .i64 f) ∧ w'.cell? ⟨w4.heap.size, 0 + 4, none⟩ = some (.string b) ∧ w'.cell? ⟨w4.heap.size, 0 + 5, none⟩ = some (.slice (some ⟨g4, 0, none⟩) ps.length ps.length)) := fun x g h2 hx =>
    (eqMut_any ⟨k, u, m, f, b, ps⟩ _ _ x (at_below HV6.out hx) h2 hpl).mono fun e w' ⟨he, hb'⟩ => ⟨he, hx.trans (hb'.mono hx.size), HK.out _ (hx.trans (hb'.mono hx.size))⟩
  have hd : Below w6.heap.size w6 w6.drew := (Below.refl _ _).drew
  have hM : w4.heap.size < w6.heap.size := M6.lt
  have hL : w.heap.size < w6.heap.size := L6.lt
  clear HA6 HV6 L6 M6
  go_region_held (fun w' => w'.cell? ⟨w.heap.size, 0, none⟩ = some (.int .i64 k) ∧ w'.cell? ⟨w.heap.size, 0 + 1, none⟩ = some (.int .i64 u) ∧ w'.cell? ⟨w.heap.size, 0 + 2, none⟩ = some (.int .i64 m) ∧ w'.cell? ⟨w.heap.size, 0 + 3, none⟩ = some (.int .i64 f) ∧ w'.cell? ⟨w.heap.size, 0 + 4, none⟩ = some (.string b) ∧ w'.cell? ⟨w.heap.size, 0 + 5, none⟩ = some (.slice a ps.length cap) ∧ w'.cell? ⟨w4.heap.size, 0, none⟩ = some (.int .i64 k) ∧ w'.cell? ⟨w4.heap.size, 0 + 1, none⟩ = some (.int .i64 u) ∧ w'.cell? ⟨w4.heap.size, 0 + 2, none⟩ = some (.int .i64 m) ∧ w'.cell? ⟨w4.heap.size, 0 + 3, none⟩ = some (.int .i64 f) ∧ w'.cell? ⟨w4.heap.size, 0 + 4, none⟩ = some (.string b) ∧ w'.cell? ⟨w4.heap.size, 0 + 5, none⟩ = some (.slice (some ⟨g4, 0, none⟩) ps.length ps.length))
    (go_keep)
    (first | (go_at_call 11; refine (HT.out _ hd).mono ?_; rintro e w7 ⟨q0, rfl, h2, hb7, p0, p1, p2, p3, p4, p5, p6, p7, p8, p9, p10, p11⟩) | (go_at_call 14; refine (HE.out _ _ h2 hb7).mono ?_; rintro e w8 ⟨rfl, hb8, p0, p1, p2, p3, p4, p5, p6, p7, p8, p9, p10, p11⟩))
  go_wp2
  go_ret
  exact ⟨rfl, b6.trans (Below.mono (by assumption) b6.size)⟩

set_option maxRecDepth 100000 in
theorem lifted (os : Os) (started : os.Started) (H : Type) (enc : TypeId × Value → H) :
    ReturnsInHanded {} Try.checked os 4 .any (Rows.fnExactMutationOKSpec.pre6 enc Try.prog Try.f4 Rows.fnExactMutationOKRow.domain false) (Rows.fnExactMutationOKSpec.post enc Try.prog Try.f4 false true false false) := by
  refine returnsInHanded_of_change (C := Try.checked) own started (by kernel_rfl) Try.func4
    (ChangeSpec.witness6 (enc := enc) (C := Try.checked) false ⟨#[], #[.agg #[.int .i64 0, .int .i64 0, .int .i64 0, .int .i64 0, .string ⟨#[]⟩, .slice none 0 0]], []⟩ 8 (by kernel_rfl) (by kernel_rfl) (by kernel_rfl) (by kernel_rfl)) ?_
  intro W base args ds gs before hval0 hW hcnd _
  have hval : ∀ (j : Nat) t v, Try.f4.params[j]? = some t → args[j]? = some v → Value.okWide Try.prog W .any base t v := hval0
  have hW' := hW
  obtain ⟨p, q, hA0, hV, rfl, hfz, hnd⟩ := hW
  have hA : DataW.TrodAll enc Try.prog W 0 (fun _ => true) true Try.f4.params.toList args.toList ds p := hA0
  rw [Try.params4] at hA hval
  obtain ⟨v0, vs0, d0, ds0, p0, q0, hargs, rfl, rfl, h0, r0⟩ := trodAll_cons hA
  obtain ⟨rfl, rfl, rfl⟩ := trodAll_nil r0
  obtain rfl : args = #[v0] := by cases args; simp_all
  obtain ⟨rfl, rfl⟩ := trodVars_none hV
  have k0 := h0
  have lt0 : ∀ x ∈ p0, x.block < W.heap.size := by obtain ⟨m, hm⟩ := k0; exact DataW.trod_lt m _ _ _ hm
  obtain ⟨x, u, rfl, hat, hh⟩ := mu.open_mut (hval 0 25 v0 rfl rfl) h0
  clear hA0 hval0
  refine (walk x u W hat hh).mono fun e W' ⟨he, bel⟩ => ?_
  subst he
  exact ⟨_, rfl, _, _, _, [], _, [], hW', trodAll_mk1 (shut_bool Try.underlying4 _), (trodAll_cons_mk (Below.trod laidOut (by kernel_rfl) (of_decide_eq_true (by kernel_rfl)) k0 bel lt0) trodAll_mk0), rfl, bel.frame _, fun h => by cases h⟩

theorem over : Rows.fnExactMutationOKRow.holds Try.pinned (OpenSpec.ofChange Rows.fnExactMutationOKSpec) :=
  OpenClaim.holds_of_wide 4 Try.f4 rfl rfl rfl rfl rfl rfl rfl ⟨rfl, rfl, rfl, rfl, rfl⟩ rfl rfl rfl rfl rfl (by kernel_rfl) Try.func4 (by kernel_rfl)
    (of_decide_eq_true (by kernel_rfl)) (by unfold Func.isWrapper; first | (rw [if_pos (by decide +kernel)]; kernel_rfl) | (rw [if_neg (by decide +kernel)]; exact ⟨rfl, rfl⟩))
    (fun os started H enc _ => lifted os started H enc)

theorem proved : Rows.FnExactMutationOKSaid := over
end Go.Proofs.Ytgjjeabjnkenkaa.fnExactMutationOK
namespace Go.Proofs.Ytgjjeabjnkenkaa
theorem fnExactMutationOK_holds : Rows.FnExactMutationOKSaid := fnExactMutationOK.proved
#print axioms fnExactMutationOK_holds
end Go.Proofs.Ytgjjeabjnkenkaa
