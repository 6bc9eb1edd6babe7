/-
  Both EntryOK functions answer alike at every entry; for every input.
-/
import Derived.Test.YtabhnbcledicgaaEnc
import Derived.WalkKit
import Derived.ProofKit
import Derived.OpenShut
import Derived.ChangeOld
import Derived.Below
import Derived.Carry
import Derived.Lib.SmallJoins
import Derived.Deep.RegionHeld
namespace Go.Proofs.Ytabhnbcledicgaa.fnExactEntryOK
open Go.ChangeShapes Go.WideShapes Go.ChangeAt Go.RowKit Go.Joins Go.Deep
set_option linter.unusedVariables false

theorem own : ownKnob Try.prog.godebug = none := by kernel_rfl
theorem laidOut : laidOutB Try.prog = true := by kernel_rfl

set_option maxHeartbeats 1000000 in
set_option maxRecDepth 100000 in
theorem walk (e : en.En) (w : World) (hh : en.Held e) :
    Calls Try.prog 3 #[en.EV e] w fun r w' => r = .returned (.bool true) ∧ Below w.heap.size w w' := by
  have L0 := en.lies_new w 23 e
  have b0 : Below w.heap.size w (w.alloc (.cells (en.cl e) 23)) := (Below.refl _ _).alloc (Nat.le_refl _) _
  have HE : Hid (en.EV e = .agg (en.cl e)) := rfl
  obtain ⟨i, t, l, a, d, c⟩ := e
  have HS := hh
  clear hh
  unfold en.EV en.cl
  unfold en.cl at L0 b0
  simp only at L0 b0 ⊢
  go_enter Try.func3, Try.ntmps3
  go_wp2_with fail
  generalize w.alloc _ = w0 at L0 b0 ⊢
  refine (en.szEntry_any ⟨i, t, l, a, d, c⟩ 1048576 w0 (by omega) (by omega) HS).mono ?_
  rintro r w1 ⟨⟨z, rfl, hz0, hz1, hz2⟩, hb1⟩
  have L1 := L0.keep hb1
  have b1 := b0.trans (hb1.mono b0.size)
  clear hb1 L0 b0 HS
  by_cases hz : z < 0
  · go_wp2
    go_ret
    exact ⟨rfl, b1⟩
  have HSM : Hid (en.Small ⟨i, t, l, a, d, c⟩) := hz2 (by omega)
  clear hz2
  have c0 := L1.c0
  have c1 := L1.c1
  have c2 := L1.c2
  have c3 := L1.c3
  have c4 := L1.c4
  have c5 := L1.c5
  simp only at c0 c1 c2 c3 c4 c5
  go_wp2_with fail
  refine (en.toEntry_any ⟨i, t, l, a, d, c⟩ w1).mono ?_
  rintro r w2 ⟨rfl, hb2⟩
  have L2 := L1.keep hb2
  have b2 := b1.trans (hb2.mono b1.size)
  clear hb2 L1 b1 c0 c1 c2 c3 c4 c5
  go_wp2_with fail
  refine (en.spec_eok ⟨i, t, l, a, d, c⟩ w2 HSM.out).mono ?_
  rintro r w3 ⟨rfl, hb3⟩
  have L3 := L2.keep hb3
  have b3 := b2.trans (hb3.mono b2.size)
  clear hb3 L2 b2
  have c0 := L3.c0
  have c1 := L3.c1
  have c2 := L3.c2
  have c3 := L3.c3
  have c4 := L3.c4
  have c5 := L3.c5
  simp only at c0 c1 c2 c3 c4 c5
  go_wp2_with fail
  refine (en.toEntry_any ⟨i, t, l, a, d, c⟩ w3).mono ?_
  rintro r w4 ⟨rfl, hb4⟩
  have b4 := b3.trans (hb4.mono b3.size)
  clear hb4 L3 b3 c0 c1 c2 c3 c4 c5
  go_wp2_with fail
  refine (en.impl_eok ⟨i, t, l, a, d, c⟩ w4 HSM.out).mono ?_
  rintro r w5 ⟨rfl, hb5⟩
  have b5 := b4.trans (hb5.mono b4.size)
  clear hb5 b4
  generalize en.eok ⟨i, t, l, a, d, c⟩ = v
  have hv : (v != v) = false := by simp
  go_wp2
  go_ret
  exact ⟨rfl, b5⟩

set_option maxRecDepth 100000 in
theorem lifted (os : Os) (started : os.Started) (H : Type) (enc : TypeId × Value → H) :
    ReturnsInHanded {} Try.checked os 3 .any (Rows.fnExactEntryOKSpec.pre6 enc Try.prog Try.f3 Rows.fnExactEntryOKRow.domain false) (Rows.fnExactEntryOKSpec.post enc Try.prog Try.f3 false true false false) := by
  refine returnsInHanded_of_change (C := Try.checked) own started (by kernel_rfl) Try.func3
    (ChangeSpec.witness6 (enc := enc) (C := Try.checked) false ⟨#[], #[.agg #[.string ⟨#[]⟩, .string ⟨#[]⟩, .string ⟨#[]⟩, .string ⟨#[]⟩, .int .i64 0, .string ⟨#[]⟩]], []⟩ 8 (by kernel_rfl) (by kernel_rfl) (by kernel_rfl) (by kernel_rfl)) ?_
  intro W base args ds gs before hval0 hW hcnd _
  have hval : ∀ (j : Nat) t v, Try.f3.params[j]? = some t → args[j]? = some v → Value.okWide Try.prog W .any base t v := hval0
  have hW' := hW
  obtain ⟨p, q, hA0, hV, rfl, hfz, hnd⟩ := hW
  have hA : DataW.TrodAll enc Try.prog W 0 (fun _ => true) true Try.f3.params.toList args.toList ds p := hA0
  rw [Try.params3] at hA hval
  obtain ⟨v0, vs0, d0, ds0, p0, q0, hargs, rfl, rfl, h0, r0⟩ := trodAll_cons hA
  obtain ⟨rfl, rfl, rfl⟩ := trodAll_nil r0
  obtain rfl : args = #[v0] := by cases args; simp_all
  obtain ⟨rfl, rfl⟩ := trodVars_none hV
  have k0 := h0
  have lt0 : ∀ x ∈ p0, x.block < W.heap.size := by obtain ⟨m, hm⟩ := k0; exact DataW.trod_lt m _ _ _ hm
  obtain ⟨x, rfl, hh⟩ := en.open_entry (hval 0 23 v0 rfl rfl) h0
  clear hA0 hval0
  refine (walk x W hh).mono fun e W' ⟨he, bel⟩ => ?_
  subst he
  exact ⟨_, rfl, _, _, _, [], _, [], hW', trodAll_mk1 (shut_bool Try.underlying4 _), (trodAll_cons_mk (Below.trod laidOut (by kernel_rfl) (of_decide_eq_true (by kernel_rfl)) k0 bel lt0) trodAll_mk0), rfl, bel.frame _, fun h => by cases h⟩

theorem over : Rows.fnExactEntryOKRow.holds Try.pinned (OpenSpec.ofChange Rows.fnExactEntryOKSpec) :=
  OpenClaim.holds_of_wide 3 Try.f3 rfl rfl rfl rfl rfl rfl rfl ⟨rfl, rfl, rfl, rfl, rfl⟩ rfl rfl rfl rfl rfl (by kernel_rfl) Try.func3 (by kernel_rfl)
    (of_decide_eq_true (by kernel_rfl)) (by unfold Func.isWrapper; first | (rw [if_pos (by decide +kernel)]; kernel_rfl) | (rw [if_neg (by decide +kernel)]; exact ⟨rfl, rfl⟩))
    (fun os started H enc _ => lifted os started H enc)

theorem proved : Rows.FnExactEntryOKSaid := over
end Go.Proofs.Ytabhnbcledicgaa.fnExactEntryOK
namespace Go.Proofs.Ytabhnbcledicgaa
theorem fnExactEntryOK_holds : Rows.FnExactEntryOKSaid := fnExactEntryOK.proved
#print axioms fnExactEntryOK_holds
end Go.Proofs.Ytabhnbcledicgaa
