/-
  Both LogOK functions answer alike at every log; for every input.
-/
import Derived.Test.YtabgmmpoengdoaaLga
import Derived.WalkKit
import Derived.ProofKit
import Derived.OpenShut
import Derived.ChangeOld
import Derived.Below
import Derived.Carry
import Derived.Lib.SmallJoins
import Derived.Deep.RegionHeld
namespace Go.Proofs.Ytabgmmpoengdoaa.fnExactLogOK
open Go.ChangeShapes Go.WideShapes Go.ChangeAt Go.RowKit Go.Joins Go.Deep
set_option linter.unusedVariables false

theorem own : ownKnob Try.prog.godebug = none := by kernel_rfl
theorem laidOut : laidOutB Try.prog = true := by kernel_rfl

open lg
set_option maxHeartbeats 1000000 in
set_option maxRecDepth 100000 in
theorem walk (r : Int) (d : ByteArray) (s : Int) (w : World) (hr : In r) (hd : d.size ≤ maxLen) (hs : In s) :
    Calls Try.prog 4 #[LV r d s] w fun e w' => e = .returned (.bool true) ∧ Below w.heap.size w w' := by
  have L0 := lies_new w 28 r d s
  have b0 := new_below w 28 #[.int .i64 r, .string d, .int .i64 s]
  unfold LV
  go_enter Try.func4, Try.ntmps4
  go_wp2_with fail
  generalize w.alloc _ = w0 at L0 b0 ⊢
  refine (szLog_any r d s w0 hd).mono ?_
  rintro e w1 ⟨⟨z, rfl, hz0, hz1, hz2⟩, hb1⟩
  have L1 := L0.keep hb1
  have b1 := b0.trans (hb1.mono b0.size)
  clear hb1 L0 b0
  by_cases hz : z < 0
  · go_wp2
    go_ret
    exact ⟨rfl, b1⟩
  have c0 := L1.c0
  have c1 := L1.c1
  have c2 := L1.c2
  go_wp2_with fail
  refine (toLog_any r d s w1).mono ?_
  rintro e w2 ⟨rfl, hb2⟩
  have L2 := L1.keep hb2
  have b2 := b1.trans (hb2.mono b1.size)
  clear hb2 L1 b1 c0 c1 c2
  go_wp2_with fail
  refine (spec_ok r d s w2 hr hd hs).mono ?_
  rintro e w3 ⟨rfl, hb3⟩
  have L3 := L2.keep hb3
  have b3 := b2.trans (hb3.mono b2.size)
  clear hb3 L2 b2
  have c0 := L3.c0
  have c1 := L3.c1
  have c2 := L3.c2
  go_wp2_with fail
  refine (toLog_any r d s w3).mono ?_
  rintro e w4 ⟨rfl, hb4⟩
  have b4 := b3.trans (hb4.mono b3.size)
  clear hb4 L3 b3 c0 c1 c2
  go_wp2_with fail
  refine (impl_ok r d s w4 hr hd hs).mono ?_
  rintro e w5 ⟨rfl, hb5⟩
  have b5 := b4.trans (hb5.mono b4.size)
  clear hb5 b4
  generalize ok r d.size s = v
  have hv : (v != v) = false := by simp
  go_wp2
  go_ret
  exact ⟨rfl, b5⟩

set_option maxRecDepth 100000 in
theorem lifted (os : Os) (started : os.Started) (H : Type) (enc : TypeId × Value → H) :
    ReturnsInHanded {} Try.checked os 4 .any (Rows.fnExactLogOKSpec.pre6 enc Try.prog Try.f4 Rows.fnExactLogOKRow.domain false) (Rows.fnExactLogOKSpec.post enc Try.prog Try.f4 false true false false) := by
  refine returnsInHanded_of_change (C := Try.checked) own started (by kernel_rfl) Try.func4
    (ChangeSpec.witness6 (enc := enc) (C := Try.checked) false ⟨#[], #[.agg #[.int .i64 0, .string ⟨#[]⟩, .int .i64 0]], []⟩ 8 (by kernel_rfl) (by kernel_rfl) (by kernel_rfl) (by kernel_rfl)) ?_
  intro W base args ds gs before hval0 hW hcnd _
  have hval : ∀ (j : Nat) t v, Try.f4.params[j]? = some t → args[j]? = some v → Value.okWide Try.prog W .any base t v := hval0
  have hW' := hW
  obtain ⟨p, q, hA0, hV, rfl, hfz, hnd⟩ := hW
  have hA : DataW.TrodAll enc Try.prog W 0 (fun _ => true) true Try.f4.params.toList args.toList ds p := hA0
  rw [Try.params4] at hA hval
  obtain ⟨v0, vs0, d0, ds0, p0, q0, hargs, rfl, rfl, h0, r0⟩ := trodAll_cons hA
  obtain ⟨rfl, rfl, rfl⟩ := trodAll_nil r0
  obtain rfl : args = #[v0] := by cases args; simp_all
  obtain ⟨rfl, rfl⟩ := trodVars_none hV
  have k0 := h0
  have lt0 : ∀ x ∈ p0, x.block < W.heap.size := by obtain ⟨m, hm⟩ := k0; exact DataW.trod_lt m _ _ _ hm
  obtain ⟨r, d, s, rfl, hr, hd, hs⟩ := lg.open_log (hval 0 28 v0 rfl rfl) h0
  clear hA0 hval0
  refine (walk r d s W hr hd hs).mono fun e W' ⟨he, bel⟩ => ?_
  subst he
  exact ⟨_, rfl, _, _, _, [], _, [], hW', trodAll_mk1 (shut_bool Try.underlying4 _), (trodAll_cons_mk (Below.trod laidOut (by kernel_rfl) (of_decide_eq_true (by kernel_rfl)) k0 bel lt0) trodAll_mk0), rfl, bel.frame _, fun h => by cases h⟩

theorem over : Rows.fnExactLogOKRow.holds Try.pinned (OpenSpec.ofChange Rows.fnExactLogOKSpec) :=
  OpenClaim.holds_of_wide 4 Try.f4 rfl rfl rfl rfl rfl rfl rfl ⟨rfl, rfl, rfl, rfl, rfl⟩ rfl rfl rfl rfl rfl (by kernel_rfl) Try.func4 (by kernel_rfl)
    (of_decide_eq_true (by kernel_rfl)) (by unfold Func.isWrapper; first | (rw [if_pos (by decide +kernel)]; kernel_rfl) | (rw [if_neg (by decide +kernel)]; exact ⟨rfl, rfl⟩))
    (fun os started H enc _ => lifted os started H enc)

theorem proved : Rows.FnExactLogOKSaid := over
end Go.Proofs.Ytabgmmpoengdoaa.fnExactLogOK
namespace Go.Proofs.Ytabgmmpoengdoaa
theorem fnExactLogOK_holds : Rows.FnExactLogOKSaid := fnExactLogOK.proved
#print axioms fnExactLogOK_holds
end Go.Proofs.Ytabgmmpoengdoaa
