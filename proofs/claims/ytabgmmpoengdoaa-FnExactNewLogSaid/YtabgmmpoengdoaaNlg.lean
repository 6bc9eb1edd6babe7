/-
  Both NewLog functions answer alike at every number; for every input.
-/
import Derived.Test.YtabgmmpoengdoaaLgb
import Derived.Test.YtabgmmpoengdoaaRows
import Derived.WalkKit
import Derived.ProofKit
import Derived.OpenShut
import Derived.ShutString
import Derived.ChangeOld
import Derived.Below
namespace Go.Proofs.Ytabgmmpoengdoaa.fnExactNewLog
open Go.ChangeShapes Go.WideShapes Go.ChangeAt Go.RowKit
open Go.ChangeMaps (open_string shut_string)
set_option linter.unusedVariables false

theorem own : ownKnob Try.prog.godebug = none := by kernel_rfl

theorem walk (a0 : Int) (w0 : (Lit.int .i64 a0).wf = true) (w : World) :
    Calls Try.prog 3 #[.int .i64 a0] w fun e w' => e = .returned (.bool true) ∧ Below w.heap.size w w' := by
  obtain ⟨r, d, s, c, hx⟩ := lg.newLog_form a0
  have hcc : (c != c) = false := by simp
  go_enter Try.func3, Try.ntmps3
  go_wp2_with fail
  refine (lg.spec_new a0 _).mono ?_
  rintro e w1 ⟨rfl, b1⟩
  rw [hx]
  unfold lg.RV lg.LV
  go_wp2_with fail
  refine (lg.impl_new a0 _).mono ?_
  rintro e w2 ⟨rfl, b2⟩
  rw [hx]
  unfold lg.RV lg.LV
  have L := (lg.lies_new w1 23 r d s).keep b2
  have b3 : Below w.heap.size w w2 := b1.trans (((lg.new_below w1 23 _).trans (b2.mono (by simp))).mono b1.size)
  clear b1 b2 hx
  have L' := L.keep (lg.new_below w2 23 #[.int .i64 r, .string d, .int .i64 s])
  have M' := lg.lies_new w2 23 r d s
  have b4 := b3.trans ((lg.new_below w2 23 #[.int .i64 r, .string d, .int .i64 s]).mono b3.size)
  clear L b3
  have c0 := L'.c0
  have c1 := L'.c1
  have c2 := L'.c2
  clear L' M'
  go_wp2_with fail
  refine (lg.eqLog_same r d s _).mono ?_
  rintro e w3 ⟨rfl, b5⟩
  have b6 := b4.trans (b5.mono b4.size)
  clear b4 b5 c0 c1 c2
  go_wp2
  go_ret
  exact ⟨rfl, b6⟩

set_option maxRecDepth 100000 in
theorem lifted (os : Os) (started : os.Started) (H : Type) (enc : TypeId × Value → H) :
    ReturnsInHanded {} Try.checked os 3 .any (Rows.fnExactNewLogSpec.pre6 enc Try.prog Try.f3 Rows.fnExactNewLogRow.domain false) (Rows.fnExactNewLogSpec.post enc Try.prog Try.f3 false true false false) := by
  refine returnsInHanded_of_change (C := Try.checked) own started (by kernel_rfl) Try.func3
    (ChangeSpec.witness6 (enc := enc) (C := Try.checked) false ⟨#[], #[.int .i64 0], []⟩ 8 (by kernel_rfl) (by kernel_rfl) (by kernel_rfl) (by kernel_rfl)) ?_
  intro W base args ds gs before hval0 hW hcnd _
  have hval : ∀ (j : Nat) t v, Try.f3.params[j]? = some t → args[j]? = some v → Value.okWide Try.prog W .any base t v := hval0
  have hW' := hW
  obtain ⟨p, q, hA0, hV, rfl, hfz, hnd⟩ := hW
  have hA : DataW.TrodAll enc Try.prog W 0 (fun _ => true) true Try.f3.params.toList args.toList ds p := hA0
  rw [Try.params3] at hA hval
  obtain ⟨v0, vs0, d0, ds0, p0, q0, hargs, rfl, rfl, h0, r0⟩ := trodAll_cons hA
  obtain ⟨rfl, rfl, rfl⟩ := trodAll_nil r0
  obtain rfl : args = #[v0] := by cases args; simp_all
  obtain ⟨rfl, rfl⟩ := trodVars_none hV
  obtain ⟨a0, rfl, rfl, rfl, w0⟩ := open_int Try.underlying3 (hval 0 3 v0 rfl rfl) h0
  clear hA0 hval0
  simp only [List.append_nil] at hW'
  refine (walk a0 w0 W).mono fun e W' ⟨he, bel⟩ => ?_
  subst he
  exact ⟨_, rfl, _, _, _, [], [], [], hW', (trodAll_cons_mk (shut_bool Try.underlying4 _) trodAll_mk0), (trodAll_cons_mk (shut_int Try.underlying3 w0) trodAll_mk0), rfl, bel.frame _, fun h => by cases h⟩

theorem over : Rows.fnExactNewLogRow.holds Try.pinned (OpenSpec.ofChange Rows.fnExactNewLogSpec) :=
  OpenClaim.holds_of_wide 3 Try.f3 rfl rfl rfl rfl rfl rfl rfl ⟨rfl, rfl, rfl, rfl, rfl⟩ rfl rfl rfl rfl rfl (by kernel_rfl) Try.func3 (by kernel_rfl)
    (of_decide_eq_true (by kernel_rfl)) (by unfold Func.isWrapper; first | (rw [if_pos (by decide +kernel)]; kernel_rfl) | (rw [if_neg (by decide +kernel)]; exact ⟨rfl, rfl⟩))
    (fun os started H enc _ => lifted os started H enc)

theorem proved : Rows.FnExactNewLogSaid :=
  over
end Go.Proofs.Ytabgmmpoengdoaa.fnExactNewLog
namespace Go.Proofs.Ytabgmmpoengdoaa
theorem fnExactNewLog_holds : Rows.FnExactNewLogSaid := fnExactNewLog.proved
#print axioms fnExactNewLog_holds
end Go.Proofs.Ytabgmmpoengdoaa
