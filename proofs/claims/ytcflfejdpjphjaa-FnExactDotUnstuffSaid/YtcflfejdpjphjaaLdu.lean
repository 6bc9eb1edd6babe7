/-
  Both DotUnstuff functions answer alike at every text; for every input.
-/
import Derived.Test.YtcflfejdpjphjaaDui
import Derived.Test.YtcflfejdpjphjaaRows
import Derived.WalkKit
import Derived.ProofKit
import Derived.HandedShaped
import Derived.OpenShut
import Derived.ShutString
import Derived.ChangeOld
import Derived.Below
namespace Go.Proofs.Ytcflfejdpjphjaa.fnExactDotUnstuff
open Go.ChangeShapes Go.WideShapes Go.ChangeAt Go.RowKit
open Go.ChangeMaps (open_string shut_string)
set_option linter.unusedVariables false

theorem own : ownKnob Try.prog.godebug = none := by kernel_rfl

theorem walk (a0 : ByteArray) (w0 : a0.size ≤ maxLen) (w : World) (m : Int) (hm : w.cell? ⟨0, 0, none⟩ = some (.int .i64 m)) :
    Calls Try.prog 3 #[.string a0] w fun e w' => e = .returned (.bool true) ∧ Below w.heap.size w w' := by
  by_cases hbig : 1048576 < a0.size
  · have hb : (1048576 : Int) < (a0.size : Int) := by omega
    clear hm
    go_enter Try.func3, Try.ntmps3
    go_wp2
    go_ret
    exact ⟨rfl, Below.refl _ _⟩
  have hb : (a0.size : Int) ≤ 1048576 := by omega
  have hgl := World.block_lt_of_cell? _ _ hm
  have HT : Hid (∀ W, Below w.heap.size w W → W.cell? ⟨0, 0, none⟩ = some (.int .i64 m)) := fun W hW => (hW.cell (p := ⟨0, 0, none⟩) hgl).trans hm
  clear hm hgl
  have HS : Hid (∀ W, Calls Try.prog 4 #[.string a0] W fun e w' => dt.UnIs a0 e ∧ Below W.heap.size W w') := fun W => dt.specUn_any a0 W (by omega)
  have HI : Hid (∀ W, Below w.heap.size w W → Calls Try.prog 5 #[.string a0] W fun e w' => dt.UnIs a0 e ∧ Below W.heap.size W w') := fun W h => dt.implUn_any a0 W m (HT.out W h) (by omega)
  unfold dt.UnIs at HS HI
  generalize (⟨(dt.unR a0).2.toArray⟩ : ByteArray) = X at HS HI
  generalize (dt.unR a0).1 = c at HS HI
  go_enter Try.func3, Try.ntmps3
  go_wp2_with fail
  refine (HS.out _).mono ?_
  rintro e w1 ⟨rfl, b1⟩
  go_wp2_with fail
  refine (HI.out w1 b1).mono ?_
  rintro e w2 ⟨rfl, b2⟩
  have bz := b1.trans (b2.mono b1.size)
  clear HS HI HT
  go_wp2
  go_ret
  exact ⟨rfl, bz⟩

set_option maxRecDepth 100000 in
theorem lifted (os : Os) (started : os.Started) (H : Type) (enc : TypeId × Value → H) :
    ReturnsInHanded {} Try.checked os 3 .any (Rows.fnExactDotUnstuffSpec.pre6 enc Try.prog Try.f3 Rows.fnExactDotUnstuffRow.domain false) (Rows.fnExactDotUnstuffSpec.post enc Try.prog Try.f3 false true false false) := by
  refine returnsInHanded_of_change_shaped (C := Try.checked) own started (by kernel_rfl) Try.func3
    (ChangeSpec.witness6 (enc := enc) (C := Try.checked) false ⟨#[], #[.string ByteArray.empty], []⟩ 8 (by kernel_rfl) (by kernel_rfl) (by kernel_rfl) (by kernel_rfl)) ?_
  intro W base args ds gs before hval0 hW hcnd _ hsh _
  obtain ⟨m, hm⟩ := Try.laysM219.s1_3 W hsh
  have hval : ∀ (j : Nat) t v, Try.f3.params[j]? = some t → args[j]? = some v → Value.okWide Try.prog W .any base t v := hval0
  have hW' := hW
  obtain ⟨p, q, hA0, hV, rfl, hfz, hnd⟩ := hW
  have hA : DataW.TrodAll enc Try.prog W 0 (fun _ => true) true Try.f3.params.toList args.toList ds p := hA0
  rw [Try.params3] at hA hval
  obtain ⟨v0, vs0, d0, ds0, p0, q0, hargs, rfl, rfl, h0, r0⟩ := trodAll_cons hA
  obtain ⟨rfl, rfl, rfl⟩ := trodAll_nil r0
  obtain rfl : args = #[v0] := by cases args; simp_all
  obtain ⟨rfl, rfl⟩ := trodVars_none hV
  obtain ⟨a0, rfl, rfl, rfl, w0⟩ := open_string Try.underlying9 (hval 0 9 v0 rfl rfl) h0
  clear hA0 hval0
  simp only [List.append_nil] at hW'
  refine (walk a0 w0 W m hm).mono fun e W' ⟨he, bel⟩ => ?_
  subst he
  exact ⟨_, rfl, _, _, _, [], [], [], hW', (trodAll_cons_mk (shut_bool Try.underlying4 _) trodAll_mk0), (trodAll_cons_mk (shut_string Try.underlying9 w0) trodAll_mk0), rfl, bel.frame _, fun h => by cases h⟩

theorem over : Rows.fnExactDotUnstuffRow.holds Try.pinned (OpenSpec.ofChange Rows.fnExactDotUnstuffSpec) :=
  OpenClaim.holds_of_wide 3 Try.f3 rfl rfl rfl rfl rfl rfl rfl ⟨rfl, rfl, rfl, rfl, rfl⟩ rfl rfl rfl rfl rfl (by kernel_rfl) Try.func3 (by kernel_rfl)
    (of_decide_eq_true (by kernel_rfl)) (by unfold Func.isWrapper; first | (rw [if_pos (by decide +kernel)]; kernel_rfl) | (rw [if_neg (by decide +kernel)]; exact ⟨rfl, rfl⟩))
    (fun os started H enc _ => lifted os started H enc)

theorem proved : Rows.FnExactDotUnstuffSaid :=
  over
end Go.Proofs.Ytcflfejdpjphjaa.fnExactDotUnstuff
namespace Go.Proofs.Ytcflfejdpjphjaa
theorem fnExactDotUnstuff_holds : Rows.FnExactDotUnstuffSaid := fnExactDotUnstuff.proved
#print axioms fnExactDotUnstuff_holds
end Go.Proofs.Ytcflfejdpjphjaa
