/-
  For every text, impl.RunesOf answers as the specification's RunesOf, and its list is its own memory (the law FnExactRunesOf returns true), with no condition.
-/
import Derived.Test.YthndloempbcflahInt
import Derived.Test.YthndloempbcflahRuw
import Derived.Test.YthndloempbcflahRows
import Derived.WalkKit
import Derived.ProofKit
import Derived.OpenShut
import Derived.ShutString
import Derived.ChangeOld
import Derived.Below
namespace Go.Proofs.Ythndloempbcflah.fnExactRunesOf
open Go.ChangeShapes Go.WideShapes Go.ChangeAt Go.RowKit
open Go.ChangeMaps (open_string shut_string)
set_option linter.unusedVariables false

theorem own : ownKnob Try.prog.godebug = none := by kernel_rfl

theorem walk (a0 : ByteArray) (w0 : a0.size ≤ maxLen) (w : World) :
    Calls Try.prog 3 #[.string a0] w fun e w' => e = .returned (.bool true) ∧ Below w.heap.size w w' := by
  unfold maxLen at w0
  by_cases hbig : 1048576 < a0.size
  · have hb : (1048576 : Int) < (a0.size : Int) := by omega
    go_enter Try.func3, Try.ntmps3
    go_wp2
    go_ret
    exact ⟨rfl, Below.refl _ _⟩
  have hb : (a0.size : Int) ≤ 1048576 := by omega
  go_enter Try.func3, Try.ntmps3
  go_wp2_with fail
  refine (ut.specRunes_any a0 _ (by omega)).mono ?_
  rintro e w1 ⟨⟨v0, zs, c, rfl, hr0, own0⟩, b1⟩
  go_wp2_with fail
  refine (ut.implRunes_any a0 _ (by omega)).mono ?_
  rintro e w2 ⟨⟨v1, zs1, c1, rfl, hr1, own1⟩, b2⟩
  obtain ⟨rfl, rfl⟩ := ut.runes_one hr0 hr1
  have hlen := ut.runes_len hr0
  have own0' := ow.own_below own0 b2
  go_wp2_with fail
  refine (ow.eqInts_any v1 v0 zs zs _ (ow.reads_own own1) (ow.reads_own own0') (by omega) (by omega)).mono ?_
  rintro e w3 ⟨hs, m, rfl⟩
  obtain rfl := ow.says_true hs rfl
  go_wp2_with fail
  refine (ow.mark_any v1 zs.length w1.heap.size zs 1 (w2.drewN m) (by exact own1) (by omega) (by omega) (by omega)).mono ?_
  rintro e w4 ⟨rfl, ⟨ys, hyl, hym, own1'⟩, hg⟩
  have own0d : (w2.drewN m).ownsRow w.heap.size 3 1 v0 zs.length (zs.map (Value.int .i64)) := own0'
  have own0'' := own0d.kept hg (ow.apart own0 own1)
  have b4 : Below w.heap.size w w4 := Below.grown (below_drewN (b1.trans (b2.mono b1.size)) m) hg (Nat.le_trans b1.size b2.size) (fun j hj => Nat.le_trans b1.size (ow.own_lt own1 j hj))
  go_wp2_with fail
  rw [← hyl] at own1' hym hlen ⊢
  refine (ow.held_any v1 ys 1 _ (ow.reads_own own1') hym (by omega) (by omega) (by omega)).mono ?_
  rintro e w5 ⟨rfl, rfl⟩
  go_wp2_with fail
  refine (ut.implRunes_any a0 _ (by omega)).mono ?_
  rintro e w6 ⟨⟨v2, zs2, c2, rfl, hr2, own2⟩, b6⟩
  obtain ⟨rfl, rfl⟩ := ut.runes_one hr0 hr2
  have own0e := ow.own_below own0'' b6
  have own1e := ow.own_below own1' b6
  go_wp2_with fail
  refine (ow.eqInts_any v2 v0 zs zs _ (ow.reads_own own2) (ow.reads_own own0e) (by omega) (by omega)).mono ?_
  rintro e w7 ⟨hs, m2, rfl⟩
  obtain rfl := ow.says_true hs rfl
  go_wp2_with fail
  refine (ow.held_any v1 ys 1 (w6.drewN m2) (ow.reads_own (by exact own1e)) hym (by omega) (by omega) (by omega)).mono ?_
  rintro e w8 ⟨rfl, rfl⟩
  have bz : Below w.heap.size w (w6.drewN m2) := below_drewN (b4.trans (b6.mono b4.size)) m2
  clear own0 own0d own0' own0'' own0e own1 own1' own1e own2 hr0 hr1 hr2 hym hs hg
  go_wp2
  go_ret
  exact ⟨rfl, bz⟩

set_option maxRecDepth 100000 in
theorem lifted (os : Os) (started : os.Started) (H : Type) (enc : TypeId × Value → H) :
    ReturnsInHanded {} Try.checked os 3 .any (Rows.fnExactRunesOfSpec.pre6 enc Try.prog Try.f3 Rows.fnExactRunesOfRow.domain false) (Rows.fnExactRunesOfSpec.post enc Try.prog Try.f3 false true false false) := by
  refine returnsInHanded_of_change (C := Try.checked) own started (by kernel_rfl) Try.func3
    (ChangeSpec.witness6 (enc := enc) (C := Try.checked) false ⟨#[], #[.string ByteArray.empty], []⟩ 8 (by kernel_rfl) (by kernel_rfl) (by kernel_rfl) (by kernel_rfl)) ?_
  intro W base args ds gs before hval0 hW hcnd _
  have hval : ∀ (j : Nat) t v, Try.f3.params[j]? = some t → args[j]? = some v → Value.okWide Try.prog W .any base t v := hval0
  have hW' := hW
  obtain ⟨p, q, hA0, hV, rfl, hfz, hnd⟩ := hW
  have hA : DataW.TrodAll enc Try.prog W 0 (fun _ => true) true Try.f3.params.toList args.toList ds p := hA0
  rw [Try.params3] at hA hval
  obtain ⟨v0, vs0, d0, ds0, p0, q0, hargs, rfl, rfl, h0, r0⟩ := trodAll_cons hA
  obtain ⟨rfl, rfl, rfl⟩ := trodAll_nil r0
  obtain rfl : args = #[v0] := by cases args; simp_all
  obtain ⟨rfl, rfl⟩ := trodVars_none hV
  obtain ⟨a0, rfl, rfl, rfl, w0⟩ := open_string Try.underlying9 (hval 0 9 v0 rfl rfl) h0
  clear hA0 hval0
  simp only [List.append_nil] at hW'
  refine (walk a0 w0 W).mono fun e W' ⟨he, bel⟩ => ?_
  subst he
  exact ⟨_, rfl, _, _, _, [], [], [], hW', (trodAll_cons_mk (shut_bool Try.underlying4 _) trodAll_mk0), (trodAll_cons_mk (shut_string Try.underlying9 w0) trodAll_mk0), rfl, bel.frame _, fun h => by cases h⟩

theorem over : Rows.fnExactRunesOfRow.holds Try.pinned (OpenSpec.ofChange Rows.fnExactRunesOfSpec) :=
  OpenClaim.holds_of_wide 3 Try.f3 rfl rfl rfl rfl rfl rfl rfl ⟨rfl, rfl, rfl, rfl, rfl⟩ rfl rfl rfl rfl rfl (by kernel_rfl) Try.func3 (by kernel_rfl)
    (of_decide_eq_true (by kernel_rfl)) (by unfold Func.isWrapper; first | (rw [if_pos (by decide +kernel)]; kernel_rfl) | (rw [if_neg (by decide +kernel)]; exact ⟨rfl, rfl⟩))
    (fun os started H enc _ => lifted os started H enc)

theorem proved : Rows.FnExactRunesOfSaid :=
  over
end Go.Proofs.Ythndloempbcflah.fnExactRunesOf
namespace Go.Proofs.Ythndloempbcflah
theorem fnExactRunesOf_holds : Rows.FnExactRunesOfSaid := fnExactRunesOf.proved
#print axioms fnExactRunesOf_holds
end Go.Proofs.Ythndloempbcflah
