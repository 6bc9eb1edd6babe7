/-
  Both SetHas functions answer alike at every list of ranges and any two numbers, and the list that was handed in is as it was; for every input.
-/
import Derived.Test.YtabhnbcledicgaaRgf
import Derived.Test.YtabhnbcledicgaaRgb
import Derived.WalkKit
import Derived.ProofKit
import Derived.OpenShut
import Derived.ChangeOld
import Derived.Below
import Derived.Carry
import Derived.Lib.SmallJoins
import Derived.Deep.RegionHeld
namespace Go.Proofs.Ytabhnbcledicgaa.fnExactSetHas
open Go.ChangeShapes Go.WideShapes Go.ChangeAt Go.RowKit Go.Joins Go.Deep
set_option linter.unusedVariables false

theorem own : ownKnob Try.prog.godebug = none := by kernel_rfl
theorem laidOut : laidOutB Try.prog = true := by kernel_rfl

open rg
set_option maxHeartbeats 4000000 in
set_option maxRecDepth 100000 in
theorem walk (v : Value) (ps : List Pr) (n top : Int) (w : World) (h : RgAt w v ps) (hl : ps.length ≤ maxLen) :
    Calls Try.prog 6 #[v, .int .i64 n, .int .i64 top] w fun e w' => e = .returned (.bool true) ∧ Below w.heap.size w w' := by
  have HA : Hid (RgAt w v ps) := h
  obtain ⟨a, cap, rfl, h⟩ := h
  clear h
  go_enter Try.func6, Try.ntmps6
  go_wp2_with fail
  refine (szRangeS_any _ ps 1048576 w HA.out (by omega) (by omega) hl).mono ?_
  rintro e w ⟨⟨zz, rfl, hz0, hz1, hz2⟩, rfl⟩
  by_cases hz : zz < 0
  · go_wp2
    go_ret
    exact ⟨rfl, Below.refl _ _⟩
  have hpl := hz2 (by omega)
  clear hz2 hl
  go_wp2_with fail
  refine (toRangeS_any _ ps w HA.out hpl).mono ?_
  rintro e w2 ⟨rfl, hv2, hb2⟩
  have HA2 : Hid (RgAt w2 (.slice a ps.length cap) ps) := at_below HA.out hb2
  have HV2 : Hid (RgAt w2 (.slice (some ⟨w.heap.size, 0, none⟩) ps.length ps.length) ps) := hv2
  clear hv2 HA
  go_wp2_with fail
  refine (specSH _ ps n top w2 HV2.out hpl).mono ?_
  rintro e w3 ⟨rfl, hb3⟩
  have HA3 : Hid (RgAt w3 (.slice a ps.length cap) ps) := at_below HA2.out hb3
  have b3 := hb2.trans (hb3.mono hb2.size)
  clear hb3 hb2 HA2 HV2
  generalize hR : SH ps n top = R
  have HR : Hid (SH ps n top = R) := hR
  clear hR
  obtain ⟨B, c⟩ := R
  simp only
  go_wp2_with fail
  refine (toRangeS_any _ ps w3 HA3.out hpl).mono ?_
  rintro e w4 ⟨rfl, hv4, hb4⟩
  have HA4 : Hid (RgAt w4 (.slice a ps.length cap) ps) := at_below HA3.out hb4
  have HV4 : Hid (RgAt w4 (.slice (some ⟨w3.heap.size, 0, none⟩) ps.length ps.length) ps) := hv4
  have b4 := b3.trans (hb4.mono b3.size)
  clear hv4 HA3 hb4
  go_wp2_with fail
  refine (implSH _ ps n top w4 HV4.out hpl).mono ?_
  rintro e w5 ⟨rfl, hb5⟩
  rw [HR.out]
  have HA5 : Hid (RgAt w5 (.slice a ps.length cap) ps) := at_below HA4.out hb5
  have HV5 : Hid (RgAt w5 (.slice (some ⟨w3.heap.size, 0, none⟩) ps.length ps.length) ps) := at_below HV4.out hb5
  have b5 := b4.trans (hb5.mono b4.size)
  clear hb5 HA4 HV4 b4 b3 HR
  have cc : (B != B) = false := by simp
  have cd : ((c : Int) != c) = false := by simp
  go_wp2_with fail
  refine (toRangeS_any _ ps w5 HA5.out hpl).mono ?_
  rintro e w6 ⟨rfl, hv6, hb6⟩
  have HV5' : Hid (RgAt w6 (.slice (some ⟨w3.heap.size, 0, none⟩) ps.length ps.length) ps) := at_below HV5.out hb6
  have HV6 : Hid (RgAt w6 (.slice (some ⟨w5.heap.size, 0, none⟩) ps.length ps.length) ps) := hv6
  have b6 := b5.trans (hb6.mono b5.size)
  clear hb6 hv6 HA5 HV5
  go_wp2_with fail
  refine (eqRangeS_any _ _ ps w6 HV5'.out HV6.out hpl).mono ?_
  rintro e w7 ⟨rfl, hb7⟩
  have b7 := b6.trans (hb7.mono b6.size)
  go_wp2
  go_ret
  exact ⟨rfl, b7⟩

set_option maxRecDepth 100000 in
theorem lifted (os : Os) (started : os.Started) (H : Type) (enc : TypeId × Value → H) :
    ReturnsInHanded {} Try.checked os 6 .any (Rows.fnExactSetHasSpec.pre6 enc Try.prog Try.f6 Rows.fnExactSetHasRow.domain false) (Rows.fnExactSetHasSpec.post enc Try.prog Try.f6 false true false false) := by
  refine returnsInHanded_of_change (C := Try.checked) own started (by kernel_rfl) Try.func6
    (ChangeSpec.witness6 (enc := enc) (C := Try.checked) false ⟨#[], #[.slice none 0 0, .int .i64 0, .int .i64 0], []⟩ 8 (by kernel_rfl) (by kernel_rfl) (by kernel_rfl) (by kernel_rfl)) ?_
  intro W base args ds gs before hval0 hW hcnd _
  have hval : ∀ (j : Nat) t v, Try.f6.params[j]? = some t → args[j]? = some v → Value.okWide Try.prog W .any base t v := hval0
  have hW' := hW
  obtain ⟨p, q, hA0, hV, rfl, hfz, hnd⟩ := hW
  have hA : DataW.TrodAll enc Try.prog W 0 (fun _ => true) true Try.f6.params.toList args.toList ds p := hA0
  rw [Try.params6] at hA hval
  obtain ⟨v0, vs0, d0, ds0, p0, q0, hargs, rfl, rfl, h0, r0⟩ := trodAll_cons hA
  obtain ⟨v1, vs1, d1, ds1, p1, q1, rfl, rfl, rfl, h1, r1⟩ := trodAll_cons r0
  obtain ⟨v2, vs2, d2, ds2, p2, q2, rfl, rfl, rfl, h2, r2⟩ := trodAll_cons r1
  obtain ⟨rfl, rfl, rfl⟩ := trodAll_nil r2
  obtain rfl : args = #[v0, v1, v2] := by cases args; simp_all
  obtain ⟨rfl, rfl⟩ := trodVars_none hV
  have k0 := h0
  have lt0 : ∀ x ∈ p0, x.block < W.heap.size := by obtain ⟨m, hm⟩ := k0; exact DataW.trod_lt m _ _ _ hm
  have k1 := h1
  have lt1 : ∀ x ∈ p1, x.block < W.heap.size := by obtain ⟨m, hm⟩ := k1; exact DataW.trod_lt m _ _ _ hm
  have k2 := h2
  have lt2 : ∀ x ∈ p2, x.block < W.heap.size := by obtain ⟨m, hm⟩ := k2; exact DataW.trod_lt m _ _ _ hm
  obtain ⟨a0, len0, cap0, rfl⟩ := okWide_slice Try.underlying46 (hval 0 46 v0 rfl rfl)
  obtain ⟨fu, hf⟩ := h0
  have hcs : (Value.slice a0 len0 cap0).cells.toList = [Value.slice a0 len0 cap0] := by simp [Value.cells]
  rw [hcs] at hf
  obtain ⟨ps, hat, hl, hin⟩ := rg.open_rgs hf
  obtain ⟨z1, rfl⟩ := okWide_int Try.underlying3 (hval 1 3 v1 rfl rfl)
  obtain ⟨z2, rfl⟩ := okWide_int Try.underlying3 (hval 2 3 v2 rfl rfl)
  clear hA0 hval0
  refine (walk _ ps z1 z2 W hat hl).mono fun e W' ⟨he, bel⟩ => ?_
  subst he
  exact ⟨_, rfl, _, _, _, [], _, [], hW', trodAll_mk1 (shut_bool Try.underlying4 _), (trodAll_cons_mk (Below.trod laidOut (by kernel_rfl) (of_decide_eq_true (by kernel_rfl)) k0 bel lt0) (trodAll_cons_mk (Below.trod laidOut (by kernel_rfl) (of_decide_eq_true (by kernel_rfl)) k1 bel lt1) (trodAll_cons_mk (Below.trod laidOut (by kernel_rfl) (of_decide_eq_true (by kernel_rfl)) k2 bel lt2) trodAll_mk0))), rfl, bel.frame _, fun h => by cases h⟩

theorem over : Rows.fnExactSetHasRow.holds Try.pinned (OpenSpec.ofChange Rows.fnExactSetHasSpec) :=
  OpenClaim.holds_of_wide 6 Try.f6 rfl rfl rfl rfl rfl rfl rfl ⟨rfl, rfl, rfl, rfl, rfl⟩ rfl rfl rfl rfl rfl (by kernel_rfl) Try.func6 (by kernel_rfl)
    (of_decide_eq_true (by kernel_rfl)) (by unfold Func.isWrapper; first | (rw [if_pos (by decide +kernel)]; kernel_rfl) | (rw [if_neg (by decide +kernel)]; exact ⟨rfl, rfl⟩))
    (fun os started H enc _ => lifted os started H enc)

theorem proved : Rows.FnExactSetHasSaid := over
end Go.Proofs.Ytabhnbcledicgaa.fnExactSetHas
namespace Go.Proofs.Ytabhnbcledicgaa
theorem fnExactSetHas_holds : Rows.FnExactSetHasSaid := fnExactSetHas.proved
#print axioms fnExactSetHas_holds
end Go.Proofs.Ytabhnbcledicgaa
