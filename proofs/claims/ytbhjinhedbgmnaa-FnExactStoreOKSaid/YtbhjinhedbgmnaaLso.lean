/-
  Both StoreOK functions answer alike at every list of boxes, and the boxes that were handed in are as they were; for every input.
-/
import Derived.Test.YtbhjinhedbgmnaaBwd
import Derived.WalkKit
import Derived.ProofKit
import Derived.OpenShut
import Derived.ChangeOld
import Derived.Below
import Derived.Carry
import Derived.Lib.SmallJoins
import Derived.Deep.RegionHeld
namespace Go.Proofs.Ytbhjinhedbgmnaa.fnExactStoreOK
open Go.ChangeShapes Go.WideShapes Go.ChangeAt Go.RowKit Go.Joins Go.Deep
set_option linter.unusedVariables false

theorem own : ownKnob Try.prog.godebug = none := by kernel_rfl
theorem laidOut : laidOutB Try.prog = true := by kernel_rfl

open bx st
set_option maxHeartbeats 4000000 in
set_option maxRecDepth 100000 in
theorem walk (v : Value) (xs : List Bx) (vs : Nat → Value × Value) (w : World) (h : BoxesAt w v xs vs) (hl : xs.length ≤ maxLen) (hh : ∀ j, j < xs.length → bx.Held (xs.getD j noB)) :
    Calls Try.prog 7 #[v] w fun e w' => e = .returned (.bool true) ∧ Below w.heap.size w w' := by
  have HA : Hid (BoxesAt w v xs vs) := h
  have HS : Hid (∀ j, j < xs.length → bx.Held (xs.getD j noB)) := hh
  obtain ⟨⟨a, cap, rfl, _⟩, _⟩ := h
  clear hh
  go_enter Try.func7, Try.ntmps7
  go_wp2_with fail
  refine (szBoxS_any _ xs vs 1048576 w HA.out (by omega) (by omega) hl HS.out).mono ?_
  rintro e w1 ⟨⟨z, rfl, hz0, hz1, hz2⟩, b1⟩
  have HA1 : Hid (BoxesAt w1 (.slice a xs.length cap) xs vs) := boxes_below HA.out b1
  clear HA HS
  by_cases hz : z < 0
  · go_wp2
    go_ret
    exact ⟨rfl, b1⟩
  have HSM : Hid (bx.Smalls xs) := hz2 (by omega)
  clear hz2
  go_wp2_with fail
  refine (toBoxS_any _ xs vs w1 HA1.out HSM.out).mono ?_
  rintro e w2 ⟨rfl, ⟨us, hu, hcu⟩, hb2⟩
  have HU : Hid (BoxesAt w2 (.slice (some ⟨w1.heap.size, 0, none⟩) xs.length xs.length) xs us) := hu
  have HCU : Hid (∀ j, j < xs.length → ∀ a n c, (us j).2 = .slice a n c → n ≤ c) := hcu
  have HA2 : Hid (BoxesAt w2 (.slice a xs.length cap) xs vs) := boxes_below HA1.out hb2
  have b2 := b1.trans (hb2.mono b1.size)
  clear HA1 b1 hb2 hu hcu
  go_wp2_with fail
  refine (spec_sok _ xs us w2 HU.out HSM.out (fun a n c e => by cases e; exact Nat.le_refl _) HCU.out).mono ?_
  rintro e w3 ⟨rfl, hb3⟩
  have HA3 : Hid (BoxesAt w3 (.slice a xs.length cap) xs vs) := boxes_below HA2.out hb3
  have b3 := b2.trans (hb3.mono b2.size)
  clear HA2 b2 hb3 HU HCU
  generalize hR : sok xs = o
  have HR : Hid (sok xs = o) := hR
  clear hR
  go_wp2_with fail
  refine (toBoxS_any _ xs vs w3 HA3.out HSM.out).mono ?_
  rintro e w4 ⟨rfl, ⟨us, hu, hcu⟩, hb4⟩
  have HU : Hid (BoxesAt w4 (.slice (some ⟨w3.heap.size, 0, none⟩) xs.length xs.length) xs us) := hu
  have HA4 : Hid (BoxesAt w4 (.slice a xs.length cap) xs vs) := boxes_below HA3.out hb4
  have b4 := b3.trans (hb4.mono b3.size)
  clear HA3 b3 hb4 hu hcu
  generalize w3.heap.size = B at HU ⊢
  go_wp2_with fail
  refine (impl_sok _ xs us w4 HU.out HSM.out).mono ?_
  rintro e w5 ⟨rfl, hb5⟩
  rw [HR.out]
  have HU5 : Hid (BoxesAt w5 (.slice (some ⟨B, 0, none⟩) xs.length xs.length) xs us) := boxes_below HU.out hb5
  have HA5 : Hid (BoxesAt w5 (.slice a xs.length cap) xs vs) := boxes_below HA4.out hb5
  have b5 := b4.trans (hb5.mono b4.size)
  clear HA4 HU b4 hb5 HR
  have cc : (o != o) = false := by simp
  go_wp2_with fail
  refine (toBoxS_any _ xs vs w5 HA5.out HSM.out).mono ?_
  rintro e w6 ⟨rfl, ⟨us2, hu2, _⟩, hb6⟩
  have HU6 : Hid (BoxesAt w6 (.slice (some ⟨B, 0, none⟩) xs.length xs.length) xs us) := boxes_below HU5.out hb6
  have HV6 : Hid (BoxesAt w6 (.slice (some ⟨w5.heap.size, 0, none⟩) xs.length xs.length) xs us2) := hu2
  have b6 := b5.trans (hb6.mono b5.size)
  clear HA5 HU5 b5 hb6 hu2
  go_wp2_with fail
  refine (eqBoxS_any _ _ xs us us2 w6 HU6.out HV6.out HSM.out).mono ?_
  rintro e w7 ⟨rfl, hb7⟩
  have b7 := b6.trans (hb7.mono b6.size)
  clear HU6 HV6 b6 hb7
  go_wp2
  go_ret
  exact ⟨rfl, b7⟩

set_option maxRecDepth 100000 in
theorem lifted (os : Os) (started : os.Started) (H : Type) (enc : TypeId × Value → H) :
    ReturnsInHanded {} Try.checked os 7 .any (Rows.fnExactStoreOKSpec.pre6 enc Try.prog Try.f7 Rows.fnExactStoreOKRow.domain false) (Rows.fnExactStoreOKSpec.post enc Try.prog Try.f7 false true false false) := by
  refine returnsInHanded_of_change (C := Try.checked) own started (by kernel_rfl) Try.func7
    (ChangeSpec.witness6 (enc := enc) (C := Try.checked) false ⟨#[], #[.slice none 0 0], []⟩ 8 (by kernel_rfl) (by kernel_rfl) (by kernel_rfl) (by kernel_rfl)) ?_
  intro W base args ds gs before hval0 hW hcnd _
  have hval : ∀ (j : Nat) t v, Try.f7.params[j]? = some t → args[j]? = some v → Value.okWide Try.prog W .any base t v := hval0
  have hW' := hW
  obtain ⟨p, q, hA0, hV, rfl, hfz, hnd⟩ := hW
  have hA : DataW.TrodAll enc Try.prog W 0 (fun _ => true) true Try.f7.params.toList args.toList ds p := hA0
  rw [Try.params7] at hA hval
  obtain ⟨v0, vs0, d0, ds0, p0, q0, hargs, rfl, rfl, h0, r0⟩ := trodAll_cons hA
  obtain ⟨rfl, rfl, rfl⟩ := trodAll_nil r0
  obtain rfl : args = #[v0] := by cases args; simp_all
  obtain ⟨rfl, rfl⟩ := trodVars_none hV
  have k0 := h0
  have lt0 : ∀ x ∈ p0, x.block < W.heap.size := by obtain ⟨m, hm⟩ := k0; exact DataW.trod_lt m _ _ _ hm
  obtain ⟨a0, len0, cap0, rfl⟩ := okWide_slice Try.underlying53 (hval 0 53 v0 rfl rfl)
  obtain ⟨fu, hf⟩ := h0
  have hcs : (Value.slice a0 len0 cap0).cells.toList = [Value.slice a0 len0 cap0] := by simp [Value.cells]
  rw [hcs] at hf
  obtain ⟨xs, vs, hat, hl, hh⟩ := bx.open_boxes hf
  clear hA0 hval0
  refine (walk _ xs vs W hat hl hh).mono fun e W' ⟨he, bel⟩ => ?_
  subst he
  exact ⟨_, rfl, _, _, _, [], _, [], hW', trodAll_mk1 (shut_bool Try.underlying4 _), (trodAll_cons_mk (Below.trod laidOut (by kernel_rfl) (of_decide_eq_true (by kernel_rfl)) k0 bel lt0) trodAll_mk0), rfl, bel.frame _, fun h => by cases h⟩

theorem over : Rows.fnExactStoreOKRow.holds Try.pinned (OpenSpec.ofChange Rows.fnExactStoreOKSpec) :=
  OpenClaim.holds_of_wide 7 Try.f7 rfl rfl rfl rfl rfl rfl rfl ⟨rfl, rfl, rfl, rfl, rfl⟩ rfl rfl rfl rfl rfl (by kernel_rfl) Try.func7 (by kernel_rfl)
    (of_decide_eq_true (by kernel_rfl)) (by unfold Func.isWrapper; first | (rw [if_pos (by decide +kernel)]; kernel_rfl) | (rw [if_neg (by decide +kernel)]; exact ⟨rfl, rfl⟩))
    (fun os started H enc _ => lifted os started H enc)

theorem proved : Rows.FnExactStoreOKSaid := over
end Go.Proofs.Ytbhjinhedbgmnaa.fnExactStoreOK
namespace Go.Proofs.Ytbhjinhedbgmnaa
theorem fnExactStoreOK_holds : Rows.FnExactStoreOKSaid := fnExactStoreOK.proved
#print axioms fnExactStoreOK_holds
end Go.Proofs.Ytbhjinhedbgmnaa
