/-
  Both SameStore functions answer alike at every two lists of boxes, and the boxes that were handed in are as they were; for every input.
-/
import Derived.Test.YtbhjinhedbgmnaaSme
import Derived.WalkKit
import Derived.ProofKit
import Derived.OpenShut
import Derived.ChangeOld
import Derived.Below
import Derived.Carry
import Derived.Lib.SmallJoins
import Derived.Deep.RegionHeld
namespace Go.Proofs.Ytbhjinhedbgmnaa.fnExactSameStore
open Go.ChangeShapes Go.WideShapes Go.ChangeAt Go.RowKit Go.Joins Go.Deep
set_option linter.unusedVariables false

theorem own : ownKnob Try.prog.godebug = none := by kernel_rfl
theorem laidOut : laidOutB Try.prog = true := by kernel_rfl

open bx st sm
set_option maxHeartbeats 4000000 in
set_option maxRecDepth 100000 in
theorem walk (v u : Value) (xs ys : List Bx) (vs us : Nat → Value × Value) (w : World) (h : BoxesAt w v xs vs) (h' : BoxesAt w u ys us) (hl : xs.length ≤ maxLen) (hh : ∀ j, j < xs.length → bx.Held (xs.getD j noB)) (hl' : ys.length ≤ maxLen) (hh' : ∀ j, j < ys.length → bx.Held (ys.getD j noB)) :
    Calls Try.prog 8 #[v, u] w fun e w' => e = .returned (.bool true) ∧ Below w.heap.size w w' := by
  have HA : Hid (BoxesAt w v xs vs ∧ BoxesAt w u ys us) := ⟨h, h'⟩
  have HS : Hid (∀ j, j < xs.length → bx.Held (xs.getD j noB)) := hh
  have HS' : Hid (∀ j, j < ys.length → bx.Held (ys.getD j noB)) := hh'
  obtain ⟨⟨a, cap, rfl, _⟩, _⟩ := h
  obtain ⟨⟨c, cap2, rfl, _⟩, _⟩ := h'
  clear hh hh'
  go_enter Try.func8, Try.ntmps8
  go_wp2_with fail
  refine (szBoxS_any _ xs vs 1048576 w HA.out.1 (by omega) (by omega) hl HS.out).mono ?_
  rintro e w1 ⟨⟨z, rfl, hz0, hz1, hz2⟩, b1⟩
  have HA1 : Hid (BoxesAt w1 (.slice a xs.length cap) xs vs ∧ BoxesAt w1 (.slice c ys.length cap2) ys us) := ⟨boxes_below HA.out.1 b1, boxes_below HA.out.2 b1⟩
  clear HA HS
  by_cases hz : z < 0
  · go_wp2
    go_ret
    exact ⟨rfl, b1⟩
  have HSM : Hid (bx.Smalls xs) := hz2 (by omega)
  clear hz2
  go_wp2_with fail
  refine (szBoxS_any _ ys us z w1 HA1.out.2 (by omega) (by omega) hl' HS'.out).mono ?_
  rintro e w2 ⟨⟨z2, rfl, hz3, hz4, hz5⟩, hb2⟩
  have HA2 : Hid (BoxesAt w2 (.slice a xs.length cap) xs vs ∧ BoxesAt w2 (.slice c ys.length cap2) ys us) := ⟨boxes_below HA1.out.1 hb2, boxes_below HA1.out.2 hb2⟩
  have b2 := b1.trans (hb2.mono b1.size)
  clear HA1 HS' b1 hb2
  by_cases hzz : z2 < 0
  · go_wp2
    go_ret
    exact ⟨rfl, b2⟩
  have HSN : Hid (bx.Smalls ys) := hz5 (by omega)
  clear hz5
  go_wp2_with fail
  refine (toBoxS_any _ xs vs w2 HA2.out.1 HSM.out).mono ?_
  rintro e w3 ⟨rfl, ⟨gp, hgp, hcp⟩, hb3⟩
  obtain ⟨Bp, hBp⟩ : ∃ B, B = w2.heap.size := ⟨_, rfl⟩
  rw [← hBp] at hgp ⊢
  clear hBp
  have HCp : Hid (∀ j, j < xs.length → ∀ a n c, (gp j).2 = .slice a n c → n ≤ c) := hcp
  clear hcp
  have HA3 : Hid (BoxesAt w3 (.slice a xs.length cap) xs vs ∧ BoxesAt w3 (.slice c ys.length cap2) ys us) := ⟨boxes_below HA2.out.1 hb3, boxes_below HA2.out.2 hb3⟩
  have b3 := b2.trans (hb3.mono b2.size)
  clear HA2 b2 hb3 
  have Hp3 : Hid (BoxesAt w3 (.slice (some ⟨Bp, 0, none⟩) xs.length xs.length) xs gp) := hgp
  clear hgp
  go_wp2_with fail
  refine (toBoxS_any _ ys us w3 HA3.out.2 HSN.out).mono ?_
  rintro e w4 ⟨rfl, ⟨gq, hgq, hcq⟩, hb4⟩
  obtain ⟨Bq, hBq⟩ : ∃ B, B = w3.heap.size := ⟨_, rfl⟩
  rw [← hBq] at hgq ⊢
  clear hBq
  have HCq : Hid (∀ j, j < ys.length → ∀ a n c, (gq j).2 = .slice a n c → n ≤ c) := hcq
  clear hcq
  have HA4 : Hid (BoxesAt w4 (.slice a xs.length cap) xs vs ∧ BoxesAt w4 (.slice c ys.length cap2) ys us) := ⟨boxes_below HA3.out.1 hb4, boxes_below HA3.out.2 hb4⟩
  have Hp4 : Hid (BoxesAt w4 (.slice (some ⟨Bp, 0, none⟩) xs.length xs.length) xs gp) := boxes_below Hp3.out hb4
  have b4 := b3.trans (hb4.mono b3.size)
  clear HA3 b3 hb4 Hp3
  have Hq4 : Hid (BoxesAt w4 (.slice (some ⟨Bq, 0, none⟩) ys.length ys.length) ys gq) := hgq
  clear hgq
  go_wp2_with fail
  refine (spec_ss _ _ xs ys gp gq w4 Hp4.out Hq4.out HSM.out HSN.out ⟨fun a n c e => by cases e; exact Nat.le_refl _, HCp.out⟩ ⟨fun a n c e => by cases e; exact Nat.le_refl _, HCq.out⟩).mono ?_
  rintro e w5 ⟨rfl, hb5⟩
  clear Hp4 Hq4 HCp HCq
  have HA5 : Hid (BoxesAt w5 (.slice a xs.length cap) xs vs ∧ BoxesAt w5 (.slice c ys.length cap2) ys us) := ⟨boxes_below HA4.out.1 hb5, boxes_below HA4.out.2 hb5⟩
  have b5 := b4.trans (hb5.mono b4.size)
  clear HA4 b4 hb5 
  generalize hRA : ssa xs ys = RA
  generalize hRB : ssb xs ys = RB
  have HR : Hid (ssa xs ys = RA ∧ ssb xs ys = RB) := ⟨hRA, hRB⟩
  clear hRA hRB
  go_wp2_with fail
  refine (toBoxS_any _ xs vs w5 HA5.out.1 HSM.out).mono ?_
  rintro e w6 ⟨rfl, ⟨gr, hgr, hcr⟩, hb6⟩
  obtain ⟨Br, hBr⟩ : ∃ B, B = w5.heap.size := ⟨_, rfl⟩
  rw [← hBr] at hgr ⊢
  clear hBr
  clear hcr
  have HA6 : Hid (BoxesAt w6 (.slice a xs.length cap) xs vs ∧ BoxesAt w6 (.slice c ys.length cap2) ys us) := ⟨boxes_below HA5.out.1 hb6, boxes_below HA5.out.2 hb6⟩
  have b6 := b5.trans (hb6.mono b5.size)
  clear HA5 b5 hb6 
  have Hr6 : Hid (BoxesAt w6 (.slice (some ⟨Br, 0, none⟩) xs.length xs.length) xs gr) := hgr
  clear hgr
  go_wp2_with fail
  refine (toBoxS_any _ ys us w6 HA6.out.2 HSN.out).mono ?_
  rintro e w7 ⟨rfl, ⟨gs, hgs, hcs⟩, hb7⟩
  obtain ⟨Bs, hBs⟩ : ∃ B, B = w6.heap.size := ⟨_, rfl⟩
  rw [← hBs] at hgs ⊢
  clear hBs
  clear hcs
  have HA7 : Hid (BoxesAt w7 (.slice a xs.length cap) xs vs ∧ BoxesAt w7 (.slice c ys.length cap2) ys us) := ⟨boxes_below HA6.out.1 hb7, boxes_below HA6.out.2 hb7⟩
  have Hr7 : Hid (BoxesAt w7 (.slice (some ⟨Br, 0, none⟩) xs.length xs.length) xs gr) := boxes_below Hr6.out hb7
  have b7 := b6.trans (hb7.mono b6.size)
  clear HA6 b6 hb7 Hr6
  have Hs7 : Hid (BoxesAt w7 (.slice (some ⟨Bs, 0, none⟩) ys.length ys.length) ys gs) := hgs
  clear hgs
  go_wp2_with fail
  refine (impl_ss _ _ xs ys gr gs w7 Hr7.out Hs7.out HSM.out HSN.out).mono ?_
  rintro e w8 ⟨rfl, hb8⟩
  rw [HR.out.1, HR.out.2]
  clear HR
  have HA8 : Hid (BoxesAt w8 (.slice a xs.length cap) xs vs ∧ BoxesAt w8 (.slice c ys.length cap2) ys us) := ⟨boxes_below HA7.out.1 hb8, boxes_below HA7.out.2 hb8⟩
  have Hr8 : Hid (BoxesAt w8 (.slice (some ⟨Br, 0, none⟩) xs.length xs.length) xs gr) := boxes_below Hr7.out hb8
  have Hs8 : Hid (BoxesAt w8 (.slice (some ⟨Bs, 0, none⟩) ys.length ys.length) ys gs) := boxes_below Hs7.out hb8
  have b8 := b7.trans (hb8.mono b7.size)
  clear HA7 b7 hb8 Hr7 Hs7
  have cc : (RA != RA) = false := by simp
  have cd : ((RB : Int) != RB) = false := by simp
  go_wp2_with fail
  refine (toBoxS_any _ xs vs w8 HA8.out.1 HSM.out).mono ?_
  rintro e w9 ⟨rfl, ⟨gt, hgt, hct⟩, hb9⟩
  obtain ⟨Bt, hBt⟩ : ∃ B, B = w8.heap.size := ⟨_, rfl⟩
  rw [← hBt] at hgt ⊢
  clear hBt
  clear hct
  have HA9 : Hid (BoxesAt w9 (.slice a xs.length cap) xs vs ∧ BoxesAt w9 (.slice c ys.length cap2) ys us) := ⟨boxes_below HA8.out.1 hb9, boxes_below HA8.out.2 hb9⟩
  have Hr9 : Hid (BoxesAt w9 (.slice (some ⟨Br, 0, none⟩) xs.length xs.length) xs gr) := boxes_below Hr8.out hb9
  have Hs9 : Hid (BoxesAt w9 (.slice (some ⟨Bs, 0, none⟩) ys.length ys.length) ys gs) := boxes_below Hs8.out hb9
  have b9 := b8.trans (hb9.mono b8.size)
  clear HA8 b8 hb9 Hr8 Hs8
  have Ht9 : Hid (BoxesAt w9 (.slice (some ⟨Bt, 0, none⟩) xs.length xs.length) xs gt) := hgt
  clear hgt
  go_wp2_with fail
  refine (eqBoxS_any _ _ xs gr gt w9 Hr9.out Ht9.out HSM.out).mono ?_
  rintro e w10 ⟨rfl, hb10⟩
  have HA10 : Hid (BoxesAt w10 (.slice a xs.length cap) xs vs ∧ BoxesAt w10 (.slice c ys.length cap2) ys us) := ⟨boxes_below HA9.out.1 hb10, boxes_below HA9.out.2 hb10⟩
  have Hr10 : Hid (BoxesAt w10 (.slice (some ⟨Br, 0, none⟩) xs.length xs.length) xs gr) := boxes_below Hr9.out hb10
  have Hs10 : Hid (BoxesAt w10 (.slice (some ⟨Bs, 0, none⟩) ys.length ys.length) ys gs) := boxes_below Hs9.out hb10
  have Ht10 : Hid (BoxesAt w10 (.slice (some ⟨Bt, 0, none⟩) xs.length xs.length) xs gt) := boxes_below Ht9.out hb10
  have b10 := b9.trans (hb10.mono b9.size)
  clear HA9 b9 hb10 Hr9 Hs9 Ht9
  go_wp2_with fail
  refine (toBoxS_any _ ys us w10 HA10.out.2 HSN.out).mono ?_
  rintro e w11 ⟨rfl, ⟨gx, hgx, hcx⟩, hb11⟩
  obtain ⟨Bx, hBx⟩ : ∃ B, B = w10.heap.size := ⟨_, rfl⟩
  rw [← hBx] at hgx ⊢
  clear hBx
  clear hcx
  have HA11 : Hid (BoxesAt w11 (.slice a xs.length cap) xs vs ∧ BoxesAt w11 (.slice c ys.length cap2) ys us) := ⟨boxes_below HA10.out.1 hb11, boxes_below HA10.out.2 hb11⟩
  have Hr11 : Hid (BoxesAt w11 (.slice (some ⟨Br, 0, none⟩) xs.length xs.length) xs gr) := boxes_below Hr10.out hb11
  have Hs11 : Hid (BoxesAt w11 (.slice (some ⟨Bs, 0, none⟩) ys.length ys.length) ys gs) := boxes_below Hs10.out hb11
  have Ht11 : Hid (BoxesAt w11 (.slice (some ⟨Bt, 0, none⟩) xs.length xs.length) xs gt) := boxes_below Ht10.out hb11
  have b11 := b10.trans (hb11.mono b10.size)
  clear HA10 b10 hb11 Hr10 Hs10 Ht10
  have Hx11 : Hid (BoxesAt w11 (.slice (some ⟨Bx, 0, none⟩) ys.length ys.length) ys gx) := hgx
  clear hgx
  go_wp2_with fail
  refine (eqBoxS_any _ _ ys gs gx w11 Hs11.out Hx11.out HSN.out).mono ?_
  rintro e w12 ⟨rfl, hb12⟩
  have HA12 : Hid (BoxesAt w12 (.slice a xs.length cap) xs vs ∧ BoxesAt w12 (.slice c ys.length cap2) ys us) := ⟨boxes_below HA11.out.1 hb12, boxes_below HA11.out.2 hb12⟩
  have Hr12 : Hid (BoxesAt w12 (.slice (some ⟨Br, 0, none⟩) xs.length xs.length) xs gr) := boxes_below Hr11.out hb12
  have Hs12 : Hid (BoxesAt w12 (.slice (some ⟨Bs, 0, none⟩) ys.length ys.length) ys gs) := boxes_below Hs11.out hb12
  have Ht12 : Hid (BoxesAt w12 (.slice (some ⟨Bt, 0, none⟩) xs.length xs.length) xs gt) := boxes_below Ht11.out hb12
  have Hx12 : Hid (BoxesAt w12 (.slice (some ⟨Bx, 0, none⟩) ys.length ys.length) ys gx) := boxes_below Hx11.out hb12
  have b12 := b11.trans (hb12.mono b11.size)
  clear HA11 b11 hb12 Hr11 Hs11 Ht11 Hx11
  go_wp2
  go_ret
  exact ⟨rfl, b12⟩

set_option maxRecDepth 100000 in
theorem lifted (os : Os) (started : os.Started) (H : Type) (enc : TypeId × Value → H) :
    ReturnsInHanded {} Try.checked os 8 .any (Rows.fnExactSameStoreSpec.pre6 enc Try.prog Try.f8 Rows.fnExactSameStoreRow.domain false) (Rows.fnExactSameStoreSpec.post enc Try.prog Try.f8 false true false false) := by
  refine returnsInHanded_of_change (C := Try.checked) own started (by kernel_rfl) Try.func8
    (ChangeSpec.witness6 (enc := enc) (C := Try.checked) false ⟨#[], #[.slice none 0 0, .slice none 0 0], []⟩ 8 (by kernel_rfl) (by kernel_rfl) (by kernel_rfl) (by kernel_rfl)) ?_
  intro W base args ds gs before hval0 hW hcnd _
  have hval : ∀ (j : Nat) t v, Try.f8.params[j]? = some t → args[j]? = some v → Value.okWide Try.prog W .any base t v := hval0
  have hW' := hW
  obtain ⟨p, q, hA0, hV, rfl, hfz, hnd⟩ := hW
  have hA : DataW.TrodAll enc Try.prog W 0 (fun _ => true) true Try.f8.params.toList args.toList ds p := hA0
  rw [Try.params8] at hA hval
  obtain ⟨v0, vs0, d0, ds0, p0, q0, hargs, rfl, rfl, h0, r0⟩ := trodAll_cons hA
  obtain ⟨v1, vs1, d1, ds1, p1, q1, rfl, rfl, rfl, h1, r1⟩ := trodAll_cons r0
  obtain ⟨rfl, rfl, rfl⟩ := trodAll_nil r1
  obtain rfl : args = #[v0, v1] := by cases args; simp_all
  obtain ⟨rfl, rfl⟩ := trodVars_none hV
  have k0 := h0
  have lt0 : ∀ x ∈ p0, x.block < W.heap.size := by obtain ⟨m, hm⟩ := k0; exact DataW.trod_lt m _ _ _ hm
  have k1 := h1
  have lt1 : ∀ x ∈ p1, x.block < W.heap.size := by obtain ⟨m, hm⟩ := k1; exact DataW.trod_lt m _ _ _ hm
  obtain ⟨a0, len0, cap0, rfl⟩ := okWide_slice Try.underlying53 (hval 0 53 v0 rfl rfl)
  obtain ⟨fu, hf⟩ := h0
  have hcs : (Value.slice a0 len0 cap0).cells.toList = [Value.slice a0 len0 cap0] := by simp [Value.cells]
  rw [hcs] at hf
  obtain ⟨xs, vs, hat, hl, hh⟩ := bx.open_boxes hf
  obtain ⟨a1, len1, cap1, rfl⟩ := okWide_slice Try.underlying53 (hval 1 53 v1 rfl rfl)
  obtain ⟨fu1, hf1⟩ := h1
  have hcs1 : (Value.slice a1 len1 cap1).cells.toList = [Value.slice a1 len1 cap1] := by simp [Value.cells]
  rw [hcs1] at hf1
  obtain ⟨ys, us, hat1, hl1, hh1⟩ := bx.open_boxes hf1
  clear hA0 hval0
  refine (walk _ _ xs ys vs us W hat hat1 hl hh hl1 hh1).mono fun e W' ⟨he, bel⟩ => ?_
  subst he
  exact ⟨_, rfl, _, _, _, [], _, [], hW', trodAll_mk1 (shut_bool Try.underlying4 _), (trodAll_cons_mk (Below.trod laidOut (by kernel_rfl) (of_decide_eq_true (by kernel_rfl)) k0 bel lt0) (trodAll_cons_mk (Below.trod laidOut (by kernel_rfl) (of_decide_eq_true (by kernel_rfl)) k1 bel lt1) trodAll_mk0)), rfl, bel.frame _, fun h => by cases h⟩

theorem over : Rows.fnExactSameStoreRow.holds Try.pinned (OpenSpec.ofChange Rows.fnExactSameStoreSpec) :=
  OpenClaim.holds_of_wide 8 Try.f8 rfl rfl rfl rfl rfl rfl rfl ⟨rfl, rfl, rfl, rfl, rfl⟩ rfl rfl rfl rfl rfl (by kernel_rfl) Try.func8 (by kernel_rfl)
    (of_decide_eq_true (by kernel_rfl)) (by unfold Func.isWrapper; first | (rw [if_pos (by decide +kernel)]; kernel_rfl) | (rw [if_neg (by decide +kernel)]; exact ⟨rfl, rfl⟩))
    (fun os started H enc _ => lifted os started H enc)

theorem proved : Rows.FnExactSameStoreSaid := over
end Go.Proofs.Ytbhjinhedbgmnaa.fnExactSameStore
namespace Go.Proofs.Ytbhjinhedbgmnaa
theorem fnExactSameStore_holds : Rows.FnExactSameStoreSaid := fnExactSameStore.proved
#print axioms fnExactSameStore_holds
end Go.Proofs.Ytbhjinhedbgmnaa
