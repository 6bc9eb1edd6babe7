/-
  Both FieldOf functions answer alike at every mail and name, and the mail that was handed in is as it was; for every input.
-/
import Derived.Test.YtkclakfgpanplaaFoa
import Derived.Test.YtkclakfgpanplaaFob
import Derived.Test.YtkclakfgpanplaaFle
import Derived.WalkKit
import Derived.ProofKit
import Derived.OpenShut
import Derived.ChangeOld
import Derived.Below
import Derived.Carry
import Derived.Lib.SmallJoins
import Derived.Deep.SlicePairs
import Derived.Deep.RegionHeld
namespace Go.Proofs.Ytkclakfgpanplaa.fnExactFieldOf
open Go.ChangeShapes Go.WideShapes Go.ChangeAt Go.RowKit Go.Joins Go.Deep
open fa fo
set_option linter.unusedVariables false

theorem own : ownKnob Try.prog.godebug = none := by kernel_rfl
theorem laidOut : laidOutB Try.prog = true := by kernel_rfl

set_option maxHeartbeats 4000000 in
set_option maxRecDepth 100000 in
theorem walk (t nm : ByteArray) (v : Value) (ps : List Pr) (w : World) (h : AttrsAt w v ps) (hnm : nm.size ≤ maxLen) (ht : t.size ≤ maxLen)
    (hl : ps.length ≤ maxLen) (hs : ∀ j, j < ps.length → (ps.getD j no).1.size ≤ maxLen ∧ (ps.getD j no).2.size ≤ maxLen) :
    Calls Try.prog 5 #[.agg #[v, .string t], .string nm] w fun e w' => e = .returned (.bool true) ∧ Below w.heap.size w w' := by
  have L0 := b2.new w 30 v (.string t)
  have b0 : Below w.heap.size w (w.alloc (.cells #[v, .string t] 30)) := (Below.refl _ _).alloc (Nat.le_refl _) _
  have HA : Hid (AttrsAt (w.alloc (.cells #[v, .string t] 30)) v ps) := at_below h b0
  have HS : Hid (∀ j, j < ps.length → (ps.getD j no).1.size ≤ maxLen ∧ (ps.getD j no).2.size ≤ maxLen) := hs
  obtain ⟨a, cap, rfl, _⟩ := h
  clear hs
  by_cases hbig : 1048576 < nm.size
  · have hbig' : (1048576 : Int) < (nm.size : Int) := by omega
    go_enter Try.func5, Try.ntmps5
    go_wp2
    go_ret
    exact ⟨rfl, b0⟩
  have hbig' : (nm.size : Int) ≤ 1048576 := by omega
  have hnb : nm.size ≤ 1048576 := by omega
  go_enter Try.func5, Try.ntmps5
  go_wp2_with fail
  generalize w.alloc _ = w0 at L0 b0 HA ⊢
  refine (szMail_any _ t ps 1048576 w0 HA.out (by omega) (by omega) ht hl HS.out).mono ?_
  rintro e w1 ⟨⟨z, rfl, hz0, hz1, hz2⟩, hb1⟩
  have L1 := L0.below hb1
  have HA1 : Hid (AttrsAt w1 (.slice a ps.length cap) ps) := at_below HA.out hb1
  have b1 := b0.trans (hb1.mono b0.size)
  clear hb1 L0 HA b0 HS
  by_cases hz : z < 0
  · go_wp2
    go_ret
    exact ⟨rfl, b1⟩
  obtain ⟨hsm, ht2⟩ := hz2 (by omega)
  have HSM : Hid (Small ps) := hsm
  have hpl := hsm.1
  clear hz2 hsm ht hl hnm
  have c0 := L1.c0
  have c1 := L1.c1
  go_wp2_with fail
  refine (toMail_any _ t ps w1 HA1.out hpl).mono ?_
  rintro e w2 ⟨v2, rfl, hv2, hb2⟩
  have L2 := L1.below hb2
  have HA2 : Hid (AttrsAt w2 (.slice a ps.length cap) ps) := at_below HA1.out hb2
  have b2' := b1.trans (hb2.mono b1.size)
  have HV2 : Hid (AttrsAt w2 v2 ps) := hv2
  clear hb2 L1 HA1 b1 hv2 c0 c1
  go_wp2_with fail
  refine (spec_fo v2 t ps nm w2 HV2.out HSM.out hnb).mono ?_
  rintro e w3 ⟨rfl, hb3⟩
  have L3 := L2.below hb3
  have HA3 : Hid (AttrsAt w3 (.slice a ps.length cap) ps) := at_below HA2.out hb3
  have b3 := b2'.trans (hb3.mono b2'.size)
  generalize hr : (foC ps nm).1 = r
  generalize hc : (foC ps nm).2 = c
  have HRC : Hid ((foC ps nm).1 = r ∧ (foC ps nm).2 = c) := ⟨hr, hc⟩
  clear hb3 L2 HA2 b2' HV2 hr hc
  have c0 := L3.c0
  have c1 := L3.c1
  go_wp2_with fail
  refine (toMail_any _ t ps w3 HA3.out hpl).mono ?_
  rintro e w4 ⟨v4, rfl, hv4, hb4⟩
  have L4 := L3.below hb4
  have HA4 : Hid (AttrsAt w4 (.slice a ps.length cap) ps) := at_below HA3.out hb4
  have b4 := b3.trans (hb4.mono b3.size)
  have HV4 : Hid (AttrsAt w4 v4 ps) := hv4
  clear hb4 L3 HA3 b3 hv4 c0 c1
  have hb5 : Below w4.heap.size w4 (w4.alloc (.cells #[v4, .string t] 36)) := (Below.refl _ _).alloc (Nat.le_refl _) _
  have M5 := b2.new w4 36 v4 (.string t)
  have L5 := L4.below hb5
  have HA5 : Hid (AttrsAt (w4.alloc (.cells #[v4, .string t] 36)) (.slice a ps.length cap) ps) := at_below HA4.out hb5
  have HV5 : Hid (AttrsAt (w4.alloc (.cells #[v4, .string t] 36)) v4 ps) := at_below HV4.out hb5
  have b5 := b4.trans (hb5.mono b4.size)
  clear hb5 L4 HA4 b4
  obtain ⟨a4, cap4, rfl, _⟩ := HV4.out
  clear HV4
  go_wp2_with fail
  generalize w4.alloc _ = w5 at M5 L5 HA5 HV5 b5 ⊢
  refine (impl_fo _ t ps nm w5 HV5.out HSM.out hnb).mono ?_
  rintro e w6 ⟨rfl, hb6⟩
  rw [HRC.out.1, HRC.out.2]
  have M6 := M5.below hb6
  have L6 := L5.below hb6
  have HA6 : Hid (AttrsAt w6 (.slice a ps.length cap) ps) := at_below HA5.out hb6
  have HV6 : Hid (AttrsAt w6 (.slice a4 ps.length cap4) ps) := at_below HV5.out hb6
  have b6 := b5.trans (hb6.mono b5.size)
  clear hb6 M5 L5 HA5 HV5 b5
  have cc : ((c : Int) != c) = false := by simp
  have rr : (r.toList == r.toList) = true := by simp
  go_wp2_with fail
  have hM : w4.heap.size < w6.heap.size := M6.lt
  have hL : w.heap.size < w6.heap.size := L6.lt
  have c0 := L6.c0
  have c1 := L6.c1'
  have d0 := M6.c0
  have d1 := M6.c1'
  have HK : Hid (∀ x, Below w6.heap.size w6 x → x.cell? ⟨w.heap.size, 0, none⟩ = some (.slice a ps.length cap) ∧ x.cell? ⟨w.heap.size, 0 + 1, none⟩ = some (.string t) ∧ x.cell? ⟨w4.heap.size, 0, none⟩ = some (.slice a4 ps.length cap4) ∧ x.cell? ⟨w4.heap.size, 0 + 1, none⟩ = some (.string t)) := fun x hx => ⟨(L6.below hx).c0, (L6.below hx).c1', (M6.below hx).c0, (M6.below hx).c1'⟩
  have HT : Hid (∀ x, Below w6.heap.size w6 x → Calls Try.prog 14 #[.agg #[.slice a ps.length cap, .string t]] x fun e w' => ∃ a2 cap2, e = .returned (.agg #[.slice a2 ps.length cap2, .string t]) ∧ AttrsAt w' (.slice a2 ps.length cap2) ps ∧ Below w6.heap.size w6 w' ∧ w'.cell? ⟨w.heap.size, 0, none⟩ = some (.slice a ps.length cap) ∧ w'.cell? ⟨w.heap.size, 0 + 1, none⟩ = some (.string t) ∧ w'.cell? ⟨w4.heap.size, 0, none⟩ = some (.slice a4 ps.length cap4) ∧ w'.cell? ⟨w4.heap.size, 0 + 1, none⟩ = some (.string t)) := fun x hx =>
    (toMail_any _ t ps x (at_below HA6.out hx) hpl).mono fun e w' ⟨v', he, hv', hb'⟩ => by
      have hv := hv'
      obtain ⟨a2, cap2, rfl, _⟩ := hv
      exact ⟨a2, cap2, he, hv', hx.trans (hb'.mono hx.size), HK.out _ (hx.trans (hb'.mono hx.size))⟩
  have HE : Hid (∀ x a2 cap2, AttrsAt x (.slice a2 ps.length cap2) ps → Below w6.heap.size w6 x → Calls Try.prog 16 #[.agg #[.slice a4 ps.length cap4, .string t], .agg #[.slice a2 ps.length cap2, .string t]] x fun e w' => e = .returned (.bool true) ∧ Below w6.heap.size w6 w' ∧ w'.cell? ⟨w.heap.size, 0, none⟩ = some (.slice a ps.length cap) ∧ w'.cell? ⟨w.heap.size, 0 + 1, none⟩ = some (.string t) ∧ w'.cell? ⟨w4.heap.size, 0, none⟩ = some (.slice a4 ps.length cap4) ∧ w'.cell? ⟨w4.heap.size, 0 + 1, none⟩ = some (.string t)) := fun x a2 cap2 h2 hx =>
    (eqMail_any _ _ t ps x (at_below HV6.out hx) h2 hpl).mono fun e w' ⟨he, hb'⟩ => ⟨he, hx.trans (hb'.mono hx.size), HK.out _ (hx.trans (hb'.mono hx.size))⟩
  have hd : Below w6.heap.size w6 w6.drew := (Below.refl _ _).drew
  clear HA6 HV6 L6 M6
  go_region_held (fun w' => w'.cell? ⟨w.heap.size, 0, none⟩ = some (.slice a ps.length cap) ∧ w'.cell? ⟨w.heap.size, 0 + 1, none⟩ = some (.string t) ∧ w'.cell? ⟨w4.heap.size, 0, none⟩ = some (.slice a4 ps.length cap4) ∧ w'.cell? ⟨w4.heap.size, 0 + 1, none⟩ = some (.string t))
    (go_keep)
    (first | (go_at_call 14; refine (HT.out _ hd).mono ?_; rintro e w7 ⟨a2, cap2, rfl, h2, hb7, p0, p1, p2, p3⟩) | (go_at_call 16; refine (HE.out _ _ _ h2 hb7).mono ?_; rintro e w8 ⟨rfl, hb8, p0, p1, p2, p3⟩))
  go_wp2
  go_ret
  exact ⟨rfl, b6.trans (Below.mono (by assumption) b6.size)⟩

set_option maxRecDepth 100000 in
theorem lifted (os : Os) (started : os.Started) (H : Type) (enc : TypeId × Value → H) :
    ReturnsInHanded {} Try.checked os 5 .any (Rows.fnExactFieldOfSpec.pre6 enc Try.prog Try.f5 Rows.fnExactFieldOfRow.domain false) (Rows.fnExactFieldOfSpec.post enc Try.prog Try.f5 false true false false) := by
  refine returnsInHanded_of_change (C := Try.checked) own started (by kernel_rfl) Try.func5
    (ChangeSpec.witness6 (enc := enc) (C := Try.checked) false ⟨#[], #[.agg #[.slice none 0 0, .string ⟨#[]⟩], .string ⟨#[]⟩], []⟩ 8 (by kernel_rfl) (by kernel_rfl) (by kernel_rfl) (by kernel_rfl)) ?_
  intro W base args ds gs before hval0 hW hcnd _
  have hval : ∀ (j : Nat) t v, Try.f5.params[j]? = some t → args[j]? = some v → Value.okWide Try.prog W .any base t v := hval0
  have hW' := hW
  obtain ⟨p, q, hA0, hV, rfl, hfz, hnd⟩ := hW
  have hA : DataW.TrodAll enc Try.prog W 0 (fun _ => true) true Try.f5.params.toList args.toList ds p := hA0
  rw [Try.params5] at hA hval
  obtain ⟨v0, vs0, d0, ds0, p0, q0, hargs, rfl, rfl, h0, r0⟩ := trodAll_cons hA
  obtain ⟨v1, vs1, d1, ds1, p1, q1, rfl, rfl, rfl, h1, r1⟩ := trodAll_cons r0
  obtain ⟨rfl, rfl, rfl⟩ := trodAll_nil r1
  obtain rfl : args = #[v0, v1] := by cases args; simp_all
  obtain ⟨rfl, rfl⟩ := trodVars_none hV
  have k0 := h0
  have k1 := h1
  have lt0 : ∀ x ∈ p0, x.block < W.heap.size := by obtain ⟨m, hm⟩ := k0; exact DataW.trod_lt m _ _ _ hm
  have lt1 : ∀ x ∈ p1, x.block < W.heap.size := by obtain ⟨m, hm⟩ := k1; exact DataW.trod_lt m _ _ _ hm
  obtain ⟨f0, f1, y0, y1, m, rfl, _, _, t0, t1⟩ := open_agg2 Try.underlying30 (by kernel_rfl) (by kernel_rfl) (hval 0 30 v0 rfl rfl) h0
  obtain ⟨t, e1, _, ht⟩ := DataW.trod_string Try.underlying9 t1
  obtain ⟨ps, hat, hpl, hps⟩ := open_attrs t0
  obtain ⟨nm, rfl⟩ := okWide_string Try.underlying9 (hval 1 9 v1 rfl rfl)
  obtain ⟨fu, h1⟩ := h1
  obtain ⟨s', e4, _, hnm⟩ := DataW.trod_string Try.underlying9 h1
  simp [Value.cells] at e4
  subst e4
  simp only [List.cons.injEq, and_true] at e1
  subst e1
  clear hA0 hval0
  refine (walk t nm f0 ps W hat hnm ht hpl hps).mono fun e W' ⟨he, bel⟩ => ?_
  subst he
  exact ⟨_, rfl, _, _, _, [], _, [], hW', trodAll_mk1 (shut_bool Try.underlying4 _), (trodAll_cons_mk (Below.trod laidOut (by kernel_rfl) (of_decide_eq_true (by kernel_rfl)) k0 bel lt0) (trodAll_cons_mk (Below.trod laidOut (by kernel_rfl) (of_decide_eq_true (by kernel_rfl)) k1 bel lt1) trodAll_mk0)), rfl, bel.frame _, fun h => by cases h⟩

theorem over : Rows.fnExactFieldOfRow.holds Try.pinned (OpenSpec.ofChange Rows.fnExactFieldOfSpec) :=
  OpenClaim.holds_of_wide 5 Try.f5 rfl rfl rfl rfl rfl rfl rfl ⟨rfl, rfl, rfl, rfl, rfl⟩ rfl rfl rfl rfl rfl (by kernel_rfl) Try.func5 (by kernel_rfl)
    (of_decide_eq_true (by kernel_rfl)) (by unfold Func.isWrapper; first | (rw [if_pos (by decide +kernel)]; kernel_rfl) | (rw [if_neg (by decide +kernel)]; exact ⟨rfl, rfl⟩))
    (fun os started H enc _ => lifted os started H enc)

theorem proved : Rows.FnExactFieldOfSaid := over
end Go.Proofs.Ytkclakfgpanplaa.fnExactFieldOf
namespace Go.Proofs.Ytkclakfgpanplaa
theorem fnExactFieldOf_holds : Rows.FnExactFieldOfSaid := fnExactFieldOf.proved
#print axioms fnExactFieldOf_holds
end Go.Proofs.Ytkclakfgpanplaa
