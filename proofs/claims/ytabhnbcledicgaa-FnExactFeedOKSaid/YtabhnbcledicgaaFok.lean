/-
  Both FeedOK functions answer alike at every feed, and the feed that was handed in is as it was; for every input.
-/
import Derived.Test.YtabhnbcledicgaaEng
import Derived.WalkKit
import Derived.ProofKit
import Derived.OpenShut
import Derived.ChangeOld
import Derived.Below
import Derived.Carry
import Derived.Lib.SmallJoins
import Derived.Deep.RegionHeld
namespace Go.Proofs.Ytabhnbcledicgaa.fnExactFeedOK
open Go.ChangeShapes Go.WideShapes Go.ChangeAt Go.RowKit Go.Joins Go.Deep
set_option linter.unusedVariables false

theorem own : ownKnob Try.prog.godebug = none := by kernel_rfl
theorem laidOut : laidOutB Try.prog = true := by kernel_rfl

open en
set_option maxHeartbeats 4000000 in
set_option maxRecDepth 100000 in
theorem walk (f : Bool) (t : ByteArray) (v : Value) (es : List En) (w : World) (h : EntsAt w v es) (ht : t.size ≤ maxLen) (hl : es.length ≤ maxLen) (hs : ∀ j, j < es.length → Held (es.getD j noE)) :
    Calls Try.prog 4 #[FV f t v] w fun e w' => e = .returned (.bool true) ∧ Below w.heap.size w w' := by
  have L0 := liesF_new w 31 f t v
  have b0 : Below w.heap.size w (w.alloc (.cells #[.bool f, .string t, v] 31)) := (Below.refl _ _).alloc (Nat.le_refl _) _
  have HA : Hid (EntsAt (w.alloc (.cells #[.bool f, .string t, v] 31)) v es) := ents_below h b0
  have HS : Hid (∀ j, j < es.length → Held (es.getD j noE)) := hs
  obtain ⟨a, cap, rfl, _⟩ := h
  clear hs
  unfold FV
  go_enter Try.func4, Try.ntmps4
  go_wp2_with fail
  generalize w.alloc _ = w0 at L0 b0 HA ⊢
  refine (szFeed_any f t _ es 1048576 w0 HA.out (by omega) (by omega) ht hl HS.out).mono ?_
  rintro e w1 ⟨⟨z, rfl, hz0, hz1, hz2⟩, hb1⟩
  have L1 := L0.keep hb1
  have HA1 : Hid (EntsAt w1 (.slice a es.length cap) es) := ents_below HA.out hb1
  have b1 := b0.trans (hb1.mono b0.size)
  clear hb1 L0 HA b0 HS
  by_cases hz : z < 0
  · go_wp2
    go_ret
    exact ⟨rfl, b1⟩
  obtain ⟨hsm, ht2⟩ := hz2 (by omega)
  have HSM : Hid (Smalls es) := hsm
  have hpl := hsm.1
  clear hz2 hsm ht hl
  have c0 := L1.c0
  have c1 := L1.c1
  have c2 := L1.c2
  go_wp2_with fail
  refine (toFeed_any f t _ es w1 HA1.out hpl).mono ?_
  rintro e w2 ⟨g2, rfl, hv2, hb2⟩
  have L2 := L1.keep hb2
  have HA2 : Hid (EntsAt w2 (.slice a es.length cap) es) := ents_below HA1.out hb2
  have b2 := b1.trans (hb2.mono b1.size)
  have HV2 : Hid (EntsAt w2 (.slice (some ⟨g2, 0, none⟩) es.length es.length) es) := own_ents hv2
  clear hb2 L1 HA1 b1 hv2 c0 c1 c2
  unfold FV
  go_wp2_with fail
  refine (spec_fok f t _ es w2 HV2.out HSM.out ht2).mono ?_
  rintro e w3 ⟨rfl, hb3⟩
  have L3 := L2.keep hb3
  have HA3 : Hid (EntsAt w3 (.slice a es.length cap) es) := ents_below HA2.out hb3
  have b3 := b2.trans (hb3.mono b2.size)
  clear hb3 L2 HA2 b2 HV2
  have c0 := L3.c0
  have c1 := L3.c1
  have c2 := L3.c2
  go_wp2_with fail
  refine (toFeed_any f t _ es w3 HA3.out hpl).mono ?_
  rintro e w4 ⟨g4, rfl, hv4, hb4⟩
  have L4 := L3.keep hb4
  have HA4 : Hid (EntsAt w4 (.slice a es.length cap) es) := ents_below HA3.out hb4
  have b4 := b3.trans (hb4.mono b3.size)
  have HV4 : Hid (EntsAt w4 (.slice (some ⟨g4, 0, none⟩) es.length es.length) es) := own_ents hv4
  clear hb4 L3 HA3 b3 hv4 c0 c1 c2
  unfold FV
  have hb5 : Below w4.heap.size w4 (w4.alloc (.cells #[.bool f, .string t, .slice (some ⟨g4, 0, none⟩) es.length es.length] 36)) := (Below.refl _ _).alloc (Nat.le_refl _) _
  have M5 := liesF_new w4 36 f t (.slice (some ⟨g4, 0, none⟩) es.length es.length)
  have L5 := L4.keep hb5
  have HA5 : Hid (EntsAt (w4.alloc (.cells #[.bool f, .string t, .slice (some ⟨g4, 0, none⟩) es.length es.length] 36)) (.slice a es.length cap) es) := ents_below HA4.out hb5
  have HV5 : Hid (EntsAt (w4.alloc (.cells #[.bool f, .string t, .slice (some ⟨g4, 0, none⟩) es.length es.length] 36)) (.slice (some ⟨g4, 0, none⟩) es.length es.length) es) := ents_below HV4.out hb5
  have b5 := b4.trans (hb5.mono b4.size)
  clear hb5 L4 HA4 b4 HV4
  go_wp2_with fail
  generalize w4.alloc _ = w5 at M5 L5 HA5 HV5 b5 ⊢
  refine (impl_fok f t _ es w5 HV5.out HSM.out ht2).mono ?_
  rintro e w6 ⟨rfl, hb6⟩
  have M6 := M5.keep hb6
  have L6 := L5.keep hb6
  have HA6 : Hid (EntsAt w6 (.slice a es.length cap) es) := ents_below HA5.out hb6
  have HV6 : Hid (EntsAt w6 (.slice (some ⟨g4, 0, none⟩) es.length es.length) es) := ents_below HV5.out hb6
  have b6 := b5.trans (hb6.mono b5.size)
  clear hb6 M5 L5 HA5 HV5 b5
  generalize fok t es = o
  have cc : (o != o) = false := by simp
  go_wp2_with fail
  have c0 := L6.c0
  have c1 := L6.c1
  have c2 := L6.c2
  have d0 := M6.c0
  have d1 := M6.c1
  have d2 := M6.c2
  have HK : Hid (∀ x, Below w6.heap.size w6 x → x.cell? ⟨w.heap.size, 0, none⟩ = some (.bool f) ∧ x.cell? ⟨w.heap.size, 0 + 1, none⟩ = some (.string t) ∧ x.cell? ⟨w.heap.size, 0 + 2, none⟩ = some (.slice a es.length cap) ∧ x.cell? ⟨w4.heap.size, 0, none⟩ = some (.bool f) ∧ x.cell? ⟨w4.heap.size, 0 + 1, none⟩ = some (.string t) ∧ x.cell? ⟨w4.heap.size, 0 + 2, none⟩ = some (.slice (some ⟨g4, 0, none⟩) es.length es.length)) := fun x hx => ⟨(L6.keep hx).c0, (L6.keep hx).c1, (L6.keep hx).c2, (M6.keep hx).c0, (M6.keep hx).c1, (M6.keep hx).c2⟩
  have HT : Hid (∀ x, Below w6.heap.size w6 x → Calls Try.prog 13 #[.agg #[.bool f, .string t, .slice a es.length cap]] x fun e w' => ∃ g, e = .returned (.agg #[.bool f, .string t, .slice (some ⟨g, 0, none⟩) es.length es.length]) ∧ EntsAt w' (.slice (some ⟨g, 0, none⟩) es.length es.length) es ∧ Below w6.heap.size w6 w' ∧ w'.cell? ⟨w.heap.size, 0, none⟩ = some (.bool f) ∧ w'.cell? ⟨w.heap.size, 0 + 1, none⟩ = some (.string t) ∧ w'.cell? ⟨w.heap.size, 0 + 2, none⟩ = some (.slice a es.length cap) ∧ w'.cell? ⟨w4.heap.size, 0, none⟩ = some (.bool f) ∧ w'.cell? ⟨w4.heap.size, 0 + 1, none⟩ = some (.string t) ∧ w'.cell? ⟨w4.heap.size, 0 + 2, none⟩ = some (.slice (some ⟨g4, 0, none⟩) es.length es.length)) := fun x hx =>
    (toFeed_any f t _ es x (ents_below HA6.out hx) hpl).mono fun e w' ⟨g, he, hv', hb'⟩ => ⟨g, he, own_ents hv', hx.trans (hb'.mono hx.size), HK.out _ (hx.trans (hb'.mono hx.size))⟩
  have HE : Hid (∀ x g, EntsAt x (.slice (some ⟨g, 0, none⟩) es.length es.length) es → Below w6.heap.size w6 x → Calls Try.prog 15 #[.agg #[.bool f, .string t, .slice (some ⟨g4, 0, none⟩) es.length es.length], .agg #[.bool f, .string t, .slice (some ⟨g, 0, none⟩) es.length es.length]] x fun e w' => e = .returned (.bool true) ∧ Below w6.heap.size w6 w' ∧ w'.cell? ⟨w.heap.size, 0, none⟩ = some (.bool f) ∧ w'.cell? ⟨w.heap.size, 0 + 1, none⟩ = some (.string t) ∧ w'.cell? ⟨w.heap.size, 0 + 2, none⟩ = some (.slice a es.length cap) ∧ w'.cell? ⟨w4.heap.size, 0, none⟩ = some (.bool f) ∧ w'.cell? ⟨w4.heap.size, 0 + 1, none⟩ = some (.string t) ∧ w'.cell? ⟨w4.heap.size, 0 + 2, none⟩ = some (.slice (some ⟨g4, 0, none⟩) es.length es.length)) := fun x g h2 hx =>
    (eqFeed_any f t _ _ es x (ents_below HV6.out hx) h2 hpl).mono fun e w' ⟨he, hb'⟩ => ⟨he, hx.trans (hb'.mono hx.size), HK.out _ (hx.trans (hb'.mono hx.size))⟩
  have hd : Below w6.heap.size w6 w6.drew := (Below.refl _ _).drew
  have hM : w4.heap.size < w6.heap.size := M6.lt
  have hL : w.heap.size < w6.heap.size := L6.lt
  clear HA6 HV6 L6 M6
  go_region_held (fun w' => w'.cell? ⟨w.heap.size, 0, none⟩ = some (.bool f) ∧ w'.cell? ⟨w.heap.size, 0 + 1, none⟩ = some (.string t) ∧ w'.cell? ⟨w.heap.size, 0 + 2, none⟩ = some (.slice a es.length cap) ∧ w'.cell? ⟨w4.heap.size, 0, none⟩ = some (.bool f) ∧ w'.cell? ⟨w4.heap.size, 0 + 1, none⟩ = some (.string t) ∧ w'.cell? ⟨w4.heap.size, 0 + 2, none⟩ = some (.slice (some ⟨g4, 0, none⟩) es.length es.length))
    (go_keep)
    (first | (go_at_call 13; refine (HT.out _ hd).mono ?_; rintro e w7 ⟨g7, rfl, h2, hb7, p0, p1, p2, p3, p4, p5⟩) | (go_at_call 15; refine (HE.out _ _ h2 hb7).mono ?_; rintro e w8 ⟨rfl, hb8, p0, p1, p2, p3, p4, p5⟩))
  go_wp2
  go_ret
  exact ⟨rfl, b6.trans (Below.mono (by assumption) b6.size)⟩

set_option maxRecDepth 100000 in
theorem lifted (os : Os) (started : os.Started) (H : Type) (enc : TypeId × Value → H) :
    ReturnsInHanded {} Try.checked os 4 .any (Rows.fnExactFeedOKSpec.pre6 enc Try.prog Try.f4 Rows.fnExactFeedOKRow.domain false) (Rows.fnExactFeedOKSpec.post enc Try.prog Try.f4 false true false false) := by
  refine returnsInHanded_of_change (C := Try.checked) own started (by kernel_rfl) Try.func4
    (ChangeSpec.witness6 (enc := enc) (C := Try.checked) false ⟨#[], #[.agg #[.bool false, .string ⟨#[]⟩, .slice none 0 0]], []⟩ 8 (by kernel_rfl) (by kernel_rfl) (by kernel_rfl) (by kernel_rfl)) ?_
  intro W base args ds gs before hval0 hW hcnd _
  have hval : ∀ (j : Nat) t v, Try.f4.params[j]? = some t → args[j]? = some v → Value.okWide Try.prog W .any base t v := hval0
  have hW' := hW
  obtain ⟨p, q, hA0, hV, rfl, hfz, hnd⟩ := hW
  have hA : DataW.TrodAll enc Try.prog W 0 (fun _ => true) true Try.f4.params.toList args.toList ds p := hA0
  rw [Try.params4] at hA hval
  obtain ⟨v0, vs0, d0, ds0, p0, q0, hargs, rfl, rfl, h0, r0⟩ := trodAll_cons hA
  obtain ⟨rfl, rfl, rfl⟩ := trodAll_nil r0
  obtain rfl : args = #[v0] := by cases args; simp_all
  obtain ⟨rfl, rfl⟩ := trodVars_none hV
  have k0 := h0
  have lt0 : ∀ x ∈ p0, x.block < W.heap.size := by obtain ⟨m, hm⟩ := k0; exact DataW.trod_lt m _ _ _ hm
  obtain ⟨f, t, u, es, rfl, hat, ht, hl, hh⟩ := en.open_feed (hval 0 31 v0 rfl rfl) h0
  clear hA0 hval0
  refine (walk f t u es W hat ht hl hh).mono fun e W' ⟨he, bel⟩ => ?_
  subst he
  exact ⟨_, rfl, _, _, _, [], _, [], hW', trodAll_mk1 (shut_bool Try.underlying4 _), (trodAll_cons_mk (Below.trod laidOut (by kernel_rfl) (of_decide_eq_true (by kernel_rfl)) k0 bel lt0) trodAll_mk0), rfl, bel.frame _, fun h => by cases h⟩

theorem over : Rows.fnExactFeedOKRow.holds Try.pinned (OpenSpec.ofChange Rows.fnExactFeedOKSpec) :=
  OpenClaim.holds_of_wide 4 Try.f4 rfl rfl rfl rfl rfl rfl rfl ⟨rfl, rfl, rfl, rfl, rfl⟩ rfl rfl rfl rfl rfl (by kernel_rfl) Try.func4 (by kernel_rfl)
    (of_decide_eq_true (by kernel_rfl)) (by unfold Func.isWrapper; first | (rw [if_pos (by decide +kernel)]; kernel_rfl) | (rw [if_neg (by decide +kernel)]; exact ⟨rfl, rfl⟩))
    (fun os started H enc _ => lifted os started H enc)

theorem proved : Rows.FnExactFeedOKSaid := over
end Go.Proofs.Ytabhnbcledicgaa.fnExactFeedOK
namespace Go.Proofs.Ytabhnbcledicgaa
theorem fnExactFeedOK_holds : Rows.FnExactFeedOKSaid := fnExactFeedOK.proved
#print axioms fnExactFeedOK_holds
end Go.Proofs.Ytabhnbcledicgaa
