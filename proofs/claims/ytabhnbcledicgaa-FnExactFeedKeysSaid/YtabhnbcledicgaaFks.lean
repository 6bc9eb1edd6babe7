/-
  Both FeedKeys functions answer alike at every feed; the feed that was handed in is as it was, and the answer's memory is its own; for every input.
-/
import Derived.Test.YtabhnbcledicgaaEng
import Derived.Test.YtabhnbcledicgaaKyc
import Derived.Test.YtabhnbcledicgaaMrm
import Derived.WalkKit
import Derived.ProofKit
import Derived.OpenShut
import Derived.ChangeOld
import Derived.Below
import Derived.Carry
import Derived.Lib.SmallJoins
import Derived.Deep.RegionHeld
namespace Go.Proofs.Ytabhnbcledicgaa.fnExactFeedKeys
open Go.ChangeShapes Go.WideShapes Go.ChangeAt Go.RowKit Go.Joins Go.Deep
set_option linter.unusedVariables false

theorem own : ownKnob Try.prog.godebug = none := by kernel_rfl
theorem laidOut : laidOutB Try.prog = true := by kernel_rfl

open en ky mk
theorem apart_types {w : World} {b1 e1 s1 n1 b2 e2 s2 n2 : Nat} {v1 v2 : Value} {x1 x2 : List Value} (h : w.ownsRow b1 e1 s1 v1 n1 x1) (h2 : w.ownsRow b2 e2 s2 v2 n2 x2) (he : e1 ≠ e2) : v1.ownBlock = none ∨ v1.ownBlock ≠ v2.ownBlock := by
  rcases h.2 with ⟨rfl, _⟩ | ⟨g, cap, cur, rfl, b, c, d⟩
  · exact .inl rfl
  · rcases h2.2 with ⟨rfl, _⟩ | ⟨g', cap', cur', rfl, b', c', d'⟩
    · exact .inr (by simp [Value.ownBlock])
    · right
      intro e
      have : g = g' := by simpa [Value.ownBlock] using e
      subst this
      rw [c] at c'
      simp only [Option.some.injEq, Obj.cells.injEq] at c'
      exact he c'.2.1
theorem own_grown {w w' : World} {base : Nat} {v : Value} {ks : List ByteArray} {row : Option Nat} (h : OwnT w base v ks) (hg : w.grownBy w' row) (ha : v.ownBlock = none ∨ v.ownBlock ≠ row) : OwnT w' base v ks := by
  obtain ⟨h1, h2⟩ := h
  refine ⟨h1, ?_⟩
  rcases h2 with h2 | ⟨g, cap, cur, e, b, c, d⟩
  · exact .inl h2
  · subst e
    refine .inr ⟨g, cap, cur, rfl, b, ?_, d⟩
    rw [hg.block g (Array.getElem?_eq_some_iff.1 c).1 (fun x => ?_)]
    · exact c
    · rcases ha with ha | ha
      · simp [Value.ownBlock] at ha
      · exact ha (by simp [Value.ownBlock, x])
set_option maxHeartbeats 4000000 in
set_option maxRecDepth 100000 in
theorem walk (f : Bool) (t : ByteArray) (v : Value) (es : List En) (w : World) (h : EntsAt w v es) (ht : t.size ≤ maxLen) (hl : es.length ≤ maxLen) (hs : ∀ j, j < es.length → Held (es.getD j noE)) :
    Calls Try.prog 5 #[FV f t v] w fun e w' => e = .returned (.bool true) ∧ Below w.heap.size w w' := by
  have L0 := liesF_new w 31 f t v
  have b0 : Below w.heap.size w (w.alloc (.cells #[.bool f, .string t, v] 31)) := (Below.refl _ _).alloc (Nat.le_refl _) _
  have HA : Hid (EntsAt (w.alloc (.cells #[.bool f, .string t, v] 31)) v es) := ents_below h b0
  have HS : Hid (∀ j, j < es.length → Held (es.getD j noE)) := hs
  obtain ⟨a, cap, rfl, _⟩ := h
  clear hs
  unfold FV
  go_enter Try.func5, Try.ntmps5
  go_wp2_with fail
  generalize w.alloc _ = w0 at L0 b0 HA ⊢
  have HL0 : Hid (LiesF w0 w.heap.size 31 f t (.slice a es.length cap)) := L0
  clear L0
  refine (szFeed_any f t _ es 1048576 w0 HA.out (by omega) (by omega) ht hl HS.out).mono ?_
  rintro e w1 ⟨⟨z, rfl, hz0, hz1, hz2⟩, d1⟩
  clear HS
  by_cases hz : z < 0
  · go_wp2
    go_ret
    exact ⟨rfl, b0.trans (d1.mono b0.size)⟩
  obtain ⟨hsm, ht2⟩ := hz2 (by omega)
  have HSM : Hid (Smalls es) := hsm
  have hpl := hsm.1
  have hol := out_len t es
  clear hz2 hsm ht hl
  have c0 := (HL0.out.keep d1).c0
  have c1 := (HL0.out.keep d1).c1
  have c2 := (HL0.out.keep d1).c2
  go_wp2_with fail
  refine (toFeed_any f t _ es w1 (ents_below HA.out d1) hpl).mono ?_
  rintro e w2 ⟨g2, rfl, hv2, hb2⟩
  have d2 := d1.trans (hb2.mono d1.size)
  have HV2 : Hid (EntsAt w2 (.slice (some ⟨g2, 0, none⟩) es.length es.length) es) := own_ents hv2
  clear hb2 d1 hv2 c0 c1 c2
  unfold FV
  go_wp2_with fail
  refine (spec_keys f t _ es w2 HV2.out HSM.out ht2).mono ?_
  rintro e w3 ⟨⟨r1, rfl, ho1⟩, hb3⟩
  have d3 := d2.trans (hb3.mono d2.size)
  have H1 : Hid (OwnT w3 w2.heap.size r1 (keysOut t es).1) := ho1
  clear hb3 d2 HV2 ho1
  have c0 := (HL0.out.keep d3).c0
  have c1 := (HL0.out.keep d3).c1
  have c2 := (HL0.out.keep d3).c2
  go_wp2_with fail
  refine (toFeed_any f t _ es w3 (ents_below HA.out d3) hpl).mono ?_
  rintro e w4 ⟨g4, rfl, hv4, hb4⟩
  have H1' := ow.own_below H1.out hb4
  have HB4 : Hid (w0.heap.size ≤ w3.heap.size) := d3.size
  have d4 := d3.trans (hb4.mono d3.size)
  clear hb4 d3 c0 c1 c2 H1
  unfold FV
  have hb5 : Below w4.heap.size w4 (w4.alloc (.cells #[.bool f, .string t, .slice (some ⟨g4, 0, none⟩) es.length es.length] 36)) := (Below.refl _ _).alloc (Nat.le_refl _) _
  have M5 := liesF_new w4 36 f t (.slice (some ⟨g4, 0, none⟩) es.length es.length)
  have hv5 := own_keep hv4 hb5
  have H1'' := ow.own_below H1' hb5
  have d5 := d4.trans (hb5.mono d4.size)
  clear hb5 d4 hv4 H1'
  go_wp2_with fail
  generalize w4.alloc _ = w5 at M5 hv5 d5 H1'' ⊢
  have H1 : Hid (OwnT w5 w2.heap.size r1 (keysOut t es).1) := H1''
  have HV5 : Hid (OwnE w5 w3.heap.size (.slice (some ⟨g4, 0, none⟩) es.length es.length) es) := hv5
  clear H1'' hv5
  refine (impl_keys f t _ es w5 (own_ents HV5.out) HSM.out ht2).mono ?_
  rintro e w6 ⟨⟨r2, rfl, ho2⟩, hb6⟩
  have M6 := M5.keep hb6
  have HV6 : Hid (OwnE w6 w3.heap.size (.slice (some ⟨g4, 0, none⟩) es.length es.length) es) := own_keep HV5.out hb6
  have HAP : Hid (r1.ownBlock = none ∨ r1.ownBlock ≠ r2.ownBlock) := ow.apart H1.out ho2
  have H1' := ow.own_below H1.out hb6
  have d6 := d5.trans (hb6.mono d5.size)
  have HB6 : Hid (w0.heap.size ≤ w5.heap.size) := d5.size
  have H2 : Hid (OwnT w6 w5.heap.size r2 (keysOut t es).1) := ho2
  clear H1
  have H1 : Hid (OwnT w6 w2.heap.size r1 (keysOut t es).1) := H1'
  clear hb6 M5 HV5 d5 ho2 H1'
  generalize hks : (keysOut t es).1 = ks at H1 H2 hol
  generalize hcd : (keysOut t es).2 = cd
  have HKS : Hid (keysOut t es = (ks, cd)) := Prod.ext hks hcd
  clear hks hcd
  have cc : ((cd : Int) != cd) = false := by simp
  go_wp2_with fail
  refine (eqTexts_any r2 r1 ks w6 (own_texts H2.out) (own_texts H1.out) (by omega)).mono ?_
  rintro e w7 ⟨rfl, hb7⟩
  have M7 := M6.keep hb7
  have HV7 : Hid (OwnE w7 w3.heap.size (.slice (some ⟨g4, 0, none⟩) es.length es.length) es) := own_keep HV6.out hb7
  have H1' : Hid (OwnT w7 w2.heap.size r1 ks) := ow.own_below H1.out hb7
  have H2' : Hid (OwnT w7 w5.heap.size r2 ks) := ow.own_below H2.out hb7
  have d7 := d6.trans (hb7.mono d6.size)
  clear hb7 M6 HV6 d6 H1 H2
  go_wp2_with fail
  have L7 := HL0.out.keep d7
  have c0 := L7.c0
  have c1 := L7.c1
  have c2 := L7.c2
  have e0 := M7.c0
  have e1 := M7.c1
  have e2 := M7.c2
  have HK : Hid (∀ x, Below w7.heap.size w7 x → x.cell? ⟨w.heap.size, 0, none⟩ = some (.bool f) ∧ x.cell? ⟨w.heap.size, 0 + 1, none⟩ = some (.string t) ∧ x.cell? ⟨w.heap.size, 0 + 2, none⟩ = some (.slice a es.length cap) ∧ x.cell? ⟨w4.heap.size, 0, none⟩ = some (.bool f) ∧ x.cell? ⟨w4.heap.size, 0 + 1, none⟩ = some (.string t) ∧ x.cell? ⟨w4.heap.size, 0 + 2, none⟩ = some (.slice (some ⟨g4, 0, none⟩) es.length es.length)) := fun x hx => ⟨(L7.keep hx).c0, (L7.keep hx).c1, (L7.keep hx).c2, (M7.keep hx).c0, (M7.keep hx).c1, (M7.keep hx).c2⟩
  have HT : Hid (∀ x, Below w7.heap.size w7 x → Calls Try.prog 13 #[.agg #[.bool f, .string t, .slice a es.length cap]] x fun e w' => ∃ g, e = .returned (.agg #[.bool f, .string t, .slice (some ⟨g, 0, none⟩) es.length es.length]) ∧ EntsAt w' (.slice (some ⟨g, 0, none⟩) es.length es.length) es ∧ Below w7.heap.size w7 w' ∧ w'.cell? ⟨w.heap.size, 0, none⟩ = some (.bool f) ∧ w'.cell? ⟨w.heap.size, 0 + 1, none⟩ = some (.string t) ∧ w'.cell? ⟨w.heap.size, 0 + 2, none⟩ = some (.slice a es.length cap) ∧ w'.cell? ⟨w4.heap.size, 0, none⟩ = some (.bool f) ∧ w'.cell? ⟨w4.heap.size, 0 + 1, none⟩ = some (.string t) ∧ w'.cell? ⟨w4.heap.size, 0 + 2, none⟩ = some (.slice (some ⟨g4, 0, none⟩) es.length es.length)) := fun x hx =>
    (toFeed_any f t _ es x (ents_below (ents_below HA.out d7) hx) hpl).mono fun e w' ⟨g, he, hv', hb'⟩ => ⟨g, he, own_ents hv', hx.trans (hb'.mono hx.size), HK.out _ (hx.trans (hb'.mono hx.size))⟩
  have HE : Hid (∀ x g, EntsAt x (.slice (some ⟨g, 0, none⟩) es.length es.length) es → Below w7.heap.size w7 x → Calls Try.prog 15 #[.agg #[.bool f, .string t, .slice (some ⟨g4, 0, none⟩) es.length es.length], .agg #[.bool f, .string t, .slice (some ⟨g, 0, none⟩) es.length es.length]] x fun e w' => e = .returned (.bool true) ∧ Below w7.heap.size w7 w' ∧ w'.cell? ⟨w.heap.size, 0, none⟩ = some (.bool f) ∧ w'.cell? ⟨w.heap.size, 0 + 1, none⟩ = some (.string t) ∧ w'.cell? ⟨w.heap.size, 0 + 2, none⟩ = some (.slice a es.length cap) ∧ w'.cell? ⟨w4.heap.size, 0, none⟩ = some (.bool f) ∧ w'.cell? ⟨w4.heap.size, 0 + 1, none⟩ = some (.string t) ∧ w'.cell? ⟨w4.heap.size, 0 + 2, none⟩ = some (.slice (some ⟨g4, 0, none⟩) es.length es.length)) := fun x g h2 hx =>
    (eqFeed_any f t _ _ es x (ents_below (own_ents HV7.out) hx) h2 hpl).mono fun e w' ⟨he, hb'⟩ => ⟨he, hx.trans (hb'.mono hx.size), HK.out _ (hx.trans (hb'.mono hx.size))⟩
  have hd : Below w7.heap.size w7 w7.drew := (Below.refl _ _).drew
  have hM : w4.heap.size < w7.heap.size := M7.lt
  have hL : w.heap.size < w7.heap.size := L7.lt
  have HM7 : Hid (LiesF w7 w4.heap.size 36 f t (.slice (some ⟨g4, 0, none⟩) es.length es.length)) := M7
  clear L7 M7
  go_region_held (fun w' => w'.cell? ⟨w.heap.size, 0, none⟩ = some (.bool f) ∧ w'.cell? ⟨w.heap.size, 0 + 1, none⟩ = some (.string t) ∧ w'.cell? ⟨w.heap.size, 0 + 2, none⟩ = some (.slice a es.length cap) ∧ w'.cell? ⟨w4.heap.size, 0, none⟩ = some (.bool f) ∧ w'.cell? ⟨w4.heap.size, 0 + 1, none⟩ = some (.string t) ∧ w'.cell? ⟨w4.heap.size, 0 + 2, none⟩ = some (.slice (some ⟨g4, 0, none⟩) es.length es.length))
    (go_keep)
    (first | (go_at_call 13; refine (HT.out _ hd).mono ?_; rintro e w8 ⟨g7, rfl, h2, hb8, p0, p1, p2, p3, p4, p5⟩) | (go_at_call 15; refine (HE.out _ _ h2 hb8).mono ?_; rintro e w9 ⟨rfl, hb9, p0, p1, p2, p3, p4, p5⟩))
  have hb := hb9
  clear hb9 p0 p1 p2 p3 p4 p5
  have M9 := HM7.out.keep hb
  have HV9 := own_keep HV7.out hb
  have H19 := ow.own_below H1'.out hb
  have H29 := ow.own_below H2'.out hb
  have d9 := d7.trans (hb.mono d7.size)
  clear hb HK HT HE hd hM hL HM7 HV7 H1' H2' d7 c0 c1 c2 e0 e1 e2
  have e0 := M9.c0
  have e1 := M9.c1
  have e2 := M9.c2
  have HG4 : Hid (w0.heap.size ≤ g4) := by
    obtain ⟨xs, _, ho⟩ := HV9
    exact Nat.le_trans HB4.out (ow.own_lt ho g4 rfl)
  have HAT : Hid (r1.ownBlock = none ∨ r1.ownBlock ≠ some g4) := by
    obtain ⟨xs, _, ho⟩ := HV9
    exact apart_types H19 ho (by decide)
  have HAU : Hid (r2.ownBlock = none ∨ r2.ownBlock ≠ some g4) := by
    obtain ⟨xs, _, ho⟩ := HV9
    exact apart_types H29 ho (by decide)
  have HRW : Hid (RowE w9 w3.heap.size (.slice (some ⟨g4, 0, none⟩) es.length es.length) es.length) := row_of_own HV9
  clear HV9
  go_wp2_with fail
  refine (markFeed_any f t g4 es.length es.length w3.heap.size 1 _ HRW.out hpl (by omega) (by omega)).mono ?_
  rintro e w10 ⟨rfl, hg⟩
  have d10 := d9.grown hg d9.size (by rintro j hj; cases hj; exact HG4.out)
  have H1x : Hid (OwnT w10 w2.heap.size r1 ks) := own_grown H19 hg HAT.out
  have H2x : Hid (OwnT w10 w5.heap.size r2 ks) := own_grown H29 hg HAU.out
  clear hg d9 H19 H29 HRW HAT HAU M9 e0 e1 e2
  have hneg : decide (1 + 6 * (es.length : Int) < 0) = false := decide_eq_false (by omega)
  go_wp2_with fail
  refine (eqTexts_any r2 r1 ks w10 (own_texts H2x.out) (own_texts H1x.out) (by omega)).mono ?_
  rintro e w11 ⟨rfl, hb11⟩
  have H1y : Hid (OwnT w11 w2.heap.size r1 ks) := ow.own_below H1x.out hb11
  have H2y : Hid (OwnT w11 w5.heap.size r2 ks) := ow.own_below H2x.out hb11
  have d11 := d10.trans (hb11.mono d10.size)
  clear hb11 d10 H1x H2x
  go_wp2_with fail
  refine (markTexts_any r2 w5.heap.size ks 1 w11 H2y.out (by omega) (by omega) (by omega)).mono ?_
  rintro e w12 ⟨rfl, ho, hg⟩
  have H2x : Hid (OwnT w12 w5.heap.size r2 (marks 1 ks.length)) := ho
  have H1x : Hid (OwnT w12 w2.heap.size r1 ks) := own_grown H1y.out hg HAP.out
  have d12 := d11.grown hg d11.size (fun j hj => Nat.le_trans HB6.out (ow.own_lt H2y.out j hj))
  clear ho hg d11 H1y H2y
  go_wp2_with fail
  refine (heldTexts_any r2 ks.length 1 w12 (own_texts H2x.out) (by omega) (by omega) (by omega)).mono ?_
  rintro e w13 ⟨rfl, hb13⟩
  have H1y : Hid (OwnT w13 w2.heap.size r1 ks) := ow.own_below H1x.out hb13
  have H2y : Hid (OwnT w13 w5.heap.size r2 (marks 1 ks.length)) := ow.own_below H2x.out hb13
  have d13 := d12.trans (hb13.mono d12.size)
  clear hb13 d12 H1x H2x
  have hneg2 : decide (1 + (ks.length : Int) < 0) = false := decide_eq_false (by omega)
  have hsame : ((1 + (ks.length : Int)) != 1 + (ks.length : Int)) = false := by simp
  have c0 := (HL0.out.keep d13).c0
  have c1 := (HL0.out.keep d13).c1
  have c2 := (HL0.out.keep d13).c2
  go_wp2_with fail
  refine (toFeed_any f t _ es w13 (ents_below HA.out d13) hpl).mono ?_
  rintro e w14 ⟨g14, rfl, hv14, hb14⟩
  have H1x : Hid (OwnT w14 w2.heap.size r1 ks) := ow.own_below H1y.out hb14
  have H2x : Hid (OwnT w14 w5.heap.size r2 (marks 1 ks.length)) := ow.own_below H2y.out hb14
  have d14 := d13.trans (hb14.mono d13.size)
  clear hb14 d13 H1y H2y c0 c1 c2
  unfold FV
  go_wp2_with fail
  refine (impl_keys f t _ es w14 (own_ents hv14) HSM.out ht2).mono ?_
  rintro e w15 ⟨⟨r3, rfl, ho3⟩, hb15⟩
  rw [HKS.out] at ho3 ⊢
  have H3 : Hid (OwnT w15 w14.heap.size r3 ks) := ho3
  have H1y : Hid (OwnT w15 w2.heap.size r1 ks) := ow.own_below H1x.out hb15
  have H2y : Hid (OwnT w15 w5.heap.size r2 (marks 1 ks.length)) := ow.own_below H2x.out hb15
  have d15 := d14.trans (hb15.mono d14.size)
  clear hb15 d14 H1x H2x ho3 hv14
  go_wp2_with fail
  refine (eqTexts_any r3 r1 ks w15 (own_texts H3.out) (own_texts H1y.out) (by omega)).mono ?_
  rintro e w16 ⟨rfl, hb16⟩
  have H2x : Hid (OwnT w16 w5.heap.size r2 (marks 1 ks.length)) := ow.own_below H2y.out hb16
  have d16 := d15.trans (hb16.mono d15.size)
  clear hb16 d15 H2y H1y H3
  go_wp2_with fail
  refine (heldTexts_any r2 ks.length 1 w16 (own_texts H2x.out) (by omega) (by omega) (by omega)).mono ?_
  rintro e w17 ⟨rfl, hb17⟩
  have d17 := d16.trans (hb17.mono d16.size)
  clear hb17 d16 H2x
  go_wp2
  go_ret
  exact ⟨rfl, b0.trans (d17.mono b0.size)⟩

set_option maxRecDepth 100000 in
theorem lifted (os : Os) (started : os.Started) (H : Type) (enc : TypeId × Value → H) :
    ReturnsInHanded {} Try.checked os 5 .any (Rows.fnExactFeedKeysSpec.pre6 enc Try.prog Try.f5 Rows.fnExactFeedKeysRow.domain false) (Rows.fnExactFeedKeysSpec.post enc Try.prog Try.f5 false true false false) := by
  refine returnsInHanded_of_change (C := Try.checked) own started (by kernel_rfl) Try.func5
    (ChangeSpec.witness6 (enc := enc) (C := Try.checked) false ⟨#[], #[.agg #[.bool false, .string ⟨#[]⟩, .slice none 0 0]], []⟩ 8 (by kernel_rfl) (by kernel_rfl) (by kernel_rfl) (by kernel_rfl)) ?_
  intro W base args ds gs before hval0 hW hcnd _
  have hval : ∀ (j : Nat) t v, Try.f5.params[j]? = some t → args[j]? = some v → Value.okWide Try.prog W .any base t v := hval0
  have hW' := hW
  obtain ⟨p, q, hA0, hV, rfl, hfz, hnd⟩ := hW
  have hA : DataW.TrodAll enc Try.prog W 0 (fun _ => true) true Try.f5.params.toList args.toList ds p := hA0
  rw [Try.params5] at hA hval
  obtain ⟨v0, vs0, d0, ds0, p0, q0, hargs, rfl, rfl, h0, r0⟩ := trodAll_cons hA
  obtain ⟨rfl, rfl, rfl⟩ := trodAll_nil r0
  obtain rfl : args = #[v0] := by cases args; simp_all
  obtain ⟨rfl, rfl⟩ := trodVars_none hV
  have k0 := h0
  have lt0 : ∀ x ∈ p0, x.block < W.heap.size := by obtain ⟨m, hm⟩ := k0; exact DataW.trod_lt m _ _ _ hm
  obtain ⟨f, t, u, es, rfl, hat, ht, hl, hh⟩ := en.open_feed (hval 0 31 v0 rfl rfl) h0
  clear hA0 hval0
  refine (walk f t u es W hat ht hl hh).mono fun e W' ⟨he, bel⟩ => ?_
  subst he
  exact ⟨_, rfl, _, _, _, [], _, [], hW', trodAll_mk1 (shut_bool Try.underlying4 _), (trodAll_cons_mk (Below.trod laidOut (by kernel_rfl) (of_decide_eq_true (by kernel_rfl)) k0 bel lt0) trodAll_mk0), rfl, bel.frame _, fun h => by cases h⟩

theorem over : Rows.fnExactFeedKeysRow.holds Try.pinned (OpenSpec.ofChange Rows.fnExactFeedKeysSpec) :=
  OpenClaim.holds_of_wide 5 Try.f5 rfl rfl rfl rfl rfl rfl rfl ⟨rfl, rfl, rfl, rfl, rfl⟩ rfl rfl rfl rfl rfl (by kernel_rfl) Try.func5 (by kernel_rfl)
    (of_decide_eq_true (by kernel_rfl)) (by unfold Func.isWrapper; first | (rw [if_pos (by decide +kernel)]; kernel_rfl) | (rw [if_neg (by decide +kernel)]; exact ⟨rfl, rfl⟩))
    (fun os started H enc _ => lifted os started H enc)

theorem proved : Rows.FnExactFeedKeysSaid := over
end Go.Proofs.Ytabhnbcledicgaa.fnExactFeedKeys
namespace Go.Proofs.Ytabhnbcledicgaa
theorem fnExactFeedKeys_holds : Rows.FnExactFeedKeysSaid := fnExactFeedKeys.proved
#print axioms fnExactFeedKeys_holds
end Go.Proofs.Ytabhnbcledicgaa
