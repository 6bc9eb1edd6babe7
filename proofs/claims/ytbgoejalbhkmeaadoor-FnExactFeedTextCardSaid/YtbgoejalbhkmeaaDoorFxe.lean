/-
  The walk of the law on FeedText.
-/
import Derived.Test.YtbgoejalbhkmeaaDoorFxd
import Derived.Test.YtbgoejalbhkmeaaDoorEng
import Derived.Deep.RegionHeld
namespace Go.Proofs.YtbgoejalbhkmeaaDoor.fx
open Go.RowKit
open en gr
set_option linter.unusedVariables false

set_option maxHeartbeats 4000000 in
set_option maxRecDepth 100000 in
theorem law (f : Bool) (t : ByteArray) (v : Value) (es : List En) (w : World) (h : EntsAt w v es) (ht : t.size ≤ maxLen) (hl : es.length ≤ maxLen) (hs : ∀ j, j < es.length → Held (es.getD j noE)) (hP : tb.TP w) (hW : tb.TW w) (hN : tb.TN w) :
    Calls Tryd.prog 3 #[FV f t v] w fun e w' => e = .returned (.bool true) ∧ Below w.heap.size w w' := by
  have HT0 : Hid (tb.TP w ∧ tb.TW w ∧ tb.TN w) := ⟨hP, hW, hN⟩
  clear hP hW hN
  have L0 := liesF_new w 24 f t v
  have b0 : Below w.heap.size w (w.alloc (.cells #[.bool f, .string t, v] 24)) := (Below.refl _ _).alloc (Nat.le_refl _) _
  have HA : Hid (EntsAt (w.alloc (.cells #[.bool f, .string t, v] 24)) v es) := ents_below h b0
  have HS : Hid (∀ j, j < es.length → Held (es.getD j noE)) := hs
  obtain ⟨a, cap, rfl, _⟩ := h
  clear hs
  unfold FV
  go_enter Tryd.func3, Tryd.ntmps3
  go_wp2_with fail
  generalize w.alloc _ = w0 at L0 b0 HA ⊢
  refine (szFeed_any f t _ es 1048576 w0 HA.out (by omega) (by omega) ht hl HS.out).mono ?_
  rintro e w1 ⟨⟨z, rfl, hz0, hz1, hz2⟩, hb1⟩
  have L1 := L0.keep hb1
  have HA1 : Hid (EntsAt w1 (.slice a es.length cap) es) := ents_below HA.out hb1
  have b1 := b0.trans (hb1.mono b0.size)
  clear hb1 L0 HA b0 HS
  by_cases hz : z < 0
  · go_wp2
    go_ret
    exact ⟨rfl, b1⟩
  obtain ⟨hsm, ht2⟩ := hz2 (by omega)
  have HSM : Hid (Smalls es) := hsm
  have hpl := hsm.1
  clear hz2 hsm ht hl
  have c0 := L1.c0
  have c1 := L1.c1
  have c2 := L1.c2
  go_wp2_with fail
  refine (toFeed_any f t _ es w1 HA1.out hpl).mono ?_
  rintro e w2 ⟨g2, rfl, hv2, hb2⟩
  have L2 := L1.keep hb2
  have HA2 : Hid (EntsAt w2 (.slice a es.length cap) es) := ents_below HA1.out hb2
  have b2 := b1.trans (hb2.mono b1.size)
  have HV2 : Hid (EntsAt w2 (.slice (some ⟨g2, 0, none⟩) es.length es.length) es) := own_ents hv2
  clear hb2 L1 HA1 b1 hv2 c0 c1 c2
  unfold FV
  go_wp2_with fail
  refine (spec_text f t _ es w2 HV2.out HSM.out ht2).mono ?_
  rintro e w3 ⟨h3, hb3⟩
  obtain ⟨r, cd, rfl⟩ := text_form h3
  have H3 : Hid (TextRet f t es (.returned (.tuple #[.string r, .int .i64 cd]))) := h3
  clear h3
  have L3 := L2.keep hb3
  have HA3 : Hid (EntsAt w3 (.slice a es.length cap) es) := ents_below HA2.out hb3
  have b3 := b2.trans (hb3.mono b2.size)
  clear hb3 L2 HA2 b2 HV2
  have c0 := L3.c0
  have c1 := L3.c1
  have c2 := L3.c2
  go_wp2_with fail
  refine (toFeed_any f t _ es w3 HA3.out hpl).mono ?_
  rintro e w4 ⟨g4, rfl, hv4, hb4⟩
  have L4 := L3.keep hb4
  have HA4 : Hid (EntsAt w4 (.slice a es.length cap) es) := ents_below HA3.out hb4
  have b4 := b3.trans (hb4.mono b3.size)
  have HV4 : Hid (EntsAt w4 (.slice (some ⟨g4, 0, none⟩) es.length es.length) es) := own_ents hv4
  clear hb4 L3 HA3 b3 hv4 c0 c1 c2
  unfold FV
  have hb5 : Below w4.heap.size w4 (w4.alloc (.cells #[.bool f, .string t, .slice (some ⟨g4, 0, none⟩) es.length es.length] 30)) := (Below.refl _ _).alloc (Nat.le_refl _) _
  have M5 := liesF_new w4 30 f t (.slice (some ⟨g4, 0, none⟩) es.length es.length)
  have L5 := L4.keep hb5
  have HA5 : Hid (EntsAt (w4.alloc (.cells #[.bool f, .string t, .slice (some ⟨g4, 0, none⟩) es.length es.length] 30)) (.slice a es.length cap) es) := ents_below HA4.out hb5
  have HV5 : Hid (EntsAt (w4.alloc (.cells #[.bool f, .string t, .slice (some ⟨g4, 0, none⟩) es.length es.length] 30)) (.slice (some ⟨g4, 0, none⟩) es.length es.length) es) := ents_below HV4.out hb5
  have b5 := b4.trans (hb5.mono b4.size)
  clear hb5 L4 HA4 b4 HV4
  go_wp2_with fail
  generalize w4.alloc _ = w5 at M5 L5 HA5 HV5 b5 ⊢
  refine (impl_text f t _ es w5 HV5.out HSM.out ht2 (tb.keep' HT0.out.1 b5) (tb.keepS HT0.out.2.1 b5) (tb.keepS HT0.out.2.2 b5)).mono ?_
  rintro e w6 ⟨h6, hb6⟩
  obtain rfl := text_same h6 H3.out
  clear h6 H3
  have M6 := M5.keep hb6
  have L6 := L5.keep hb6
  have HA6 : Hid (EntsAt w6 (.slice a es.length cap) es) := ents_below HA5.out hb6
  have HV6 : Hid (EntsAt w6 (.slice (some ⟨g4, 0, none⟩) es.length es.length) es) := ents_below HV5.out hb6
  have b6 := b5.trans (hb6.mono b5.size)
  clear hb6 M5 L5 HA5 HV5 b5
  have cc : ((cd : Int) != cd) = false := by simp
  go_wp2_with fail
  have c0 := L6.c0
  have c1 := L6.c1
  have c2 := L6.c2
  have d0 := M6.c0
  have d1 := M6.c1
  have d2 := M6.c2
  have HK : Hid (∀ x, Below w6.heap.size w6 x → x.cell? ⟨w.heap.size, 0, none⟩ = some (.bool f) ∧ x.cell? ⟨w.heap.size, 0 + 1, none⟩ = some (.string t) ∧ x.cell? ⟨w.heap.size, 0 + 2, none⟩ = some (.slice a es.length cap) ∧ x.cell? ⟨w4.heap.size, 0, none⟩ = some (.bool f) ∧ x.cell? ⟨w4.heap.size, 0 + 1, none⟩ = some (.string t) ∧ x.cell? ⟨w4.heap.size, 0 + 2, none⟩ = some (.slice (some ⟨g4, 0, none⟩) es.length es.length)) := fun x hx => ⟨(L6.keep hx).c0, (L6.keep hx).c1, (L6.keep hx).c2, (M6.keep hx).c0, (M6.keep hx).c1, (M6.keep hx).c2⟩
  have HT : Hid (∀ x, Below w6.heap.size w6 x → Calls Tryd.prog 6 #[.agg #[.bool f, .string t, .slice a es.length cap]] x fun e w' => ∃ g, e = .returned (.agg #[.bool f, .string t, .slice (some ⟨g, 0, none⟩) es.length es.length]) ∧ EntsAt w' (.slice (some ⟨g, 0, none⟩) es.length es.length) es ∧ Below w6.heap.size w6 w' ∧ w'.cell? ⟨w.heap.size, 0, none⟩ = some (.bool f) ∧ w'.cell? ⟨w.heap.size, 0 + 1, none⟩ = some (.string t) ∧ w'.cell? ⟨w.heap.size, 0 + 2, none⟩ = some (.slice a es.length cap) ∧ w'.cell? ⟨w4.heap.size, 0, none⟩ = some (.bool f) ∧ w'.cell? ⟨w4.heap.size, 0 + 1, none⟩ = some (.string t) ∧ w'.cell? ⟨w4.heap.size, 0 + 2, none⟩ = some (.slice (some ⟨g4, 0, none⟩) es.length es.length)) := fun x hx =>
    (toFeed_any f t _ es x (ents_below HA6.out hx) hpl).mono fun e w' ⟨g, he, hv', hb'⟩ => ⟨g, he, own_ents hv', hx.trans (hb'.mono hx.size), HK.out _ (hx.trans (hb'.mono hx.size))⟩
  have HE : Hid (∀ x g, EntsAt x (.slice (some ⟨g, 0, none⟩) es.length es.length) es → Below w6.heap.size w6 x → Calls Tryd.prog 8 #[.agg #[.bool f, .string t, .slice (some ⟨g4, 0, none⟩) es.length es.length], .agg #[.bool f, .string t, .slice (some ⟨g, 0, none⟩) es.length es.length]] x fun e w' => e = .returned (.bool true) ∧ Below w6.heap.size w6 w' ∧ w'.cell? ⟨w.heap.size, 0, none⟩ = some (.bool f) ∧ w'.cell? ⟨w.heap.size, 0 + 1, none⟩ = some (.string t) ∧ w'.cell? ⟨w.heap.size, 0 + 2, none⟩ = some (.slice a es.length cap) ∧ w'.cell? ⟨w4.heap.size, 0, none⟩ = some (.bool f) ∧ w'.cell? ⟨w4.heap.size, 0 + 1, none⟩ = some (.string t) ∧ w'.cell? ⟨w4.heap.size, 0 + 2, none⟩ = some (.slice (some ⟨g4, 0, none⟩) es.length es.length)) := fun x g h2 hx =>
    (eqFeed_any f t _ _ es x (ents_below HV6.out hx) h2 hpl).mono fun e w' ⟨he, hb'⟩ => ⟨he, hx.trans (hb'.mono hx.size), HK.out _ (hx.trans (hb'.mono hx.size))⟩
  have hd : Below w6.heap.size w6 w6.drew := (Below.refl _ _).drew
  have hM : w4.heap.size < w6.heap.size := M6.lt
  have hL : w.heap.size < w6.heap.size := L6.lt
  clear HA6 HV6 L6 M6
  go_region_held (fun w' => w'.cell? ⟨w.heap.size, 0, none⟩ = some (.bool f) ∧ w'.cell? ⟨w.heap.size, 0 + 1, none⟩ = some (.string t) ∧ w'.cell? ⟨w.heap.size, 0 + 2, none⟩ = some (.slice a es.length cap) ∧ w'.cell? ⟨w4.heap.size, 0, none⟩ = some (.bool f) ∧ w'.cell? ⟨w4.heap.size, 0 + 1, none⟩ = some (.string t) ∧ w'.cell? ⟨w4.heap.size, 0 + 2, none⟩ = some (.slice (some ⟨g4, 0, none⟩) es.length es.length))
    (go_keep)
    (first | (go_at_call 6; refine (HT.out _ hd).mono ?_; rintro e w7 ⟨g7, rfl, h2, hb7, p0, p1, p2, p3, p4, p5⟩) | (go_at_call 8; refine (HE.out _ _ h2 hb7).mono ?_; rintro e w8 ⟨rfl, hb8, p0, p1, p2, p3, p4, p5⟩))
  go_wp2
  go_ret
  exact ⟨rfl, b6.trans (Below.mono (by assumption) b6.size)⟩
end Go.Proofs.YtbgoejalbhkmeaaDoor.fx
