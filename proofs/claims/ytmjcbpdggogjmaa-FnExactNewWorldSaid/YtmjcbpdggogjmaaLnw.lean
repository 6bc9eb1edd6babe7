/-
  At every room NewWorld answers as the specification, field by field, and its answer owns its memory.
-/
import Derived.Test.YtmjcbpdggogjmaaCne
import Derived.Test.YtmjcbpdggogjmaaRows
import Derived.WalkKit
import Derived.ProofKit
import Derived.OpenShut
import Derived.ShutString
import Derived.ChangeOld
import Derived.Below
namespace Go.Proofs.Ytmjcbpdggogjmaa.fnExactNewWorld
open Go.ChangeShapes Go.WideShapes Go.ChangeAt Go.RowKit
open Go.ChangeMaps (open_string shut_string)
set_option linter.unusedVariables false

theorem own : ownKnob Try.prog.godebug = none := by kernel_rfl

theorem walk (a0 : Int) (w0 : (Lit.int .i64 a0).wf = true) (w : World) :
    Calls Try.prog 3 #[.int .i64 a0] w fun e w' => e = .returned (.bool true) ∧ Below w.heap.size w w' := by
  go_enter Try.func3, Try.ntmps3
  go_wp2_with fail
  refine (cn.spec_nw a0 _).mono ?_
  rintro e w1 ⟨⟨x, rfl, hN⟩, b1⟩
  rcases hN with ⟨hr, rfl⟩ | ⟨hr, a, cp, g, rfl, hg, hR⟩
  · have HQ : Hid (¬ (0 ≤ a0 ∧ a0 ≤ 60000)) := hr
    clear hr
    unfold cn.WV
    have L := cn.liesW_new w1 0 ⟨#[]⟩ 0 (.slice none 0 0) (.slice none 0 0)
    have b2 := b1.trans ((lg.new_below w1 29 #[.int .i64 0, .string ⟨#[]⟩, .int .i64 0, .slice none 0 0, .slice none 0 0]).mono b1.size)
    clear b1
    obtain ⟨P, hP⟩ : ∃ P, P = w1.heap.size := ⟨_, rfl⟩
    rw [← hP] at L
    go_wp2_with fail
    rw [← hP]
    clear hP
    generalize w1.alloc _ = W1 at L b2 ⊢
    refine (cn.impl_nw a0 _).mono ?_
    rintro e w2 ⟨⟨x, rfl, hN⟩, b3⟩
    rcases hN with ⟨hr, rfl⟩ | ⟨hr, _⟩
    case inr => exact absurd hr HQ.out
    clear hr
    unfold cn.WV
    have L' := (L.keep b3).keep (lg.new_below w2 29 #[.int .i64 0, .string ⟨#[]⟩, .int .i64 0, .slice none 0 0, .slice none 0 0])
    have M := cn.liesW_new w2 0 ⟨#[]⟩ 0 (.slice none 0 0) (.slice none 0 0)
    have b4 := b2.trans (b3.mono b2.size)
    have b5 := b4.trans ((lg.new_below w2 29 #[.int .i64 0, .string ⟨#[]⟩, .int .i64 0, .slice none 0 0, .slice none 0 0]).mono b4.size)
    clear L b2 b3 b4
    obtain ⟨G, hG⟩ : ∃ G, G = w2.heap.size := ⟨_, rfl⟩
    rw [← hG] at M
    have c0 := L'.c0
    have c1 := L'.c1
    have c2 := L'.c2
    have c3 := L'.c3
    have c4 := L'.c4
    go_wp2_with fail
    rw [← hG]
    clear hG
    generalize w2.alloc _ = W2 at L' M b5 c0 c1 c2 c3 c4 ⊢
    refine (cn.eqW_any 0 ⟨#[]⟩ 0 none none 0 0 none none 0 0 0 0 _ (fun w' _ => cn.eqConnS_none w')).mono ?_
    rintro e w3 ⟨rfl, b6⟩
    have L3 := L'.keep b6
    have M3 := M.keep b6
    have b7 := b5.trans (b6.mono b5.size)
    clear b5 b6 c0 c1 c2 c3 c4 L' M
    have c0 := M3.c0
    have c1 := M3.c1
    have c2 := M3.c2
    have c3 := M3.c3
    have c4 := M3.c4
    go_wp2_with fail
    refine (cn.markW_none 0 ⟨#[]⟩ 0 none 0 _).mono ?_
    rintro e w4 ⟨rfl, b8⟩
    have L4 := L3.keep b8
    have M4 := M3.keep b8
    have b9 := b7.trans (b8.mono b7.size)
    clear b7 b8 c0 c1 c2 c3 c4 L3 M3
    have c0 := M4.c0
    have c1 := M4.c1
    have c2 := M4.c2
    have c3 := M4.c3
    have c4 := M4.c4
    go_wp2_with fail
    refine (cn.heldW_any 0 ⟨#[]⟩ 0 none 0 none 0 0 1 _ (by omega) (fun w' _ => (cn.heldConnS_none w').mono (by rintro e w'' ⟨rfl, rfl⟩; exact ⟨rfl, Below.refl _ _⟩))).mono ?_
    rintro e w5 ⟨rfl, b10⟩
    have L5 := L4.keep b10
    have M5 := M4.keep b10
    have b11 := b9.trans (b10.mono b9.size)
    clear b9 b10 c0 c1 c2 c3 c4 L4 M4
    go_wp2_with fail
    refine (cn.impl_nw a0 _).mono ?_
    rintro e w6 ⟨⟨x, rfl, hN⟩, b12⟩
    rcases hN with ⟨hr, rfl⟩ | ⟨hr, _⟩
    case inr => exact absurd hr HQ.out
    clear hr
    unfold cn.WV
    have L6 := (L5.keep b12).keep (lg.new_below w6 29 #[.int .i64 0, .string ⟨#[]⟩, .int .i64 0, .slice none 0 0, .slice none 0 0])
    have M6 := (M5.keep b12).keep (lg.new_below w6 29 #[.int .i64 0, .string ⟨#[]⟩, .int .i64 0, .slice none 0 0, .slice none 0 0])
    have b13 := b11.trans (b12.mono b11.size)
    have b14 := b13.trans ((lg.new_below w6 29 #[.int .i64 0, .string ⟨#[]⟩, .int .i64 0, .slice none 0 0, .slice none 0 0]).mono b13.size)
    clear L5 M5 b11 b12 b13
    have c0 := L6.c0
    have c1 := L6.c1
    have c2 := L6.c2
    have c3 := L6.c3
    have c4 := L6.c4
    go_wp2_with fail
    generalize w6.alloc _ = W6 at L6 M6 b14 c0 c1 c2 c3 c4 ⊢
    refine (cn.eqW_any 0 ⟨#[]⟩ 0 none none 0 0 none none 0 0 0 0 _ (fun w' _ => cn.eqConnS_none w')).mono ?_
    rintro e w8 ⟨rfl, b15⟩
    have M8 := M6.keep b15
    have b16 := b14.trans (b15.mono b14.size)
    clear b14 b15 c0 c1 c2 c3 c4 L6 M6
    have c0 := M8.c0
    have c1 := M8.c1
    have c2 := M8.c2
    have c3 := M8.c3
    have c4 := M8.c4
    go_wp2_with fail
    refine (cn.heldW_any 0 ⟨#[]⟩ 0 none 0 none 0 0 1 _ (by omega) (fun w' _ => (cn.heldConnS_none w').mono (by rintro e w'' ⟨rfl, rfl⟩; exact ⟨rfl, Below.refl _ _⟩))).mono ?_
    rintro e w9 ⟨rfl, b17⟩
    have b18 := b16.trans (b17.mono b16.size)
    clear b16 b17 c0 c1 c2 c3 c4 M8
    go_wp2
    go_ret
    exact ⟨rfl, b18⟩
  · have HQ : Hid (0 ≤ a0 ∧ a0 ≤ 60000) := hr
    have HB : Hid (w.heap.size ≤ g) := hg
    clear hr hg
    unfold cn.WV
    have L := cn.liesW_new w1 a0 ⟨#[]⟩ 0 (.slice a 0 cp) (.slice (some ⟨g, 0, none⟩) 4 4)
    have b2 := b1.trans ((lg.new_below w1 29 #[.int .i64 a0, .string ⟨#[]⟩, .int .i64 0, .slice a 0 cp, .slice (some ⟨g, 0, none⟩) 4 4]).mono b1.size)
    have HR : Hid (cn.Row (w1.alloc (.cells #[.int .i64 a0, .string ⟨#[]⟩, .int .i64 0, .slice a 0 cp, .slice (some ⟨g, 0, none⟩) 4 4] 29)) g cn.zf) := hR.below (lg.new_below w1 29 _)
    clear b1 hR
    obtain ⟨P, hP⟩ : ∃ P, P = w1.heap.size := ⟨_, rfl⟩
    rw [← hP] at L
    go_wp2_with fail
    rw [← hP]
    clear hP
    generalize w1.alloc _ = W1 at L b2 HR ⊢
    refine (cn.impl_nw a0 _).mono ?_
    rintro e w2 ⟨⟨x, rfl, hN⟩, b3⟩
    rcases hN with ⟨hr, _⟩ | ⟨hr, a2, cp2, g2, rfl, hg2, hR2⟩
    case inl => exact absurd HQ.out hr
    clear hr
    unfold cn.WV
    have hPg : P < g2 := Nat.lt_of_lt_of_le L.lt hg2
    have hgg : g < g2 := Nat.lt_of_lt_of_le HR.out.lt hg2
    have hwg : w.heap.size ≤ g2 := Nat.le_trans b2.size hg2
    have L' := (L.keep b3).keep (lg.new_below w2 29 #[.int .i64 a0, .string ⟨#[]⟩, .int .i64 0, .slice a2 0 cp2, .slice (some ⟨g2, 0, none⟩) 4 4])
    have M := cn.liesW_new w2 a0 ⟨#[]⟩ 0 (.slice a2 0 cp2) (.slice (some ⟨g2, 0, none⟩) 4 4)
    have b4 := b2.trans (b3.mono b2.size)
    have b5 := b4.trans ((lg.new_below w2 29 #[.int .i64 a0, .string ⟨#[]⟩, .int .i64 0, .slice a2 0 cp2, .slice (some ⟨g2, 0, none⟩) 4 4]).mono b4.size)
    have hMg : g2 < w2.heap.size := hR2.lt
    have HR1 : Hid (cn.Row (w2.alloc (.cells #[.int .i64 a0, .string ⟨#[]⟩, .int .i64 0, .slice a2 0 cp2, .slice (some ⟨g2, 0, none⟩) 4 4] 29)) g cn.zf ∧ cn.Row (w2.alloc (.cells #[.int .i64 a0, .string ⟨#[]⟩, .int .i64 0, .slice a2 0 cp2, .slice (some ⟨g2, 0, none⟩) 4 4] 29)) g2 cn.zf) := ⟨(HR.out.below b3).below (lg.new_below w2 29 _), hR2.below (lg.new_below w2 29 _)⟩
    clear L b2 b3 b4 HR hR2 hg2
    obtain ⟨G, hG⟩ : ∃ G, G = w2.heap.size := ⟨_, rfl⟩
    rw [← hG] at M hMg
    have HNE : Hid (P ≠ g2 ∧ G ≠ g2 ∧ g ≠ g2 ∧ w.heap.size ≤ g2) := ⟨by omega, by omega, by omega, hwg⟩
    clear hPg hgg hwg hMg
    have c0 := L'.c0
    have c1 := L'.c1
    have c2 := L'.c2
    have c3 := L'.c3
    have c4 := L'.c4
    go_wp2_with fail
    rw [← hG]
    clear hG
    generalize w2.alloc _ = W2 at L' M b5 c0 c1 c2 c3 c4 HR1 ⊢
    refine (cn.eqW_any a0 ⟨#[]⟩ 0 a2 a cp2 cp (some ⟨g2, 0, none⟩) (some ⟨g, 0, none⟩) 4 4 4 4 _ (fun w' hb => cn.eqConnS_zero g2 g w' (HR1.out.2.below hb) (HR1.out.1.below hb))).mono ?_
    rintro e w3 ⟨rfl, b6⟩
    have L3 := L'.keep b6
    have M3 := M.keep b6
    have HR3 : Hid (cn.Row w3 g cn.zf ∧ cn.Row w3 g2 cn.zf) := ⟨HR1.out.1.below b6, HR1.out.2.below b6⟩
    have b7 := b5.trans (b6.mono b5.size)
    clear b5 b6 c0 c1 c2 c3 c4 L' M HR1
    have c0 := M3.c0
    have c1 := M3.c1
    have c2 := M3.c2
    have c3 := M3.c3
    have c4 := M3.c4
    go_wp2_with fail
    refine (cn.markW_row a0 ⟨#[]⟩ 0 a2 cp2 g2 _ HR3.out.2).mono ?_
    rintro e w4 ⟨rfl, f, hU, hA⟩
    have L4 := L3.other hA.2 HNE.out.1
    have M4 := M3.other hA.2 HNE.out.2.1
    have b9 := cn.grown_bel b7 hA.2 HNE.out.2.2.2 b7.size
    have HR4 : Hid (cn.Row w4 g cn.zf ∧ cn.Row w4 g2 f ∧ cn.Upto f 4) := ⟨HR3.out.1.other hA.2 HNE.out.2.2.1, hA.1, hU⟩
    clear b7 hA hU c0 c1 c2 c3 c4 L3 M3 HR3
    have c0 := M4.c0
    have c1 := M4.c1
    have c2 := M4.c2
    have c3 := M4.c3
    have c4 := M4.c4
    go_wp2_with fail
    refine (cn.heldW_any a0 ⟨#[]⟩ 0 a2 cp2 (some ⟨g2, 0, none⟩) 4 4 33 _ (by omega) (fun w' hb => cn.heldConnS_any g2 f w' (HR4.out.2.1.below hb) HR4.out.2.2)).mono ?_
    rintro e w5 ⟨rfl, b10⟩
    have L5 := L4.keep b10
    have M5 := M4.keep b10
    have HR5 : Hid (cn.Row w5 g cn.zf ∧ cn.Row w5 g2 f ∧ cn.Upto f 4) := ⟨HR4.out.1.below b10, HR4.out.2.1.below b10, HR4.out.2.2⟩
    have b11 := b9.trans (b10.mono b9.size)
    clear b9 b10 c0 c1 c2 c3 c4 L4 M4 HR4
    go_wp2_with fail
    refine (cn.impl_nw a0 _).mono ?_
    rintro e w6 ⟨⟨x, rfl, hN⟩, b12⟩
    rcases hN with ⟨hr, _⟩ | ⟨hr, a3, cp3, g3, rfl, hg3, hR3⟩
    case inl => exact absurd HQ.out hr
    clear hr hg3
    unfold cn.WV
    have L6 := (L5.keep b12).keep (lg.new_below w6 29 #[.int .i64 a0, .string ⟨#[]⟩, .int .i64 0, .slice a3 0 cp3, .slice (some ⟨g3, 0, none⟩) 4 4])
    have M6 := (M5.keep b12).keep (lg.new_below w6 29 #[.int .i64 a0, .string ⟨#[]⟩, .int .i64 0, .slice a3 0 cp3, .slice (some ⟨g3, 0, none⟩) 4 4])
    have b13 := b11.trans (b12.mono b11.size)
    have b14 := b13.trans ((lg.new_below w6 29 #[.int .i64 a0, .string ⟨#[]⟩, .int .i64 0, .slice a3 0 cp3, .slice (some ⟨g3, 0, none⟩) 4 4]).mono b13.size)
    have HR6 : Hid (cn.Row (w6.alloc (.cells #[.int .i64 a0, .string ⟨#[]⟩, .int .i64 0, .slice a3 0 cp3, .slice (some ⟨g3, 0, none⟩) 4 4] 29)) g cn.zf ∧ cn.Row (w6.alloc (.cells #[.int .i64 a0, .string ⟨#[]⟩, .int .i64 0, .slice a3 0 cp3, .slice (some ⟨g3, 0, none⟩) 4 4] 29)) g2 f ∧ cn.Row (w6.alloc (.cells #[.int .i64 a0, .string ⟨#[]⟩, .int .i64 0, .slice a3 0 cp3, .slice (some ⟨g3, 0, none⟩) 4 4] 29)) g3 cn.zf ∧ cn.Upto f 4) := ⟨(HR5.out.1.below b12).below (lg.new_below w6 29 _), (HR5.out.2.1.below b12).below (lg.new_below w6 29 _), hR3.below (lg.new_below w6 29 _), HR5.out.2.2⟩
    clear L5 M5 b11 b12 b13 HR5 hR3
    have c0 := L6.c0
    have c1 := L6.c1
    have c2 := L6.c2
    have c3 := L6.c3
    have c4 := L6.c4
    go_wp2_with fail
    generalize w6.alloc _ = W6 at L6 M6 b14 c0 c1 c2 c3 c4 HR6 ⊢
    refine (cn.eqW_any a0 ⟨#[]⟩ 0 a3 a cp3 cp (some ⟨g3, 0, none⟩) (some ⟨g, 0, none⟩) 4 4 4 4 _ (fun w' hb => cn.eqConnS_zero g3 g w' (HR6.out.2.2.1.below hb) (HR6.out.1.below hb))).mono ?_
    rintro e w8 ⟨rfl, b15⟩
    have M8 := M6.keep b15
    have HR8 : Hid (cn.Row w8 g2 f ∧ cn.Upto f 4) := ⟨HR6.out.2.1.below b15, HR6.out.2.2.2⟩
    have b16 := b14.trans (b15.mono b14.size)
    clear b14 b15 c0 c1 c2 c3 c4 L6 M6 HR6
    have c0 := M8.c0
    have c1 := M8.c1
    have c2 := M8.c2
    have c3 := M8.c3
    have c4 := M8.c4
    go_wp2_with fail
    refine (cn.heldW_any a0 ⟨#[]⟩ 0 a2 cp2 (some ⟨g2, 0, none⟩) 4 4 33 _ (by omega) (fun w' hb => cn.heldConnS_any g2 f w' (HR8.out.1.below hb) HR8.out.2)).mono ?_
    rintro e w9 ⟨rfl, b17⟩
    have b18 := b16.trans (b17.mono b16.size)
    clear b16 b17 c0 c1 c2 c3 c4 M8
    go_wp2
    go_ret
    exact ⟨rfl, b18⟩

set_option maxRecDepth 100000 in
theorem lifted (os : Os) (started : os.Started) (H : Type) (enc : TypeId × Value → H) :
    ReturnsInHanded {} Try.checked os 3 .any (Rows.fnExactNewWorldSpec.pre6 enc Try.prog Try.f3 Rows.fnExactNewWorldRow.domain false) (Rows.fnExactNewWorldSpec.post enc Try.prog Try.f3 false true false false) := by
  refine returnsInHanded_of_change (C := Try.checked) own started (by kernel_rfl) Try.func3
    (ChangeSpec.witness6 (enc := enc) (C := Try.checked) false ⟨#[], #[.int .i64 0], []⟩ 8 (by kernel_rfl) (by kernel_rfl) (by kernel_rfl) (by kernel_rfl)) ?_
  intro W base args ds gs before hval0 hW hcnd _
  have hval : ∀ (j : Nat) t v, Try.f3.params[j]? = some t → args[j]? = some v → Value.okWide Try.prog W .any base t v := hval0
  have hW' := hW
  obtain ⟨p, q, hA0, hV, rfl, hfz, hnd⟩ := hW
  have hA : DataW.TrodAll enc Try.prog W 0 (fun _ => true) true Try.f3.params.toList args.toList ds p := hA0
  rw [Try.params3] at hA hval
  obtain ⟨v0, vs0, d0, ds0, p0, q0, hargs, rfl, rfl, h0, r0⟩ := trodAll_cons hA
  obtain ⟨rfl, rfl, rfl⟩ := trodAll_nil r0
  obtain rfl : args = #[v0] := by cases args; simp_all
  obtain ⟨rfl, rfl⟩ := trodVars_none hV
  obtain ⟨a0, rfl, rfl, rfl, w0⟩ := open_int Try.underlying3 (hval 0 3 v0 rfl rfl) h0
  clear hA0 hval0
  simp only [List.append_nil] at hW'
  refine (walk a0 w0 W).mono fun e W' ⟨he, bel⟩ => ?_
  subst he
  exact ⟨_, rfl, _, _, _, [], [], [], hW', (trodAll_cons_mk (shut_bool Try.underlying4 _) trodAll_mk0), (trodAll_cons_mk (shut_int Try.underlying3 w0) trodAll_mk0), rfl, bel.frame _, fun h => by cases h⟩

theorem over : Rows.fnExactNewWorldRow.holds Try.pinned (OpenSpec.ofChange Rows.fnExactNewWorldSpec) :=
  OpenClaim.holds_of_wide 3 Try.f3 rfl rfl rfl rfl rfl rfl rfl ⟨rfl, rfl, rfl, rfl, rfl⟩ rfl rfl rfl rfl rfl (by kernel_rfl) Try.func3 (by kernel_rfl)
    (of_decide_eq_true (by kernel_rfl)) (by unfold Func.isWrapper; first | (rw [if_pos (by decide +kernel)]; kernel_rfl) | (rw [if_neg (by decide +kernel)]; exact ⟨rfl, rfl⟩))
    (fun os started H enc _ => lifted os started H enc)

theorem proved : Rows.FnExactNewWorldSaid :=
  over
end Go.Proofs.Ytmjcbpdggogjmaa.fnExactNewWorld
namespace Go.Proofs.Ytmjcbpdggogjmaa
theorem fnExactNewWorld_holds : Rows.FnExactNewWorldSaid := fnExactNewWorld.proved
#print axioms fnExactNewWorld_holds
end Go.Proofs.Ytmjcbpdggogjmaa
