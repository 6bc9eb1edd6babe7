/-
  Both NewImap functions answer alike, and the session that the program answers is its own memory; for every input.
-/
import Derived.Test.YtihiphoblmjpcaaImb
import Derived.Test.YtihiphoblmjpcaaRows
import Derived.WalkKit
import Derived.ProofKit
import Derived.OpenShut
import Derived.ShutString
import Derived.ChangeOld
import Derived.Below
namespace Go.Proofs.Ytihiphoblmjpcaa.fnExactNewImap
open Go.ChangeShapes Go.WideShapes Go.ChangeAt Go.RowKit
open Go.ChangeMaps (open_string shut_string)
set_option linter.unusedVariables false

theorem own : ownKnob Try.prog.godebug = none := by kernel_rfl

theorem walk  (w : World) :
    Calls Try.prog 3 #[] w fun e w' => e = .returned (.bool true) ∧ Below w.heap.size w w' := by
  go_enter Try.func3, Try.ntmps3
  go_wp2_with fail
  refine (im.spec_new _).mono ?_
  rintro e w1 ⟨⟨v, ⟨a, cp, rfl⟩, rfl⟩, b1⟩
  unfold im.IV
  go_wp2_with fail
  refine (im.impl_new _).mono ?_
  rintro e w2 ⟨⟨v2, ⟨a2, cp2, rfl⟩, rfl⟩, b2⟩
  unfold im.IV
  have L := (im.lies_new w1 24 im.N0 (.slice a 0 cp)).keep b2
  have b3 : Below w.heap.size w w2 := b1.trans (((im.new_below w1 24 _).trans (b2.mono (by simp))).mono b1.size)
  clear b1 b2
  have L' := L.keep (im.new_below w2 24 #[.int .i64 1, .string ⟨#[]⟩, .bool false, .slice a2 0 cp2])
  have M' : im.Lies (w2.alloc (.cells #[.int .i64 1, .string ⟨#[]⟩, .bool false, .slice a2 0 cp2] 24)) w2.heap.size 24 im.N0 (.slice a2 0 cp2) := im.lies_new w2 24 im.N0 (.slice a2 0 cp2)
  have b4 := b3.trans ((im.new_below w2 24 #[.int .i64 1, .string ⟨#[]⟩, .bool false, .slice a2 0 cp2]).mono b3.size)
  obtain ⟨G, hG⟩ : ∃ G, G = w2.heap.size := ⟨_, rfl⟩
  rw [← hG] at M'
  clear L b3
  have c0 := L'.c0
  have c1 := L'.c1
  have c2 := L'.c2
  have c3 := L'.c3
  unfold im.N0 at c0 c1 c2 ⊢
  simp only at c0 c1 c2 ⊢
  go_wp2_with fail
  rw [← hG]
  clear hG
  generalize w2.alloc _ = W2 at L' M' b4 c0 c1 c2 c3 ⊢
  refine (im.eqImap_same im.N0 _ _ W2 (im.no_reads ⟨a2, cp2, rfl⟩ _) (im.no_reads ⟨a, cp, rfl⟩ _) (by decide)).mono ?_
  rintro e w3 ⟨rfl, b5⟩
  have L3 := L'.keep b5
  have M3 := M'.keep b5
  have b6 := b4.trans (b5.mono b4.size)
  clear b4 b5 c0 c1 c2 c3 L' M'
  have c0 := M3.c0
  have c1 := M3.c1
  have c2 := M3.c2
  have c3 := M3.c3
  unfold im.N0 at c0 c1 c2
  simp only at c0 c1 c2
  go_wp2_with fail
  refine (im.mark_none im.N0 a2 cp2 _).mono ?_
  rintro e w4 ⟨rfl, b7⟩
  have L4 := L3.keep b7
  have M4 := M3.keep b7
  have b8 := b6.trans (b7.mono b6.size)
  clear b6 b7 c0 c1 c2 c3 L3 M3
  have c0 := M4.c0
  have c1 := M4.c1
  have c2 := M4.c2
  have c3 := M4.c3
  unfold im.N0 at c0 c1 c2
  simp only at c0 c1 c2
  go_wp2_with fail
  refine (im.held_none im.N0 a2 cp2 _).mono ?_
  rintro e w5 ⟨rfl, b9⟩
  have L5 := L4.keep b9
  have M5 := M4.keep b9
  have b10 := b8.trans (b9.mono b8.size)
  clear b8 b9 c0 c1 c2 c3 L4 M4
  go_wp2_with fail
  refine (im.impl_new _).mono ?_
  rintro e w6 ⟨⟨v6, ⟨a6, cp6, rfl⟩, rfl⟩, b11⟩
  unfold im.IV im.N0
  simp only
  have L6 := L5.keep b11
  have M6 := M5.keep b11
  have b12 := b10.trans (b11.mono b10.size)
  clear b10 b11 L5 M5
  have L7 := L6.keep (im.new_below w6 24 #[.int .i64 1, .string ⟨#[]⟩, .bool false, .slice a6 0 cp6])
  have M7 := M6.keep (im.new_below w6 24 #[.int .i64 1, .string ⟨#[]⟩, .bool false, .slice a6 0 cp6])
  have b13 := b12.trans ((im.new_below w6 24 #[.int .i64 1, .string ⟨#[]⟩, .bool false, .slice a6 0 cp6]).mono b12.size)
  clear L6 M6 b12
  have c0 := L7.c0
  have c1 := L7.c1
  have c2 := L7.c2
  have c3 := L7.c3
  unfold im.N0 at c0 c1 c2
  simp only at c0 c1 c2
  go_wp2_with fail
  generalize w6.alloc _ = W6 at L7 M7 b13 c0 c1 c2 c3 ⊢
  refine (im.eqImap_same im.N0 _ _ W6 (im.no_reads ⟨a6, cp6, rfl⟩ _) (im.no_reads ⟨a, cp, rfl⟩ _) (by decide)).mono ?_
  rintro e w8 ⟨rfl, b14⟩
  have M8 := M7.keep b14
  have b15 := b13.trans (b14.mono b13.size)
  clear b13 b14 c0 c1 c2 c3 L7 M7
  have c0 := M8.c0
  have c1 := M8.c1
  have c2 := M8.c2
  have c3 := M8.c3
  unfold im.N0 at c0 c1 c2
  simp only at c0 c1 c2
  go_wp2_with fail
  refine (im.held_none im.N0 a2 cp2 _).mono ?_
  rintro e w9 ⟨rfl, b16⟩
  have b17 := b15.trans (b16.mono b15.size)
  clear b15 b16 c0 c1 c2 c3 M8
  go_wp2
  go_ret
  exact ⟨rfl, b17⟩

set_option maxRecDepth 100000 in
theorem lifted (os : Os) (started : os.Started) (H : Type) (enc : TypeId × Value → H) :
    ReturnsInHanded {} Try.checked os 3 .any (Rows.fnExactNewImapSpec.pre6 enc Try.prog Try.f3 Rows.fnExactNewImapRow.domain false) (Rows.fnExactNewImapSpec.post enc Try.prog Try.f3 false true false false) := by
  refine returnsInHanded_of_change (C := Try.checked) own started (by kernel_rfl) Try.func3
    (ChangeSpec.witness6 (enc := enc) (C := Try.checked) false ⟨#[], #[], []⟩ 8 (by kernel_rfl) (by kernel_rfl) (by kernel_rfl) (by kernel_rfl)) ?_
  intro W base args ds gs before hval0 hW hcnd _
  have hval : ∀ (j : Nat) t v, Try.f3.params[j]? = some t → args[j]? = some v → Value.okWide Try.prog W .any base t v := hval0
  have hW' := hW
  obtain ⟨p, q, hA0, hV, rfl, hfz, hnd⟩ := hW
  have hA : DataW.TrodAll enc Try.prog W 0 (fun _ => true) true Try.f3.params.toList args.toList ds p := hA0
  rw [Try.params3] at hA hval
  obtain ⟨rfl, rfl, rfl⟩ := trodAll_none hA
  obtain ⟨rfl, rfl⟩ := trodVars_none hV
  clear hA0 hval0
  simp only [List.append_nil] at hW'
  refine (walk  W).mono fun e W' ⟨he, bel⟩ => ?_
  subst he
  exact ⟨_, rfl, _, _, _, [], [], [], hW', (trodAll_cons_mk (shut_bool Try.underlying4 _) trodAll_mk0), rfl, rfl, bel.frame _, fun h => by cases h⟩

theorem over : Rows.fnExactNewImapRow.holds Try.pinned (OpenSpec.ofChange Rows.fnExactNewImapSpec) :=
  OpenClaim.holds_of_wide 3 Try.f3 rfl rfl rfl rfl rfl rfl rfl ⟨rfl, rfl, rfl, rfl, rfl⟩ rfl rfl rfl rfl rfl (by kernel_rfl) Try.func3 (by kernel_rfl)
    (of_decide_eq_true (by kernel_rfl)) (by unfold Func.isWrapper; first | (rw [if_pos (by decide +kernel)]; kernel_rfl) | (rw [if_neg (by decide +kernel)]; exact ⟨rfl, rfl⟩))
    (fun os started H enc _ => lifted os started H enc)

theorem proved : Rows.FnExactNewImapSaid :=
  over
end Go.Proofs.Ytihiphoblmjpcaa.fnExactNewImap
namespace Go.Proofs.Ytihiphoblmjpcaa
theorem fnExactNewImap_holds : Rows.FnExactNewImapSaid := fnExactNewImap.proved
#print axioms fnExactNewImap_holds
end Go.Proofs.Ytihiphoblmjpcaa
