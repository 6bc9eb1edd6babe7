/-
  At every calendar the program's StampOf answers as the specification's.
-/
import Derived.Test.YtadnpnahomajiaaAcv
import Derived.Test.YtadnpnahomajiaaDwe
import Derived.WalkKit
import Derived.ProofKit
import Derived.OpenShut
import Derived.ChangeOld
import Derived.Below
namespace Go.Proofs.Ytadnpnahomajiaa.fnExactStampOf
open Go.ChangeShapes Go.WideShapes Go.ChangeAt Go.RowKit
set_option linter.unusedVariables false

theorem own : ownKnob Try.prog.godebug = none := by kernel_rfl

set_option maxHeartbeats 1000000 in
theorem walk (y m d h i s : Int) (w : World) :
    Calls Try.prog 4 #[dt.C6 y m d h i s] w fun e w' => e = .returned (.bool true) ∧ Below w.heap.size w w' := by
  go_enter Try.func4, Try.ntmps4
  unfold dt.C6
  go_wp2_with fail
  refine (ac.to_any y m d h i s _).mono ?_
  rintro e w1 ⟨rfl, b1⟩
  go_wp2_with fail
  refine (dw.spec_st y m d h i s _).mono ?_
  intro e w2 ha
  obtain ⟨a, c, rfl⟩ := dw.st_ex ha
  have b2 := ha.1
  have b3 := b1.trans (b2.mono b1.size)
  have hb : w2.heap[w.heap.size]? = some (.cells #[.int .i64 y, .int .i64 m, .int .i64 d, .int .i64 h, .int .i64 i, .int .i64 s] 23) := by
    rw [b3.block w.heap.size (by simp)]
    show (w.heap.push _)[w.heap.size]? = _
    simp
  have c0 : w2.cell? ⟨w.heap.size, 0, none⟩ = some (.int .i64 y) := by rw [cell_of_row _ _ _ _ _ _ hb]; rfl
  have c1 : w2.cell? ⟨w.heap.size, 0 + 1, none⟩ = some (.int .i64 m) := by rw [cell_of_row _ _ _ _ _ _ hb]; rfl
  have c2 : w2.cell? ⟨w.heap.size, 0 + 2, none⟩ = some (.int .i64 d) := by rw [cell_of_row _ _ _ _ _ _ hb]; rfl
  have c3 : w2.cell? ⟨w.heap.size, 0 + 3, none⟩ = some (.int .i64 h) := by rw [cell_of_row _ _ _ _ _ _ hb]; rfl
  have c4 : w2.cell? ⟨w.heap.size, 0 + 4, none⟩ = some (.int .i64 i) := by rw [cell_of_row _ _ _ _ _ _ hb]; rfl
  have c5 : w2.cell? ⟨w.heap.size, 0 + 5, none⟩ = some (.int .i64 s) := by rw [cell_of_row _ _ _ _ _ _ hb]; rfl
  have HA : Hid _ := ha
  clear ha
  go_wp2_with fail
  refine (ac.to_any y m d h i s _).mono ?_
  rintro e w3 ⟨rfl, b4⟩
  go_wp2_with fail
  refine (dw.impl_st y m d h i s _).mono ?_
  intro e w4 ha'
  obtain ⟨a', c', rfl⟩ := dw.st_ex ha'
  obtain ⟨rfl, rfl⟩ := dw.st_same ha' HA.out
  have b5 := ha'.1
  have b6 := ((Below.refl w.heap.size w).alloc (Nat.le_refl _) _).trans (b3.mono (by simp))
  have b7 := b4.trans (b5.mono b4.size)
  have b8 : Below w.heap.size w w4 := b6.trans (b7.mono b6.size)
  clear HA ha' b1 b2 b3 b4 b5 b6 b7 c0 c1 c2 c3 c4 c5 hb
  go_wp2
  go_ret
  exact ⟨rfl, b8⟩

set_option maxRecDepth 100000 in
theorem lifted (os : Os) (started : os.Started) (H : Type) (enc : TypeId × Value → H) :
    ReturnsInHanded {} Try.checked os 4 .any (Rows.fnExactStampOfSpec.pre6 enc Try.prog Try.f4 Rows.fnExactStampOfRow.domain false) (Rows.fnExactStampOfSpec.post enc Try.prog Try.f4 false true false false) := by
  refine returnsInHanded_of_change (C := Try.checked) own started (by kernel_rfl) Try.func4
    (ChangeSpec.witness6 (enc := enc) (C := Try.checked) false ⟨#[], #[.agg #[.int .i64 0, .int .i64 0, .int .i64 0, .int .i64 0, .int .i64 0, .int .i64 0]], []⟩ 8 (by kernel_rfl) (by kernel_rfl) (by kernel_rfl) (by kernel_rfl)) ?_
  intro W base args ds gs before hval0 hW hcnd _
  have hval : ∀ (j : Nat) t v, Try.f4.params[j]? = some t → args[j]? = some v → Value.okWide Try.prog W .any base t v := hval0
  have hW' := hW
  obtain ⟨p, q, hA0, hV, rfl, hfz, hnd⟩ := hW
  have hA : DataW.TrodAll enc Try.prog W 0 (fun _ => true) true Try.f4.params.toList args.toList ds p := hA0
  rw [Try.params4] at hA hval
  obtain ⟨v0, vs0, d0, ds0, p0, q0, hargs, rfl, rfl, h0, r0⟩ := trodAll_cons hA
  obtain ⟨rfl, rfl, rfl⟩ := trodAll_nil r0
  obtain rfl : args = #[v0] := by cases args; simp_all
  obtain ⟨rfl, rfl⟩ := trodVars_none hV
  obtain ⟨y, m, d, h, i, s, rfl, rfl, rfl, w0, w1, w2, w3, w4, w5⟩ := ac.open_civil (hval 0 23 v0 rfl rfl) h0
  clear hA0 hval0
  simp only [List.append_nil] at hW'
  refine (walk y m d h i s W).mono fun e W' ⟨he, bel⟩ => ?_
  subst he
  exact ⟨_, rfl, _, _, _, [], [], [], hW', (trodAll_cons_mk (shut_bool Try.underlying4 _) trodAll_mk0), (trodAll_cons_mk (ac.shut_civil w0 w1 w2 w3 w4 w5) trodAll_mk0), rfl, bel.frame _, fun h => by cases h⟩

theorem over : Rows.fnExactStampOfRow.holds Try.pinned (OpenSpec.ofChange Rows.fnExactStampOfSpec) :=
  OpenClaim.holds_of_wide 4 Try.f4 rfl rfl rfl rfl rfl rfl rfl ⟨rfl, rfl, rfl, rfl, rfl⟩ rfl rfl rfl rfl rfl (by kernel_rfl) Try.func4 (by kernel_rfl)
    (of_decide_eq_true (by kernel_rfl)) (by unfold Func.isWrapper; first | (rw [if_pos (by decide +kernel)]; kernel_rfl) | (rw [if_neg (by decide +kernel)]; exact ⟨rfl, rfl⟩))
    (fun os started H enc _ => lifted os started H enc)

theorem proved : Rows.FnExactStampOfSaid :=
  over
end Go.Proofs.Ytadnpnahomajiaa.fnExactStampOf
namespace Go.Proofs.Ytadnpnahomajiaa
theorem fnExactStampOf_holds : Rows.FnExactStampOfSaid := fnExactStampOf.proved
#print axioms fnExactStampOf_holds
end Go.Proofs.Ytadnpnahomajiaa
