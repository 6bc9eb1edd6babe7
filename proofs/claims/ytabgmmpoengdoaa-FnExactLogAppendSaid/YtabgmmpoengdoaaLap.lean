/-
  Both LogAppend functions answer alike at every log and every record; for every input.
-/
import Derived.Test.YtabgmmpoengdoaaLgi
import Derived.WalkKit
import Derived.ProofKit
import Derived.OpenShut
import Derived.ChangeOld
import Derived.Below
import Derived.Carry
import Derived.Lib.SmallJoins
namespace Go.Proofs.Ytabgmmpoengdoaa.fnExactLogAppend
open Go.ChangeShapes Go.WideShapes Go.ChangeAt Go.RowKit Go.Joins Go.Deep
set_option linter.unusedVariables false

theorem own : ownKnob Try.prog.godebug = none := by kernel_rfl
theorem laidOut : laidOutB Try.prog = true := by kernel_rfl

open lg
set_option maxHeartbeats 1000000 in
set_option maxRecDepth 100000 in
theorem walk (r : Int) (d : ByteArray) (s : Int) (x : ByteArray) (w : World) (hr : In r) (hd : d.size ≤ maxLen) (hs : In s) (hx : x.size ≤ maxLen) :
    Calls Try.prog 5 #[LV r d s, .string x] w fun e w' => e = .returned (.bool true) ∧ Below w.heap.size w w' := by
  have L0 := lies_new w 28 r d s
  have b0 := new_below w 28 #[.int .i64 r, .string d, .int .i64 s]
  unfold maxLen at hx
  unfold LV
  by_cases hxl : 1048576 < x.size
  · go_enter Try.func5, Try.ntmps5
    go_wp2
    go_ret
    exact ⟨rfl, b0⟩
  have hxs : x.size ≤ 1048576 := by omega
  go_enter Try.func5, Try.ntmps5
  go_wp2_with fail
  generalize w.alloc _ = w0 at L0 b0 ⊢
  refine (szLog_any r d s w0 hd).mono ?_
  rintro e w1 ⟨⟨z, rfl, hz0, hz1, hz2⟩, hb1⟩
  have L1 := L0.keep hb1
  have b1 := b0.trans (hb1.mono b0.size)
  clear hb1 L0 b0
  by_cases hz : z < 0
  · go_wp2
    go_ret
    exact ⟨rfl, b1⟩
  have hd2 : d.size ≤ 1048576 := by omega
  have HS := fun W => spec_app r d s x W hr hd2 hs hxs
  have HP := fun W => impl_app r d s x W hr hd2 hs hxs
  obtain ⟨r', d', s', c, hx0⟩ := app_form r d s x
  rw [hx0] at HS HP
  have HS' : Hid _ := HS
  have HP' : Hid _ := HP
  have hcc : (c != c) = false := by simp
  clear HS HP hx0 hr hs
  have c0 := L1.c0
  have c1 := L1.c1
  have c2 := L1.c2
  go_wp2_with fail
  refine (toLog_any r d s w1).mono ?_
  rintro e w2 ⟨rfl, hb2⟩
  have L2 := L1.keep hb2
  have b2 := b1.trans (hb2.mono b1.size)
  clear hb2 L1 b1 c0 c1 c2
  go_wp2_with fail
  refine (HS'.out w2).mono ?_
  rintro e w3 ⟨rfl, hb3⟩
  have b3 := b2.trans (hb3.mono b2.size)
  have L3 := (L2.keep hb3).keep (new_below w3 23 #[.int .i64 r', .string d', .int .i64 s'])
  have M3 := lies_new w3 23 r' d' s'
  have b4 := b3.trans ((new_below w3 23 #[.int .i64 r', .string d', .int .i64 s']).mono b3.size)
  clear hb3 L2 b2 b3
  have c0 := L3.c0
  have c1 := L3.c1
  have c2 := L3.c2
  unfold RV LV
  go_wp2_with fail
  generalize w3.heap.size = B at M3 ⊢
  generalize w3.alloc _ = w4 at L3 M3 b4 c0 c1 c2 ⊢
  refine (toLog_any r d s w4).mono ?_
  rintro e w5 ⟨rfl, hb5⟩
  have M5 := M3.keep hb5
  have b5 := b4.trans (hb5.mono b4.size)
  clear hb5 L3 M3 b4 c0 c1 c2
  go_wp2_with fail
  refine (HP'.out w5).mono ?_
  rintro e w6 ⟨rfl, hb6⟩
  have b6 := b5.trans (hb6.mono b5.size)
  have M6 := (M5.keep hb6).keep (new_below w6 23 #[.int .i64 r', .string d', .int .i64 s'])
  have b7 := b6.trans ((new_below w6 23 #[.int .i64 r', .string d', .int .i64 s']).mono b6.size)
  clear hb6 M5 b5 b6
  have c0 := M6.c0
  have c1 := M6.c1
  have c2 := M6.c2
  unfold RV LV
  go_wp2_with fail
  refine (eqLog_same r' d' s' _).mono ?_
  rintro e w8 ⟨rfl, b8⟩
  have b9 := b7.trans (b8.mono b7.size)
  clear b7 b8 c0 c1 c2 M6
  go_wp2
  go_ret
  exact ⟨rfl, b9⟩

set_option maxRecDepth 100000 in
theorem lifted (os : Os) (started : os.Started) (H : Type) (enc : TypeId × Value → H) :
    ReturnsInHanded {} Try.checked os 5 .any (Rows.fnExactLogAppendSpec.pre6 enc Try.prog Try.f5 Rows.fnExactLogAppendRow.domain false) (Rows.fnExactLogAppendSpec.post enc Try.prog Try.f5 false true false false) := by
  refine returnsInHanded_of_change (C := Try.checked) own started (by kernel_rfl) Try.func5
    (ChangeSpec.witness6 (enc := enc) (C := Try.checked) false ⟨#[], #[.agg #[.int .i64 0, .string ⟨#[]⟩, .int .i64 0], .string ⟨#[]⟩], []⟩ 8 (by kernel_rfl) (by kernel_rfl) (by kernel_rfl) (by kernel_rfl)) ?_
  intro W base args ds gs before hval0 hW hcnd _
  have hval : ∀ (j : Nat) t v, Try.f5.params[j]? = some t → args[j]? = some v → Value.okWide Try.prog W .any base t v := hval0
  have hW' := hW
  obtain ⟨p, q, hA0, hV, rfl, hfz, hnd⟩ := hW
  have hA : DataW.TrodAll enc Try.prog W 0 (fun _ => true) true Try.f5.params.toList args.toList ds p := hA0
  rw [Try.params5] at hA hval
  obtain ⟨v0, vs0, d0, ds0, p0, q0, hargs, rfl, rfl, h0, r0⟩ := trodAll_cons hA
  obtain ⟨v1, vs1, d1, ds1, p1, q1, rfl, rfl, rfl, h1, r1⟩ := trodAll_cons r0
  obtain ⟨rfl, rfl, rfl⟩ := trodAll_nil r1
  obtain rfl : args = #[v0, v1] := by cases args; simp_all
  obtain ⟨rfl, rfl⟩ := trodVars_none hV
  have k0 := h0
  have lt0 : ∀ x ∈ p0, x.block < W.heap.size := by obtain ⟨m, hm⟩ := k0; exact DataW.trod_lt m _ _ _ hm
  obtain ⟨r, d, s, rfl, hr, hd, hs⟩ := lg.open_log (hval 0 28 v0 rfl rfl) h0
  have k1 := h1
  have lt1 : ∀ x ∈ p1, x.block < W.heap.size := by obtain ⟨m, hm⟩ := k1; exact DataW.trod_lt m _ _ _ hm
  obtain ⟨x, rfl⟩ := okWide_string Try.underlying9 (hval 1 9 v1 rfl rfl)
  obtain ⟨fu, h1⟩ := h1
  obtain ⟨x', e4, _, hx⟩ := DataW.trod_string Try.underlying9 h1
  simp [Value.cells] at e4
  subst e4
  clear hA0 hval0
  refine (walk r d s x W hr hd hs hx).mono fun e W' ⟨he, bel⟩ => ?_
  subst he
  exact ⟨_, rfl, _, _, _, [], _, [], hW', trodAll_mk1 (shut_bool Try.underlying4 _), (trodAll_cons_mk (Below.trod laidOut (by kernel_rfl) (of_decide_eq_true (by kernel_rfl)) k0 bel lt0) (trodAll_cons_mk (Below.trod laidOut (by kernel_rfl) (of_decide_eq_true (by kernel_rfl)) k1 bel lt1) trodAll_mk0)), rfl, bel.frame _, fun h => by cases h⟩

theorem over : Rows.fnExactLogAppendRow.holds Try.pinned (OpenSpec.ofChange Rows.fnExactLogAppendSpec) :=
  OpenClaim.holds_of_wide 5 Try.f5 rfl rfl rfl rfl rfl rfl rfl ⟨rfl, rfl, rfl, rfl, rfl⟩ rfl rfl rfl rfl rfl (by kernel_rfl) Try.func5 (by kernel_rfl)
    (of_decide_eq_true (by kernel_rfl)) (by unfold Func.isWrapper; first | (rw [if_pos (by decide +kernel)]; kernel_rfl) | (rw [if_neg (by decide +kernel)]; exact ⟨rfl, rfl⟩))
    (fun os started H enc _ => lifted os started H enc)

theorem proved : Rows.FnExactLogAppendSaid := over
end Go.Proofs.Ytabgmmpoengdoaa.fnExactLogAppend
namespace Go.Proofs.Ytabgmmpoengdoaa
theorem fnExactLogAppend_holds : Rows.FnExactLogAppendSaid := fnExactLogAppend.proved
#print axioms fnExactLogAppend_holds
end Go.Proofs.Ytabgmmpoengdoaa
