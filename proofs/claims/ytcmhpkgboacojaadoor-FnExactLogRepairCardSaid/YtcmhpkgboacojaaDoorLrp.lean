/-
  Both LogRepair functions answer alike at every log; for every input.
-/
import Derived.Test.YtcmhpkgboacojaaDoorCards
import Derived.Test.YtcmhpkgboacojaaDoorTie
import Derived.Test.YtcmhpkgboacojaaDoorLgq
import Derived.WalkKit
import Derived.ProofKit
import Derived.OpenShut
import Derived.ShutString
import Derived.OpenVars
import Derived.ChangeOld
import Derived.Below
import Derived.Deep.DeepHandedRow
import Derived.Deep.DeepWitnessRowRef
import Derived.LaidMore
import Derived.Lib.LaidTab
import Derived.Stop.LaidTwo
namespace Go.Proofs.YtcmhpkgboacojaaDoor.fnExactLogRepair
open Go.ChangeShapes Go.WideShapes Go.ChangeAt Go.RowKit
open Go.ChangeMaps (open_string shut_string)
set_option linter.unusedVariables false

theorem own : ownKnob Tryd.prog.godebug = none := by kernel_rfl
theorem laidOut : laidOutB Tryd.prog = true := by kernel_rfl

set_option maxHeartbeats 4000000 in
set_option maxRecDepth 100000 in
theorem walk (r0 : Int) (dd0 : ByteArray) (s0 : Int) (hr0 : lg.In r0) (hd0 : dd0.size ≤ maxLen) (hs0 : lg.In s0) (w : World)  (ec eb : Addr) (eca ecb : Array Value) (eta etb : TypeId) (hS : lg.Errs w ec eb eca ecb eta etb) :
    Calls Tryd.prog 4 #[lg.LV r0 dd0 s0] w fun e w' => e = .returned (.bool true) ∧ Below w.heap.size w w' := by
  have L0 := lg.lies_new w 23 r0 dd0 s0
  have b0 := lg.new_below w 23 #[.int .i64 r0, .string dd0, .int .i64 s0]
  have HS0 : Hid (lg.Errs w ec eb eca ecb eta etb) := hS
  clear hS
  unfold lg.LV
  go_enter Tryd.func4, Tryd.ntmps4
  go_wp2_with fail
  generalize w.alloc _ = w0 at L0 b0 ⊢
  refine (lg.szLog_any r0 dd0 s0 w0 hd0).mono ?_
  rintro e w1 ⟨⟨z, rfl, hz0, hz1, hz2⟩, hb1⟩
  have L1 := L0.keep hb1
  have b1 := b0.trans (hb1.mono b0.size)
  clear hb1 L0 b0
  by_cases hz : z < 0
  · go_wp2
    go_ret
    exact ⟨rfl, b1⟩
  have hd2 : dd0.size ≤ 1048576 := by omega
  have HS := fun W => lg.spec_repair r0 dd0 s0 W hr0 hd2 hs0
  have HP := fun (W : World) (hW : lg.Errs W ec eb eca ecb eta etb) => lg.impl_repair r0 dd0 s0 W ec eb eca ecb eta etb hr0 hd2 hs0 hW
  obtain ⟨r', d', s', c, hx0⟩ := lg.repair_form r0 dd0 s0
  rw [hx0] at HS HP
  have HS' : Hid _ := HS
  have HP' : Hid _ := HP
  have hcc : (c != c) = false := by simp
  clear HS HP hx0 hr0 hs0
  have c0 := L1.c0
  have c1 := L1.c1
  have c2 := L1.c2
  go_wp2_with fail
  refine (lg.toLog_any r0 dd0 s0 w1).mono ?_
  rintro e w2 ⟨rfl, hb2⟩
  have L2 := L1.keep hb2
  have b2 := b1.trans (hb2.mono b1.size)
  clear hb2 L1 b1 c0 c1 c2
  go_wp2_with fail
  refine (HS'.out w2).mono ?_
  rintro e w3 ⟨rfl, hb3⟩
  have b3 := b2.trans (hb3.mono b2.size)
  have L3 := (L2.keep hb3).keep (lg.new_below w3 28 #[.int .i64 r', .string d', .int .i64 s'])
  have M3 := lg.lies_new w3 28 r' d' s'
  have b4 := b3.trans ((lg.new_below w3 28 #[.int .i64 r', .string d', .int .i64 s']).mono b3.size)
  clear hb3 L2 b2 b3
  have c0 := L3.c0
  have c1 := L3.c1
  have c2 := L3.c2
  unfold lg.RV lg.LV
  go_wp2_with fail
  generalize w3.heap.size = B at M3 ⊢
  generalize w3.alloc _ = w4 at L3 M3 b4 c0 c1 c2 ⊢
  refine (lg.toLog_any r0 dd0 s0 w4).mono ?_
  rintro e w5 ⟨rfl, hb5⟩
  have M5 := M3.keep hb5
  have b5 := b4.trans (hb5.mono b4.size)
  clear hb5 L3 M3 b4 c0 c1 c2
  go_wp2_with fail
  refine (HP'.out w5 (HS0.out.keep b5)).mono ?_
  rintro e w6 ⟨rfl, hb6⟩
  have b6 := b5.trans (hb6.mono b5.size)
  have M6 := (M5.keep hb6).keep (lg.new_below w6 28 #[.int .i64 r', .string d', .int .i64 s'])
  have b7 := b6.trans ((lg.new_below w6 28 #[.int .i64 r', .string d', .int .i64 s']).mono b6.size)
  clear hb6 M5 b5 b6
  have c0 := M6.c0
  have c1 := M6.c1
  have c2 := M6.c2
  unfold lg.RV lg.LV
  go_wp2_with fail
  refine (lg.eqLog_same r' d' s' _).mono ?_
  rintro e w8 ⟨rfl, b8⟩
  have b9 := b7.trans (b8.mono b7.size)
  clear b7 b8 c0 c1 c2 M6
  go_wp2
  go_ret
  exact ⟨rfl, b9⟩

set_option maxRecDepth 100000 in
theorem gC : Tryd.prog.globalNamed ((Rows.fnExactLogRecordsRow.laid.map (·.1)).getD 0 "") = some 1 := by kernel_rfl
theorem gW : Tryd.prog.globalNamed ((Rows.fnExactLogRecordsRow.laid.map (·.1)).getD 1 "") = some 0 := by kernel_rfl
theorem errs_of (W : World) (hL : laidMet Tryd.prog Rows.fnExactLogRepairRow.laid W) : ∃ (c b : Addr) (ca cb : Array Value) (ta tb : TypeId), lg.Errs W c b ca cb ta tb := by
  obtain ⟨a0, a1, s0, s1, c0, c1, t0, t1, hv0, hv1, hc0, hs0, hz0, hc1, hs1, hz1, hne, hb0, hb1⟩ := laid_sentinels2 (ti := 47) hL gC (by kernel_rfl) gW (by kernel_rfl) Tryd.underlying47 (fun u h => typeName_ptr_named (nm := "errors.errorString") (by kernel_rfl) (by kernel_rfl) (by decide) u (h.trans (congrArg some (by decide)))) Tryd.underlying96 Tryd.underlying118 rfl rfl Tryd.underlying9 (by kernel_rfl) (by kernel_rfl)
  have hg0 : W.cell? ⟨1, 0, none⟩ = some (.iface 96 (.pointer (some a0))) := by simpa using World.var?_cell gC hv0 0
  have hg1 : W.cell? ⟨0, 0, none⟩ = some (.iface 96 (.pointer (some a1))) := by simpa using World.var?_cell gW hv1 0
  exact ⟨a0, a1, c0, c1, t0, t1, hg0, hg1, hne, hb0, hb1⟩

set_option maxRecDepth 100000 in
theorem contract (H : Type) (enc : TypeId × Value → H) (W : World) (base : Nat) (args : Array Value) (ds gs : List (DataW H)) (before : List MemPlace)
    (hval : ∀ (j : Nat) t v, Tryd.f4.params[j]? = some t → args[j]? = some v → Value.okWide Tryd.prog W .any base t v)
    (hW : DataW.Whole enc Tryd.prog Tryd.f4.params.toList Rows.fnExactLogRepairSpec.vars false W args.toList ds gs before) (hL : laidMetH Tryd.prog Rows.fnExactLogRepairRow.laid W) (hsh : W.ShapedOpen Tryd.prog) :
    Calls Tryd.prog 4 args W fun e W' => ∃ v, e = .returned v ∧ Rows.fnExactLogRepairSpec.post enc Tryd.prog Tryd.f4 false true false false W args v W' := by
  have hW' := hW
  obtain ⟨p, q, hA0, hV, rfl, hfz, hnd⟩ := hW
  have hA : DataW.TrodAll enc Tryd.prog W 0 (fun _ => true) true Tryd.f4.params.toList args.toList ds p := hA0
  rw [Tryd.params4] at hA hval
  obtain ⟨v0, vs0, d0, ds0, p0, q0, hargs0, rfl, rfl, h0, r0⟩ := trodAll_cons hA
  obtain ⟨hnil, rfl, rfl⟩ := trodAll_nil r0
  obtain rfl : args = #[v0] := by cases args; simp_all
  have k0 := h0
  have lt0 : ∀ x ∈ p0, x.block < W.heap.size := by obtain ⟨m, hm⟩ := k0; exact DataW.trod_lt m _ _ _ hm
  obtain ⟨r0, dd0, s0, rfl, hr0, hd0, hs0⟩ := lg.open_log (hval 0 23 v0 rfl rfl) h0
  clear hA0
  simp only [List.append_nil] at hW'
  have hLL : laidMet Tryd.prog Rows.fnExactLogRepairRow.laid W := hL
  obtain ⟨g, t, cs, fuel, d, pp, g2, t2, cs2, fuel2, d2, pp2, rfl, _⟩ := trodVars_two hV
  have hS := errs_of W hLL
  obtain ⟨ec, eb, eca, ecb, eta, etb, hS⟩ := hS
  refine (walk r0 dd0 s0 hr0 hd0 hs0 W  _ _ _ _ _ _ hS).mono fun e W' ⟨he, bel⟩ => ?_
  subst he
  exact ⟨_, rfl, _, _, _, [], _, _, hW', trodAll_cons_mk (shut_bool Tryd.underlying4 _) trodAll_mk0, (trodAll_cons_mk (Below.trod laidOut (by kernel_rfl) (of_decide_eq_true (by kernel_rfl)) k0 bel lt0) trodAll_mk0), Below.trodVars laidOut bel (by kernel_rfl) hV, bel.frame _, fun h => by cases h⟩
set_option maxRecDepth 100000 in
theorem laid_met (os : Os) : laidMet Tryd.prog Rows.fnExactLogRepairRow.laid ((World.doorLaid Tryd.prog 47 os).forCall (fun _ _ => 0) ⟨#[], #[Value.agg #[.int .i64 0, .string .empty, .int .i64 0]], []⟩).memory :=
  laidMet_of_run' 8 (by kernel_rfl) (by kernel_rfl)
theorem reads (os : Os) {H : Type} (enc : TypeId × Value → H) : (DataW.whole enc Tryd.prog ((World.doorLaid Tryd.prog 47 os).forCall (fun _ _ => 0) ⟨#[], #[Value.agg #[.int .i64 0, .string .empty, .int .i64 0]], []⟩).memory Tryd.f4.params.toList Rows.fnExactLogRepairSpec.vars false #[Value.agg #[.int .i64 0, .string .empty, .int .i64 0]].toList 8).isSome = true := by kernel_rfl

set_option maxRecDepth 100000 in
theorem lifted (os : Os) (started : os.Started) (H : Type) (enc : TypeId × Value → H) (F : Stop.Interp) :
    ReturnsInHanded {} Tryd.checked os 4 .any ((OpenSpec.ofChange Rows.fnExactLogRepairSpec).preRow enc Tryd.prog Tryd.f4 Rows.fnExactLogRepairRow.domain false Rows.fnExactLogRepairRow.laid) (((OpenSpec.ofChange Rows.fnExactLogRepairSpec).at F).post enc Tryd.prog Tryd.f4 false true false false) := by
  obtain ⟨x, hx⟩ := Option.isSome_iff_exists.1 (reads os enc)
  refine returnsInHanded_of_row (C := Tryd.checked) (s := OpenSpec.ofChange Rows.fnExactLogRepairSpec) own started (by kernel_rfl) Tryd.func4
    (witness_row_atRef (enc := enc) (C := Tryd.checked) false (World.doorLaid Tryd.prog 47 os) #[Value.agg #[.int .i64 0, .string .empty, .int .i64 0]] rfl (by kernel_rfl) (by kernel_rfl) (by kernel_rfl)
      (OpenSpec.preRow_of_cond 8 hx (by kernel_rfl) (fun k hk => by cases hk) (by kernel_rfl) (laid_met os))) ?_
  intro W base args ds gs before hval hW _ _ _ hL hsh _
  exact contract H enc W base args ds gs before hval hW hL hsh

theorem said : Rows.FnExactLogRepairSaid :=
  OpenClaim.holds_of_cond 4 Tryd.f4 rfl rfl rfl rfl rfl rfl rfl ⟨rfl, rfl, rfl, rfl, rfl⟩ rfl rfl rfl rfl rfl (by kernel_rfl) Tryd.func4 (by kernel_rfl)
    (of_decide_eq_true (by kernel_rfl)) (by unfold Func.isWrapper; first | (rw [if_pos (by decide +kernel)]; kernel_rfl) | (rw [if_neg (by decide +kernel)]; exact ⟨rfl, rfl⟩))
    (fun os started H enc _ F => by rw [OpenClaim.pre_eq_preRow]; exact lifted os started H enc F)

theorem plain (f : FuncId) (fn : Func) (hf : Tryd.pinned.checked.prog.funcNamed Rows.fnExactLogRepairRow.func = some f) (hfn : Tryd.pinned.checked.prog.funcs[f]? = some fn) :
    true = Tryd.pinned.checked.prog.looks [] ∧ ∀ (j : Nat) t, fn.params[j]? = some t → Tryd.pinned.checked.prog.wantsStandIn t = false := by
  obtain rfl : f = 4 := Option.some.inj ((show Tryd.prog.funcNamed Rows.fnExactLogRepairRow.func = some 4 by kernel_rfl).symm.trans hf) |>.symm
  obtain rfl : fn = Tryd.f4 := (Option.some.inj (Tryd.func4.symm.trans hfn)).symm
  refine ⟨by kernel_rfl, fun j t ht => ?_⟩
  rw [Tryd.params4] at ht
  obtain rfl : t = 23 := by simpa using Array.mem_of_getElem? ht
  exact (show Tryd.prog.wantsStandIn 23 = false by kernel_rfl)

theorem card : Rows.FnExactLogRepairCardSaid :=
  Claim7.holds_tied_plain_at .later [] _ _ _ _ said (fun _ h => by cases h) (by kernel_rfl) (fun _ h => by cases h) fnExactLogRepair_row_tie rfl ⟨rfl, rfl⟩ (by kernel_rfl) rfl plain (by kernel_rfl)
end Go.Proofs.YtcmhpkgboacojaaDoor.fnExactLogRepair
namespace Go.Proofs.YtcmhpkgboacojaaDoor
theorem fnExactLogRepair_card : Rows.FnExactLogRepairCardSaid := fnExactLogRepair.card
#print axioms fnExactLogRepair_card
end Go.Proofs.YtcmhpkgboacojaaDoor
