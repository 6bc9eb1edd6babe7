/-
  Both LogRecords functions answer alike at every log; for every input.
-/
import Derived.Test.YtcmhpkgboacojaaDoorCards
import Derived.Test.YtcmhpkgboacojaaDoorTie
import Derived.Test.YtcmhpkgboacojaaDoorLgt
import Derived.WalkKit
import Derived.ProofKit
import Derived.OpenShut
import Derived.ShutString
import Derived.OpenVars
import Derived.ChangeOld
import Derived.Below
import Derived.Deep.DeepHandedRow
import Derived.Deep.DeepWitnessRowRef
import Derived.LaidMore
import Derived.Lib.LaidTab
import Derived.Stop.LaidTwo
namespace Go.Proofs.YtcmhpkgboacojaaDoor.fnExactLogRecords
open Go.ChangeShapes Go.WideShapes Go.ChangeAt Go.RowKit
open Go.ChangeMaps (open_string shut_string)
set_option linter.unusedVariables false

theorem own : ownKnob Tryd.prog.godebug = none := by kernel_rfl
theorem laidOut : laidOutB Tryd.prog = true := by kernel_rfl

set_option maxHeartbeats 4000000 in
set_option maxRecDepth 100000 in
theorem walk (r0 : Int) (dd0 : ByteArray) (s0 : Int) (hr0 : lg.In r0) (hd0 : dd0.size ≤ maxLen) (hs0 : lg.In s0) (w : World)  (ec eb : Addr) (eca ecb : Array Value) (eta etb : TypeId) (hS : lg.Errs w ec eb eca ecb eta etb) :
    Calls Tryd.prog 3 #[lg.LV r0 dd0 s0] w fun e w' => e = .returned (.bool true) ∧ Below w.heap.size w w' := by
  have L0 := lg.lies_new w 23 r0 dd0 s0
  have b0 := lg.new_below w 23 #[.int .i64 r0, .string dd0, .int .i64 s0]
  have HS0 : Hid (lg.Errs w ec eb eca ecb eta etb) := hS
  clear hS
  unfold lg.LV
  go_enter Tryd.func3, Tryd.ntmps3
  go_wp2_with fail
  generalize w.alloc _ = w0 at L0 b0 ⊢
  have HL0 : Hid (lg.LiesL w0 w.heap.size 23 r0 dd0 s0) := L0
  have HB0 : Hid (Below w.heap.size w w0) := b0
  clear L0
  refine (lg.szLog_any r0 dd0 s0 w0 hd0).mono ?_
  rintro e w1 ⟨⟨z, rfl, hz0, hz1, hz2⟩, d1⟩
  by_cases hz : z < 0
  · go_wp2
    go_ret
    exact ⟨rfl, b0.trans (d1.mono b0.size)⟩
  have hd2 : dd0.size ≤ 1048576 := by omega
  have hol : (lg.recR r0 dd0 s0).1.length ≤ 1048576 := Nat.le_trans (lg.recR_len r0 dd0 s0) hd2
  have HS := fun W => lg.spec_recs r0 dd0 s0 W hr0 hd2 hs0
  have HP := fun (W : World) (hW : lg.Errs W ec eb eca ecb eta etb) => lg.impl_recs r0 dd0 s0 W ec eb eca ecb eta etb hr0 hd2 hs0 hW
  obtain ⟨⟨ks, P, Q⟩, hRR⟩ : ∃ R, lg.recR r0 dd0 s0 = R := ⟨_, rfl⟩
  rw [hRR] at HS HP hol
  simp only at HS HP hol
  have HS' : Hid _ := HS
  have HP' : Hid _ := HP
  have hpp : ((P : Int) != P) = false := by simp
  have hqq : ((Q : Int) != Q) = false := by simp
  have HT : Hid (∀ W, Calls Tryd.prog 9 #[.agg #[.int .i64 r0, .string dd0, .int .i64 s0]] W fun e w' => e = .returned (lg.LV r0 dd0 s0) ∧ Below W.heap.size W w') := fun W => lg.toLog_any r0 dd0 s0 W
  clear HS HP hRR hr0 hs0
  have c0 := (HL0.out.keep d1).c0
  have c1 := (HL0.out.keep d1).c1
  have c2 := (HL0.out.keep d1).c2
  go_wp2_with fail
  refine (HT.out w1).mono ?_
  rintro e w2 ⟨rfl, hb2⟩
  have d2 := d1.trans (hb2.mono d1.size)
  clear hb2 d1 c0 c1 c2
  go_wp2_with fail
  refine (HS'.out w2).mono ?_
  rintro e w3 ⟨⟨r1, rfl, ho1⟩, hb3⟩
  have d3 := d2.trans (hb3.mono d2.size)
  have H1 : Hid (ky.OwnT w3 w2.heap.size r1 ks) := ho1
  clear hb3 d2 ho1
  have c0 := (HL0.out.keep d3).c0
  have c1 := (HL0.out.keep d3).c1
  have c2 := (HL0.out.keep d3).c2
  go_wp2_with fail
  refine (HT.out w3).mono ?_
  rintro e w5 ⟨rfl, hb4⟩
  have H1' : Hid (ky.OwnT w5 w2.heap.size r1 ks) := ow.own_below H1.out hb4
  have d5 := d3.trans (hb4.mono d3.size)
  clear hb4 d3 c0 c1 c2 H1
  go_wp2_with fail
  refine (HP'.out w5 (HS0.out.keep (HB0.out.trans (d5.mono HB0.out.size)))).mono ?_
  rintro e w6 ⟨⟨r2, rfl, ho2⟩, hb6⟩
  have HAP : Hid (r1.ownBlock = none ∨ r1.ownBlock ≠ r2.ownBlock) := ow.apart H1'.out ho2
  have H1 : Hid (ky.OwnT w6 w2.heap.size r1 ks) := ow.own_below H1'.out hb6
  have d6 := d5.trans (hb6.mono d5.size)
  have HB6 : Hid (w0.heap.size ≤ w5.heap.size) := d5.size
  have H2 : Hid (ky.OwnT w6 w5.heap.size r2 ks) := ho2
  clear hb6 d5 ho2 H1'
  go_wp2_with fail
  refine (ky.eqTexts_any r2 r1 ks w6 (ky.own_texts H2.out) (ky.own_texts H1.out) (by omega)).mono ?_
  rintro e w11 ⟨rfl, hb7⟩
  have H1y : Hid (ky.OwnT w11 w2.heap.size r1 ks) := ow.own_below H1.out hb7
  have H2y : Hid (ky.OwnT w11 w5.heap.size r2 ks) := ow.own_below H2.out hb7
  have d11 := d6.trans (hb7.mono d6.size)
  clear hb7 d6 H1 H2
  go_wp2_with fail
  refine (mk.markTexts_any r2 w5.heap.size ks 1 w11 H2y.out (by omega) (by omega) (by omega)).mono ?_
  rintro e w12 ⟨rfl, ho, hg⟩
  have H2x : Hid (ky.OwnT w12 w5.heap.size r2 (mk.marks 1 ks.length)) := ho
  have H1x : Hid (ky.OwnT w12 w2.heap.size r1 ks) := lg.own_grown H1y.out hg HAP.out
  have d12 := d11.grown hg d11.size (fun j hj => Nat.le_trans HB6.out (ow.own_lt H2y.out j hj))
  clear ho hg d11 H1y H2y
  go_wp2_with fail
  refine (mk.heldTexts_any r2 ks.length 1 w12 (ky.own_texts H2x.out) (by omega) (by omega) (by omega)).mono ?_
  rintro e w13 ⟨rfl, hb13⟩
  have H1y : Hid (ky.OwnT w13 w2.heap.size r1 ks) := ow.own_below H1x.out hb13
  have H2y : Hid (ky.OwnT w13 w5.heap.size r2 (mk.marks 1 ks.length)) := ow.own_below H2x.out hb13
  have d13 := d12.trans (hb13.mono d12.size)
  clear hb13 d12 H1x H2x
  have hneg2 : decide (1 + (ks.length : Int) < 0) = false := decide_eq_false (by omega)
  have hsame : ((1 + (ks.length : Int)) != 1 + (ks.length : Int)) = false := by simp
  have c0 := (HL0.out.keep d13).c0
  have c1 := (HL0.out.keep d13).c1
  have c2 := (HL0.out.keep d13).c2
  go_wp2_with fail
  refine (HT.out w13).mono ?_
  rintro e w14 ⟨rfl, hb14⟩
  have H1x : Hid (ky.OwnT w14 w2.heap.size r1 ks) := ow.own_below H1y.out hb14
  have H2x : Hid (ky.OwnT w14 w5.heap.size r2 (mk.marks 1 ks.length)) := ow.own_below H2y.out hb14
  have d14 := d13.trans (hb14.mono d13.size)
  clear hb14 d13 H1y H2y c0 c1 c2
  go_wp2_with fail
  refine (HP'.out w14 (HS0.out.keep (HB0.out.trans (d14.mono HB0.out.size)))).mono ?_
  rintro e w15 ⟨⟨r3, rfl, ho3⟩, hb15⟩
  have H3 : Hid (ky.OwnT w15 w14.heap.size r3 ks) := ho3
  have H1y : Hid (ky.OwnT w15 w2.heap.size r1 ks) := ow.own_below H1x.out hb15
  have H2y : Hid (ky.OwnT w15 w5.heap.size r2 (mk.marks 1 ks.length)) := ow.own_below H2x.out hb15
  have d15 := d14.trans (hb15.mono d14.size)
  clear hb15 d14 H1x H2x ho3
  go_wp2_with fail
  refine (ky.eqTexts_any r3 r1 ks w15 (ky.own_texts H3.out) (ky.own_texts H1y.out) (by omega)).mono ?_
  rintro e w16 ⟨rfl, hb16⟩
  have H2x : Hid (ky.OwnT w16 w5.heap.size r2 (mk.marks 1 ks.length)) := ow.own_below H2y.out hb16
  have d16 := d15.trans (hb16.mono d15.size)
  clear hb16 d15 H2y H1y H3
  go_wp2_with fail
  refine (mk.heldTexts_any r2 ks.length 1 w16 (ky.own_texts H2x.out) (by omega) (by omega) (by omega)).mono ?_
  rintro e w17 ⟨rfl, hb17⟩
  have d17 := d16.trans (hb17.mono d16.size)
  clear hb17 d16 H2x
  go_wp2
  go_ret
  exact ⟨rfl, b0.trans (d17.mono b0.size)⟩

set_option maxRecDepth 100000 in
theorem gC : Tryd.prog.globalNamed ((Rows.fnExactLogRecordsRow.laid.map (·.1)).getD 0 "") = some 1 := by kernel_rfl
theorem gW : Tryd.prog.globalNamed ((Rows.fnExactLogRecordsRow.laid.map (·.1)).getD 1 "") = some 0 := by kernel_rfl
theorem errs_of (W : World) (hL : laidMet Tryd.prog Rows.fnExactLogRecordsRow.laid W) : ∃ (c b : Addr) (ca cb : Array Value) (ta tb : TypeId), lg.Errs W c b ca cb ta tb := by
  obtain ⟨a0, a1, s0, s1, c0, c1, t0, t1, hv0, hv1, hc0, hs0, hz0, hc1, hs1, hz1, hne, hb0, hb1⟩ := laid_sentinels2 (ti := 47) hL gC (by kernel_rfl) gW (by kernel_rfl) Tryd.underlying47 (fun u h => typeName_ptr_named (nm := "errors.errorString") (by kernel_rfl) (by kernel_rfl) (by decide) u (h.trans (congrArg some (by decide)))) Tryd.underlying96 Tryd.underlying118 rfl rfl Tryd.underlying9 (by kernel_rfl) (by kernel_rfl)
  have hg0 : W.cell? ⟨1, 0, none⟩ = some (.iface 96 (.pointer (some a0))) := by simpa using World.var?_cell gC hv0 0
  have hg1 : W.cell? ⟨0, 0, none⟩ = some (.iface 96 (.pointer (some a1))) := by simpa using World.var?_cell gW hv1 0
  exact ⟨a0, a1, c0, c1, t0, t1, hg0, hg1, hne, hb0, hb1⟩

set_option maxRecDepth 100000 in
theorem contract (H : Type) (enc : TypeId × Value → H) (W : World) (base : Nat) (args : Array Value) (ds gs : List (DataW H)) (before : List MemPlace)
    (hval : ∀ (j : Nat) t v, Tryd.f3.params[j]? = some t → args[j]? = some v → Value.okWide Tryd.prog W .any base t v)
    (hW : DataW.Whole enc Tryd.prog Tryd.f3.params.toList Rows.fnExactLogRecordsSpec.vars false W args.toList ds gs before) (hL : laidMetH Tryd.prog Rows.fnExactLogRecordsRow.laid W) (hsh : W.ShapedOpen Tryd.prog) :
    Calls Tryd.prog 3 args W fun e W' => ∃ v, e = .returned v ∧ Rows.fnExactLogRecordsSpec.post enc Tryd.prog Tryd.f3 false true false false W args v W' := by
  have hW' := hW
  obtain ⟨p, q, hA0, hV, rfl, hfz, hnd⟩ := hW
  have hA : DataW.TrodAll enc Tryd.prog W 0 (fun _ => true) true Tryd.f3.params.toList args.toList ds p := hA0
  rw [Tryd.params3] at hA hval
  obtain ⟨v0, vs0, d0, ds0, p0, q0, hargs0, rfl, rfl, h0, r0⟩ := trodAll_cons hA
  obtain ⟨hnil, rfl, rfl⟩ := trodAll_nil r0
  obtain rfl : args = #[v0] := by cases args; simp_all
  have k0 := h0
  have lt0 : ∀ x ∈ p0, x.block < W.heap.size := by obtain ⟨m, hm⟩ := k0; exact DataW.trod_lt m _ _ _ hm
  obtain ⟨r0, dd0, s0, rfl, hr0, hd0, hs0⟩ := lg.open_log (hval 0 23 v0 rfl rfl) h0
  clear hA0
  simp only [List.append_nil] at hW'
  have hLL : laidMet Tryd.prog Rows.fnExactLogRecordsRow.laid W := hL
  obtain ⟨g, t, cs, fuel, d, pp, g2, t2, cs2, fuel2, d2, pp2, rfl, _⟩ := trodVars_two hV
  have hS := errs_of W hLL
  obtain ⟨ec, eb, eca, ecb, eta, etb, hS⟩ := hS
  refine (walk r0 dd0 s0 hr0 hd0 hs0 W  _ _ _ _ _ _ hS).mono fun e W' ⟨he, bel⟩ => ?_
  subst he
  exact ⟨_, rfl, _, _, _, [], _, _, hW', trodAll_cons_mk (shut_bool Tryd.underlying4 _) trodAll_mk0, (trodAll_cons_mk (Below.trod laidOut (by kernel_rfl) (of_decide_eq_true (by kernel_rfl)) k0 bel lt0) trodAll_mk0), Below.trodVars laidOut bel (by kernel_rfl) hV, bel.frame _, fun h => by cases h⟩
set_option maxRecDepth 100000 in
theorem laid_met (os : Os) : laidMet Tryd.prog Rows.fnExactLogRecordsRow.laid ((World.doorLaid Tryd.prog 47 os).forCall (fun _ _ => 0) ⟨#[], #[Value.agg #[.int .i64 0, .string .empty, .int .i64 0]], []⟩).memory :=
  laidMet_of_run' 8 (by kernel_rfl) (by kernel_rfl)
theorem reads (os : Os) {H : Type} (enc : TypeId × Value → H) : (DataW.whole enc Tryd.prog ((World.doorLaid Tryd.prog 47 os).forCall (fun _ _ => 0) ⟨#[], #[Value.agg #[.int .i64 0, .string .empty, .int .i64 0]], []⟩).memory Tryd.f3.params.toList Rows.fnExactLogRecordsSpec.vars false #[Value.agg #[.int .i64 0, .string .empty, .int .i64 0]].toList 8).isSome = true := by kernel_rfl

set_option maxRecDepth 100000 in
theorem lifted (os : Os) (started : os.Started) (H : Type) (enc : TypeId × Value → H) (F : Stop.Interp) :
    ReturnsInHanded {} Tryd.checked os 3 .any ((OpenSpec.ofChange Rows.fnExactLogRecordsSpec).preRow enc Tryd.prog Tryd.f3 Rows.fnExactLogRecordsRow.domain false Rows.fnExactLogRecordsRow.laid) (((OpenSpec.ofChange Rows.fnExactLogRecordsSpec).at F).post enc Tryd.prog Tryd.f3 false true false false) := by
  obtain ⟨x, hx⟩ := Option.isSome_iff_exists.1 (reads os enc)
  refine returnsInHanded_of_row (C := Tryd.checked) (s := OpenSpec.ofChange Rows.fnExactLogRecordsSpec) own started (by kernel_rfl) Tryd.func3
    (witness_row_atRef (enc := enc) (C := Tryd.checked) false (World.doorLaid Tryd.prog 47 os) #[Value.agg #[.int .i64 0, .string .empty, .int .i64 0]] rfl (by kernel_rfl) (by kernel_rfl) (by kernel_rfl)
      (OpenSpec.preRow_of_cond 8 hx (by kernel_rfl) (fun k hk => by cases hk) (by kernel_rfl) (laid_met os))) ?_
  intro W base args ds gs before hval hW _ _ _ hL hsh _
  exact contract H enc W base args ds gs before hval hW hL hsh

theorem said : Rows.FnExactLogRecordsSaid :=
  OpenClaim.holds_of_cond 3 Tryd.f3 rfl rfl rfl rfl rfl rfl rfl ⟨rfl, rfl, rfl, rfl, rfl⟩ rfl rfl rfl rfl rfl (by kernel_rfl) Tryd.func3 (by kernel_rfl)
    (of_decide_eq_true (by kernel_rfl)) (by unfold Func.isWrapper; first | (rw [if_pos (by decide +kernel)]; kernel_rfl) | (rw [if_neg (by decide +kernel)]; exact ⟨rfl, rfl⟩))
    (fun os started H enc _ F => by rw [OpenClaim.pre_eq_preRow]; exact lifted os started H enc F)

theorem plain (f : FuncId) (fn : Func) (hf : Tryd.pinned.checked.prog.funcNamed Rows.fnExactLogRecordsRow.func = some f) (hfn : Tryd.pinned.checked.prog.funcs[f]? = some fn) :
    true = Tryd.pinned.checked.prog.looks [] ∧ ∀ (j : Nat) t, fn.params[j]? = some t → Tryd.pinned.checked.prog.wantsStandIn t = false := by
  obtain rfl : f = 3 := Option.some.inj ((show Tryd.prog.funcNamed Rows.fnExactLogRecordsRow.func = some 3 by kernel_rfl).symm.trans hf) |>.symm
  obtain rfl : fn = Tryd.f3 := (Option.some.inj (Tryd.func3.symm.trans hfn)).symm
  refine ⟨by kernel_rfl, fun j t ht => ?_⟩
  rw [Tryd.params3] at ht
  obtain rfl : t = 23 := by simpa using Array.mem_of_getElem? ht
  exact (show Tryd.prog.wantsStandIn 23 = false by kernel_rfl)

theorem card : Rows.FnExactLogRecordsCardSaid :=
  Claim7.holds_tied_plain_at .later [] _ _ _ _ said (fun _ h => by cases h) (by kernel_rfl) (fun _ h => by cases h) fnExactLogRecords_row_tie rfl ⟨rfl, rfl⟩ (by kernel_rfl) rfl plain (by kernel_rfl)
end Go.Proofs.YtcmhpkgboacojaaDoor.fnExactLogRecords
namespace Go.Proofs.YtcmhpkgboacojaaDoor
theorem fnExactLogRecords_card : Rows.FnExactLogRecordsCardSaid := fnExactLogRecords.card
#print axioms fnExactLogRecords_card
end Go.Proofs.YtcmhpkgboacojaaDoor
