/-
  Both ReplayLog functions answer alike at every log, and the boxes that the program answers are its own memory, behind another call too; for every input.
-/
import Derived.Test.YtcnjgmeddkidaaaGreatDoorCards
import Derived.Test.YtcnjgmeddkidaaaGreatDoorTie
import Derived.Test.YtcnjgmeddkidaaaGreatDoorPkbv
import Derived.WalkKit
import Derived.ProofKit
import Derived.OpenShut
import Derived.ShutString
import Derived.OpenVars
import Derived.ChangeOld
import Derived.Below
import Derived.Deep.DeepHandedRow
import Derived.Deep.DeepWitnessRowRef
import Derived.LaidMore
import Derived.Lib.LaidTab
import Derived.Stop.LaidTwo

namespace Go.Proofs.YtcnjgmeddkidaaaGreatDoor.fnExactReplayLog
open Go.ChangeShapes Go.WideShapes Go.ChangeAt Go.RowKit
open Go.ChangeMaps (open_string shut_string)
set_option linter.unusedVariables false

theorem own : ownKnob Tryz.prog.godebug = none := by kernel_rfl
theorem laidOut : laidOutB Tryz.prog = true := by kernel_rfl

set_option maxHeartbeats 4000000 in
set_option maxRecDepth 100000 in
theorem walk (r0 : Int) (dd0 : ByteArray) (s0 : Int) (hr0 : lg.In r0) (hd0 : dd0.size ≤ maxLen) (hs0 : lg.In s0) (w : World)  (ec eb : Addr) (eca ecb : Array Value) (eta etb : TypeId) (hS : lg.Errs w ec eb eca ecb eta etb) :
    Calls Tryz.prog 3 #[lg.LV r0 dd0 s0] w fun e w' => e = .returned (.bool true) ∧ Below w.heap.size w w' := by
  have L0 := lg.lies_new w 23 r0 dd0 s0
  have b0 := lg.new_below w 23 #[.int .i64 r0, .string dd0, .int .i64 s0]
  have HS0 : Hid (lg.Errs w ec eb eca ecb eta etb) := hS
  clear hS
  unfold lg.LV
  go_enter Tryz.func3, Tryz.ntmps3
  go_wp2_with fail
  generalize w.alloc _ = w0 at L0 b0 ⊢
  have HL0 : Hid (lg.LiesL w0 w.heap.size 23 r0 dd0 s0) := L0
  have HB0 : Hid (Below w.heap.size w w0) := b0
  clear L0
  refine (lg.szLog_any r0 dd0 s0 w0 hd0).mono ?_
  rintro e w1 ⟨⟨z, rfl, hz0, hz1, hz2⟩, d1⟩
  by_cases hz : z < 0
  · go_wp2
    go_ret
    exact ⟨rfl, b0.trans (d1.mono b0.size)⟩
  have hd2 : dd0.size ≤ 1048576 := by omega
  have HS' : Hid (∀ W, Calls Tryz.prog 6 #[lg.LV r0 dd0 s0] W fun e w' => rp.RlRet r0 dd0 s0 W.heap.size e w' ∧ Below W.heap.size W w') := fun W => rp.specRl_any r0 dd0 s0 W hr0 hd2 hs0
  have HP' : Hid (∀ (W : World), lg.Errs W ec eb eca ecb eta etb → Calls Tryz.prog 8 #[lg.LV r0 dd0 s0] W fun e w' => rp.RlRet r0 dd0 s0 W.heap.size e w' ∧ Below W.heap.size W w') := fun W hW => rp.implRl_any r0 dd0 s0 W ec eb eca ecb eta etb hr0 hd2 hs0 hW
  have HT : Hid (∀ W, Calls Tryz.prog 7 #[.agg #[.int .i64 r0, .string dd0, .int .i64 s0]] W fun e w' => e = .returned (lg.LV r0 dd0 s0) ∧ Below W.heap.size W w') := fun W => lg.toLog_any r0 dd0 s0 W
  clear hr0 hs0
  have c0 := (HL0.out.keep d1).c0
  have c1 := (HL0.out.keep d1).c1
  have c2 := (HL0.out.keep d1).c2
  go_wp2_with fail
  refine (HT.out w1).mono ?_
  rintro e w2 ⟨rfl, hb2⟩
  have d2 := d1.trans (hb2.mono d1.size)
  clear hb2 d1 c0 c1 c2
  go_wp2_with fail
  refine (HS'.out w2).mono ?_
  rintro e w3 ⟨⟨L1, ys, us, n, c, rfl, hR1, hO1, hsm, hso⟩, hb3⟩
  obtain ⟨Sa, Sn, Sc, rfl⟩ := bl.slice_fine (bx.own_fine hO1.1)
  have d3 := d2.trans (hb3.mono d2.size)
  have HR1 : Hid (rp.RlIs r0 dd0 s0 ys n c) := hR1
  have HO1 : Hid (bl.OwnL w3 w2.heap.size (.slice Sa Sn Sc) ys us) := hO1
  have HYS : Hid (bx.Smalls ys ∧ ml.Few ys) := ⟨hsm, rp.few_sok hso⟩
  clear hb3 d2 hO1 hR1 hsm hso
  have c0 := (HL0.out.keep d3).c0
  have c1 := (HL0.out.keep d3).c1
  have c2 := (HL0.out.keep d3).c2
  go_wp2_with fail
  refine (HT.out w3).mono ?_
  rintro e w5 ⟨rfl, hb4⟩
  have HC5 : Hid (Below w3.heap.size w3 w5) := hb4
  have d5 := d3.trans (hb4.mono d3.size)
  clear hb4 c0 c1 c2
  go_wp2_with fail
  refine (HP'.out w5 (HS0.out.keep (HB0.out.trans (d5.mono HB0.out.size)))).mono ?_
  rintro e w6 ⟨⟨L2, ys2, ug, n2, cc2, rfl, hR2, hO2, _, _⟩, hb6⟩
  obtain ⟨rfl, rfl, rfl⟩ := rp.rl_one hR2 HR1.out
  obtain ⟨Ga, Gn, Gc, rfl⟩ := bl.slice_fine (bx.own_fine hO2.1)
  have HG6 : Hid (bl.OwnL w6 w5.heap.size (.slice Ga Gn Gc) ys2 ug) := hO2
  have HC6 : Hid (Below w3.heap.size w3 w6) := HC5.out.trans (hb6.mono HC5.out.size)
  have HS6 : Hid (w5.heap.size ≤ w6.heap.size ∧ w3.heap.size ≤ w5.heap.size) := ⟨hb6.size, HC5.out.size⟩
  have hnn : ((n2 : Int) != n2) = false := by simp
  have hcc : ((cc2 : Int) != cc2) = false := by simp
  clear hb6 d5 hO2 hR2 HC5
  go_wp2_with fail
  refine (bx.eqBoxS_any _ _ ys2 ug us w6 (bl.ownL_boxes HG6.out) (bl.ownL_boxes (bl.ownL_below HO1.out HC6.out)) HYS.out.1).mono ?_
  rintro e w7 ⟨rfl, hb7⟩
  have HG7 : Hid (bl.OwnL w7 w5.heap.size (.slice Ga Gn Gc) ys2 ug) := bl.ownL_below HG6.out hb7
  have HC7 : Hid (Below w3.heap.size w3 w7) := HC6.out.trans (hb7.mono HC6.out.size)
  have HS7 : Hid (w5.heap.size ≤ w7.heap.size) := Nat.le_trans HS6.out.1 hb7.size
  clear hb7 HG6 HC6
  go_wp2_with fail
  refine (ml.markBoxS_own _ w5.heap.size ys2 ug w7 HG7.out HYS.out.2 HS7.out).mono ?_
  rintro e w8 ⟨rfl, ⟨cs8, hMB⟩, hb8⟩
  have HMB : Hid (ml.MB w8 w5.heap.size (.slice Ga Gn Gc) ys2 ug ys2.length cs8) := hMB
  have HC8 : Hid (Below w3.heap.size w3 w8) := HC7.out.trans (hb8.mono HS6.out.2)
  clear hb8 hMB HG7 HC7 HS7
  have hQ0 := (ml.kAt_in HYS.out.2 (Nat.le_refl ys2.length)).1
  have HHD : Hid (∀ W, Below w8.heap.size w8 W → Calls Tryz.prog 11 #[.slice Ga Gn Gc, .int .i64 1] W fun e w' => e = .returned (.int .i64 (ml.kAt ys2 ys2.length)) ∧ Below W.heap.size W w') := fun W hW => ml.heldBoxS_any _ w5.heap.size ys2 ug cs8 W (ml.mb_below HMB.out hW) HYS.out.2
  generalize ml.kAt ys2 ys2.length = Q at hQ0 HHD ⊢
  have qq : ((Q : Int) != Q) = false := by simp
  have hQn : decide (Q < 0) = false := decide_eq_false (by omega)
  clear hQ0 HMB
  go_wp2_with fail
  refine (HHD.out w8 (Below.refl _ _)).mono ?_
  rintro e w9 ⟨rfl, hb9⟩
  have HD9 : Hid (Below w8.heap.size w8 w9) := hb9
  have HC9 : Hid (Below w3.heap.size w3 w9) := HC8.out.trans (hb9.mono HC8.out.size)
  have d9 := d3.trans (HC9.out.mono d3.size)
  clear hb9 HC8
  have c0 := (HL0.out.keep d9).c0
  have c1 := (HL0.out.keep d9).c1
  have c2 := (HL0.out.keep d9).c2
  go_wp2_with fail
  refine (HT.out w9).mono ?_
  rintro e w10 ⟨rfl, hb10⟩
  have HD10 : Hid (Below w8.heap.size w8 w10) := HD9.out.trans (hb10.mono HD9.out.size)
  have HC10 : Hid (Below w3.heap.size w3 w10) := HC9.out.trans (hb10.mono HC9.out.size)
  have d10 := d9.trans (hb10.mono d9.size)
  clear hb10 d9 c0 c1 c2 HD9 HC9
  go_wp2_with fail
  refine (HP'.out w10 (HS0.out.keep (HB0.out.trans (d10.mono HB0.out.size)))).mono ?_
  rintro e w11 ⟨⟨L3, ys3, u3, n3, cc3, rfl, hR3, hO3, _, _⟩, hb11⟩
  obtain ⟨rfl, rfl, rfl⟩ := rp.rl_one hR3 HR1.out
  obtain ⟨Ha, Hn, Hc, rfl⟩ := bl.slice_fine (bx.own_fine hO3.1)
  have HH11 : Hid (bl.OwnL w11 w10.heap.size (.slice Ha Hn Hc) ys3 u3) := hO3
  have HD11 : Hid (Below w8.heap.size w8 w11) := HD10.out.trans (hb11.mono HD10.out.size)
  have HC11 : Hid (Below w3.heap.size w3 w11) := HC10.out.trans (hb11.mono HC10.out.size)
  clear hb11 d10 hO3 hR3 HD10 HC10
  go_wp2_with fail
  refine (bx.eqBoxS_any _ _ ys3 u3 us w11 (bl.ownL_boxes HH11.out) (bl.ownL_boxes (bl.ownL_below HO1.out HC11.out)) HYS.out.1).mono ?_
  rintro e w12 ⟨rfl, hb12⟩
  have HD12 : Hid (Below w8.heap.size w8 w12) := HD11.out.trans (hb12.mono HD11.out.size)
  have HC12 : Hid (Below w3.heap.size w3 w12) := HC11.out.trans (hb12.mono HC11.out.size)
  clear hb12 HD11 HC11 HH11
  go_wp2_with fail
  refine (HHD.out w12 HD12.out).mono ?_
  rintro e w13 ⟨rfl, hb13⟩
  have HC13 : Hid (Below w3.heap.size w3 w13) := HC12.out.trans (hb13.mono HC12.out.size)
  have HE : Hid (Below w.heap.size w w13) := (HB0.out.trans (d3.mono HB0.out.size)).trans (HC13.out.mono (HB0.out.trans (d3.mono HB0.out.size)).size)
  clear hb13 HD12 HC12 HC13
  go_wp2
  go_ret
  exact ⟨rfl, HE.out⟩

set_option maxRecDepth 100000 in
theorem gC : Tryz.prog.globalNamed ((Rows.fnExactReplayLogRow.laid.map (·.1)).getD 0 "") = some 0 := by kernel_rfl
theorem gW : Tryz.prog.globalNamed ((Rows.fnExactReplayLogRow.laid.map (·.1)).getD 1 "") = some 1 := by kernel_rfl
theorem errs_of (W : World) (hL : laidMet Tryz.prog Rows.fnExactReplayLogRow.laid W) : ∃ (c b : Addr) (ca cb : Array Value) (ta tb : TypeId), lg.Errs W c b ca cb ta tb := by
  obtain ⟨a0, a1, s0, s1, c0, c1, t0, t1, hv0, hv1, hc0, hs0, hz0, hc1, hs1, hz1, hne, hb0, hb1⟩ := laid_sentinels2 (ti := 75) hL gC (by kernel_rfl) gW (by kernel_rfl) Tryz.underlying75 (fun u h => typeName_ptr_named (nm := "errors.errorString") (by kernel_rfl) (by kernel_rfl) (by decide) u (h.trans (congrArg some (by decide)))) Tryz.underlying166 Tryz.underlying193 rfl rfl Tryz.underlying9 (by kernel_rfl) (by kernel_rfl)
  have hg0 : W.cell? ⟨0, 0, none⟩ = some (.iface 166 (.pointer (some a0))) := by simpa using World.var?_cell gC hv0 0
  have hg1 : W.cell? ⟨1, 0, none⟩ = some (.iface 166 (.pointer (some a1))) := by simpa using World.var?_cell gW hv1 0
  exact ⟨a0, a1, c0, c1, t0, t1, hg0, hg1, hne, hb0, hb1⟩

set_option maxRecDepth 100000 in
theorem contract (H : Type) (enc : TypeId × Value → H) (W : World) (base : Nat) (args : Array Value) (ds gs : List (DataW H)) (before : List MemPlace)
    (hval : ∀ (j : Nat) t v, Tryz.f3.params[j]? = some t → args[j]? = some v → Value.okWide Tryz.prog W .any base t v)
    (hW : DataW.Whole enc Tryz.prog Tryz.f3.params.toList Rows.fnExactReplayLogSpec.vars false W args.toList ds gs before) (hL : laidMetH Tryz.prog Rows.fnExactReplayLogRow.laid W) (hsh : W.ShapedOpen Tryz.prog) :
    Calls Tryz.prog 3 args W fun e W' => ∃ v, e = .returned v ∧ Rows.fnExactReplayLogSpec.post enc Tryz.prog Tryz.f3 false true false false W args v W' := by
  have hW' := hW
  obtain ⟨p, q, hA0, hV, rfl, hfz, hnd⟩ := hW
  have hA : DataW.TrodAll enc Tryz.prog W 0 (fun _ => true) true Tryz.f3.params.toList args.toList ds p := hA0
  rw [Tryz.params3] at hA hval
  obtain ⟨v0, vs0, d0, ds0, p0, q0, hargs0, rfl, rfl, h0, r0⟩ := trodAll_cons hA
  obtain ⟨hnil, rfl, rfl⟩ := trodAll_nil r0
  obtain rfl : args = #[v0] := by cases args; simp_all
  have k0 := h0
  have lt0 : ∀ x ∈ p0, x.block < W.heap.size := by obtain ⟨m, hm⟩ := k0; exact DataW.trod_lt m _ _ _ hm
  obtain ⟨r0, dd0, s0, rfl, hr0, hd0, hs0⟩ := lg.open_log (hval 0 23 v0 rfl rfl) h0
  clear hA0
  simp only [List.append_nil] at hW'
  have hLL : laidMet Tryz.prog Rows.fnExactReplayLogRow.laid W := hL
  obtain ⟨g, t, cs, fuel, d, pp, g2, t2, cs2, fuel2, d2, pp2, rfl, _⟩ := trodVars_two hV
  have hS := errs_of W hLL
  obtain ⟨ec, eb, eca, ecb, eta, etb, hS⟩ := hS
  refine (walk r0 dd0 s0 hr0 hd0 hs0 W  _ _ _ _ _ _ hS).mono fun e W' ⟨he, bel⟩ => ?_
  subst he
  exact ⟨_, rfl, _, _, _, [], _, _, hW', trodAll_cons_mk (shut_bool Tryz.underlying4 _) trodAll_mk0, (trodAll_cons_mk (Below.trod laidOut (by kernel_rfl) (of_decide_eq_true (by kernel_rfl)) k0 bel lt0) trodAll_mk0), Below.trodVars laidOut bel (by kernel_rfl) hV, bel.frame _, fun h => by cases h⟩
set_option maxRecDepth 100000 in
theorem laid_met (os : Os) : laidMet Tryz.prog Rows.fnExactReplayLogRow.laid ((World.doorLaid Tryz.prog 47 os).forCall (fun _ _ => 0) ⟨#[], #[Value.agg #[.int .i64 0, .string .empty, .int .i64 0]], []⟩).memory :=
  laidMet_of_run' 8 (by kernel_rfl) (by kernel_rfl)
theorem reads (os : Os) {H : Type} (enc : TypeId × Value → H) : (DataW.whole enc Tryz.prog ((World.doorLaid Tryz.prog 47 os).forCall (fun _ _ => 0) ⟨#[], #[Value.agg #[.int .i64 0, .string .empty, .int .i64 0]], []⟩).memory Tryz.f3.params.toList Rows.fnExactReplayLogSpec.vars false #[Value.agg #[.int .i64 0, .string .empty, .int .i64 0]].toList 8).isSome = true := by kernel_rfl

set_option maxRecDepth 100000 in
theorem lifted (os : Os) (started : os.Started) (H : Type) (enc : TypeId × Value → H) (F : Stop.Interp) :
    ReturnsInHanded {} Tryz.checked os 3 .any ((OpenSpec.ofChange Rows.fnExactReplayLogSpec).preRow enc Tryz.prog Tryz.f3 Rows.fnExactReplayLogRow.domain false Rows.fnExactReplayLogRow.laid) (((OpenSpec.ofChange Rows.fnExactReplayLogSpec).at F).post enc Tryz.prog Tryz.f3 false true false false) := by
  obtain ⟨x, hx⟩ := Option.isSome_iff_exists.1 (reads os enc)
  refine returnsInHanded_of_row (C := Tryz.checked) (s := OpenSpec.ofChange Rows.fnExactReplayLogSpec) own started (by kernel_rfl) Tryz.func3
    (witness_row_atRef (enc := enc) (C := Tryz.checked) false (World.doorLaid Tryz.prog 47 os) #[Value.agg #[.int .i64 0, .string .empty, .int .i64 0]] rfl (by kernel_rfl) (by kernel_rfl) (by kernel_rfl)
      (OpenSpec.preRow_of_cond 8 hx (by kernel_rfl) (fun k hk => by cases hk) (by kernel_rfl) (laid_met os))) ?_
  intro W base args ds gs before hval hW _ _ _ hL hsh _
  exact contract H enc W base args ds gs before hval hW hL hsh

theorem said : Rows.FnExactReplayLogSaid :=
  OpenClaim.holds_of_cond 3 Tryz.f3 rfl rfl rfl rfl rfl rfl rfl ⟨rfl, rfl, rfl, rfl, rfl⟩ rfl rfl rfl rfl rfl (by kernel_rfl) Tryz.func3 (by kernel_rfl)
    (of_decide_eq_true (by kernel_rfl)) (by unfold Func.isWrapper; first | (rw [if_pos (by decide +kernel)]; kernel_rfl) | (rw [if_neg (by decide +kernel)]; exact ⟨rfl, rfl⟩))
    (fun os started H enc _ F => by rw [OpenClaim.pre_eq_preRow]; exact lifted os started H enc F)

theorem plain (f : FuncId) (fn : Func) (hf : Tryz.pinned.checked.prog.funcNamed Rows.fnExactReplayLogRow.func = some f) (hfn : Tryz.pinned.checked.prog.funcs[f]? = some fn) :
    true = Tryz.pinned.checked.prog.looks [] ∧ ∀ (j : Nat) t, fn.params[j]? = some t → Tryz.pinned.checked.prog.wantsStandIn t = false := by
  obtain rfl : f = 3 := Option.some.inj ((show Tryz.prog.funcNamed Rows.fnExactReplayLogRow.func = some 3 by kernel_rfl).symm.trans hf) |>.symm
  obtain rfl : fn = Tryz.f3 := (Option.some.inj (Tryz.func3.symm.trans hfn)).symm
  refine ⟨by kernel_rfl, fun j t ht => ?_⟩
  rw [Tryz.params3] at ht
  obtain rfl : t = 23 := by simpa using Array.mem_of_getElem? ht
  exact (show Tryz.prog.wantsStandIn 23 = false by kernel_rfl)

theorem card : Rows.FnExactReplayLogCardSaid :=
  Claim7.holds_tied_plain_at .later [] _ _ _ _ said (fun _ h => by cases h) (by kernel_rfl) (fun _ h => by cases h) fnExactReplayLog_row_tie rfl ⟨rfl, rfl⟩ (by kernel_rfl) rfl plain (by kernel_rfl)
end Go.Proofs.YtcnjgmeddkidaaaGreatDoor.fnExactReplayLog
namespace Go.Proofs.YtcnjgmeddkidaaaGreatDoor
theorem fnExactReplayLog_card : Rows.FnExactReplayLogCardSaid := fnExactReplayLog.card
#print axioms fnExactReplayLog_card
end Go.Proofs.YtcnjgmeddkidaaaGreatDoor
