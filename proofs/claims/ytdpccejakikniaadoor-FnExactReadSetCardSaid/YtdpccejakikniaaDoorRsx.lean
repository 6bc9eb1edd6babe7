/-
  Both ReadSet functions answer alike at every text, and what they answer is memory of its own; for every input.
-/
import Derived.Test.YtdpccejakikniaaDoorCards
import Derived.Test.YtdpccejakikniaaDoorTie
import Derived.Test.YtdpccejakikniaaDoorNum
import Derived.Test.YtdpccejakikniaaDoorLai
import Derived.WalkKit
import Derived.ProofKit
import Derived.OpenShut
import Derived.ShutString
import Derived.OpenVars
import Derived.ChangeOld
import Derived.Below
import Derived.Deep.DeepHandedRow
import Derived.Deep.DeepWitnessRowRef
import Derived.LaidMore
import Derived.Lib.LaidTab
import Derived.Stop.LaidTwo
namespace Go.Proofs.YtdpccejakikniaaDoor.fnExactReadSet
open Go.ChangeShapes Go.WideShapes Go.ChangeAt Go.RowKit
open Go.ChangeMaps (open_string shut_string)
set_option linter.unusedVariables false

theorem own : ownKnob Tryd.prog.godebug = none := by kernel_rfl
theorem laidOut : laidOutB Tryd.prog = true := by kernel_rfl

set_option maxHeartbeats 4000000 in
set_option maxRecDepth 100000 in
theorem walk (a0 : ByteArray) (w0 : a0.size ≤ maxLen) (w : World)  (m : Int) (hm : w.cell? ⟨1, 0, none⟩ = some (.int .i64 m)) (hP : tb.TP w) (hE : nu.Sents w) :
    Calls Tryd.prog 6 #[.string a0] w fun e w' => e = .returned (.bool true) ∧ Below w.heap.size w w' := by
  unfold maxLen at w0
  by_cases hbig : 1048576 < a0.size
  · have hb : (1048576 : Int) < (a0.size : Int) := by omega
    go_enter Tryd.func6, Tryd.ntmps6
    go_wp2
    go_ret
    exact ⟨rfl, Below.refl _ _⟩
  have hb : (a0.size : Int) ≤ 1048576 := by omega
  have hs : a0.size ≤ 1048576 := by omega
  have HM : Hid (w.cell? ⟨1, 0, none⟩ = some (.int .i64 m)) := hm
  have HP : Hid (tb.TP w) := hP
  have HE : Hid (nu.Sents w) := hE
  clear hm hP hE
  have HI : Hid (∀ W, Below w.heap.size w W → Calls Tryd.prog 17 #[.string a0] W fun e w' => nu.RsRet a0 w' W.heap.size e ∧ Below W.heap.size W w') := fun W hW => nu.implRS a0 hs W m ((hW.cell (p := ⟨1, 0, none⟩) (World.block_lt_of_cell? w _ HM.out)).trans HM.out) (nu.sents_keep HE.out hW) (tb.keep' HP.out hW)
  clear HM HP HE
  go_enter Tryd.func6, Tryd.ntmps6
  go_wp2_with fail
  refine (nu.specRS a0 hs w).mono ?_
  rintro e w1 ⟨⟨⟨v1, rfl, own1⟩, hlen⟩, b1⟩
  generalize hps : nu.RL a0 = ps at own1 hlen
  generalize hco : nu.RC a0 = c
  have HPS : Hid (nu.RL a0 = ps ∧ nu.RC a0 = c) := ⟨hps, hco⟩
  clear hps hco
  obtain ⟨a1, c1, rfl⟩ := nu.own_slice own1
  have HR1 : Hid (rg.RgAt w1 (.slice a1 ps.length c1) ps) := nu.own_at own1
  clear own1
  go_wp2_with fail
  refine (HI.out w1 b1).mono ?_
  rintro e w2 ⟨⟨v2, rfl, own2⟩, hb2⟩
  rw [HPS.out.1] at own2
  rw [HPS.out.2]
  have b2 := b1.trans (hb2.mono b1.size)
  obtain ⟨a2, c2, rfl⟩ := nu.own_slice own2
  have HR1b : Hid (rg.RgAt w2 (.slice a1 ps.length c1) ps) := rg.at_below HR1.out hb2
  have HR2 : Hid (rg.RgAt w2 (.slice a2 ps.length c2) ps) := nu.own_at own2
  have HO2 : Hid (nu.OwnP w2 w1.heap.size (.slice a2 ps.length c2) ps) := own2
  have HB12 : Hid (Below w1.heap.size w1 w2) := hb2
  have cd : ((c : Int) != c) = false := by simp
  clear own2 hb2
  go_wp2_with fail
  refine (rg.eqRangeS_any _ _ ps w2 HR2.out HR1b.out (by omega)).mono ?_
  rintro e w3 ⟨rfl, hb3⟩
  have HO3 : Hid (nu.OwnP w3 w1.heap.size (.slice a2 ps.length c2) ps) := ow.own_below HO2.out hb3
  have HB13 : Hid (Below w1.heap.size w1 w3) := HB12.out.trans (hb3.mono HB12.out.size)
  have b3 := b2.trans (hb3.mono b2.size)
  clear HO2 HR2 HR1b hb3 HB12 b2
  go_wp2_with fail
  refine (nu.mark_any w1.heap.size _ ps w3 HO3.out hlen).mono ?_
  rintro e w4 ⟨rfl, hrg4, hb4⟩
  have HB14 : Hid (Below w1.heap.size w1 w4) := HB13.out.trans hb4
  have HR14 : Hid (rg.RgAt w4 (.slice a1 ps.length c1) ps) := rg.at_below HR1.out HB14.out
  have HM4 : Hid (rg.RgAt w4 (.slice a2 ps.length c2) (nu.mks ps.length)) := hrg4
  have b4 : Below w.heap.size w w4 := b1.trans (HB14.out.mono b1.size)
  clear hrg4 hb4 HO3 HB13 b3
  go_wp2_with fail
  refine (nu.held_any _ ps.length w4 HM4.out hlen).mono ?_
  rintro e w4 ⟨rfl, rfl⟩
  have ce : ((1 + 2 * (ps.length : Int)) != (1 + 2 * (ps.length : Int))) = false := by simp
  have cf : ¬ (1 + 2 * (ps.length : Int)) < 0 := by omega
  go_wp2_with fail
  refine (HI.out w4 b4).mono ?_
  rintro e w5 ⟨⟨v5, rfl, own5⟩, hb5⟩
  rw [HPS.out.1] at own5
  rw [HPS.out.2]
  obtain ⟨a5, c5, rfl⟩ := nu.own_slice own5
  have HR5 : Hid (rg.RgAt w5 (.slice a5 ps.length c5) ps) := nu.own_at own5
  have HR15 : Hid (rg.RgAt w5 (.slice a1 ps.length c1) ps) := rg.at_below HR14.out hb5
  have HM5 : Hid (rg.RgAt w5 (.slice a2 ps.length c2) (nu.mks ps.length)) := rg.at_below HM4.out hb5
  have b5 := b4.trans (hb5.mono b4.size)
  clear own5 hb5 HR14 HM4 b4 HI HPS HB14
  go_wp2_with fail
  refine (rg.eqRangeS_any _ _ ps w5 HR5.out HR15.out (by omega)).mono ?_
  rintro e w6 ⟨rfl, hb6⟩
  have HM6 : Hid (rg.RgAt w6 (.slice a2 ps.length c2) (nu.mks ps.length)) := rg.at_below HM5.out hb6
  have b6 := b5.trans (hb6.mono b5.size)
  clear HR5 HR15 HM5 hb6 b5
  go_wp2_with fail
  refine (nu.held_any _ ps.length w6 HM6.out hlen).mono ?_
  rintro e w6 ⟨rfl, rfl⟩
  go_wp2
  go_ret
  exact ⟨rfl, b6⟩

set_option maxRecDepth 100000 in
theorem gC : Tryd.prog.globalNamed ((Rows.fnExactReadSetRow.laid.map (·.1)).getD 4 "") = some 5 := by kernel_rfl
theorem gW : Tryd.prog.globalNamed ((Rows.fnExactReadSetRow.laid.map (·.1)).getD 3 "") = some 6 := by kernel_rfl
theorem sents_of (W : World) (hL : laidMet Tryd.prog Rows.fnExactReadSetRow.laid W) : nu.Sents W := by
  obtain ⟨ps, hLV, _⟩ := hL
  have m0 : (((Rows.fnExactReadSetRow.laid.map (·.1)).getD 4 ""), Rows.laid_strconv_ErrSyntax) ∈ Rows.fnExactReadSetRow.laid := List.mem_of_getElem? (i := 4) (by kernel_rfl)
  have m1 : (((Rows.fnExactReadSetRow.laid.map (·.1)).getD 3 ""), Rows.laid_strconv_ErrRange) ∈ Rows.fnExactReadSetRow.laid := List.mem_of_getElem? (i := 3) (by kernel_rfl)
  obtain ⟨t0, p0, h0⟩ := nu.iface_laid gC (by kernel_rfl) Tryd.underlying64 m0 hLV
  obtain ⟨t1, p1, h1⟩ := nu.iface_laid gW (by kernel_rfl) Tryd.underlying64 m1 hLV
  exact ⟨_, _, h0, h1, .inr ⟨_, _, rfl⟩, .inr ⟨_, _, rfl⟩⟩

set_option maxRecDepth 100000 in
theorem contract (H : Type) (enc : TypeId × Value → H) (W : World) (base : Nat) (args : Array Value) (ds gs : List (DataW H)) (before : List MemPlace)
    (hval : ∀ (j : Nat) t v, Tryd.f6.params[j]? = some t → args[j]? = some v → Value.okWide Tryd.prog W .any base t v)
    (hW : DataW.Whole enc Tryd.prog Tryd.f6.params.toList Rows.fnExactReadSetSpec.vars false W args.toList ds gs before) (hL : laidMetH Tryd.prog Rows.fnExactReadSetRow.laid W) (hsh : W.ShapedOpen Tryd.prog) :
    Calls Tryd.prog 6 args W fun e W' => ∃ v, e = .returned v ∧ Rows.fnExactReadSetSpec.post enc Tryd.prog Tryd.f6 false true false false W args v W' := by
  have hW' := hW
  obtain ⟨p, q, hA0, hV, rfl, hfz, hnd⟩ := hW
  have hA : DataW.TrodAll enc Tryd.prog W 0 (fun _ => true) true Tryd.f6.params.toList args.toList ds p := hA0
  rw [Tryd.params6] at hA hval
  obtain ⟨v0, vs0, d0, ds0, p0, q0, hargs0, rfl, rfl, h0, r0⟩ := trodAll_cons hA
  obtain ⟨hnil, rfl, rfl⟩ := trodAll_nil r0
  obtain rfl : args = #[v0] := by cases args; simp_all
  obtain ⟨a0, rfl, rfl, rfl, w0⟩ := open_string Tryd.underlying9 (hval 0 9 v0 rfl rfl) h0
  clear hA0
  simp only [List.append_nil] at hW'
  have hLL : laidMet Tryd.prog Rows.fnExactReadSetRow.laid W := hL
  have hE := sents_of W hLL
  obtain ⟨ps, hLV, _⟩ := hLL
  obtain ⟨rfl, rfl⟩ := trodVars_none hV
  obtain ⟨m, hm⟩ := Tryd.laysM219.s1_3 W hsh
  refine (walk a0 w0 W  m hm (tb.tp_of (List.mem_of_getElem? (i := 2) (by kernel_rfl)) hLV) hE).mono fun e W' ⟨he, bel⟩ => ?_
  subst he
  exact ⟨_, rfl, _, _, _, [], [], [], hW', trodAll_cons_mk (shut_bool Tryd.underlying4 _) trodAll_mk0, (trodAll_cons_mk (shut_string Tryd.underlying9 w0) trodAll_mk0), rfl, bel.frame _, fun h => by cases h⟩
set_option maxRecDepth 100000 in
theorem laid_met (os : Os) : laidMet Tryd.prog Rows.fnExactReadSetRow.laid ((World.doorLaid Tryd.prog 77 os).forCall (fun _ _ => 0) ⟨#[], #[Value.string .empty], []⟩).memory :=
  laidMet_of_run' 8 (by kernel_rfl) (by kernel_rfl)
theorem reads (os : Os) {H : Type} (enc : TypeId × Value → H) : (DataW.whole enc Tryd.prog ((World.doorLaid Tryd.prog 77 os).forCall (fun _ _ => 0) ⟨#[], #[Value.string .empty], []⟩).memory Tryd.f6.params.toList Rows.fnExactReadSetSpec.vars false #[Value.string .empty].toList 8).isSome = true := by kernel_rfl

set_option maxRecDepth 100000 in
theorem lifted (os : Os) (started : os.Started) (H : Type) (enc : TypeId × Value → H) (F : Stop.Interp) :
    ReturnsInHanded {} Tryd.checked os 6 .any ((OpenSpec.ofChange Rows.fnExactReadSetSpec).preRow enc Tryd.prog Tryd.f6 Rows.fnExactReadSetRow.domain false Rows.fnExactReadSetRow.laid) (((OpenSpec.ofChange Rows.fnExactReadSetSpec).at F).post enc Tryd.prog Tryd.f6 false true false false) := by
  obtain ⟨x, hx⟩ := Option.isSome_iff_exists.1 (reads os enc)
  refine returnsInHanded_of_row (C := Tryd.checked) (s := OpenSpec.ofChange Rows.fnExactReadSetSpec) own started (by kernel_rfl) Tryd.func6
    (witness_row_atRef (enc := enc) (C := Tryd.checked) false (World.doorLaid Tryd.prog 77 os) #[Value.string .empty] rfl (by kernel_rfl) (by kernel_rfl) (by kernel_rfl)
      (OpenSpec.preRow_of_cond 8 hx (by kernel_rfl) (fun k hk => by cases hk) (by kernel_rfl) (laid_met os))) ?_
  intro W base args ds gs before hval hW _ _ _ hL hsh _
  exact contract H enc W base args ds gs before hval hW hL hsh

theorem said : Rows.FnExactReadSetSaid :=
  OpenClaim.holds_of_cond 6 Tryd.f6 rfl rfl rfl rfl rfl rfl rfl ⟨rfl, rfl, rfl, rfl, rfl⟩ rfl rfl rfl rfl rfl (by kernel_rfl) Tryd.func6 (by kernel_rfl)
    (of_decide_eq_true (by kernel_rfl)) (by unfold Func.isWrapper; first | (rw [if_pos (by decide +kernel)]; kernel_rfl) | (rw [if_neg (by decide +kernel)]; exact ⟨rfl, rfl⟩))
    (fun os started H enc _ F => by rw [OpenClaim.pre_eq_preRow]; exact lifted os started H enc F)

theorem plain (f : FuncId) (fn : Func) (hf : Tryd.pinned.checked.prog.funcNamed Rows.fnExactReadSetRow.func = some f) (hfn : Tryd.pinned.checked.prog.funcs[f]? = some fn) :
    true = Tryd.pinned.checked.prog.looks [] ∧ ∀ (j : Nat) t, fn.params[j]? = some t → Tryd.pinned.checked.prog.wantsStandIn t = false := by
  obtain rfl : f = 6 := Option.some.inj ((show Tryd.prog.funcNamed Rows.fnExactReadSetRow.func = some 6 by kernel_rfl).symm.trans hf) |>.symm
  obtain rfl : fn = Tryd.f6 := (Option.some.inj (Tryd.func6.symm.trans hfn)).symm
  refine ⟨by kernel_rfl, fun j t ht => ?_⟩
  rw [Tryd.params6] at ht
  obtain rfl : t = 9 := by simpa using Array.mem_of_getElem? ht
  exact (show Tryd.prog.wantsStandIn 9 = false by kernel_rfl)

theorem card : Rows.FnExactReadSetCardSaid :=
  Claim7.holds_tied_plain_at .later [] _ _ _ _ said (fun _ h => by cases h) (by kernel_rfl) (fun _ h => by cases h) fnExactReadSet_row_tie rfl ⟨rfl, rfl⟩ (by kernel_rfl) rfl plain (by kernel_rfl)
end Go.Proofs.YtdpccejakikniaaDoor.fnExactReadSet
namespace Go.Proofs.YtdpccejakikniaaDoor
theorem fnExactReadSet_card : Rows.FnExactReadSetCardSaid := fnExactReadSet.card
#print axioms fnExactReadSet_card
end Go.Proofs.YtdpccejakikniaaDoor
