/-
  Both SetText functions answer alike at every list of ranges, and the list that was handed in is as it was; for every input.
-/
import Derived.Test.YtdpccejakikniaaDoorCards
import Derived.Test.YtdpccejakikniaaDoorTie
import Derived.Test.YtdpccejakikniaaDoorStc
import Derived.Test.YtdpccejakikniaaDoorRgb
import Derived.WalkKit
import Derived.ProofKit
import Derived.OpenShut
import Derived.ShutString
import Derived.OpenVars
import Derived.ChangeOld
import Derived.Below
import Derived.Deep.DeepHandedRow
import Derived.Deep.DeepWitnessRowRef
import Derived.LaidMore
import Derived.Lib.LaidTab
namespace Go.Proofs.YtdpccejakikniaaDoor.fnExactSetText
open Go.ChangeShapes Go.WideShapes Go.ChangeAt Go.RowKit
open Go.ChangeMaps (open_string shut_string)
set_option linter.unusedVariables false

theorem own : ownKnob Tryd.prog.godebug = none := by kernel_rfl
theorem laidOut : laidOutB Tryd.prog = true := by kernel_rfl

set_option maxHeartbeats 4000000 in
set_option maxRecDepth 100000 in
theorem walk (u0 : Value) (ps0 : List rg.Pr) (w : World) (wa0 : rg.RgAt w u0 ps0) (wb0 : ps0.length ≤ maxLen) (hP : tb.TP w) :
    Calls Tryd.prog 5 #[u0] w fun e w' => e = .returned (.bool true) ∧ Below w.heap.size w w' := by
  have HA : Hid (rg.RgAt w u0 ps0) := wa0
  have HTP : Hid (tb.TP w) := hP
  obtain ⟨a, cap, rfl, _⟩ := wa0
  clear hP
  go_enter Tryd.func5, Tryd.ntmps5
  go_wp2_with fail
  refine (rg.szRangeS_any _ ps0 1048576 w HA.out (by omega) (by omega) wb0).mono ?_
  rintro e w ⟨⟨zz, rfl, hz0, hz1, hz2⟩, rfl⟩
  by_cases hz : zz < 0
  · go_wp2
    go_ret
    exact ⟨rfl, Below.refl _ _⟩
  have hpl := hz2 (by omega)
  clear hz2 wb0
  go_wp2_with fail
  refine (rg.toRangeS_any _ ps0 w HA.out hpl).mono ?_
  rintro e w2 ⟨rfl, hv2, hb2⟩
  have HA2 : Hid (rg.RgAt w2 (.slice a ps0.length cap) ps0) := rg.at_below HA.out hb2
  have HV2 : Hid (rg.RgAt w2 (.slice (some ⟨w.heap.size, 0, none⟩) ps0.length ps0.length) ps0) := hv2
  clear hv2
  go_wp2_with fail
  refine (rg.specST _ ps0 w2 HV2.out hpl).mono ?_
  rintro e w3 ⟨rfl, hb3⟩
  have HA3 : Hid (rg.RgAt w3 (.slice a ps0.length cap) ps0) := rg.at_below HA2.out hb3
  have b3 := hb2.trans (hb3.mono hb2.size)
  clear hb3 hb2 HA2 HV2 HA
  have HI : Hid (∀ v W, rg.RgAt W v ps0 → tb.TP W → Calls Tryd.prog 14 #[v] W fun e w' => e = .returned (.tuple #[.string (rg.SR ps0).1, .int .i64 (rg.SR ps0).2]) ∧ Below W.heap.size W w') := fun v W h1 h2 => rg.implST v ps0 W h1 hpl h2
  generalize rg.SR ps0 = R at HI ⊢
  obtain ⟨B, c⟩ := R
  simp only at HI ⊢
  go_wp2_with fail
  refine (rg.toRangeS_any _ ps0 w3 HA3.out hpl).mono ?_
  rintro e w4 ⟨rfl, hv4, hb4⟩
  have HA4 : Hid (rg.RgAt w4 (.slice a ps0.length cap) ps0) := rg.at_below HA3.out hb4
  have HV4 : Hid (rg.RgAt w4 (.slice (some ⟨w3.heap.size, 0, none⟩) ps0.length ps0.length) ps0) := hv4
  have b4 := b3.trans (hb4.mono b3.size)
  have HT4 : Hid (tb.TP w4) := tb.keep' HTP.out b4
  clear hv4 HA3 hb4
  go_wp2_with fail
  refine (HI.out _ w4 HV4.out HT4.out).mono ?_
  rintro e w5 ⟨rfl, hb5⟩
  have HA5 : Hid (rg.RgAt w5 (.slice a ps0.length cap) ps0) := rg.at_below HA4.out hb5
  have HV5 : Hid (rg.RgAt w5 (.slice (some ⟨w3.heap.size, 0, none⟩) ps0.length ps0.length) ps0) := rg.at_below HV4.out hb5
  have b5 := b4.trans (hb5.mono b4.size)
  clear hb5 HA4 HV4 b4 b3 HI HT4
  have cc : (B.toList != B.toList) = false := by simp
  have cd : ((c : Int) != c) = false := by simp
  go_wp2_with fail
  refine (rg.toRangeS_any _ ps0 w5 HA5.out hpl).mono ?_
  rintro e w6 ⟨rfl, hv6, hb6⟩
  have HV5' : Hid (rg.RgAt w6 (.slice (some ⟨w3.heap.size, 0, none⟩) ps0.length ps0.length) ps0) := rg.at_below HV5.out hb6
  have HV6 : Hid (rg.RgAt w6 (.slice (some ⟨w5.heap.size, 0, none⟩) ps0.length ps0.length) ps0) := hv6
  have b6 := b5.trans (hb6.mono b5.size)
  clear hb6 hv6 HA5 HV5
  go_wp2_with fail
  refine (rg.eqRangeS_any _ _ ps0 w6 HV5'.out HV6.out hpl).mono ?_
  rintro e w7 ⟨rfl, hb7⟩
  have b7 := b6.trans (hb7.mono b6.size)
  go_wp2
  go_ret
  exact ⟨rfl, b7⟩

set_option maxRecDepth 100000 in
theorem contract (H : Type) (enc : TypeId × Value → H) (W : World) (base : Nat) (args : Array Value) (ds gs : List (DataW H)) (before : List MemPlace)
    (hval : ∀ (j : Nat) t v, Tryd.f5.params[j]? = some t → args[j]? = some v → Value.okWide Tryd.prog W .any base t v)
    (hW : DataW.Whole enc Tryd.prog Tryd.f5.params.toList Rows.fnExactSetTextSpec.vars false W args.toList ds gs before) (hL : laidMetH Tryd.prog Rows.fnExactSetTextRow.laid W) (hsh : W.ShapedOpen Tryd.prog) :
    Calls Tryd.prog 5 args W fun e W' => ∃ v, e = .returned v ∧ Rows.fnExactSetTextSpec.post enc Tryd.prog Tryd.f5 false true false false W args v W' := by
  have hW' := hW
  obtain ⟨p, q, hA0, hV, rfl, hfz, hnd⟩ := hW
  have hA : DataW.TrodAll enc Tryd.prog W 0 (fun _ => true) true Tryd.f5.params.toList args.toList ds p := hA0
  rw [Tryd.params5] at hA hval
  obtain ⟨v0, vs0, d0, ds0, p0, q0, hargs0, rfl, rfl, h0, r0⟩ := trodAll_cons hA
  obtain ⟨hnil, rfl, rfl⟩ := trodAll_nil r0
  obtain rfl : args = #[v0] := by cases args; simp_all
  have k0 := h0
  have lt0 : ∀ x ∈ p0, x.block < W.heap.size := by obtain ⟨m, hm⟩ := k0; exact DataW.trod_lt m _ _ _ hm
  obtain ⟨a0, len0, cap0, rfl⟩ := okWide_slice Tryd.underlying28 (hval 0 28 v0 rfl rfl)
  obtain ⟨fu0, hf0⟩ := h0
  have hcs0 : (Value.slice a0 len0 cap0).cells.toList = [Value.slice a0 len0 cap0] := by simp [Value.cells]
  rw [hcs0] at hf0
  obtain ⟨ps0, wa0, wb0, _⟩ := rg.open_rgs hf0
  clear hA0
  simp only [List.append_nil] at hW'
  have hLL : laidMet Tryd.prog Rows.fnExactSetTextRow.laid W := hL
  obtain ⟨ps, hLV, _⟩ := hLL
  obtain ⟨rfl, rfl⟩ := trodVars_none hV
  refine (walk _ ps0 W wa0 wb0 (tb.tp_of (List.mem_of_getElem? (i := 2) (by kernel_rfl)) hLV)).mono fun e W' ⟨he, bel⟩ => ?_
  subst he
  exact ⟨_, rfl, _, _, _, [], _, [], hW', trodAll_cons_mk (shut_bool Tryd.underlying4 _) trodAll_mk0, (trodAll_cons_mk (Below.trod laidOut (by kernel_rfl) (of_decide_eq_true (by kernel_rfl)) k0 bel lt0) trodAll_mk0), rfl, bel.frame _, fun h => by cases h⟩
set_option maxRecDepth 100000 in
theorem laid_met (os : Os) : laidMet Tryd.prog Rows.fnExactSetTextRow.laid ((World.doorLaid Tryd.prog 77 os).forCall (fun _ _ => 0) ⟨#[], #[Value.slice none 0 0], []⟩).memory :=
  laidMet_of_run' 8 (by kernel_rfl) (by kernel_rfl)
theorem reads (os : Os) {H : Type} (enc : TypeId × Value → H) : ∃ places, DataW.whole enc Tryd.prog ((World.doorLaid Tryd.prog 77 os).forCall (fun _ _ => 0) ⟨#[], #[Value.slice none 0 0], []⟩).memory Tryd.f5.params.toList Rows.fnExactSetTextSpec.vars false #[Value.slice none 0 0].toList 8 = some ([.nil], [], places) :=
  ⟨[], by kernel_rfl⟩

set_option maxRecDepth 100000 in
theorem lifted (os : Os) (started : os.Started) (H : Type) (enc : TypeId × Value → H) (F : Stop.Interp) :
    ReturnsInHanded {} Tryd.checked os 5 .any ((OpenSpec.ofChange Rows.fnExactSetTextSpec).preRow enc Tryd.prog Tryd.f5 Rows.fnExactSetTextRow.domain false Rows.fnExactSetTextRow.laid) (((OpenSpec.ofChange Rows.fnExactSetTextSpec).at F).post enc Tryd.prog Tryd.f5 false true false false) := by
  obtain ⟨places, hx⟩ := reads os enc
  refine returnsInHanded_of_row (C := Tryd.checked) (s := OpenSpec.ofChange Rows.fnExactSetTextSpec) own started (by kernel_rfl) Tryd.func5
    (witness_row_atRef (enc := enc) (C := Tryd.checked) false (World.doorLaid Tryd.prog 77 os) #[Value.slice none 0 0] rfl (by kernel_rfl) (by kernel_rfl) (by kernel_rfl)
      (OpenSpec.preRow_of_cond 8 hx (by kernel_rfl) (fun k hk => by cases hk) (by kernel_rfl) (laid_met os))) ?_
  intro W base args ds gs before hval hW _ _ _ hL hsh _
  exact contract H enc W base args ds gs before hval hW hL hsh

theorem said : Rows.FnExactSetTextSaid :=
  OpenClaim.holds_of_cond 5 Tryd.f5 rfl rfl rfl rfl rfl rfl rfl ⟨rfl, rfl, rfl, rfl, rfl⟩ rfl rfl rfl rfl rfl (by kernel_rfl) Tryd.func5 (by kernel_rfl)
    (of_decide_eq_true (by kernel_rfl)) (by unfold Func.isWrapper; first | (rw [if_pos (by decide +kernel)]; kernel_rfl) | (rw [if_neg (by decide +kernel)]; exact ⟨rfl, rfl⟩))
    (fun os started H enc _ F => by rw [OpenClaim.pre_eq_preRow]; exact lifted os started H enc F)

theorem plain (f : FuncId) (fn : Func) (hf : Tryd.pinned.checked.prog.funcNamed Rows.fnExactSetTextRow.func = some f) (hfn : Tryd.pinned.checked.prog.funcs[f]? = some fn) :
    true = Tryd.pinned.checked.prog.looks [] ∧ ∀ (j : Nat) t, fn.params[j]? = some t → Tryd.pinned.checked.prog.wantsStandIn t = false := by
  obtain rfl : f = 5 := Option.some.inj ((show Tryd.prog.funcNamed Rows.fnExactSetTextRow.func = some 5 by kernel_rfl).symm.trans hf) |>.symm
  obtain rfl : fn = Tryd.f5 := (Option.some.inj (Tryd.func5.symm.trans hfn)).symm
  refine ⟨by kernel_rfl, fun j t ht => ?_⟩
  rw [Tryd.params5] at ht
  obtain rfl : t = 28 := by simpa using Array.mem_of_getElem? ht
  exact (show Tryd.prog.wantsStandIn 28 = false by kernel_rfl)

theorem card : Rows.FnExactSetTextCardSaid :=
  Claim7.holds_tied_plain_at .later [] _ _ _ _ said (fun _ h => by cases h) (by kernel_rfl) (fun _ h => by cases h) fnExactSetText_row_tie rfl ⟨rfl, rfl⟩ (by kernel_rfl) rfl plain (by kernel_rfl)
end Go.Proofs.YtdpccejakikniaaDoor.fnExactSetText
namespace Go.Proofs.YtdpccejakikniaaDoor
theorem fnExactSetText_card : Rows.FnExactSetTextCardSaid := fnExactSetText.card
#print axioms fnExactSetText_card
end Go.Proofs.YtdpccejakikniaaDoor
