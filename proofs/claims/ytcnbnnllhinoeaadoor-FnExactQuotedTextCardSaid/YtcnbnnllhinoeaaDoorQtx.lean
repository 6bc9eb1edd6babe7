/-
  The card of FnExactQuotedText: the proof.
-/
import Derived.Test.YtcnbnnllhinoeaaDoorCards
import Derived.Test.YtcnbnnllhinoeaaDoorTie
import Derived.Test.YtcnbnnllhinoeaaDoorArg
import Derived.Test.YtcnbnnllhinoeaaDoorQte
import Derived.Test.YtcnbnnllhinoeaaDoorByc
import Derived.WalkKit
import Derived.ProofKit
import Derived.OpenShut
import Derived.ShutString
import Derived.OpenVars
import Derived.ChangeOld
import Derived.Below
import Derived.Deep.DeepHandedRow
import Derived.Deep.DeepWitnessRowRef
import Derived.LaidMore
import Derived.Lib.LaidTab
namespace Go.Proofs.YtcnbnnllhinoeaaDoor.fnExactQuotedText
open Go.ChangeShapes Go.WideShapes Go.ChangeAt Go.RowKit
open Go.ChangeMaps (open_string shut_string)
set_option linter.unusedVariables false

theorem own : ownKnob Tryd.prog.godebug = none := by kernel_rfl
theorem laidOut : laidOutB Tryd.prog = true := by kernel_rfl

set_option maxHeartbeats 4000000 in
set_option maxRecDepth 100000 in
theorem walk (a0 : Option Addr) (len0 cap0 : Nat) (z0 : List Int) (w : World) (w0 : ag.IsRow .u8 w a0 len0 cap0 z0) (hD : tb.TD w) :
    Calls Tryd.prog 3 #[.slice a0 len0 cap0] w fun e w' => e = .returned (.bool true) ∧ Below w.heap.size w w' := by
  obtain ⟨l, hl, hr⟩ := ag.bytes w0
  clear w0
  by_cases hbig : 1048576 < len0
  · have hb : (1048576 : Int) < (len0 : Int) := by omega
    clear hr hD hl
    go_enter Tryd.func3, Tryd.ntmps3
    go_wp2
    go_ret
    exact ⟨rfl, Below.refl _ _⟩
  have hb : (len0 : Int) ≤ 1048576 := by omega
  have hl2 : l.length ≤ 1048576 := by omega
  have hl3 : (b6.bz l).length ≤ 1048576 := by rw [b6.bz_len]; exact hl2
  subst hl
  have HT : Hid (∀ W, Below w.heap.size w W → ow.Reads .u8 W (.slice a0 l.length cap0) (b6.bz l) ∧ tb.TD W) := fun W hW => ⟨ow.reads_below hr hW, tb.keep' hD hW⟩
  clear hr hD
  go_enter Tryd.func3, Tryd.ntmps3
  go_wp2_with fail
  refine (ow.toBytes_any _ (b6.bz l) _ (HT.out w (Below.refl _ _)).1 hl3).mono ?_
  rintro e w1 ⟨v1, rfl, own1, b1⟩
  go_wp2_with fail
  refine (qu.specText_any v1 l _ (ow.reads_own own1) hl2).mono ?_
  rintro e w2 ⟨rfl, b2⟩
  have b2' := b1.trans (b2.mono b1.size)
  clear own1
  go_wp2_with fail
  refine (ow.toBytes_any _ (b6.bz l) _ (HT.out w2 b2').1 hl3).mono ?_
  rintro e w3 ⟨v3, rfl, own3, b3⟩
  have b3' := b2'.trans (b3.mono b2'.size)
  have own3r := own3
  rw [b6.bz_len, b6.bz_cells] at own3
  go_wp2_with fail
  refine (qu.implText_any v3 l _ (ow.reads_own own3r) (HT.out w3 b3').2).mono ?_
  rintro e w4 ⟨rfl, b4⟩
  have b4' := b3'.trans (b4.mono b3'.size)
  have own4 := ow.own_below own3 b4
  clear own3 own3r
  go_wp2_with fail
  refine (ow.toBytes_any _ (b6.bz l) _ (HT.out w4 b4').1 hl3).mono ?_
  rintro e w5 ⟨v5, rfl, own5, b5⟩
  have b5' := b4'.trans (b5.mono b4'.size)
  have own6 := ow.own_below own4 b5
  rw [← b6.bz_cells] at own6
  go_wp2_with fail
  refine (ow.eqBytes_any v3 v5 (b6.bz l) (b6.bz l) _ (ow.reads_own own6) (ow.reads_own own5) hl3 hl3).mono ?_
  rintro e w6 ⟨hs, m, rfl⟩
  obtain rfl := ow.says_true hs rfl
  have b6' := below_drewN b5' m
  clear own4 own5 own6 hs HT
  go_wp2
  go_ret
  exact ⟨rfl, b6'⟩

set_option maxRecDepth 100000 in
theorem contract (H : Type) (enc : TypeId × Value → H) (W : World) (base : Nat) (args : Array Value) (ds gs : List (DataW H)) (before : List MemPlace)
    (hval : ∀ (j : Nat) t v, Tryd.f3.params[j]? = some t → args[j]? = some v → Value.okWide Tryd.prog W .any base t v)
    (hW : DataW.Whole enc Tryd.prog Tryd.f3.params.toList Rows.fnExactQuotedTextSpec.vars false W args.toList ds gs before) (hL : laidMetH Tryd.prog Rows.fnExactQuotedTextRow.laid W) (hsh : W.ShapedOpen Tryd.prog) :
    Calls Tryd.prog 3 args W fun e W' => ∃ v, e = .returned v ∧ Rows.fnExactQuotedTextSpec.post enc Tryd.prog Tryd.f3 false true false false W args v W' := by
  have hW' := hW
  obtain ⟨p, q, hA0, hV, rfl, hfz, hnd⟩ := hW
  have hA : DataW.TrodAll enc Tryd.prog W 0 (fun _ => true) true Tryd.f3.params.toList args.toList ds p := hA0
  rw [Tryd.params3] at hA hval
  obtain ⟨v0, vs0, d0, ds0, p0, q0, hargs0, rfl, rfl, h0, r0⟩ := trodAll_cons hA
  obtain ⟨hnil, rfl, rfl⟩ := trodAll_nil r0
  obtain rfl : args = #[v0] := by cases args; simp_all
  obtain ⟨a0, len0, cap0, rfl⟩ := okWide_slice Tryd.underlying22 (hval 0 22 v0 rfl rfl)
  have k0 := h0
  have lt0 : ∀ x ∈ p0, x.block < W.heap.size := by obtain ⟨m, hm⟩ := k0; exact DataW.trod_lt m _ _ _ hm
  obtain ⟨z0, w0⟩ : ∃ zs, ag.IsRow .u8 W a0 len0 cap0 zs := by
    obtain ⟨fuel, hf⟩ := h0
    rcases open_ints Tryd.underlying22 Tryd.underlying5 (by kernel_rfl) hf with ⟨hcs, _⟩ | ⟨x, l, c, zs, hcs, _, hl, hm, hz, _, hcell, hwz⟩
    · simp [Value.cells] at hcs
      obtain ⟨rfl, rfl, rfl⟩ := hcs
      exact ⟨[], .inl ⟨rfl, rfl, rfl, rfl⟩⟩
    · simp [Value.cells] at hcs
      obtain ⟨rfl, rfl, rfl⟩ := hcs
      exact ⟨zs, .inr ⟨_, rfl, hl, hm, by simpa using hz, hcell, hwz⟩⟩
  clear hA0
  simp only [List.append_nil] at hW'
  have hLL : laidMet Tryd.prog Rows.fnExactQuotedTextRow.laid W := hL
  obtain ⟨ps, hLV, _⟩ := hLL
  obtain ⟨g, t, cs, fuel, d, pp, rfl, _, _, _, _, _⟩ := trodVars_one hV
  refine (walk a0 len0 cap0 z0 W w0 (tb.td_of (List.mem_of_getElem? (i := 0) (by kernel_rfl)) hLV)).mono fun e W' ⟨he, bel⟩ => ?_
  subst he
  exact ⟨_, rfl, _, _, _, [], _, _, hW', trodAll_cons_mk (shut_bool Tryd.underlying4 _) trodAll_mk0, (trodAll_cons_mk (Below.trod laidOut (by kernel_rfl) (of_decide_eq_true (by kernel_rfl)) k0 bel lt0) trodAll_mk0), Below.trodVars laidOut bel (by kernel_rfl) hV, bel.frame _, fun h => by cases h⟩
set_option maxRecDepth 100000 in
theorem laid_met (os : Os) : laidMet Tryd.prog Rows.fnExactQuotedTextRow.laid ((World.doorLaid Tryd.prog 14 os).forCall (fun _ _ => 0) ⟨#[], #[Value.slice none 0 0], []⟩).memory :=
  laidMet_of_run' 8 (by kernel_rfl) (by kernel_rfl)
theorem reads (os : Os) {H : Type} (enc : TypeId × Value → H) : ∃ places, DataW.whole enc Tryd.prog ((World.doorLaid Tryd.prog 14 os).forCall (fun _ _ => 0) ⟨#[], #[Value.slice none 0 0], []⟩).memory Tryd.f3.params.toList Rows.fnExactQuotedTextSpec.vars false #[Value.slice none 0 0].toList 8 = some ([.nil], [Rows.laid_loop_example_g00268_impl_digitChars], places) :=
  ⟨MemPlace.row ⟨0, 0, none⟩ 16, by kernel_rfl⟩

set_option maxRecDepth 100000 in
theorem lifted (os : Os) (started : os.Started) (H : Type) (enc : TypeId × Value → H) (F : Stop.Interp) :
    ReturnsInHanded {} Tryd.checked os 3 .any ((OpenSpec.ofChange Rows.fnExactQuotedTextSpec).preRow enc Tryd.prog Tryd.f3 Rows.fnExactQuotedTextRow.domain false Rows.fnExactQuotedTextRow.laid) (((OpenSpec.ofChange Rows.fnExactQuotedTextSpec).at F).post enc Tryd.prog Tryd.f3 false true false false) := by
  obtain ⟨places, hx⟩ := reads os enc
  refine returnsInHanded_of_row (C := Tryd.checked) (s := OpenSpec.ofChange Rows.fnExactQuotedTextSpec) own started (by kernel_rfl) Tryd.func3
    (witness_row_atRef (enc := enc) (C := Tryd.checked) false (World.doorLaid Tryd.prog 14 os) #[Value.slice none 0 0] rfl (by kernel_rfl) (by kernel_rfl) (by kernel_rfl)
      (OpenSpec.preRow_of_cond 8 hx (by kernel_rfl) (fun k hk => by cases hk) (by kernel_rfl) (laid_met os))) ?_
  intro W base args ds gs before hval hW _ _ _ hL hsh _
  exact contract H enc W base args ds gs before hval hW hL hsh

theorem said : Rows.FnExactQuotedTextSaid :=
  OpenClaim.holds_of_cond 3 Tryd.f3 rfl rfl rfl rfl rfl rfl rfl ⟨rfl, rfl, rfl, rfl, rfl⟩ rfl rfl rfl rfl rfl (by kernel_rfl) Tryd.func3 (by kernel_rfl)
    (of_decide_eq_true (by kernel_rfl)) (by unfold Func.isWrapper; first | (rw [if_pos (by decide +kernel)]; kernel_rfl) | (rw [if_neg (by decide +kernel)]; exact ⟨rfl, rfl⟩))
    (fun os started H enc _ F => by rw [OpenClaim.pre_eq_preRow]; exact lifted os started H enc F)

theorem plain (f : FuncId) (fn : Func) (hf : Tryd.pinned.checked.prog.funcNamed Rows.fnExactQuotedTextRow.func = some f) (hfn : Tryd.pinned.checked.prog.funcs[f]? = some fn) :
    false = Tryd.pinned.checked.prog.looks [] ∧ ∀ (j : Nat) t, fn.params[j]? = some t → Tryd.pinned.checked.prog.wantsStandIn t = false := by
  obtain rfl : f = 3 := Option.some.inj ((show Tryd.prog.funcNamed Rows.fnExactQuotedTextRow.func = some 3 by kernel_rfl).symm.trans hf) |>.symm
  obtain rfl : fn = Tryd.f3 := (Option.some.inj (Tryd.func3.symm.trans hfn)).symm
  refine ⟨by kernel_rfl, fun j t ht => ?_⟩
  rw [Tryd.params3] at ht
  obtain rfl : t = 22 := by simpa using Array.mem_of_getElem? ht
  exact (show Tryd.prog.wantsStandIn 22 = false by kernel_rfl)

theorem card : Rows.FnExactQuotedTextCardSaid :=
  Claim7.holds_tied_plain_at .later [] _ _ _ _ said (fun _ h => by cases h) (by kernel_rfl) (fun _ h => by cases h) fnExactQuotedText_row_tie rfl ⟨rfl, rfl⟩ (by kernel_rfl) rfl plain (by kernel_rfl)
end Go.Proofs.YtcnbnnllhinoeaaDoor.fnExactQuotedText
namespace Go.Proofs.YtcnbnnllhinoeaaDoor
theorem fnExactQuotedText_card : Rows.FnExactQuotedTextCardSaid := fnExactQuotedText.card
#print axioms fnExactQuotedText_card
end Go.Proofs.YtcnbnnllhinoeaaDoor
