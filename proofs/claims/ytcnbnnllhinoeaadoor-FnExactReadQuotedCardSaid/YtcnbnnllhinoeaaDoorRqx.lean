/-
  The card of FnExactReadQuoted: the proof.
-/
import Derived.Test.YtcnbnnllhinoeaaDoorCards
import Derived.Test.YtcnbnnllhinoeaaDoorTie
import Derived.Test.YtcnbnnllhinoeaaDoorByt
import Derived.Test.YtcnbnnllhinoeaaDoorByc
import Derived.Test.YtcnbnnllhinoeaaDoorUnt
import Derived.WalkKit
import Derived.ProofKit
import Derived.OpenShut
import Derived.ShutString
import Derived.OpenVars
import Derived.ChangeOld
import Derived.Below
import Derived.Deep.DeepHandedRow
import Derived.Deep.DeepWitnessRowRef
import Derived.LaidMore
import Derived.Lib.LaidTab
namespace Go.Proofs.YtcnbnnllhinoeaaDoor.fnExactReadQuoted
open Go.ChangeShapes Go.WideShapes Go.ChangeAt Go.RowKit
open Go.ChangeMaps (open_string shut_string)
set_option linter.unusedVariables false

theorem own : ownKnob Tryd.prog.godebug = none := by kernel_rfl
theorem laidOut : laidOutB Tryd.prog = true := by kernel_rfl

set_option maxHeartbeats 4000000 in
set_option maxRecDepth 100000 in
theorem walk (a0 : ByteArray) (w0 : a0.size ≤ maxLen) (w : World)  (hD : tb.TD w) :
    Calls Tryd.prog 4 #[.string a0] w fun e w' => e = .returned (.bool true) ∧ Below w.heap.size w w' := by
  by_cases hbig : 1048576 < a0.size
  · have hb : (1048576 : Int) < (a0.size : Int) := by omega
    clear hD
    go_enter Tryd.func4, Tryd.ntmps4
    go_wp2
    go_ret
    exact ⟨rfl, Below.refl _ _⟩
  have hb : (a0.size : Int) ≤ 1048576 := by omega
  have hlen := qu.ul_len a0
  have HT : Hid (∀ W, Below w.heap.size w W → tb.TD W) := fun W hW => tb.keep' hD hW
  clear hD
  go_enter Tryd.func4, Tryd.ntmps4
  go_wp2_with fail
  refine (qu.specGet_any a0 _ w0).mono ?_
  rintro e w1 ⟨⟨v0, rfl, own0⟩, b1⟩
  go_wp2_with fail
  refine (qu.implUn_any a0 _ (HT.out w1 b1) w0).mono ?_
  rintro e w2 ⟨⟨v1, rfl, own1⟩, b2⟩
  have b2' := b1.trans (b2.mono b1.size)
  have own0' := ow.own_below own0 b2
  have hap := ow.apart own0 own1
  obtain ⟨zs, hzs⟩ : ∃ zs, zs = b6.bz (qu.ul a0) := ⟨_, rfl⟩
  have hzl : zs.length = (qu.ul a0).length := by rw [hzs, b6.bz_len]
  rw [← b6.bz_cells, ← hzl, ← hzs] at own0' own1
  have HO : Hid (∀ (W : World) (v : Value) (bb : Nat), W.ownsRow bb 5 1 v (qu.ul a0).length (Lib.byteCells (qu.ul a0)) → W.ownsRow bb 5 1 v zs.length (zs.map (Value.int .u8))) := fun W v bb h => by rw [hzs, b6.bz_len, b6.bz_cells]; exact h
  rw [← hzl] at hlen
  clear hzs own0 hzl
  go_wp2_with fail
  refine (ow.eqBytes_any v1 v0 zs zs _ (ow.reads_own own1) (ow.reads_own own0') (by omega) (by omega)).mono ?_
  rintro e w3 ⟨hs, m, rfl⟩
  obtain rfl := ow.says_true hs rfl
  have hcd : (qu.uc a0 != qu.uc a0) = false := by simp
  go_wp2_with fail
  refine (ow.markB_any v1 zs.length w1.heap.size zs 1 (w2.drewN m) (by exact own1) (by omega) (by omega) (by omega)).mono ?_
  rintro e w4 ⟨rfl, ⟨ys, hyl, hym, own1'⟩, hg⟩
  have own0d : (w2.drewN m).ownsRow w.heap.size 5 1 v0 zs.length (zs.map (Value.int .u8)) := own0'
  have own0'' := own0d.kept hg hap
  have b4 : Below w.heap.size w w4 := Below.grown (below_drewN b2' m) hg (Nat.le_trans b1.size b2.size) (fun j hj => Nat.le_trans b1.size (ow.own_lt own1 j hj))
  go_wp2_with fail
  rw [← hyl] at own1' hym ⊢
  refine (ow.heldB_any v1 ys 1 _ (ow.reads_own own1') hym (by omega) (by omega) (by omega)).mono ?_
  rintro e w5 ⟨rfl, rfl⟩
  go_wp2_with fail
  refine (qu.implUn_any a0 _ (HT.out _ b4) w0).mono ?_
  rintro e w6 ⟨⟨v2, rfl, own2⟩, b6'⟩
  have own2' := HO.out _ _ _ own2
  have own0e := ow.own_below own0'' b6'
  have own1e := ow.own_below own1' b6'
  clear own2 HO
  go_wp2_with fail
  refine (ow.eqBytes_any v2 v0 zs zs _ (ow.reads_own own2') (ow.reads_own own0e) (by omega) (by omega)).mono ?_
  rintro e w7 ⟨hs, m2, rfl⟩
  obtain rfl := ow.says_true hs rfl
  go_wp2_with fail
  refine (ow.heldB_any v1 ys 1 (w6.drewN m2) (ow.reads_own (by exact own1e)) hym (by omega) (by omega) (by omega)).mono ?_
  rintro e w8 ⟨rfl, rfl⟩
  have bz : Below w.heap.size w (w6.drewN m2) := below_drewN (b4.trans (b6'.mono b4.size)) m2
  clear own0d own0' own0'' own0e own1 own1' own1e own2' hym hs hg HT
  go_wp2
  go_ret
  exact ⟨rfl, bz⟩

set_option maxRecDepth 100000 in
theorem contract (H : Type) (enc : TypeId × Value → H) (W : World) (base : Nat) (args : Array Value) (ds gs : List (DataW H)) (before : List MemPlace)
    (hval : ∀ (j : Nat) t v, Tryd.f4.params[j]? = some t → args[j]? = some v → Value.okWide Tryd.prog W .any base t v)
    (hW : DataW.Whole enc Tryd.prog Tryd.f4.params.toList Rows.fnExactReadQuotedSpec.vars false W args.toList ds gs before) (hL : laidMetH Tryd.prog Rows.fnExactReadQuotedRow.laid W) (hsh : W.ShapedOpen Tryd.prog) :
    Calls Tryd.prog 4 args W fun e W' => ∃ v, e = .returned v ∧ Rows.fnExactReadQuotedSpec.post enc Tryd.prog Tryd.f4 false true false false W args v W' := by
  have hW' := hW
  obtain ⟨p, q, hA0, hV, rfl, hfz, hnd⟩ := hW
  have hA : DataW.TrodAll enc Tryd.prog W 0 (fun _ => true) true Tryd.f4.params.toList args.toList ds p := hA0
  rw [Tryd.params4] at hA hval
  obtain ⟨v0, vs0, d0, ds0, p0, q0, hargs0, rfl, rfl, h0, r0⟩ := trodAll_cons hA
  obtain ⟨hnil, rfl, rfl⟩ := trodAll_nil r0
  obtain rfl : args = #[v0] := by cases args; simp_all
  obtain ⟨a0, rfl, rfl, rfl, w0⟩ := open_string Tryd.underlying9 (hval 0 9 v0 rfl rfl) h0
  clear hA0
  simp only [List.append_nil] at hW'
  have hLL : laidMet Tryd.prog Rows.fnExactReadQuotedRow.laid W := hL
  obtain ⟨ps, hLV, _⟩ := hLL
  obtain ⟨g, t, cs, fuel, d, pp, rfl, _, _, _, _, _⟩ := trodVars_one hV
  refine (walk a0 w0 W  (tb.td_of (List.mem_of_getElem? (i := 0) (by kernel_rfl)) hLV)).mono fun e W' ⟨he, bel⟩ => ?_
  subst he
  exact ⟨_, rfl, _, _, _, [], [], _, hW', trodAll_cons_mk (shut_bool Tryd.underlying4 _) trodAll_mk0, (trodAll_cons_mk (shut_string Tryd.underlying9 w0) trodAll_mk0), Below.trodVars laidOut bel (by kernel_rfl) hV, bel.frame _, fun h => by cases h⟩
set_option maxRecDepth 100000 in
theorem laid_met (os : Os) : laidMet Tryd.prog Rows.fnExactReadQuotedRow.laid ((World.doorLaid Tryd.prog 14 os).forCall (fun _ _ => 0) ⟨#[], #[Value.string .empty], []⟩).memory :=
  laidMet_of_run' 8 (by kernel_rfl) (by kernel_rfl)
theorem reads (os : Os) {H : Type} (enc : TypeId × Value → H) : ∃ places, DataW.whole enc Tryd.prog ((World.doorLaid Tryd.prog 14 os).forCall (fun _ _ => 0) ⟨#[], #[Value.string .empty], []⟩).memory Tryd.f4.params.toList Rows.fnExactReadQuotedSpec.vars false #[Value.string .empty].toList 8 = some ([.lit (.string [])], [Rows.laid_loop_example_g00268_impl_digitChars], places) :=
  ⟨MemPlace.row ⟨0, 0, none⟩ 16, by kernel_rfl⟩

set_option maxRecDepth 100000 in
theorem lifted (os : Os) (started : os.Started) (H : Type) (enc : TypeId × Value → H) (F : Stop.Interp) :
    ReturnsInHanded {} Tryd.checked os 4 .any ((OpenSpec.ofChange Rows.fnExactReadQuotedSpec).preRow enc Tryd.prog Tryd.f4 Rows.fnExactReadQuotedRow.domain false Rows.fnExactReadQuotedRow.laid) (((OpenSpec.ofChange Rows.fnExactReadQuotedSpec).at F).post enc Tryd.prog Tryd.f4 false true false false) := by
  obtain ⟨places, hx⟩ := reads os enc
  refine returnsInHanded_of_row (C := Tryd.checked) (s := OpenSpec.ofChange Rows.fnExactReadQuotedSpec) own started (by kernel_rfl) Tryd.func4
    (witness_row_atRef (enc := enc) (C := Tryd.checked) false (World.doorLaid Tryd.prog 14 os) #[Value.string .empty] rfl (by kernel_rfl) (by kernel_rfl) (by kernel_rfl)
      (OpenSpec.preRow_of_cond 8 hx (by kernel_rfl) (fun k hk => by cases hk) (by kernel_rfl) (laid_met os))) ?_
  intro W base args ds gs before hval hW _ _ _ hL hsh _
  exact contract H enc W base args ds gs before hval hW hL hsh

theorem said : Rows.FnExactReadQuotedSaid :=
  OpenClaim.holds_of_cond 4 Tryd.f4 rfl rfl rfl rfl rfl rfl rfl ⟨rfl, rfl, rfl, rfl, rfl⟩ rfl rfl rfl rfl rfl (by kernel_rfl) Tryd.func4 (by kernel_rfl)
    (of_decide_eq_true (by kernel_rfl)) (by unfold Func.isWrapper; first | (rw [if_pos (by decide +kernel)]; kernel_rfl) | (rw [if_neg (by decide +kernel)]; exact ⟨rfl, rfl⟩))
    (fun os started H enc _ F => by rw [OpenClaim.pre_eq_preRow]; exact lifted os started H enc F)

theorem plain (f : FuncId) (fn : Func) (hf : Tryd.pinned.checked.prog.funcNamed Rows.fnExactReadQuotedRow.func = some f) (hfn : Tryd.pinned.checked.prog.funcs[f]? = some fn) :
    false = Tryd.pinned.checked.prog.looks [] ∧ ∀ (j : Nat) t, fn.params[j]? = some t → Tryd.pinned.checked.prog.wantsStandIn t = false := by
  obtain rfl : f = 4 := Option.some.inj ((show Tryd.prog.funcNamed Rows.fnExactReadQuotedRow.func = some 4 by kernel_rfl).symm.trans hf) |>.symm
  obtain rfl : fn = Tryd.f4 := (Option.some.inj (Tryd.func4.symm.trans hfn)).symm
  refine ⟨by kernel_rfl, fun j t ht => ?_⟩
  rw [Tryd.params4] at ht
  obtain rfl : t = 9 := by simpa using Array.mem_of_getElem? ht
  exact (show Tryd.prog.wantsStandIn 9 = false by kernel_rfl)

theorem card : Rows.FnExactReadQuotedCardSaid :=
  Claim7.holds_tied_plain_at .later [] _ _ _ _ said (fun _ h => by cases h) (by kernel_rfl) (fun _ h => by cases h) fnExactReadQuoted_row_tie rfl ⟨rfl, rfl⟩ (by kernel_rfl) rfl plain (by kernel_rfl)
end Go.Proofs.YtcnbnnllhinoeaaDoor.fnExactReadQuoted
namespace Go.Proofs.YtcnbnnllhinoeaaDoor
theorem fnExactReadQuoted_card : Rows.FnExactReadQuotedCardSaid := fnExactReadQuoted.card
#print axioms fnExactReadQuoted_card
end Go.Proofs.YtcnbnnllhinoeaaDoor
