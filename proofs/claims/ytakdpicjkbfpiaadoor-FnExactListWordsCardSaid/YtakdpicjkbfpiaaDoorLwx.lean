/-
  The program's ListWords answers as the specification's does at every text, its answer owns its memory: the law FnExactListWords holds for every text; the package variables that its row lists start as the program's text lays them.
-/
import Derived.Test.YtakdpicjkbfpiaaDoorCards
import Derived.Test.YtakdpicjkbfpiaaDoorTie
import Derived.Test.YtakdpicjkbfpiaaDoorLwe
import Derived.WalkKit
import Derived.ProofKit
import Derived.OpenShut
import Derived.ShutString
import Derived.OpenVars
import Derived.ChangeOld
import Derived.Below
import Derived.Deep.DeepHandedRow
import Derived.Deep.DeepWitnessRowRef
import Derived.LaidMore
import Derived.Lib.LaidTab
namespace Go.Proofs.YtakdpicjkbfpiaaDoor.fnExactListWords
open Go.ChangeShapes Go.WideShapes Go.ChangeAt Go.RowKit
open Go.ChangeMaps (open_string shut_string)
set_option linter.unusedVariables false

theorem own : ownKnob Tryd.prog.godebug = none := by kernel_rfl
theorem laidOut : laidOutB Tryd.prog = true := by kernel_rfl

set_option maxHeartbeats 4000000 in
set_option maxRecDepth 100000 in
theorem walk (a0 : ByteArray) (w0 : a0.size ≤ maxLen) (w : World)  (m : Int) (hm : w.cell? ⟨0, 0, none⟩ = some (.int .i64 m)) :
    Calls Tryd.prog 4 #[.string a0] w fun e w' => e = .returned (.bool true) ∧ Below w.heap.size w w' := by
  unfold maxLen at w0
  by_cases hbig : 1048576 < a0.size
  · have hb : (1048576 : Int) < (a0.size : Int) := by omega
    go_enter Tryd.func4, Tryd.ntmps4
    go_wp2
    go_ret
    exact ⟨rfl, Below.refl _ _⟩
  have hb : (a0.size : Int) ≤ 1048576 := by omega
  have hs : a0.size ≤ 1048576 := by omega
  have HM : Hid (w.cell? ⟨0, 0, none⟩ = some (.int .i64 m)) := hm
  clear hm
  have HI : Hid (∀ W, Below w.heap.size w W → Calls Tryd.prog 9 #[.string a0] W fun e w' => (∃ v, e = .returned (.tuple #[v, .int .i64 (lw.LR a0).2]) ∧ ky.OwnT w' W.heap.size v (lw.LT a0)) ∧ Below W.heap.size W w') := fun W hW => (lw.implLW a0 hs W m ((hW.cell (p := ⟨0, 0, none⟩) (World.block_lt_of_cell? w _ HM.out)).trans HM.out)).mono fun e w' ⟨⟨v, he, ho⟩, hb⟩ => ⟨⟨v, he, lw.own_t ho⟩, hb⟩
  have HSP : Hid (Calls Tryd.prog 8 #[.string a0] w fun e w' => (∃ v, e = .returned (.tuple #[v, .int .i64 (lw.LR a0).2]) ∧ ky.OwnT w' w.heap.size v (lw.LT a0)) ∧ Below w.heap.size w w') := (lw.specLW a0 w hs).mono fun e w' ⟨⟨v, he, ho⟩, hb⟩ => ⟨⟨v, he, lw.own_t ho⟩, hb⟩
  have hlen := lw.lt_len a0
  clear HM
  generalize lw.LT a0 = ps at HI HSP hlen
  generalize (lw.LR a0).2 = c at HI HSP
  have hsl : ∀ {W : World} {B : Nat} {v : Value}, ky.OwnT W B v ps → ∃ a cc, v = .slice a ps.length cc := fun h => by
    rcases h.2 with ⟨e, h0⟩ | ⟨g, cap, cur, e, _⟩
    · exact ⟨none, 0, by rw [e, h0]⟩
    · exact ⟨_, cap, e⟩
  go_enter Tryd.func4, Tryd.ntmps4
  go_wp2_with fail
  refine HSP.out.mono ?_
  rintro e w1 ⟨⟨v1, rfl, own1⟩, b1⟩
  obtain ⟨a1, c1, rfl⟩ := hsl own1
  have HR1 : Hid (ky.TextsAt w1 (.slice a1 ps.length c1) ps) := ky.own_texts own1
  clear own1 HSP
  go_wp2_with fail
  refine (HI.out w1 b1).mono ?_
  rintro e w2 ⟨⟨v2, rfl, own2⟩, hb2⟩
  have b2 := b1.trans (hb2.mono b1.size)
  obtain ⟨a2, c2, rfl⟩ := hsl own2
  have HR1b : Hid (ky.TextsAt w2 (.slice a1 ps.length c1) ps) := ky.texts_below HR1.out hb2
  have HR2 : Hid (ky.TextsAt w2 (.slice a2 ps.length c2) ps) := ky.own_texts own2
  have HO2 : Hid (ky.OwnT w2 w1.heap.size (.slice a2 ps.length c2) ps) := own2
  have HB12 : Hid (Below w1.heap.size w1 w2) := hb2
  have cd : ((c : Int) != c) = false := by simp
  clear own2 hb2
  go_wp2_with fail
  refine (ky.eqTexts_any _ _ ps w2 HR2.out HR1b.out (by omega)).mono ?_
  rintro e w3 ⟨rfl, hb3⟩
  have HO3 : Hid (ky.OwnT w3 w1.heap.size (.slice a2 ps.length c2) ps) := ow.own_below HO2.out hb3
  have HB13 : Hid (Below w1.heap.size w1 w3) := HB12.out.trans (hb3.mono HB12.out.size)
  have b3 := b2.trans (hb3.mono b2.size)
  clear HO2 HR2 HR1b hb3 HB12 b2
  go_wp2_with fail
  refine (mk.markTexts_any _ w1.heap.size ps 1 w3 HO3.out (by omega) (by omega) (by omega)).mono ?_
  rintro e w4 ⟨rfl, hrg4, hg4⟩
  have HB14 : Hid (Below w1.heap.size w1 w4) := Below.grown HB13.out hg4 HB13.out.size (ow.own_lt HO3.out)
  have HR14 : Hid (ky.TextsAt w4 (.slice a1 ps.length c1) ps) := ky.texts_below HR1.out HB14.out
  have HM4 : Hid (ky.TextsAt w4 (.slice a2 ps.length c2) (mk.marks 1 ps.length)) := by
    have := ky.own_texts hrg4
    exact this
  have b4 : Below w.heap.size w w4 := b1.trans (HB14.out.mono b1.size)
  clear hrg4 hg4 HO3 HB13 b3
  go_wp2_with fail
  refine (mk.heldTexts_any _ ps.length 1 w4 HM4.out (by omega) (by omega) (by omega)).mono ?_
  rintro e w5 ⟨rfl, hb5⟩
  have HR15 : Hid (ky.TextsAt w5 (.slice a1 ps.length c1) ps) := ky.texts_below HR14.out hb5
  have HM5 : Hid (ky.TextsAt w5 (.slice a2 ps.length c2) (mk.marks 1 ps.length)) := ky.texts_below HM4.out hb5
  have b5 := b4.trans (hb5.mono b4.size)
  have ce : ((1 + (ps.length : Int)) != (1 + (ps.length : Int))) = false := by simp
  have cf : ¬ (1 + (ps.length : Int)) < 0 := by omega
  clear HR14 HM4 hb5 b4 HB14
  go_wp2_with fail
  refine (HI.out w5 b5).mono ?_
  rintro e w6 ⟨⟨v6, rfl, own6⟩, hb6⟩
  obtain ⟨a6, c6, rfl⟩ := hsl own6
  have HR6 : Hid (ky.TextsAt w6 (.slice a6 ps.length c6) ps) := ky.own_texts own6
  have HR16 : Hid (ky.TextsAt w6 (.slice a1 ps.length c1) ps) := ky.texts_below HR15.out hb6
  have HM6 : Hid (ky.TextsAt w6 (.slice a2 ps.length c2) (mk.marks 1 ps.length)) := ky.texts_below HM5.out hb6
  have b6 := b5.trans (hb6.mono b5.size)
  clear own6 hb6 HR15 HM5 b5 HI
  go_wp2_with fail
  refine (ky.eqTexts_any _ _ ps w6 HR6.out HR16.out (by omega)).mono ?_
  rintro e w7 ⟨rfl, hb7⟩
  have HM7 : Hid (ky.TextsAt w7 (.slice a2 ps.length c2) (mk.marks 1 ps.length)) := ky.texts_below HM6.out hb7
  have b7 := b6.trans (hb7.mono b6.size)
  clear HR6 HR16 HM6 hb7 b6
  go_wp2_with fail
  refine (mk.heldTexts_any _ ps.length 1 w7 HM7.out (by omega) (by omega) (by omega)).mono ?_
  rintro e w8 ⟨rfl, hb8⟩
  have b8 := b7.trans (hb8.mono b7.size)
  clear hb8 b7
  go_wp2
  go_ret
  exact ⟨rfl, b8⟩

set_option maxRecDepth 100000 in
theorem contract (H : Type) (enc : TypeId × Value → H) (W : World) (base : Nat) (args : Array Value) (ds gs : List (DataW H)) (before : List MemPlace)
    (hval : ∀ (j : Nat) t v, Tryd.f4.params[j]? = some t → args[j]? = some v → Value.okWide Tryd.prog W .any base t v)
    (hW : DataW.Whole enc Tryd.prog Tryd.f4.params.toList Rows.fnExactListWordsSpec.vars false W args.toList ds gs before) (hL : laidMetH Tryd.prog Rows.fnExactListWordsRow.laid W) (hsh : W.ShapedOpen Tryd.prog) :
    Calls Tryd.prog 4 args W fun e W' => ∃ v, e = .returned v ∧ Rows.fnExactListWordsSpec.post enc Tryd.prog Tryd.f4 false true false false W args v W' := by
  have hW' := hW
  obtain ⟨p, q, hA0, hV, rfl, hfz, hnd⟩ := hW
  have hA : DataW.TrodAll enc Tryd.prog W 0 (fun _ => true) true Tryd.f4.params.toList args.toList ds p := hA0
  rw [Tryd.params4] at hA hval
  obtain ⟨v0, vs0, d0, ds0, p0, q0, hargs0, rfl, rfl, h0, r0⟩ := trodAll_cons hA
  obtain ⟨hnil, rfl, rfl⟩ := trodAll_nil r0
  obtain rfl : args = #[v0] := by cases args; simp_all
  obtain ⟨a0, rfl, rfl, rfl, w0⟩ := open_string Tryd.underlying9 (hval 0 9 v0 rfl rfl) h0
  clear hA0
  simp only [List.append_nil] at hW'
  have hLL : laidMet Tryd.prog Rows.fnExactListWordsRow.laid W := hL
  obtain ⟨ps, hLV, _⟩ := hLL
  obtain ⟨rfl, rfl⟩ := trodVars_none hV
  obtain ⟨m, hm⟩ := Tryd.laysM219.s1_3 W hsh
  refine (walk a0 w0 W  m hm).mono fun e W' ⟨he, bel⟩ => ?_
  subst he
  exact ⟨_, rfl, _, _, _, [], [], [], hW', trodAll_cons_mk (shut_bool Tryd.underlying4 _) trodAll_mk0, (trodAll_cons_mk (shut_string Tryd.underlying9 w0) trodAll_mk0), rfl, bel.frame _, fun h => by cases h⟩
def putF (o : Obj) : Obj := match o with
  | .cells _ t frozen => .cells (Go.Pinned.utf8FirstZ.map fun (n : Nat) => Value.int .u8 (n : Int)).toArray t frozen
  | o => o
set_option maxRecDepth 100000 in
theorem laid_met (os : Os) : laidMet Tryd.prog Rows.fnExactListWordsRow.laid (({ World.doorLaid Tryd.prog 72 os with heap := (World.doorLaid Tryd.prog 72 os).heap.modify 1 putF } : World).forCall (fun _ _ => 0) ⟨#[], #[Value.string .empty], []⟩).memory :=
  laidMet_of_run' 8 (by kernel_rfl) (by kernel_rfl)
theorem reads (os : Os) {H : Type} (enc : TypeId × Value → H) : ∃ places, DataW.whole enc Tryd.prog (({ World.doorLaid Tryd.prog 72 os with heap := (World.doorLaid Tryd.prog 72 os).heap.modify 1 putF } : World).forCall (fun _ _ => 0) ⟨#[], #[Value.string .empty], []⟩).memory Tryd.f4.params.toList Rows.fnExactListWordsSpec.vars false #[Value.string .empty].toList 8 = some ([.lit (.string [])], [], places) :=
  ⟨[], by kernel_rfl⟩

set_option maxRecDepth 100000 in
theorem lifted (os : Os) (started : os.Started) (H : Type) (enc : TypeId × Value → H) (F : Stop.Interp) :
    ReturnsInHanded {} Tryd.checked os 4 .any ((OpenSpec.ofChange Rows.fnExactListWordsSpec).preRow enc Tryd.prog Tryd.f4 Rows.fnExactListWordsRow.domain false Rows.fnExactListWordsRow.laid) (((OpenSpec.ofChange Rows.fnExactListWordsSpec).at F).post enc Tryd.prog Tryd.f4 false true false false) := by
  obtain ⟨places, hx⟩ := reads os enc
  refine returnsInHanded_of_row (C := Tryd.checked) (s := OpenSpec.ofChange Rows.fnExactListWordsSpec) own started (by kernel_rfl) Tryd.func4
    (witness_row_atRef (enc := enc) (C := Tryd.checked) false ({ World.doorLaid Tryd.prog 72 os with heap := (World.doorLaid Tryd.prog 72 os).heap.modify 1 putF } : World) #[Value.string .empty] rfl (by kernel_rfl) (by kernel_rfl) (by kernel_rfl)
      (OpenSpec.preRow_of_cond 8 hx (by kernel_rfl) (fun k hk => by cases hk) (by kernel_rfl) (laid_met os))) ?_
  intro W base args ds gs before hval hW _ _ _ hL hsh _
  exact contract H enc W base args ds gs before hval hW hL hsh

theorem said : Rows.FnExactListWordsSaid :=
  OpenClaim.holds_of_cond 4 Tryd.f4 rfl rfl rfl rfl rfl rfl rfl ⟨rfl, rfl, rfl, rfl, rfl⟩ rfl rfl rfl rfl rfl (by kernel_rfl) Tryd.func4 (by kernel_rfl)
    (of_decide_eq_true (by kernel_rfl)) (by unfold Func.isWrapper; first | (rw [if_pos (by decide +kernel)]; kernel_rfl) | (rw [if_neg (by decide +kernel)]; exact ⟨rfl, rfl⟩))
    (fun os started H enc _ F => by rw [OpenClaim.pre_eq_preRow]; exact lifted os started H enc F)

theorem plain (f : FuncId) (fn : Func) (hf : Tryd.pinned.checked.prog.funcNamed Rows.fnExactListWordsRow.func = some f) (hfn : Tryd.pinned.checked.prog.funcs[f]? = some fn) :
    true = Tryd.pinned.checked.prog.looks [] ∧ ∀ (j : Nat) t, fn.params[j]? = some t → Tryd.pinned.checked.prog.wantsStandIn t = false := by
  obtain rfl : f = 4 := Option.some.inj ((show Tryd.prog.funcNamed Rows.fnExactListWordsRow.func = some 4 by kernel_rfl).symm.trans hf) |>.symm
  obtain rfl : fn = Tryd.f4 := (Option.some.inj (Tryd.func4.symm.trans hfn)).symm
  refine ⟨by kernel_rfl, fun j t ht => ?_⟩
  rw [Tryd.params4] at ht
  obtain rfl : t = 9 := by simpa using Array.mem_of_getElem? ht
  exact (show Tryd.prog.wantsStandIn 9 = false by kernel_rfl)

theorem card : Rows.FnExactListWordsCardSaid :=
  Claim7.holds_tied_plain_at .later [] _ _ _ _ said (fun _ h => by cases h) (by kernel_rfl) (fun _ h => by cases h) fnExactListWords_row_tie rfl ⟨rfl, rfl⟩ (by kernel_rfl) rfl plain (by kernel_rfl)
end Go.Proofs.YtakdpicjkbfpiaaDoor.fnExactListWords
namespace Go.Proofs.YtakdpicjkbfpiaaDoor
theorem fnExactListWords_card : Rows.FnExactListWordsCardSaid := fnExactListWords.card
#print axioms fnExactListWords_card
end Go.Proofs.YtakdpicjkbfpiaaDoor
