/-
  What the card rests on: the row's contract.
-/
import Derived.Test.YtmckekflpdaklaaGreatDoorPkbf
import Derived.Test.YtmckekflpdaklaaGreatDoorCards
import Derived.Test.YtmckekflpdaklaaGreatDoorTie
import Derived.Test.YtmckekflpdaklaaGreatDoorPkbe
import Derived.Test.YtmckekflpdaklaaGreatDoorPkau
import Derived.WalkKit
import Derived.ProofKit
import Derived.OpenShut
import Derived.ShutString
import Derived.OpenVars
import Derived.ChangeOld
import Derived.Below
import Derived.Deep.DeepHandedRow
import Derived.Deep.DeepWitnessRowRef
import Derived.LaidMore
import Derived.Lib.LaidTab
import Derived.LaidOnce

namespace Go.Proofs.YtmckekflpdaklaaGreatDoor.fnExactRenderEntry
open Go.ChangeShapes Go.WideShapes Go.ChangeAt Go.RowKit
open Go.ChangeMaps (open_string shut_string)
set_option linter.unusedVariables false

theorem own : ownKnob Tryz.prog.godebug = none := by kernel_rfl
theorem laidOut : laidOutB Tryz.prog = true := by kernel_rfl

theorem vars_len {H : Type} {enc : TypeId × Value → H} {P : Program} {w : World} {spare : Nat → Bool} : ∀ (ns : List String) (gs : List (DataW H)) (ps : List MemPlace), DataW.TrodVars enc P w spare ns gs ps → gs.length = ns.length
  | [], [], _, _ => rfl
  | [], d :: ds, _, h => by simp [DataW.TrodVars] at h
  | n :: ns, [], _, h => by simp [DataW.TrodVars] at h
  | n :: ns, d :: ds, _, h => by
    obtain ⟨g, t, cs, f, p, q, _, _, _, _, hs, _⟩ := h
    simp [vars_len ns ds q hs]
set_option maxRecDepth 100000 in
theorem contract (H : Type) (enc : TypeId × Value → H) (W : World) (base : Nat) (args : Array Value) (ds gs : List (DataW H)) (before : List MemPlace)
    (hval : ∀ (j : Nat) t v, Tryz.f3.params[j]? = some t → args[j]? = some v → Value.okWide Tryz.prog W .any base t v)
    (hW : DataW.Whole enc Tryz.prog Tryz.f3.params.toList Rows.fnExactRenderEntrySpec.vars false W args.toList ds gs before) (hL : laidMetH Tryz.prog Rows.fnExactRenderEntryRow.laid W) (hsh : W.ShapedOpen Tryz.prog) :
    Calls Tryz.prog 3 args W fun e W' => ∃ v, e = .returned v ∧ Rows.fnExactRenderEntrySpec.post enc Tryz.prog Tryz.f3 false true false false W args v W' := by
  have hW' := hW
  obtain ⟨p, q, hA0, hV, rfl, hfz, hnd⟩ := hW
  have hA : DataW.TrodAll enc Tryz.prog W 0 (fun _ => true) true Tryz.f3.params.toList args.toList ds p := hA0
  rw [Tryz.params3] at hA hval
  obtain ⟨v0, vs0, d0, ds0, p0, q0, hargs0, rfl, rfl, h0, r0⟩ := trodAll_cons hA
  obtain ⟨v1, vs1, d1, ds1, p1, q1, hargs1, rfl, rfl, h1, r1⟩ := trodAll_cons r0
  obtain ⟨hnil, rfl, rfl⟩ := trodAll_nil r1
  obtain rfl : args = #[v0, v1] := by cases args; simp_all
  have k0 := h0
  have lt0 : ∀ x ∈ p0, x.block < W.heap.size := by obtain ⟨m, hm⟩ := k0; exact DataW.trod_lt m _ _ _ hm
  obtain ⟨a0, rfl, w0⟩ := en.open_entry (hval 0 23 v0 rfl rfl) h0
  obtain ⟨a1, rfl, rfl, rfl, w1⟩ := open_string Tryz.underlying9 (hval 1 9 v1 rfl rfl) h1
  clear hA0
  simp only [List.append_nil] at hW'
  obtain ⟨x0, x1, x2, x3, rfl⟩ : ∃ x0 x1 x2 x3, gs = [x0, x1, x2, x3] := by
    have hl : gs.length = 4 := vars_len _ _ _ hV
    match gs, hl with
    | [x0, x1, x2, x3], _ => exact ⟨x0, x1, x2, x3, rfl⟩
  have hLL : laidMet Tryz.prog Rows.fnExactRenderEntryRow.laid W := hL
  obtain ⟨ps, hLV, _⟩ := hLL
  obtain ⟨m, hm⟩ := Tryz.laysM219.s1_3 W hsh
  refine (walk a0 w0 a1 w1 W  (td.tp_of (List.mem_of_getElem? (i := 2) (by kernel_rfl)) hLV) (td.tw_of (List.mem_of_getElem? (i := 8) (by kernel_rfl)) hLV) (td.tn_of (List.mem_of_getElem? (i := 9) (by kernel_rfl)) hLV) (tb.tc_of (List.mem_of_getElem? (i := 6) (by kernel_rfl)) hLV) (tb.td_of (List.mem_of_getElem? (i := 7) (by kernel_rfl)) hLV) (tb.ta_of (List.mem_of_getElem? (i := 5) (by kernel_rfl)) hLV) m hm).mono fun e W' ⟨he, bel⟩ => ?_
  subst he
  exact ⟨_, rfl, _, _, _, [], _, _, hW', trodAll_cons_mk (shut_bool Tryz.underlying4 _) trodAll_mk0, (trodAll_cons_mk (Below.trod laidOut (by kernel_rfl) (of_decide_eq_true (by kernel_rfl)) k0 bel lt0) (trodAll_cons_mk (shut_string Tryz.underlying9 w1) trodAll_mk0)), Below.trodVars laidOut bel (by kernel_rfl) hV, bel.frame _, fun h => by cases h⟩
end Go.Proofs.YtmckekflpdaklaaGreatDoor.fnExactRenderEntry
