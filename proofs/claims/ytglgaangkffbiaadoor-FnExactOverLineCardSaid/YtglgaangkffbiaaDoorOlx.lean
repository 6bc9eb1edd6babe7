/-
  Both OverLine functions answer alike at every stored mail; for every input.
-/
import Derived.Test.YtglgaangkffbiaaDoorCards
import Derived.Test.YtglgaangkffbiaaDoorTie
import Derived.Test.YtglgaangkffbiaaDoorOvi
import Derived.Test.YtglgaangkffbiaaDoorOvl
import Derived.WalkKit
import Derived.ProofKit
import Derived.OpenShut
import Derived.ShutString
import Derived.OpenVars
import Derived.ChangeOld
import Derived.Below
import Derived.Deep.DeepHandedRow
import Derived.Deep.DeepWitnessRowRef
import Derived.LaidMore
import Derived.Lib.LaidTab
namespace Go.Proofs.YtglgaangkffbiaaDoor.fnExactOverLine
open Go.ChangeShapes Go.WideShapes Go.ChangeAt Go.RowKit
open Go.ChangeMaps (open_string shut_string)
set_option linter.unusedVariables false

theorem own : ownKnob Tryd.prog.godebug = none := by kernel_rfl
theorem laidOut : laidOutB Tryd.prog = true := by kernel_rfl

set_option maxHeartbeats 4000000 in
set_option maxRecDepth 100000 in
theorem walk (u0 f0 : Int) (t0 : ByteArray) (hu0 : sm1.In u0) (hf0 : sm1.In f0) (ht0 : t0.size ≤ maxLen) (w : World)  (hP : tb.TP w) (m : Int) (hm : w.cell? ⟨0, 0, none⟩ = some (.int .i64 m)) :
    Calls Tryd.prog 5 #[sm1.SV u0 f0 t0] w fun e w' => e = .returned (.bool true) ∧ Below w.heap.size w w' := by
  have c0 := sm1.cell3 w #[.int .i64 u0, .int .i64 f0, .string t0] 26 0 _ rfl
  have c1 := sm1.cell3 w #[.int .i64 u0, .int .i64 f0, .string t0] 26 1 _ rfl
  have c2 := sm1.cell3 w #[.int .i64 u0, .int .i64 f0, .string t0] 26 2 _ rfl
  have b0 : Below w.heap.size w (w.alloc (.cells #[.int .i64 u0, .int .i64 f0, .string t0] 26)) := (Below.refl _ _).alloc (Nat.le_refl _) _
  have hgl := World.block_lt_of_cell? _ _ hm
  have HM : Hid (∀ W, Below w.heap.size w W → W.cell? ⟨0, 0, none⟩ = some (.int .i64 m) ∧ tb.TP W) := fun W hW => ⟨(hW.cell (p := ⟨0, 0, none⟩) hgl).trans hm, tb.keep' hP hW⟩
  clear hm hgl hP hu0 hf0
  unfold sm1.SV
  go_enter Tryd.func5, Tryd.ntmps5
  go_wp2_with fail
  generalize w.alloc _ = w0 at c0 c1 c2 b0 ⊢
  have HC : Hid (∀ W, Below w0.heap.size w0 W → W.cell? ⟨w.heap.size, 0, none⟩ = some (.int .i64 u0) ∧ W.cell? ⟨w.heap.size, 1, none⟩ = some (.int .i64 f0) ∧ W.cell? ⟨w.heap.size, 2, none⟩ = some (.string t0)) := fun W hW => ⟨ov.kp hW c0, ov.kp hW c1, ov.kp hW c2⟩
  have HB0 : Hid (Below w.heap.size w w0) := b0
  clear c0 c1 c2 b0
  refine (sm1.szStored_any u0 f0 t0 w0 ht0).mono ?_
  rintro e w1 ⟨⟨z, rfl, hz0, hz1, hz2⟩, b1⟩
  have HB1 : Hid (Below w.heap.size w w1) := HB0.out.trans (b1.mono HB0.out.size)
  by_cases hz : z < 0
  · go_wp2
    go_ret
    exact ⟨rfl, HB1.out⟩
  have hts := hz2 (by omega)
  have c0 := (HC.out w1 b1).1
  have c1 := (HC.out w1 b1).2.1
  have c2 := (HC.out w1 b1).2.2
  clear hz2
  go_wp2_with fail
  refine (sm1.toStored_any u0 f0 t0 w1).mono ?_
  rintro e w2 ⟨rfl, hb2⟩
  have b2 := b1.trans (hb2.mono b1.size)
  have HB2 : Hid (Below w.heap.size w w2) := HB0.out.trans (b2.mono HB0.out.size)
  clear c0 c1 c2 hb2 b1
  go_wp2_with fail
  refine (ov.specOl_any u0 f0 t0 w2 hts).mono ?_
  rintro e w3 ⟨h3, hb3⟩
  obtain ⟨A, c, rfl⟩ := ov.ov_ex h3
  have H3 : Hid (ov.OvIs u0 t0 (.returned (.tuple #[.string A, .int .i64 c]))) := h3
  have b3 := b2.trans (hb3.mono b2.size)
  have HB3 : Hid (Below w.heap.size w w3) := HB0.out.trans (b3.mono HB0.out.size)
  have c0 := (HC.out w3 b3).1
  have c1 := (HC.out w3 b3).2.1
  have c2 := (HC.out w3 b3).2.2
  clear h3 hb3 b2
  go_wp2_with fail
  refine (sm1.toStored_any u0 f0 t0 w3).mono ?_
  rintro e w4 ⟨rfl, hb4⟩
  have HB4 : Hid (Below w.heap.size w w4) := HB3.out.trans (hb4.mono HB3.out.size)
  clear c0 c1 c2 hb4 b3
  go_wp2_with fail
  refine (ov.implOl_any u0 f0 t0 w4 m (HM.out _ HB4.out).1 (HM.out _ HB4.out).2 hts).mono ?_
  rintro e w5 ⟨h5, hb5⟩
  obtain ⟨A', c', rfl⟩ := ov.ov_ex h5
  obtain ⟨rfl, rfl⟩ := ov.ov_same H3.out h5
  have HB5 : Hid (Below w.heap.size w w5) := HB4.out.trans (hb5.mono HB4.out.size)
  clear h5 H3 hb5
  go_wp2
  go_ret
  exact ⟨rfl, HB5.out⟩

set_option maxRecDepth 100000 in
theorem contract (H : Type) (enc : TypeId × Value → H) (W : World) (base : Nat) (args : Array Value) (ds gs : List (DataW H)) (before : List MemPlace)
    (hval : ∀ (j : Nat) t v, Tryd.f5.params[j]? = some t → args[j]? = some v → Value.okWide Tryd.prog W .any base t v)
    (hW : DataW.Whole enc Tryd.prog Tryd.f5.params.toList Rows.fnExactOverLineSpec.vars false W args.toList ds gs before) (hL : laidMetH Tryd.prog Rows.fnExactOverLineRow.laid W) (hsh : W.ShapedOpen Tryd.prog) :
    Calls Tryd.prog 5 args W fun e W' => ∃ v, e = .returned v ∧ Rows.fnExactOverLineSpec.post enc Tryd.prog Tryd.f5 false true false false W args v W' := by
  have hW' := hW
  obtain ⟨p, q, hA0, hV, rfl, hfz, hnd⟩ := hW
  have hA : DataW.TrodAll enc Tryd.prog W 0 (fun _ => true) true Tryd.f5.params.toList args.toList ds p := hA0
  rw [Tryd.params5] at hA hval
  obtain ⟨v0, vs0, d0, ds0, p0, q0, hargs0, rfl, rfl, h0, r0⟩ := trodAll_cons hA
  obtain ⟨hnil, rfl, rfl⟩ := trodAll_nil r0
  obtain rfl : args = #[v0] := by cases args; simp_all
  have k0 := h0
  have lt0 : ∀ x ∈ p0, x.block < W.heap.size := by obtain ⟨m, hm⟩ := k0; exact DataW.trod_lt m _ _ _ hm
  obtain ⟨u0, f0, t0, rfl, hu0, hf0, ht0⟩ := sm1.open_stored (hval 0 26 v0 rfl rfl) h0
  clear hA0
  simp only [List.append_nil] at hW'
  have hLL : laidMet Tryd.prog Rows.fnExactOverLineRow.laid W := hL
  obtain ⟨ps, hLV, _⟩ := hLL
  obtain ⟨rfl, rfl⟩ := trodVars_none hV
  obtain ⟨m, hm⟩ := Tryd.laysM219.s1_3 W hsh
  refine (walk u0 f0 t0 hu0 hf0 ht0 W  (tb.tp_of (List.mem_of_getElem? (i := 2) (by kernel_rfl)) hLV) m hm).mono fun e W' ⟨he, bel⟩ => ?_
  subst he
  exact ⟨_, rfl, _, _, _, [], _, [], hW', trodAll_cons_mk (shut_bool Tryd.underlying4 _) trodAll_mk0, (trodAll_cons_mk (Below.trod laidOut (by kernel_rfl) (of_decide_eq_true (by kernel_rfl)) k0 bel lt0) trodAll_mk0), rfl, bel.frame _, fun h => by cases h⟩
def putF (o : Obj) : Obj := match o with
  | .cells _ t frozen => .cells (Go.Pinned.utf8FirstZ.map fun (n : Nat) => Value.int .u8 (n : Int)).toArray t frozen
  | o => o
set_option maxRecDepth 100000 in
theorem laid_met (os : Os) : laidMet Tryd.prog Rows.fnExactOverLineRow.laid (({ World.doorLaid Tryd.prog 39 os with heap := (World.doorLaid Tryd.prog 39 os).heap.modify 5 putF } : World).forCall (fun _ _ => 0) ⟨#[], #[Value.agg #[.int .i64 0, .int .i64 0, .string .empty]], []⟩).memory :=
  laidMet_of_run' 8 (by kernel_rfl) (by kernel_rfl)
theorem reads (os : Os) {H : Type} (enc : TypeId × Value → H) : ∃ places, DataW.whole enc Tryd.prog (({ World.doorLaid Tryd.prog 39 os with heap := (World.doorLaid Tryd.prog 39 os).heap.modify 5 putF } : World).forCall (fun _ _ => 0) ⟨#[], #[Value.agg #[.int .i64 0, .int .i64 0, .string .empty]], []⟩).memory Tryd.f5.params.toList Rows.fnExactOverLineSpec.vars false #[Value.agg #[.int .i64 0, .int .i64 0, .string .empty]].toList 8 = some ([.agg [.lit (.int .i64 0), .lit (.int .i64 0), .lit (.string [])]], [], places) :=
  ⟨[], by kernel_rfl⟩

set_option maxRecDepth 100000 in
theorem lifted (os : Os) (started : os.Started) (H : Type) (enc : TypeId × Value → H) (F : Stop.Interp) :
    ReturnsInHanded {} Tryd.checked os 5 .any ((OpenSpec.ofChange Rows.fnExactOverLineSpec).preRow enc Tryd.prog Tryd.f5 Rows.fnExactOverLineRow.domain false Rows.fnExactOverLineRow.laid) (((OpenSpec.ofChange Rows.fnExactOverLineSpec).at F).post enc Tryd.prog Tryd.f5 false true false false) := by
  obtain ⟨places, hx⟩ := reads os enc
  refine returnsInHanded_of_row (C := Tryd.checked) (s := OpenSpec.ofChange Rows.fnExactOverLineSpec) own started (by kernel_rfl) Tryd.func5
    (witness_row_atRef (enc := enc) (C := Tryd.checked) false ({ World.doorLaid Tryd.prog 39 os with heap := (World.doorLaid Tryd.prog 39 os).heap.modify 5 putF } : World) #[Value.agg #[.int .i64 0, .int .i64 0, .string .empty]] rfl (by kernel_rfl) (by kernel_rfl) (by kernel_rfl)
      (OpenSpec.preRow_of_cond 8 hx (by kernel_rfl) (fun k hk => by cases hk) (by kernel_rfl) (laid_met os))) ?_
  intro W base args ds gs before hval hW _ _ _ hL hsh _
  exact contract H enc W base args ds gs before hval hW hL hsh

theorem said : Rows.FnExactOverLineSaid :=
  OpenClaim.holds_of_cond 5 Tryd.f5 rfl rfl rfl rfl rfl rfl rfl ⟨rfl, rfl, rfl, rfl, rfl⟩ rfl rfl rfl rfl rfl (by kernel_rfl) Tryd.func5 (by kernel_rfl)
    (of_decide_eq_true (by kernel_rfl)) (by unfold Func.isWrapper; first | (rw [if_pos (by decide +kernel)]; kernel_rfl) | (rw [if_neg (by decide +kernel)]; exact ⟨rfl, rfl⟩))
    (fun os started H enc _ F => by rw [OpenClaim.pre_eq_preRow]; exact lifted os started H enc F)

theorem plain (f : FuncId) (fn : Func) (hf : Tryd.pinned.checked.prog.funcNamed Rows.fnExactOverLineRow.func = some f) (hfn : Tryd.pinned.checked.prog.funcs[f]? = some fn) :
    false = Tryd.pinned.checked.prog.looks [] ∧ ∀ (j : Nat) t, fn.params[j]? = some t → Tryd.pinned.checked.prog.wantsStandIn t = false := by
  obtain rfl : f = 5 := Option.some.inj ((show Tryd.prog.funcNamed Rows.fnExactOverLineRow.func = some 5 by kernel_rfl).symm.trans hf) |>.symm
  obtain rfl : fn = Tryd.f5 := (Option.some.inj (Tryd.func5.symm.trans hfn)).symm
  refine ⟨by kernel_rfl, fun j t ht => ?_⟩
  rw [Tryd.params5] at ht
  obtain rfl : t = 26 := by simpa using Array.mem_of_getElem? ht
  exact (show Tryd.prog.wantsStandIn 26 = false by kernel_rfl)

theorem card : Rows.FnExactOverLineCardSaid :=
  Claim7.holds_tied_plain_at .later [] _ _ _ _ said (fun _ h => by cases h) (by kernel_rfl) (fun _ h => by cases h) fnExactOverLine_row_tie rfl ⟨rfl, rfl⟩ (by kernel_rfl) rfl plain (by kernel_rfl)
end Go.Proofs.YtglgaangkffbiaaDoor.fnExactOverLine
namespace Go.Proofs.YtglgaangkffbiaaDoor
theorem fnExactOverLine_card : Rows.FnExactOverLineCardSaid := fnExactOverLine.card
#print axioms fnExactOverLine_card
end Go.Proofs.YtglgaangkffbiaaDoor
