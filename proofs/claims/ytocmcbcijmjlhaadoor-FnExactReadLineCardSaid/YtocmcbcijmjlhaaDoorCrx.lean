/-
  At every line of at most 1048576 bytes the program's ReadLine answers as the specification's, every field of the event and the code, whatever the library's tables and sentinels are that the door lays.
-/
import Derived.Test.YtocmcbcijmjlhaaDoorCards
import Derived.Test.YtocmcbcijmjlhaaDoorTie
import Derived.Test.YtocmcbcijmjlhaaDoorCow
import Derived.WalkKit
import Derived.ProofKit
import Derived.OpenShut
import Derived.ShutString
import Derived.OpenVars
import Derived.ChangeOld
import Derived.Below
import Derived.Deep.DeepHandedRow
import Derived.Deep.DeepWitnessRowRef
import Derived.LaidMore
import Derived.Lib.LaidTab
import Derived.Stop.LaidTwo
namespace Go.Proofs.YtocmcbcijmjlhaaDoor.fnExactReadLine
open Go.ChangeShapes Go.WideShapes Go.ChangeAt Go.RowKit
open Go.ChangeMaps (open_string shut_string)
set_option linter.unusedVariables false

theorem own : ownKnob Tryd.prog.godebug = none := by kernel_rfl
theorem laidOut : laidOutB Tryd.prog = true := by kernel_rfl

set_option maxHeartbeats 4000000 in
set_option maxRecDepth 100000 in
theorem walk (a0 : ByteArray) (w0 : a0.size ≤ maxLen) (w : World)  (m : Int) (hm : w.cell? ⟨0, 0, none⟩ = some (.int .i64 m)) (hP : tb.TP w) (hE : nu.Sents w) :
    Calls Tryd.prog 3 #[.string a0] w fun e w' => e = .returned (.bool true) ∧ Below w.heap.size w w' := by
  unfold maxLen at w0
  by_cases hbig : 1048576 < a0.size
  · have hb : (1048576 : Int) < (a0.size : Int) := by omega
    go_enter Tryd.func3, Tryd.ntmps3
    go_wp2
    go_ret
    exact ⟨rfl, Below.refl _ _⟩
  have hb : (a0.size : Int) ≤ 1048576 := by omega
  have hs : a0.size ≤ 1048576 := by omega
  have HM : Hid (w.cell? ⟨0, 0, none⟩ = some (.int .i64 m)) := hm
  have HP : Hid (tb.TP w) := hP
  have HE : Hid (cn.Sents w) := hE
  clear hm hP hE
  have HI : Hid (∀ W, Below w.heap.size w W → Calls Tryd.prog 5 #[.string a0] W fun e w' => e = .returned (.tuple #[cn.EvV (cn.lnv a0.data.toList).1.1 (cn.lnv a0.data.toList).1.2.1 (cn.lnv a0.data.toList).1.2.2.1 (cn.lnv a0.data.toList).1.2.2.2, .int .i64 (cn.lnv a0.data.toList).2]) ∧ Below W.heap.size W w') := fun W hW => (cn.rl_any a0 W hs m ((hW.cell (p := ⟨0, 0, none⟩) (World.block_lt_of_cell? w _ HM.out)).trans HM.out) (cn.sents_keep HE.out hW) (tb.keep' HP.out hW)).mono fun e w' ⟨h1, h2⟩ => ⟨cn.line_val h1, h2⟩
  have HS : Hid (Calls Tryd.prog 4 #[.string a0] w fun e w' => e = .returned (.tuple #[cn.EvV (cn.lnv a0.data.toList).1.1 (cn.lnv a0.data.toList).1.2.1 (cn.lnv a0.data.toList).1.2.2.1 (cn.lnv a0.data.toList).1.2.2.2, .int .i64 (cn.lnv a0.data.toList).2]) ∧ Below w.heap.size w w') := (cn.srl_any a0 w hs).mono fun e w' ⟨h1, h2⟩ => ⟨cn.line_val h1, h2⟩
  clear HM HP HE
  generalize cn.lnv a0.data.toList = y at HI HS
  obtain ⟨⟨k, c, x, d⟩, z⟩ := y
  simp only at HI HS
  have HQ : Hid (∀ W, Calls Tryd.prog 6 #[cn.EvV k c x d, cn.EvV k c x d] W fun e w' => e = .returned (.bool true) ∧ Below W.heap.size W w') := fun W => cn.eqEv_any k c x d W
  unfold cn.EvV at HI HS HQ
  have hz : ((z : Int) != z) = false := by simp
  go_enter Tryd.func3, Tryd.ntmps3
  go_wp2_with fail
  refine HS.out.mono ?_
  rintro e w1 ⟨rfl, b1⟩
  have N1 : ∀ W, W = w1.alloc (.cells #[.int .i64 k, .int .i64 c, .int .i64 0, .string ⟨x.toArray⟩, .string ⟨d.toArray⟩] 23) → cn.Ec W w1.heap.size k c x d ∧ Below w.heap.size w W ∧ w1.heap.size < W.heap.size := fun W hW => by
    subst hW
    exact ⟨(MapKept.heap_alloc w1 _).1, b1.alloc b1.size _, by simp⟩
  have HN1 : Hid (∀ W, W = w1.alloc (.cells #[.int .i64 k, .int .i64 c, .int .i64 0, .string ⟨x.toArray⟩, .string ⟨d.toArray⟩] 23) → cn.Ec W w1.heap.size k c x d ∧ Below w.heap.size w W ∧ w1.heap.size < W.heap.size) := N1
  clear N1 b1 HS
  go_wp2_with fail
  have N := HN1.out _ rfl
  generalize World.alloc _ _ = W1 at N ⊢
  obtain ⟨hE1, hB1, hs1⟩ := N
  refine (HI.out W1 hB1).mono ?_
  rintro e w2 ⟨rfl, b2⟩
  have HN2 : Hid (∀ W, W = w2.alloc (.cells #[.int .i64 k, .int .i64 c, .int .i64 0, .string ⟨x.toArray⟩, .string ⟨d.toArray⟩] 23) → cn.Ec W w1.heap.size k c x d ∧ cn.Ec W w2.heap.size k c x d ∧ Below w.heap.size w W) := fun W hW => by
    subst hW
    exact ⟨(Below.heap_alloc _ _ _ (by have := b2.size; omega)).trans ((b2.block _ hs1).trans hE1), (MapKept.heap_alloc w2 _).1, (hB1.trans (b2.mono hB1.size)).alloc (by have := b2.size; have := hB1.size; omega) _⟩
  have X1 : ∀ o, cn.Ec (w2.alloc o) w1.heap.size k c x d := fun o => (Below.heap_alloc _ _ _ (by have := b2.size; omega)).trans ((b2.block _ hs1).trans hE1)
  have c0 := fun o => (X1 o).c0
  have c1 := fun o => (X1 o).c1
  have c2 := fun o => (X1 o).c2
  have c3 := fun o => (X1 o).c3
  have c4 := fun o => (X1 o).c4
  clear X1 HN1 hE1 hB1 hs1 HI b2
  go_wp2_with fail
  have N := HN2.out _ rfl
  generalize World.alloc _ _ = W2 at N ⊢
  obtain ⟨_, _, hB2⟩ := N
  refine (HQ.out W2).mono ?_
  rintro e w3 ⟨rfl, b3⟩
  go_wp2
  go_ret
  exact ⟨rfl, hB2.trans (b3.mono hB2.size)⟩

set_option maxRecDepth 100000 in
theorem gC : Tryd.prog.globalNamed ((Rows.fnExactReadLineRow.laid.map (·.1)).getD 5 "") = some 3 := by kernel_rfl
theorem gW : Tryd.prog.globalNamed ((Rows.fnExactReadLineRow.laid.map (·.1)).getD 4 "") = some 4 := by kernel_rfl
theorem sents_of (W : World) (hL : laidMet Tryd.prog Rows.fnExactReadLineRow.laid W) : nu.Sents W := by
  obtain ⟨ps, hLV, _⟩ := hL
  have m0 : (((Rows.fnExactReadLineRow.laid.map (·.1)).getD 5 ""), Rows.laid_strconv_ErrSyntax) ∈ Rows.fnExactReadLineRow.laid := List.mem_of_getElem? (i := 5) (by kernel_rfl)
  have m1 : (((Rows.fnExactReadLineRow.laid.map (·.1)).getD 4 ""), Rows.laid_strconv_ErrRange) ∈ Rows.fnExactReadLineRow.laid := List.mem_of_getElem? (i := 4) (by kernel_rfl)
  obtain ⟨t0, p0, h0⟩ := nu.iface_laid gC (by kernel_rfl) Tryd.underlying55 m0 hLV
  obtain ⟨t1, p1, h1⟩ := nu.iface_laid gW (by kernel_rfl) Tryd.underlying55 m1 hLV
  exact ⟨_, _, h0, h1, .inr ⟨_, _, rfl⟩, .inr ⟨_, _, rfl⟩⟩

set_option maxRecDepth 100000 in
theorem contract (H : Type) (enc : TypeId × Value → H) (W : World) (base : Nat) (args : Array Value) (ds gs : List (DataW H)) (before : List MemPlace)
    (hval : ∀ (j : Nat) t v, Tryd.f3.params[j]? = some t → args[j]? = some v → Value.okWide Tryd.prog W .any base t v)
    (hW : DataW.Whole enc Tryd.prog Tryd.f3.params.toList Rows.fnExactReadLineSpec.vars false W args.toList ds gs before) (hL : laidMetH Tryd.prog Rows.fnExactReadLineRow.laid W) (hsh : W.ShapedOpen Tryd.prog) :
    Calls Tryd.prog 3 args W fun e W' => ∃ v, e = .returned v ∧ Rows.fnExactReadLineSpec.post enc Tryd.prog Tryd.f3 false true false false W args v W' := by
  have hW' := hW
  obtain ⟨p, q, hA0, hV, rfl, hfz, hnd⟩ := hW
  have hA : DataW.TrodAll enc Tryd.prog W 0 (fun _ => true) true Tryd.f3.params.toList args.toList ds p := hA0
  rw [Tryd.params3] at hA hval
  obtain ⟨v0, vs0, d0, ds0, p0, q0, hargs0, rfl, rfl, h0, tl0⟩ := trodAll_cons hA
  obtain ⟨hnil, rfl, rfl⟩ := trodAll_nil tl0
  obtain rfl : args = #[v0] := by cases args; simp_all
  obtain ⟨a0, rfl, rfl, rfl, w0⟩ := open_string Tryd.underlying9 (hval 0 9 v0 rfl rfl) h0
  clear hA0
  simp only [List.append_nil] at hW'
  have hLL : laidMet Tryd.prog Rows.fnExactReadLineRow.laid W := hL
  have hE := sents_of W hLL
  obtain ⟨ps, hLV, _⟩ := hLL
  obtain ⟨rfl, rfl⟩ := trodVars_none hV
  obtain ⟨m, hm⟩ := Tryd.laysM219.s1_3 W hsh
  refine (walk a0 w0 W  m hm (tb.tp_of (List.mem_of_getElem? (i := 2) (by kernel_rfl)) hLV) hE).mono fun e W' ⟨he, bel⟩ => ?_
  subst he
  exact ⟨_, rfl, _, _, _, [], [], [], hW', trodAll_cons_mk (shut_bool Tryd.underlying4 _) trodAll_mk0, (trodAll_cons_mk (shut_string Tryd.underlying9 w0) trodAll_mk0), rfl, bel.frame _, fun h => by cases h⟩
def putF (o : Obj) : Obj := match o with
  | .cells _ t frozen => .cells (Go.Pinned.utf8FirstZ.map fun (n : Nat) => Value.int .u8 (n : Int)).toArray t frozen
  | o => o
set_option maxRecDepth 100000 in
theorem laid_met (os : Os) : laidMet Tryd.prog Rows.fnExactReadLineRow.laid (({ World.doorLaid Tryd.prog 72 os with heap := (World.doorLaid Tryd.prog 72 os).heap.modify 1 putF } : World).forCall (fun _ _ => 0) ⟨#[], #[Value.string .empty], []⟩).memory :=
  laidMet_of_run' 8 (by kernel_rfl) (by kernel_rfl)
theorem reads (os : Os) {H : Type} (enc : TypeId × Value → H) : (DataW.whole enc Tryd.prog (({ World.doorLaid Tryd.prog 72 os with heap := (World.doorLaid Tryd.prog 72 os).heap.modify 1 putF } : World).forCall (fun _ _ => 0) ⟨#[], #[Value.string .empty], []⟩).memory Tryd.f3.params.toList Rows.fnExactReadLineSpec.vars false #[Value.string .empty].toList 8).isSome = true := by kernel_rfl

set_option maxRecDepth 100000 in
theorem lifted (os : Os) (started : os.Started) (H : Type) (enc : TypeId × Value → H) (F : Stop.Interp) :
    ReturnsInHanded {} Tryd.checked os 3 .any ((OpenSpec.ofChange Rows.fnExactReadLineSpec).preRow enc Tryd.prog Tryd.f3 Rows.fnExactReadLineRow.domain false Rows.fnExactReadLineRow.laid) (((OpenSpec.ofChange Rows.fnExactReadLineSpec).at F).post enc Tryd.prog Tryd.f3 false true false false) := by
  obtain ⟨x, hx⟩ := Option.isSome_iff_exists.1 (reads os enc)
  refine returnsInHanded_of_row (C := Tryd.checked) (s := OpenSpec.ofChange Rows.fnExactReadLineSpec) own started (by kernel_rfl) Tryd.func3
    (witness_row_atRef (enc := enc) (C := Tryd.checked) false ({ World.doorLaid Tryd.prog 72 os with heap := (World.doorLaid Tryd.prog 72 os).heap.modify 1 putF } : World) #[Value.string .empty] rfl (by kernel_rfl) (by kernel_rfl) (by kernel_rfl)
      (OpenSpec.preRow_of_cond 8 hx (by kernel_rfl) (fun k hk => by cases hk) (by kernel_rfl) (laid_met os))) ?_
  intro W base args ds gs before hval hW _ _ _ hL hsh _
  exact contract H enc W base args ds gs before hval hW hL hsh

theorem said : Rows.FnExactReadLineSaid :=
  OpenClaim.holds_of_cond 3 Tryd.f3 rfl rfl rfl rfl rfl rfl rfl ⟨rfl, rfl, rfl, rfl, rfl⟩ rfl rfl rfl rfl rfl (by kernel_rfl) Tryd.func3 (by kernel_rfl)
    (of_decide_eq_true (by kernel_rfl)) (by unfold Func.isWrapper; first | (rw [if_pos (by decide +kernel)]; kernel_rfl) | (rw [if_neg (by decide +kernel)]; exact ⟨rfl, rfl⟩))
    (fun os started H enc _ F => by rw [OpenClaim.pre_eq_preRow]; exact lifted os started H enc F)

theorem plain (f : FuncId) (fn : Func) (hf : Tryd.pinned.checked.prog.funcNamed Rows.fnExactReadLineRow.func = some f) (hfn : Tryd.pinned.checked.prog.funcs[f]? = some fn) :
    true = Tryd.pinned.checked.prog.looks [] ∧ ∀ (j : Nat) t, fn.params[j]? = some t → Tryd.pinned.checked.prog.wantsStandIn t = false := by
  obtain rfl : f = 3 := Option.some.inj ((show Tryd.prog.funcNamed Rows.fnExactReadLineRow.func = some 3 by kernel_rfl).symm.trans hf) |>.symm
  obtain rfl : fn = Tryd.f3 := (Option.some.inj (Tryd.func3.symm.trans hfn)).symm
  refine ⟨by kernel_rfl, fun j t ht => ?_⟩
  rw [Tryd.params3] at ht
  obtain rfl : t = 9 := by simpa using Array.mem_of_getElem? ht
  exact (show Tryd.prog.wantsStandIn 9 = false by kernel_rfl)

theorem card : Rows.FnExactReadLineCardSaid :=
  Claim7.holds_tied_plain_at .later [] _ _ _ _ said (fun _ h => by cases h) (by kernel_rfl) (fun _ h => by cases h) fnExactReadLine_row_tie rfl ⟨rfl, rfl⟩ (by kernel_rfl) rfl plain (by kernel_rfl)
end Go.Proofs.YtocmcbcijmjlhaaDoor.fnExactReadLine
namespace Go.Proofs.YtocmcbcijmjlhaaDoor
theorem fnExactReadLine_card : Rows.FnExactReadLineCardSaid := fnExactReadLine.card
#print axioms fnExactReadLine_card
end Go.Proofs.YtocmcbcijmjlhaaDoor
