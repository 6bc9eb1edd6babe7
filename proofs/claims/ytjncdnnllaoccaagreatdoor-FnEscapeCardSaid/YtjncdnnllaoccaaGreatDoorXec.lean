/-
  An escaped text is read back as what it was, as an element's text and as an attribute; for every code.
-/
import Derived.Test.YtjncdnnllaoccaaGreatDoorCards
import Derived.Test.YtjncdnnllaoccaaGreatDoorTie
import Derived.Test.YtjncdnnllaoccaaGreatDoorXrp
import Derived.Test.YtjncdnnllaoccaaGreatDoorSro
import Derived.Test.YtjncdnnllaoccaaGreatDoorArg
import Derived.WalkKit
import Derived.ProofKit
import Derived.OpenShut
import Derived.ShutString
import Derived.OpenVars
import Derived.ChangeOld
import Derived.Below
import Derived.Deep.DeepHandedRow
import Derived.Deep.DeepWitnessRowRef
import Derived.LaidMore
import Derived.Lib.LaidTab
import Derived.LaidHandle
namespace Go.Proofs.YtjncdnnllaoccaaGreatDoor.fnEscape
open Go.ChangeShapes Go.WideShapes Go.ChangeAt Go.RowKit
open Go.ChangeMaps (open_string shut_string)
set_option linter.unusedVariables false

theorem own : ownKnob Tryz.prog.godebug = none := by kernel_rfl
theorem laidOut : laidOutB Tryz.prog = true := by kernel_rfl

set_option maxHeartbeats 4000000 in
set_option maxRecDepth 100000 in
theorem walk (a0 : Option Addr) (len0 cap0 : Nat) (z0 : List Int) (w : World) (w0 : ag.IsRow .u8 w a0 len0 cap0 z0) (m : Int) (hm : w.cell? ⟨1, 0, none⟩ = some (.int .i64 m)) :
    Calls Tryz.prog 3 #[.slice a0 len0 cap0] w fun e w' => e = .returned (.bool true) ∧ Below w.heap.size w w' := by
  by_cases hbig : 1048576 < len0
  · have hb : (1048576 : Int) < (len0 : Int) := by omega
    clear w0 hm
    go_enter Tryz.func3, Tryz.ntmps3
    go_wp2
    go_ret
    exact ⟨rfl, Below.refl _ _⟩
  have hb : (len0 : Int) ≤ 1048576 := by omega
  have HB : Hid (sr.Bytes w a0 len0) := ag.row_bytes w0 (by omega)
  have HG : Hid (xd.Gl w) := ⟨m, hm⟩
  clear w0 hm
  go_enter Tryz.func3, Tryz.ntmps3
  go_wp2_with fail
  refine (sr.textOf_any _ a0 len0 cap0 HB.out).mono ?_
  rintro e w1 ⟨⟨zs, rfl, hz11, hzs⟩, b1⟩
  have hlen := xd.flat_len zs hzs hz11
  obtain ⟨t, ht⟩ : ∃ t, t = zs.flatMap ut.encB := ⟨_, rfl⟩
  rw [← ht] at hlen ⊢
  have HT : Hid (t = zs.flatMap ut.encB) := ht
  have HZ : Hid (ut.Runes zs) := hzs
  have hsz : (⟨t.toArray⟩ : ByteArray).size = t.length := by rw [Lib.size_eq]
  have hs1 : (⟨t.toArray⟩ : ByteArray).size ≤ 1048576 := by omega
  have G1 : Hid (xd.Gl w1) := HG.out.below b1
  clear ht hzs HB HG
  go_wp2_with fail
  refine (xm.impl_escx ⟨t.toArray⟩ _ hs1).mono ?_
  rintro e w2 ⟨h2, b2⟩
  obtain ⟨x, c, rfl⟩ := xm.esc_form h2
  have H2 : Hid (xm.EscRet ⟨t.toArray⟩ (.returned (.tuple #[.string x, .int .i64 c]))) := h2
  have c2 := b1.trans (b2.mono b1.size)
  have G2 : Hid (xd.Gl w2) := G1.out.below b2
  clear h2 b1 b2 G1
  go_wp2_with fail
  refine (xm.spec_escx ⟨t.toArray⟩ _ hs1).mono ?_
  rintro e w3 ⟨h3, b3⟩
  obtain rfl := xm.esc_ret h3 H2.out
  have c3 := c2.trans (b3.mono c2.size)
  have G3 : Hid (xd.Gl w3) := G2.out.below b3
  clear h3 b3 c2 G2
  have hcc : ((c : Int) != c) = false := by simp
  rcases H2.out with ⟨h8, he⟩ | ⟨_, _, he⟩ | ⟨_, hgood, he⟩
  · omega
  · cases he
    clear H2
    go_wp2
    go_ret
    exact ⟨rfl, c3⟩
  cases he
  have hx := xd.flat_good zs HZ.out (by have := HT.out; subst this; exact hgood)
  have hwg := xd.whole_good zs HZ.out hx
  rw [← HT.out] at hwg
  have HWG : Hid (xm.GoodTo (ut.mk (xd.whole t)) (ut.mk (xd.whole t)).size) := hwg
  have hel := xm.esc_len t
  have hwl : (ut.mk (xd.whole t)).size ≤ 65536 := by rw [ut.mk_size]; simp [xd.whole]; omega
  have TK : Hid (∀ S : ByteArray, S = ut.mk (xd.whole t) → Calls Tryz.prog 9 #[.string S] w3 fun e w' => ∃ aT n cT a len cap tk, e = .returned (.tuple #[.slice aT n cT, .int .i64 S.size, .int .i64 0]) ∧ xd.TokRow t a len cap n tk ∧ w'.ownsRow w3.heap.size 34 4 (.slice aT n cT) n tk ∧ xd.OneAt w3.heap.size w' a len cap xd.nB ⟨t.toArray⟩ ∧ Below w3.heap.size w3 w') := fun S hS => by
    subst hS
    exact xd.tokens_esc _ t w3 hwl HWG.out G3.out rfl
  obtain ⟨X, hX⟩ : ∃ X, X = (⟨(xm.esc t).toArray⟩ : ByteArray) := ⟨_, rfl⟩
  have hXs : X.size ≤ 264 := by rw [hX, Lib.size_eq]; show (xm.esc t).length ≤ 264; omega
  have HX : Hid (X.data.toList = xm.esc t) := by rw [hX]; rfl
  rw [← hX]
  clear H2 hwg hgood hx hwl hel HWG G3 HZ HT hX
  go_wp2_with fail
  refine (TK.out _ ?_).mono ?_
  · refine bytes_inj ?_
    simp [xd.whole, ut.mk]
    rw [HX.out]
  rintro e w4 ⟨aT, n, cT, a, len, cap, tk, rfl, hrow, hown, hone, b4⟩
  have c4 := c3.trans (b4.mono c3.size)
  have HONE : Hid (xd.OneAt w3.heap.size w4 a len cap xd.nB ⟨t.toArray⟩) := hone
  generalize (⟨#[60, 97, 32, 98, 61, 34]⟩ ++ X ++ ⟨#[34, 62]⟩ ++ X ++ ⟨#[60, 47, 97, 62]⟩ : ByteArray) = SS
  clear TK c3 b4 hone hXs HX
  have htt : ((⟨t.toArray⟩ : ByteArray).toList == (⟨t.toArray⟩ : ByteArray).toList) = true := by simp
  rcases hrow with ⟨hne, rfl, rfl⟩ | ⟨rfl, rfl, rfl⟩
  · obtain ⟨g, cg, hg⟩ := xd.row_some (m := 2) hown
    cases hg
    have HOWN : Hid _ := hown
    have k0 : w4.cell? ⟨g, 0, none⟩ = some (.int .i64 1) := hown.cellAt 0 (by omega)
    have k1 : w4.cell? ⟨g, 0 + 1, none⟩ = some (.string xd.nA) := hown.cellAt 1 (by omega)
    have k2 : w4.cell? ⟨g, 0 + 2, none⟩ = some (.slice a len cap) := hown.cellAt 2 (by omega)
    have k3 : w4.cell? ⟨g, 0 + 3, none⟩ = some (.string xd.no) := hown.cellAt 3 (by omega)
    have hem : (⟨t.toArray⟩ : ByteArray).toList.isEmpty = false := xd.not_empty (by rw [hsz]; exact List.length_pos_iff.2 hne)
    clear hown
    go_wp2_with fail
    refine (xd.boolInt_any _ _).mono ?_
    rintro e w5 ⟨rfl, rfl⟩
    go_wp2_with fail
    refine (xd.name_a _).mono ?_
    rintro e w5 ⟨rfl, rfl⟩
    go_wp2_with fail
    refine (xd.attr_hit _ hs1 1 xd.nA xd.no a len cap _ _ HONE.out).mono ?_
    rintro e w5 ⟨rfl, b5⟩
    have c5 := c4.trans (b5.mono c4.size)
    have own5 := xd.own_keep HOWN.out b5
    have one5 : Hid (xd.OneAt w3.heap.size w5 a len cap xd.nB ⟨t.toArray⟩) := xd.own_keep HONE.out b5
    have OWN5 : Hid _ := own5
    clear k0 k1 k2 k3 b5 c4 HONE HOWN
    have k0 : w5.cell? ⟨g, 0, none⟩ = some (.int .i64 1) := own5.cellAt 0 (by omega)
    have k1 : w5.cell? ⟨g, 0 + 1, none⟩ = some (.string xd.nA) := own5.cellAt 1 (by omega)
    have k2 : w5.cell? ⟨g, 0 + 2, none⟩ = some (.slice a len cap) := own5.cellAt 2 (by omega)
    have k3 : w5.cell? ⟨g, 0 + 3, none⟩ = some (.string xd.no) := own5.cellAt 3 (by omega)
    clear own5
    go_wp2_with fail
    refine (xd.attr_miss _ hs1 1 xd.nA xd.no a len cap _ _ one5.out).mono ?_
    rintro e w6 ⟨rfl, b6⟩
    have c6 := c5.trans (b6.mono c5.size)
    have own6 := xd.own_keep OWN5.out b6
    have k7 : w6.cell? ⟨g, 7, none⟩ = some (.string ⟨t.toArray⟩) := own6.cellAt 7 (by omega)
    clear k0 k1 k2 k3 b6 c5 one5 OWN5 own6
    go_wp2
    go_ret
    exact ⟨by simp, c6⟩
  · obtain ⟨g, cg, hg⟩ := xd.row_some (m := 1) hown
    cases hg
    have HOWN : Hid _ := hown
    have k0 : w4.cell? ⟨g, 0, none⟩ = some (.int .i64 1) := hown.cellAt 0 (by omega)
    have k1 : w4.cell? ⟨g, 0 + 1, none⟩ = some (.string xd.nA) := hown.cellAt 1 (by omega)
    have k2 : w4.cell? ⟨g, 0 + 2, none⟩ = some (.slice a len cap) := hown.cellAt 2 (by omega)
    have k3 : w4.cell? ⟨g, 0 + 3, none⟩ = some (.string xd.no) := hown.cellAt 3 (by omega)
    have hem : (⟨([] : List UInt8).toArray⟩ : ByteArray).toList.isEmpty = true := xd.empty_iff rfl
    clear hown
    go_wp2_with fail
    refine (xd.boolInt_any _ _).mono ?_
    rintro e w5 ⟨rfl, rfl⟩
    go_wp2_with fail
    refine (xd.name_a _).mono ?_
    rintro e w5 ⟨rfl, rfl⟩
    go_wp2_with fail
    refine (xd.attr_hit _ hs1 1 xd.nA xd.no a len cap _ _ HONE.out).mono ?_
    rintro e w5 ⟨rfl, b5⟩
    have c5 := c4.trans (b5.mono c4.size)
    have own5 := xd.own_keep HOWN.out b5
    have one5 : Hid (xd.OneAt w3.heap.size w5 a len cap xd.nB ⟨([] : List UInt8).toArray⟩) := xd.own_keep HONE.out b5
    have OWN5 : Hid _ := own5
    clear k0 k1 k2 k3 b5 c4 HONE HOWN
    have k0 : w5.cell? ⟨g, 0, none⟩ = some (.int .i64 1) := own5.cellAt 0 (by omega)
    have k1 : w5.cell? ⟨g, 0 + 1, none⟩ = some (.string xd.nA) := own5.cellAt 1 (by omega)
    have k2 : w5.cell? ⟨g, 0 + 2, none⟩ = some (.slice a len cap) := own5.cellAt 2 (by omega)
    have k3 : w5.cell? ⟨g, 0 + 3, none⟩ = some (.string xd.no) := own5.cellAt 3 (by omega)
    clear own5
    go_wp2_with fail
    refine (xd.attr_miss _ hs1 1 xd.nA xd.no a len cap _ _ one5.out).mono ?_
    rintro e w6 ⟨rfl, b6⟩
    have c6 := c5.trans (b6.mono c5.size)
    have own6 := xd.own_keep OWN5.out b6
    clear k0 k1 k2 k3 b6 c5 one5 OWN5 own6
    go_wp2
    go_ret
    exact ⟨by simp, c6⟩

set_option maxRecDepth 100000 in
theorem contract (H : Type) (enc : TypeId × Value → H) (W : World) (base : Nat) (args : Array Value) (ds gs : List (DataW H)) (before : List MemPlace)
    (hval : ∀ (j : Nat) t v, Tryz.f3.params[j]? = some t → args[j]? = some v → Value.okWide Tryz.prog W .any base t v)
    (hW : DataW.Whole enc Tryz.prog Tryz.f3.params.toList Rows.fnEscapeSpec.vars false W args.toList ds gs before) (hL : laidMetH Tryz.prog Rows.fnEscapeRow.laid W) (hsh : W.ShapedOpen Tryz.prog) :
    Calls Tryz.prog 3 args W fun e W' => ∃ v, e = .returned v ∧ Rows.fnEscapeSpec.post enc Tryz.prog Tryz.f3 false true false false W args v W' := by
  have hW' := hW
  obtain ⟨p, q, hA0, hV, rfl, hfz, hnd⟩ := hW
  have hA : DataW.TrodAll enc Tryz.prog W 0 (fun _ => true) true Tryz.f3.params.toList args.toList ds p := hA0
  rw [Tryz.params3] at hA hval
  obtain ⟨v0, vs0, d0, ds0, p0, q0, hargs0, rfl, rfl, h0, r0⟩ := trodAll_cons hA
  obtain ⟨hnil, rfl, rfl⟩ := trodAll_nil r0
  obtain rfl : args = #[v0] := by cases args; simp_all
  obtain ⟨a0, len0, cap0, rfl⟩ := okWide_slice Tryz.underlying22 (hval 0 22 v0 rfl rfl)
  have k0 := h0
  have lt0 : ∀ x ∈ p0, x.block < W.heap.size := by obtain ⟨m, hm⟩ := k0; exact DataW.trod_lt m _ _ _ hm
  obtain ⟨z0, w0⟩ : ∃ zs, ag.IsRow .u8 W a0 len0 cap0 zs := by
    obtain ⟨fuel, hf⟩ := h0
    rcases open_ints Tryz.underlying22 Tryz.underlying5 (by kernel_rfl) hf with ⟨hcs, _⟩ | ⟨x, l, c, zs, hcs, _, hl, hm, hz, _, hcell, hwz⟩
    · simp [Value.cells] at hcs
      obtain ⟨rfl, rfl, rfl⟩ := hcs
      exact ⟨[], .inl ⟨rfl, rfl, rfl, rfl⟩⟩
    · simp [Value.cells] at hcs
      obtain ⟨rfl, rfl, rfl⟩ := hcs
      exact ⟨zs, .inr ⟨_, rfl, hl, hm, by simpa using hz, hcell, hwz⟩⟩
  clear hA0
  simp only [List.append_nil] at hW'
  obtain ⟨rfl, rfl⟩ := trodVars_none hV
  obtain ⟨m, hm⟩ := Tryz.laysM219.s1_3 W hsh
  refine (walk a0 len0 cap0 z0 W w0 m hm).mono fun e W' ⟨he, bel⟩ => ?_
  subst he
  exact ⟨_, rfl, _, _, _, [], _, [], hW', trodAll_cons_mk (shut_bool Tryz.underlying4 _) trodAll_mk0, (trodAll_cons_mk (Below.trod laidOut (by kernel_rfl) (of_decide_eq_true (by kernel_rfl)) k0 bel lt0) trodAll_mk0), rfl, bel.frame _, fun h => by cases h⟩
def putF (o : Obj) : Obj := match o with
  | .cells _ t frozen => .cells (Go.Pinned.utf8FirstZ.map fun (n : Nat) => Value.int .u8 (n : Int)).toArray t frozen
  | o => o
set_option maxRecDepth 100000 in
theorem laid_data (os : Os) : laidMet Tryz.prog (Rows.fnEscapeRow.laid.filter fun x => x.2.handleName?.isNone) (({ World.doorLaid Tryz.prog 79 os with heap := (World.doorLaid Tryz.prog 79 os).heap.modify 2 putF } : World).forCall (fun _ _ => 0) ⟨#[], #[Value.slice none 0 0], []⟩).memory :=
  laidMet_of_run' 8 (by kernel_rfl) (by kernel_rfl)
set_option maxRecDepth 100000 in
theorem laid_hand (os : Os) : (Rows.fnEscapeRow.laid.filter fun x => x.2.handleName?.isSome).all (handleAtB Tryz.prog (({ World.doorLaid Tryz.prog 79 os with heap := (World.doorLaid Tryz.prog 79 os).heap.modify 2 putF } : World).forCall (fun _ _ => 0) ⟨#[], #[Value.slice none 0 0], []⟩).memory) = true := by kernel_rfl
theorem laid_met (os : Os) : laidMetH Tryz.prog Rows.fnEscapeRow.laid (({ World.doorLaid Tryz.prog 79 os with heap := (World.doorLaid Tryz.prog 79 os).heap.modify 2 putF } : World).forCall (fun _ _ => 0) ⟨#[], #[Value.slice none 0 0], []⟩).memory := laidMetH_of_parts (laid_data os) (laid_hand os)
theorem reads (os : Os) {H : Type} (enc : TypeId × Value → H) : ∃ places, DataW.whole enc Tryz.prog (({ World.doorLaid Tryz.prog 79 os with heap := (World.doorLaid Tryz.prog 79 os).heap.modify 2 putF } : World).forCall (fun _ _ => 0) ⟨#[], #[Value.slice none 0 0], []⟩).memory Tryz.f3.params.toList Rows.fnEscapeSpec.vars false #[Value.slice none 0 0].toList 8 = some ([.nil], [], places) :=
  ⟨[], by kernel_rfl⟩

set_option maxRecDepth 100000 in
theorem lifted (os : Os) (started : os.Started) (H : Type) (enc : TypeId × Value → H) (F : Stop.Interp) :
    ReturnsInHanded {} Tryz.checked os 3 .any ((OpenSpec.ofChange Rows.fnEscapeSpec).preRow enc Tryz.prog Tryz.f3 Rows.fnEscapeRow.domain false Rows.fnEscapeRow.laid) (((OpenSpec.ofChange Rows.fnEscapeSpec).at F).post enc Tryz.prog Tryz.f3 false true false false) := by
  obtain ⟨places, hx⟩ := reads os enc
  refine returnsInHanded_of_row (C := Tryz.checked) (s := OpenSpec.ofChange Rows.fnEscapeSpec) own started (by kernel_rfl) Tryz.func3
    (witness_row_atRef (enc := enc) (C := Tryz.checked) false ({ World.doorLaid Tryz.prog 79 os with heap := (World.doorLaid Tryz.prog 79 os).heap.modify 2 putF } : World) #[Value.slice none 0 0] rfl (by kernel_rfl) (by kernel_rfl) (by kernel_rfl)
      (OpenSpec.preRow_of_cond 8 hx (by kernel_rfl) (fun k hk => by cases hk) (by kernel_rfl) (laid_met os))) ?_
  intro W base args ds gs before hval hW _ _ _ hL hsh _
  exact contract H enc W base args ds gs before hval hW hL hsh

theorem said : Rows.FnEscapeSaid :=
  OpenClaim.holds_of_cond 3 Tryz.f3 rfl rfl rfl rfl rfl rfl rfl ⟨rfl, rfl, rfl, rfl, rfl⟩ rfl rfl rfl rfl rfl (by kernel_rfl) Tryz.func3 (by kernel_rfl)
    (of_decide_eq_true (by kernel_rfl)) (by unfold Func.isWrapper; first | (rw [if_pos (by decide +kernel)]; kernel_rfl) | (rw [if_neg (by decide +kernel)]; exact ⟨rfl, rfl⟩))
    (fun os started H enc _ F => by rw [OpenClaim.pre_eq_preRow]; exact lifted os started H enc F)

theorem plain (f : FuncId) (fn : Func) (hf : Tryz.pinned.checked.prog.funcNamed Rows.fnEscapeRow.func = some f) (hfn : Tryz.pinned.checked.prog.funcs[f]? = some fn) :
    true = Tryz.pinned.checked.prog.looks [] ∧ ∀ (j : Nat) t, fn.params[j]? = some t → Tryz.pinned.checked.prog.wantsStandIn t = false := by
  obtain rfl : f = 3 := Option.some.inj ((show Tryz.prog.funcNamed Rows.fnEscapeRow.func = some 3 by kernel_rfl).symm.trans hf) |>.symm
  obtain rfl : fn = Tryz.f3 := (Option.some.inj (Tryz.func3.symm.trans hfn)).symm
  refine ⟨by kernel_rfl, fun j t ht => ?_⟩
  rw [Tryz.params3] at ht
  obtain rfl : t = 22 := by simpa using Array.mem_of_getElem? ht
  exact (show Tryz.prog.wantsStandIn 22 = false by kernel_rfl)

theorem card : Rows.FnEscapeCardSaid :=
  Claim7.holds_tied_plain_at .later [] _ _ _ _ said (fun _ h => by cases h) (by kernel_rfl) (fun _ h => by cases h) fnEscape_row_tie rfl ⟨rfl, rfl⟩ (by kernel_rfl) rfl plain (by kernel_rfl)
end Go.Proofs.YtjncdnnllaoccaaGreatDoor.fnEscape
namespace Go.Proofs.YtjncdnnllaoccaaGreatDoor
theorem fnEscape_card : Rows.FnEscapeCardSaid := fnEscape.card
#print axioms fnEscape_card
end Go.Proofs.YtjncdnnllaoccaaGreatDoor
