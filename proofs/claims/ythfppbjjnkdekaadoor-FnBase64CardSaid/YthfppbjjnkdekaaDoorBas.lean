/-
  For all codes, drawn bytes are read back from their base 64 text, and any text that is read is just that of what was read (the law FnBase64 returns true), where both tables start as the program's text lays them (the tied card of the law FnBase64).
-/
import Derived.Test.YthfppbjjnkdekaaDoorCards
import Derived.Test.YthfppbjjnkdekaaDoorTie
import Derived.Test.YthfppbjjnkdekaaDoorCvr
import Derived.Test.YthfppbjjnkdekaaDoorSry
import Derived.Test.YthfppbjjnkdekaaDoorEnt
import Derived.Test.YthfppbjjnkdekaaDoorIde
import Derived.Test.YthfppbjjnkdekaaDoorRcz
import Derived.WalkKit
import Derived.ProofKit
import Derived.OpenShut
import Derived.ShutString
import Derived.OpenVars
import Derived.ChangeOld
import Derived.Below
import Derived.Deep.DeepHandedRow
import Derived.Lib.LaidTab
namespace Go.Proofs.YthfppbjjnkdekaaDoor.fnBase64
open Go.ChangeShapes Go.WideShapes Go.ChangeAt Go.RowKit
open Go.ChangeMaps (open_string shut_string)
set_option linter.unusedVariables false

theorem own : ownKnob Tryd.prog.godebug = none := by kernel_rfl
theorem laidOut : laidOutB Tryd.prog = true := by kernel_rfl

set_option maxHeartbeats 2000000 in
theorem walk (a0 : Option Addr) (len0 cap0 : Nat) (z0 : List Int) (w : World) (w0 : ag.IsRow .u8 w a0 len0 cap0 z0) (hC : tb.TC w) (hV : tb.TV w) :
    Calls Tryd.prog 3 #[.slice a0 len0 cap0] w fun e w' => e = .returned (.bool true) ∧ Below w.heap.size w w' := by
  obtain ⟨l, hl, hr⟩ := ag.bytes w0
  clear w0
  by_cases hbig : 1048576 < len0
  · have hb : (1048576 : Int) < (len0 : Int) := by omega
    clear hr hC hV hl
    go_enter Tryd.func3, Tryd.ntmps3
    go_wp2
    go_ret
    exact ⟨rfl, Below.refl _ _⟩
  have hb : (len0 : Int) ≤ 1048576 := by omega
  have HCode : Hid (sr.Bytes w a0 len0) := ag.code hl (by omega) hr
  have HT : Hid (∀ W, Below w.heap.size w W → (convert 22 9 (.slice a0 len0 cap0)).run Tryd.prog W = .ok (.string ⟨l.toArray⟩) W ∧ tb.TC W ∧ tb.TV W) := fun W hW => ⟨ag.conv (ow.reads_below hr hW), tb.keep' hC hW, tb.keep' hV hW⟩
  have HL : Hid (l.length ≤ 1048576) := by rw [hl]; show len0 ≤ 1048576; omega
  clear hr hC hV hl
  go_enter Tryd.func3, Tryd.ntmps3
  go_wp2_with fail
  refine (sr.bytesOf_any _ a0 len0 cap0 40 HCode.out (by decide)).mono ?_
  rintro e w1 ⟨⟨v1, q, rfl, hq, own1⟩, b1⟩
  have T1 := HT.out w1 b1
  have hes : b6.es q = ⟨(b6.enc q).toArray⟩ := if_pos (by omega)
  have hec : b6.ec q = 0 := if_pos (by omega)
  have hqz : (b6.enc q).length = (q.length + 2) / 3 * 4 := b6.enc_length q
  obtain ⟨s0, hs0⟩ : ∃ s : ByteArray, s = ⟨(b6.enc q).toArray⟩ := ⟨_, rfl⟩
  have hs0l : s0.data.toList = b6.enc q := by rw [hs0]
  have hs0z : s0.size = (q.length + 2) / 3 * 4 := by rw [← hqz, hs0]; exact List.size_toArray
  have hrl := b6.rl_some (s := s0) (o := q) (by omega) (by rw [hs0l]; exact b6.dec_enc q)
  rw [← hs0] at hes
  clear hs0 hs0l hqz
  go_wp2_with fail
  refine (b6.implText_any v1 q _ _ own1 T1.2.1).mono ?_
  rw [hes, hec]
  rintro e w2 ⟨rfl, b2⟩
  have b2' := b1.trans (b2.mono b1.size)
  have own2 := ow.own_below own1 b2
  have own2r := own2
  rw [← b6.bz_cells, ← b6.bz_len] at own2r
  clear own1 T1
  go_wp2_with fail
  refine (b6.specText_any v1 q _ (ow.reads_own own2r) (by omega)).mono ?_
  rw [hes, hec]
  rintro e w3 ⟨rfl, b3⟩
  have b3' := b2'.trans (b3.mono b2'.size)
  have own3 := ow.own_below own2 b3
  clear own2 own2r
  go_wp2_with fail
  refine (b6.implGet_any s0 _ (HT.out w3 b3').2.2 (by unfold maxLen; omega)).mono ?_
  rintro e w4 ⟨⟨v4, rfl, own4⟩, b4⟩
  rw [hrl.1] at own4
  rw [hrl.2]
  have b4' := b3'.trans (b4.mono b3'.size)
  have own3' := ow.own_below own3 b4
  have cv1 := ow.conv_bytes (P := Tryd.prog) (src := 22) (dst := 9) q own3' Tryd.underlying22 Tryd.underlying5 Tryd.underlying9
  have cv4 := ow.conv_bytes (P := Tryd.prog) (src := 22) (dst := 9) q own4 Tryd.underlying22 Tryd.underlying5 Tryd.underlying9
  obtain ⟨ao, cap1, rfl⟩ : ∃ ao cap, v1 = .slice ao q.length cap := by
    rcases own3'.2 with ⟨hv, h0⟩ | ⟨g, cap, cur, hv, _⟩
    · exact ⟨none, 0, by rw [hv, h0]⟩
    · exact ⟨_, cap, hv⟩
  have hlb : ((s0.size : Int) != ((q.length : Int) + 2) / 3 * 4) = false := by rw [bne_eq_false_iff_eq]; omega
  have hq' : (q.length : Int) ≤ 40 := by omega
  have cvc := (HT.out w4 b4').1
  clear own3 own3' own4 hes hec hrl hs0z
  generalize (⟨q.toArray⟩ : ByteArray) = qs at cv1 cv4
  obtain ⟨s1, hs1⟩ : ∃ s : ByteArray, s = ⟨l.toArray⟩ := ⟨_, rfl⟩
  have HS1 : Hid (s1 = ⟨l.toArray⟩) := hs1
  rw [← hs1] at cvc
  clear hs1
  have hs1z : s1.size ≤ maxLen := by rw [HS1.out]; show l.toArray.size ≤ _; rw [List.size_toArray]; have := HL.out; unfold maxLen; omega
  go_wp2_with fail
  refine (b6.implGet_any s1 _ (HT.out w4 b4').2.2 hs1z).mono ?_
  rintro e w5 ⟨⟨v5, rfl, own5⟩, b5⟩
  have b5' := b4'.trans (b5.mono b4'.size)
  have cvc5 := (HT.out w5 b5').1
  rw [← HS1.out] at cvc5
  clear cv1 cv4 cvc
  go_wp2_with fail
  refine (b6.specGet_any s1 _ hs1z).mono ?_
  rintro e w6 ⟨⟨v6, rfl, own6⟩, b6'⟩
  have b7' := b5'.trans (b6'.mono b5'.size)
  have own7 := ow.own_below own5 b6'
  have cvc6 := (HT.out w6 b7').1
  rw [← HS1.out] at cvc6
  clear own5 own6 cvc5
  have hcc : (b6.rc s1 != b6.rc s1) = false := by simp
  by_cases hrc : b6.rc s1 = 0
  · obtain ⟨hd1, hd2⟩ := b6.rc_zero hrc
    have hx2 : (b6.rl s1).length ≤ 65536 := b6.rl_len s1
    have hes : b6.es (b6.rl s1) = s1 := by
      have h1 : b6.es (b6.rl s1) = ⟨(b6.enc (b6.rl s1)).toArray⟩ := if_pos hx2
      rw [h1, hd2]
    have hec : b6.ec (b6.rl s1) = 0 := if_pos hx2
    rw [hrc] at hcc ⊢
    have T6 := (HT.out w6 b7').2.1
    go_wp2_with fail
    refine (b6.implText_any v5 (b6.rl s1) _ _ own7 T6).mono ?_
    rw [hes, hec]
    rintro e w7 ⟨rfl, b8⟩
    have b9 := b7'.trans (b8.mono b7'.size)
    have cvc7 := (HT.out w7 b9).1
    rw [← HS1.out] at cvc7
    clear own7 T6 cvc6 HT HCode hes hec
    go_wp2
    go_ret
    exact ⟨rfl, b9⟩
  · have hrb : (b6.rc s1 != 0) = true := by rw [bne_iff_ne]; exact hrc
    clear own7 cvc6 HT HCode
    generalize b6.rc s1 = cc at hcc hrb hrc ⊢
    go_wp2
    go_ret
    exact ⟨rfl, b7'⟩

theorem contract (H : Type) (enc : TypeId × Value → H) (W : World) (base : Nat) (args : Array Value) (ds gs : List (DataW H)) (before : List MemPlace)
    (hval : ∀ (j : Nat) t v, Tryd.f3.params[j]? = some t → args[j]? = some v → Value.okWide Tryd.prog W .any base t v)
    (hW : DataW.Whole enc Tryd.prog Tryd.f3.params.toList Rows.fnBase64Spec.vars false W args.toList ds gs before) (hL : laidMetH Tryd.prog Rows.fnBase64Row.laid W) :
    Calls Tryd.prog 3 args W fun e W' => ∃ v, e = .returned v ∧ Rows.fnBase64Spec.post enc Tryd.prog Tryd.f3 false true false false W args v W' := by
  have hW' := hW
  obtain ⟨p, q, hA0, hV, rfl, hfz, hnd⟩ := hW
  have hA : DataW.TrodAll enc Tryd.prog W 0 (fun _ => true) true Tryd.f3.params.toList args.toList ds p := hA0
  rw [Tryd.params3] at hA hval
  obtain ⟨v0, vs0, d0, ds0, p0, q0, hargs, rfl, rfl, h0, r0⟩ := trodAll_cons hA
  obtain ⟨rfl, rfl, rfl⟩ := trodAll_nil r0
  obtain rfl : args = #[v0] := by cases args; simp_all
  obtain ⟨a0, len0, cap0, rfl⟩ := okWide_slice Tryd.underlying22 (hval 0 22 v0 rfl rfl)
  have k0 := h0
  have lt0 : ∀ x ∈ p0, x.block < W.heap.size := by obtain ⟨m, hm⟩ := k0; exact DataW.trod_lt m _ _ _ hm
  obtain ⟨z0, w0⟩ : ∃ zs, ag.IsRow .u8 W a0 len0 cap0 zs := by
    obtain ⟨fuel, hf⟩ := h0
    rcases open_ints Tryd.underlying22 Tryd.underlying5 (by kernel_rfl) hf with ⟨hcs, _⟩ | ⟨x, l, c, zs, hcs, _, hl, hm, hz, _, hcell, hwz⟩
    · simp [Value.cells] at hcs
      obtain ⟨rfl, rfl, rfl⟩ := hcs
      exact ⟨[], .inl ⟨rfl, rfl, rfl, rfl⟩⟩
    · simp [Value.cells] at hcs
      obtain ⟨rfl, rfl, rfl⟩ := hcs
      exact ⟨zs, .inr ⟨_, rfl, hl, hm, by simpa using hz, hcell, hwz⟩⟩
  clear hA0
  simp only [List.append_nil] at hW'
  have hLL : laidMet Tryd.prog Rows.fnBase64Row.laid W := hL
  obtain ⟨ps, hLV, _⟩ := hLL
  obtain ⟨g, t, cs, fuel, d, pp, g2, t2, cs2, fuel2, d2, pp2, rfl, _⟩ := trodVars_two hV
  refine (walk a0 len0 cap0 z0 W w0 (tb.tc_of (by simp [Rows.fnBase64Row, tb.nmC, Rows.fnExactBase64TextSpec]) hLV) (tb.tv_of (by simp [Rows.fnBase64Row, tb.nmV, Rows.fnExactReadBase64Spec]) hLV)).mono fun e W' ⟨he, bel⟩ => ?_
  subst he
  exact ⟨_, rfl, _, _, _, [], _, _, hW', trodAll_cons_mk (shut_bool Tryd.underlying4 _) trodAll_mk0, trodAll_cons_mk (Below.trod laidOut (by kernel_rfl) (of_decide_eq_true (by kernel_rfl)) k0 bel lt0) trodAll_mk0, Below.trodVars laidOut bel (by kernel_rfl) hV, bel.frame _, fun h => by cases h⟩
def putC (o : Obj) : Obj := match o with
  | .cells _ t frozen => .cells ((b6.bz b6.alpha).map (Value.int .u8)).toArray t frozen
  | o => o
def putV (o : Obj) : Obj := match o with
  | .cells _ t frozen => .cells (b6.vals.map (Value.int .i8)).toArray t frozen
  | o => o
theorem laid_met (os : Os) : laidMet Tryd.prog Rows.fnBase64Row.laid (({ World.holding Tryd.prog os ⟨#[], #[], []⟩ with heap := (((World.holding Tryd.prog os ⟨#[], #[], []⟩).heap.modify 0 putC).modify 1 putV) } : World).forCall (fun _ _ => 0) ⟨#[], #[.slice none 0 0], []⟩).memory :=
  laidMet_of_run' 8 (by kernel_rfl) (by kernel_rfl)
theorem reads (os : Os) {H : Type} (enc : TypeId × Value → H) : ∃ places, DataW.whole enc Tryd.prog (({ World.holding Tryd.prog os ⟨#[], #[], []⟩ with heap := (((World.holding Tryd.prog os ⟨#[], #[], []⟩).heap.modify 0 putC).modify 1 putV) } : World).forCall (fun _ _ => 0) ⟨#[], #[.slice none 0 0], []⟩).memory Tryd.f3.params.toList Rows.fnBase64Spec.vars false #[.slice none 0 0].toList 8 = some ([.nil], [Rows.laid_loop_example_g00268_impl_base64Chars, Rows.laid_loop_example_g00268_impl_base64Values], places) :=
  ⟨MemPlace.row ⟨0, 0, none⟩ 64 ++ MemPlace.row ⟨1, 0, none⟩ 128, by kernel_rfl⟩

set_option maxRecDepth 100000 in
theorem lifted (os : Os) (started : os.Started) (H : Type) (enc : TypeId × Value → H) (F : Stop.Interp) :
    ReturnsInHanded {} Tryd.checked os 3 .any ((OpenSpec.ofChange Rows.fnBase64Spec).preRow enc Tryd.prog Tryd.f3 Rows.fnBase64Row.domain false Rows.fnBase64Row.laid) (((OpenSpec.ofChange Rows.fnBase64Spec).at F).post enc Tryd.prog Tryd.f3 false true false false) := by
  obtain ⟨places, hx⟩ := reads os enc
  refine returnsInHanded_of_row (C := Tryd.checked) (s := OpenSpec.ofChange Rows.fnBase64Spec) own started (by kernel_rfl) Tryd.func3
    (witness_row_at (enc := enc) (C := Tryd.checked) false ({ World.holding Tryd.prog os ⟨#[], #[], []⟩ with heap := (((World.holding Tryd.prog os ⟨#[], #[], []⟩).heap.modify 0 putC).modify 1 putV) } : World) #[.slice none 0 0] rfl (by kernel_rfl) (by kernel_rfl) (by kernel_rfl)
      (OpenSpec.preRow_of_cond 8 hx (by kernel_rfl) (fun k hk => by cases hk) (by kernel_rfl) (laid_met os))) ?_
  intro W base args ds gs before hval hW _ _ _ hL _ _
  exact contract H enc W base args ds gs before hval hW hL

theorem said : Rows.FnBase64Said :=
  OpenClaim.holds_of_cond 3 Tryd.f3 rfl rfl rfl rfl rfl rfl rfl ⟨rfl, rfl, rfl, rfl, rfl⟩ rfl rfl rfl rfl rfl (by kernel_rfl) Tryd.func3 (by kernel_rfl)
    (of_decide_eq_true (by kernel_rfl)) (by unfold Func.isWrapper; first | (rw [if_pos (by decide +kernel)]; kernel_rfl) | (rw [if_neg (by decide +kernel)]; exact ⟨rfl, rfl⟩))
    (fun os started H enc _ F => by rw [OpenClaim.pre_eq_preRow]; exact lifted os started H enc F)

theorem plain (f : FuncId) (fn : Func) (hf : Tryd.pinned.checked.prog.funcNamed Rows.fnBase64Row.func = some f) (hfn : Tryd.pinned.checked.prog.funcs[f]? = some fn) :
    false = Tryd.pinned.checked.prog.looks [] ∧ ∀ (j : Nat) t, fn.params[j]? = some t → Tryd.pinned.checked.prog.wantsStandIn t = false := by
  obtain rfl : f = 3 := Option.some.inj ((show Tryd.prog.funcNamed Rows.fnBase64Row.func = some 3 by kernel_rfl).symm.trans hf) |>.symm
  obtain rfl : fn = Tryd.f3 := (Option.some.inj (Tryd.func3.symm.trans hfn)).symm
  refine ⟨by kernel_rfl, fun j t ht => ?_⟩
  rw [Tryd.params3] at ht
  obtain rfl : t = 22 := by simpa using Array.mem_of_getElem? ht
  exact (show Tryd.prog.wantsStandIn 22 = false by kernel_rfl)

theorem card : Rows.FnBase64CardSaid :=
  Claim7.holds_tied_plain_at .later [] _ _ _ _ said (fun _ h => by cases h) (by kernel_rfl) (fun _ h => by cases h) fnBase64_row_tie rfl ⟨rfl, rfl⟩ (by kernel_rfl) rfl plain (by kernel_rfl)
end Go.Proofs.YthfppbjjnkdekaaDoor.fnBase64
namespace Go.Proofs.YthfppbjjnkdekaaDoor
theorem fnBase64_card : Rows.FnBase64CardSaid := fnBase64.card
#print axioms fnBase64_card
end Go.Proofs.YthfppbjjnkdekaaDoor
