/-
  What is encoded for a field is safe there and says what it was: at every two codes of drawn texts; the program's tables base64Chars and base64Values and the library's asciiSpace and White_Space read as the texts lay them.
-/
import Derived.Test.YtpbmofofigkpjaaDoorCards
import Derived.Test.YtpbmofofigkpjaaDoorTie
import Derived.Test.YtpbmofofigkpjaaDoorWof
import Derived.Test.YtpbmofofigkpjaaDoorAgc
import Derived.Test.YtpbmofofigkpjaaDoorTab
import Derived.WalkKit
import Derived.ProofKit
import Derived.OpenShut
import Derived.ShutString
import Derived.OpenVars
import Derived.ChangeOld
import Derived.Below
import Derived.Deep.DeepHandedRow
import Derived.Deep.DeepWitnessRowRef
import Derived.LaidMore
import Derived.Lib.LaidTab
namespace Go.Proofs.YtpbmofofigkpjaaDoor.fnWords
open Go.ChangeShapes Go.WideShapes Go.ChangeAt Go.RowKit
open Go.ChangeMaps (open_string shut_string)
set_option linter.unusedVariables false

theorem own : ownKnob Tryd.prog.godebug = none := by kernel_rfl
theorem laidOut : laidOutB Tryd.prog = true := by kernel_rfl

set_option maxHeartbeats 4000000 in
set_option maxRecDepth 100000 in
theorem walk (a0 : Option Addr) (len0 cap0 : Nat) (z0 : List Int) (a1 : Option Addr) (len1 cap1 : Nat) (z1 : List Int) (w : World) (w0 : ag.IsRow .u8 w a0 len0 cap0 z0) (w1 : ag.IsRow .u8 w a1 len1 cap1 z1) (m : Int) (hm : w.cell? ⟨3, 0, none⟩ = some (.int .i64 m)) (hC : tb.TC w) (hV : tb.TV w) (hA : tb.TA w) :
    Calls Tryd.prog 4 #[.slice a0 len0 cap0, .slice a1 len1 cap1] w fun e w' => e = .returned (.bool true) ∧ Below w.heap.size w w' := by
  obtain ⟨l, hl, hr⟩ := ag.bytes w0
  obtain ⟨l', hl', hr'⟩ := ag.bytes w1
  clear w0 w1
  by_cases hbig : 1048576 < len0
  · have hb : (1048576 : Int) < (len0 : Int) := by omega
    clear hr hC hV hA hl hm hr' hl'
    go_enter Tryd.func4, Tryd.ntmps4
    go_wp2
    go_ret
    exact ⟨rfl, Below.refl _ _⟩
  have hb : decide ((1048576 : Int) < (len0 : Int)) = false := decide_eq_false (by omega)
  by_cases hbig2 : 1048576 < len1
  · have hb2 : (1048576 : Int) < (len1 : Int) := by omega
    clear hr hC hV hA hl hm hr' hl'
    go_enter Tryd.func4, Tryd.ntmps4
    go_wp2
    go_ret
    exact ⟨rfl, Below.refl _ _⟩
  have hb2 : decide ((1048576 : Int) < (len1 : Int)) = false := decide_eq_false (by omega)
  have hgl := World.block_lt_of_cell? _ _ hm
  have HT : Hid (∀ W, Below w.heap.size w W → sr.Bytes W a0 len0 ∧ sr.Bytes W a1 len1 ∧ W.cell? ⟨3, 0, none⟩ = some (.int .i64 m) ∧ tb.TC W ∧ tb.TV W ∧ tb.TA W) := fun W hW =>
    ⟨sr.bytes_below (ag.code hl (by omega) hr) hW, sr.bytes_below (ag.code hl' (by omega) hr') hW, (hW.cell (p := ⟨3, 0, none⟩) hgl).trans hm, tb.keep' hC hW, tb.keep' hV hW, tb.keep' hA hW⟩
  clear hr hr' hC hV hA hm hgl hl hl'
  go_enter Tryd.func4, Tryd.ntmps4
  go_wp2_with fail
  refine (sr.textOf_any _ a0 len0 cap0 (HT.out _ (Below.refl _ _)).1).mono ?_
  rintro e w2 ⟨⟨zs, rfl, hz, hall⟩, b2⟩
  go_wp2_with fail
  refine (sr.textOf_any _ a1 len1 cap1 (HT.out _ b2).2.1).mono ?_
  rintro e w3 ⟨⟨zs', rfl, hz', hall'⟩, b3⟩
  have bw3 := b2.trans (b3.mono b2.size)
  have hf := hd.flat_two hall hall' (hd.runes_len hall hz) (hd.runes_len hall' hz')
  have hl1 := hd.runes_len hall hz
  have hl2 := hd.runes_len hall' hz'
  obtain ⟨S1, hS1⟩ : ∃ S : ByteArray, S = ⟨(zs.flatMap ut.encB).toArray⟩ := ⟨_, rfl⟩
  obtain ⟨S2, hS2⟩ : ∃ S : ByteArray, S = ⟨(zs'.flatMap ut.encB).toArray⟩ := ⟨_, rfl⟩
  rw [← hS1, ← hS2] at hf
  have z1 : (S1.size : Int) ≤ 100 := by rw [hS1, Lib.size_eq]; show ((zs.flatMap ut.encB).length : Int) ≤ 100; omega
  have z2 : (S2.size : Int) ≤ 100 := by rw [hS2, Lib.size_eq]; show ((zs'.flatMap ut.encB).length : Int) ≤ 100; omega
  rw [← hS1, ← hS2]
  have HF : Hid (hd.Flat (S1 ++ S2)) := hf
  clear hS1 hS2 hall hall' hz hz' b2 b3 hl1 hl2 hf
  go_wp2_with fail
  obtain ⟨T, hT⟩ : ∃ T, T = S1 ++ S2 := ⟨_, rfl⟩
  rw [← hT] at HF ⊢
  have hTs : T.size ≤ 900 := (hd.flat_right HF.out).2
  clear hT z1 z2
  refine (hd.implEw_any T _ m (HT.out _ bw3).2.2.1 (HT.out _ bw3).2.2.2.1 (by omega)).mono ?_
  rintro e w4 ⟨h4, b4⟩
  obtain ⟨r, hr, rfl⟩ := hd.ew_ok h4 HF.out
  have HR : Hid (hd.EncIs T r) := hr
  have bw4 := bw3.trans (b4.mono bw3.size)
  clear h4 hr b4
  go_wp2_with fail
  refine (hd.specEw_any T _ (by omega)).mono ?_
  rintro e w5 ⟨h5, b5⟩
  obtain ⟨r', hr', rfl⟩ := hd.ew_ok h5 HF.out
  obtain rfl := hd.enc_same HR.out hr'
  have bw5 := bw4.trans (b5.mono bw4.size)
  clear h5 hr' b5
  have hsafe := hd.enc_safe HF.out HR.out
  have hrs : r.size ≤ 2000 := by rw [Lib.size_eq]; exact hsafe.1
  have HS : Hid (hd.Safe r.data.toList) := hsafe
  clear hsafe
  go_wp2_with fail
  refine (hd.implDw_any r _ (HT.out _ bw5).2.2.2.2.1 (HT.out _ bw5).2.2.2.2.2 (by omega)).mono ?_
  rintro e w6 ⟨h6, b6'⟩
  obtain rfl := hd.dw_ok HF.out HR.out h6
  have bw6 := bw5.trans (b6'.mono bw5.size)
  clear h6 b6'
  go_wp2_with fail
  refine (sv.impl_any r _ (by unfold maxLen; omega)).mono ?_
  rintro e w7 ⟨hsv, hw7⟩
  obtain rfl := sv.says_true hsv HS.out
  rw [hw7]
  clear hsv hw7
  go_wp2_with fail
  refine (sr.valueOf_any _ a1 len1 cap1 (HT.out _ bw6).2.1).mono ?_
  rintro e w8 ⟨⟨v, rfl, hv, _⟩, b8⟩
  have bw8 := bw6.trans (b8.mono bw6.size)
  have HV : Hid (hd.Flat v) := hd.flat_short hv
  have hvs : v.size ≤ 900 := (hd.flat_right HV.out).2
  clear hv b8
  go_wp2_with fail
  refine (hd.implEw_any v _ m (HT.out _ bw8).2.2.1 (HT.out _ bw8).2.2.2.1 (by omega)).mono ?_
  rintro e w9 ⟨h9, b9⟩
  obtain ⟨y, hy, rfl⟩ := hd.ew_ok h9 HV.out
  have HY : Hid (hd.EncIs v y) := hy
  have bw9 := bw8.trans (b9.mono bw8.size)
  have hys : y.size ≤ 2000 := by rw [Lib.size_eq]; exact (hd.enc_safe HV.out hy).1
  clear h9 hy b9
  go_wp2_with fail
  refine (hd.implDw_any y _ (HT.out _ bw9).2.2.2.2.1 (HT.out _ bw9).2.2.2.2.2 (by omega)).mono ?_
  rintro e wA ⟨hA, bA⟩
  obtain rfl := hd.dw_ok HV.out HY.out hA
  have bwA := bw9.trans (bA.mono bw9.size)
  clear hA bA HT
  go_wp2
  go_ret
  exact ⟨rfl, bwA⟩

set_option maxRecDepth 100000 in
theorem contract (H : Type) (enc : TypeId × Value → H) (W : World) (base : Nat) (args : Array Value) (ds gs : List (DataW H)) (before : List MemPlace)
    (hval : ∀ (j : Nat) t v, Tryd.f4.params[j]? = some t → args[j]? = some v → Value.okWide Tryd.prog W .any base t v)
    (hW : DataW.Whole enc Tryd.prog Tryd.f4.params.toList Rows.fnWordsSpec.vars false W args.toList ds gs before) (hL : laidMetH Tryd.prog Rows.fnWordsRow.laid W) (hsh : W.ShapedOpen Tryd.prog) :
    Calls Tryd.prog 4 args W fun e W' => ∃ v, e = .returned v ∧ Rows.fnWordsSpec.post enc Tryd.prog Tryd.f4 false true false false W args v W' := by
  have hW' := hW
  obtain ⟨p, q, hA0, hV, rfl, hfz, hnd⟩ := hW
  have hA : DataW.TrodAll enc Tryd.prog W 0 (fun _ => true) true Tryd.f4.params.toList args.toList ds p := hA0
  rw [Tryd.params4] at hA hval
  obtain ⟨v0, vs0, d0, ds0, p0, q0, hargs0, rfl, rfl, h0, r0⟩ := trodAll_cons hA
  obtain ⟨v1, vs1, d1, ds1, p1, q1, hargs1, rfl, rfl, h1, r1⟩ := trodAll_cons r0
  obtain ⟨hnil, rfl, rfl⟩ := trodAll_nil r1
  obtain rfl : args = #[v0, v1] := by cases args; simp_all
  obtain ⟨a0, len0, cap0, rfl⟩ := okWide_slice Tryd.underlying22 (hval 0 22 v0 rfl rfl)
  have k0 := h0
  have lt0 : ∀ x ∈ p0, x.block < W.heap.size := by obtain ⟨m, hm⟩ := k0; exact DataW.trod_lt m _ _ _ hm
  obtain ⟨z0, w0⟩ : ∃ zs, ag.IsRow .u8 W a0 len0 cap0 zs := by
    obtain ⟨fuel, hf⟩ := h0
    rcases open_ints Tryd.underlying22 Tryd.underlying5 (by kernel_rfl) hf with ⟨hcs, _⟩ | ⟨x, l, c, zs, hcs, _, hl, hm, hz, _, hcell, hwz⟩
    · simp [Value.cells] at hcs
      obtain ⟨rfl, rfl, rfl⟩ := hcs
      exact ⟨[], .inl ⟨rfl, rfl, rfl, rfl⟩⟩
    · simp [Value.cells] at hcs
      obtain ⟨rfl, rfl, rfl⟩ := hcs
      exact ⟨zs, .inr ⟨_, rfl, hl, hm, by simpa using hz, hcell, hwz⟩⟩
  obtain ⟨a1, len1, cap1, rfl⟩ := okWide_slice Tryd.underlying22 (hval 1 22 v1 rfl rfl)
  have k1 := h1
  have lt1 : ∀ x ∈ p1, x.block < W.heap.size := by obtain ⟨m, hm⟩ := k1; exact DataW.trod_lt m _ _ _ hm
  obtain ⟨z1, w1⟩ : ∃ zs, ag.IsRow .u8 W a1 len1 cap1 zs := by
    obtain ⟨fuel, hf⟩ := h1
    rcases open_ints Tryd.underlying22 Tryd.underlying5 (by kernel_rfl) hf with ⟨hcs, _⟩ | ⟨x, l, c, zs, hcs, _, hl, hm, hz, _, hcell, hwz⟩
    · simp [Value.cells] at hcs
      obtain ⟨rfl, rfl, rfl⟩ := hcs
      exact ⟨[], .inl ⟨rfl, rfl, rfl, rfl⟩⟩
    · simp [Value.cells] at hcs
      obtain ⟨rfl, rfl, rfl⟩ := hcs
      exact ⟨zs, .inr ⟨_, rfl, hl, hm, by simpa using hz, hcell, hwz⟩⟩
  clear hA0
  simp only [List.append_nil] at hW'
  have hLL : laidMet Tryd.prog Rows.fnWordsRow.laid W := hL
  obtain ⟨ps, hLV, _⟩ := hLL
  obtain ⟨g, t, cs, fuel, d, pp, g2, t2, cs2, fuel2, d2, pp2, rfl, _⟩ := trodVars_two hV
  obtain ⟨m, hm⟩ := Tryd.laysM219.s1_3 W hsh
  refine (walk a0 len0 cap0 z0 a1 len1 cap1 z1 W w0 w1 m hm (tb.tc_of (List.mem_of_getElem? (i := 2) (by kernel_rfl)) hLV) (tb.tv_of (List.mem_of_getElem? (i := 3) (by kernel_rfl)) hLV) (tb.ta_of (List.mem_of_getElem? (i := 1) (by kernel_rfl)) hLV)).mono fun e W' ⟨he, bel⟩ => ?_
  subst he
  exact ⟨_, rfl, _, _, _, [], _, _, hW', trodAll_cons_mk (shut_bool Tryd.underlying4 _) trodAll_mk0, (trodAll_cons_mk (Below.trod laidOut (by kernel_rfl) (of_decide_eq_true (by kernel_rfl)) k0 bel lt0) (trodAll_cons_mk (Below.trod laidOut (by kernel_rfl) (of_decide_eq_true (by kernel_rfl)) k1 bel lt1) trodAll_mk0)), Below.trodVars laidOut bel (by kernel_rfl) hV, bel.frame _, fun h => by cases h⟩
set_option maxRecDepth 100000 in
theorem laid_met (os : Os) : laidMet Tryd.prog Rows.fnWordsRow.laid ((World.doorLaid Tryd.prog 58 os).forCall (fun _ _ => 0) ⟨#[], #[Value.slice none 0 0, Value.slice none 0 0], []⟩).memory :=
  laidMet_of_run' 8 (by kernel_rfl) (by kernel_rfl)
theorem reads (os : Os) {H : Type} (enc : TypeId × Value → H) : ∃ places, DataW.whole enc Tryd.prog ((World.doorLaid Tryd.prog 58 os).forCall (fun _ _ => 0) ⟨#[], #[Value.slice none 0 0, Value.slice none 0 0], []⟩).memory Tryd.f4.params.toList Rows.fnWordsSpec.vars false #[Value.slice none 0 0, Value.slice none 0 0].toList 8 = some ([.nil, .nil], [Rows.laid_loop_example_g00268_impl_base64Chars, Rows.laid_loop_example_g00268_impl_base64Values], places) :=
  ⟨MemPlace.row ⟨4, 0, none⟩ 64 ++ MemPlace.row ⟨5, 0, none⟩ 128, by kernel_rfl⟩

set_option maxRecDepth 100000 in
theorem lifted (os : Os) (started : os.Started) (H : Type) (enc : TypeId × Value → H) (F : Stop.Interp) :
    ReturnsInHanded {} Tryd.checked os 4 .any ((OpenSpec.ofChange Rows.fnWordsSpec).preRow enc Tryd.prog Tryd.f4 Rows.fnWordsRow.domain false Rows.fnWordsRow.laid) (((OpenSpec.ofChange Rows.fnWordsSpec).at F).post enc Tryd.prog Tryd.f4 false true false false) := by
  obtain ⟨places, hx⟩ := reads os enc
  refine returnsInHanded_of_row (C := Tryd.checked) (s := OpenSpec.ofChange Rows.fnWordsSpec) own started (by kernel_rfl) Tryd.func4
    (witness_row_atRef (enc := enc) (C := Tryd.checked) false (World.doorLaid Tryd.prog 58 os) #[Value.slice none 0 0, Value.slice none 0 0] rfl (by kernel_rfl) (by kernel_rfl) (by kernel_rfl)
      (OpenSpec.preRow_of_cond 8 hx (by kernel_rfl) (fun k hk => by cases hk) (by kernel_rfl) (laid_met os))) ?_
  intro W base args ds gs before hval hW _ _ _ hL hsh _
  exact contract H enc W base args ds gs before hval hW hL hsh

theorem said : Rows.FnWordsSaid :=
  OpenClaim.holds_of_cond 4 Tryd.f4 rfl rfl rfl rfl rfl rfl rfl ⟨rfl, rfl, rfl, rfl, rfl⟩ rfl rfl rfl rfl rfl (by kernel_rfl) Tryd.func4 (by kernel_rfl)
    (of_decide_eq_true (by kernel_rfl)) (by unfold Func.isWrapper; first | (rw [if_pos (by decide +kernel)]; kernel_rfl) | (rw [if_neg (by decide +kernel)]; exact ⟨rfl, rfl⟩))
    (fun os started H enc _ F => by rw [OpenClaim.pre_eq_preRow]; exact lifted os started H enc F)

theorem plain (f : FuncId) (fn : Func) (hf : Tryd.pinned.checked.prog.funcNamed Rows.fnWordsRow.func = some f) (hfn : Tryd.pinned.checked.prog.funcs[f]? = some fn) :
    false = Tryd.pinned.checked.prog.looks [] ∧ ∀ (j : Nat) t, fn.params[j]? = some t → Tryd.pinned.checked.prog.wantsStandIn t = false := by
  obtain rfl : f = 4 := Option.some.inj ((show Tryd.prog.funcNamed Rows.fnWordsRow.func = some 4 by kernel_rfl).symm.trans hf) |>.symm
  obtain rfl : fn = Tryd.f4 := (Option.some.inj (Tryd.func4.symm.trans hfn)).symm
  refine ⟨by kernel_rfl, fun j t ht => ?_⟩
  rw [Tryd.params4] at ht
  obtain rfl : t = 22 := by simpa using Array.mem_of_getElem? ht
  exact (show Tryd.prog.wantsStandIn 22 = false by kernel_rfl)

theorem card : Rows.FnWordsCardSaid :=
  Claim7.holds_tied_plain_at .later [] _ _ _ _ said (fun _ h => by cases h) (by kernel_rfl) (fun _ h => by cases h) fnWords_row_tie rfl ⟨rfl, rfl⟩ (by kernel_rfl) rfl plain (by kernel_rfl)
end Go.Proofs.YtpbmofofigkpjaaDoor.fnWords
namespace Go.Proofs.YtpbmofofigkpjaaDoor
theorem fnWords_card : Rows.FnWordsCardSaid := fnWords.card
#print axioms fnWords_card
end Go.Proofs.YtpbmofofigkpjaaDoor
