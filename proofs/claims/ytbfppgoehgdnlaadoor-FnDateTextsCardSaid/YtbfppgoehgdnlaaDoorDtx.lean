/-
  A drawn stamp is read back from both of its texts, which are the specification's, and from the text of another zone.
-/
import Derived.Test.YtbfppgoehgdnlaaDoorCards
import Derived.Test.YtbfppgoehgdnlaaDoorTie
import Derived.Test.YtbfppgoehgdnlaaDoorRdm
import Derived.Test.YtbfppgoehgdnlaaDoorRdh
import Derived.Test.YtbfppgoehgdnlaaDoorDxf
import Derived.Test.YtbfppgoehgdnlaaDoorArg
import Derived.WalkKit
import Derived.ProofKit
import Derived.OpenShut
import Derived.ShutString
import Derived.OpenVars
import Derived.ChangeOld
import Derived.Below
import Derived.Deep.DeepHandedRow
import Derived.Deep.DeepWitnessRowRef
import Derived.LaidMore
import Derived.Lib.LaidTab
namespace Go.Proofs.YtbfppgoehgdnlaaDoor.fnDateTexts
open Go.ChangeShapes Go.WideShapes Go.ChangeAt Go.RowKit
open Go.ChangeMaps (open_string shut_string)
set_option linter.unusedVariables false

theorem own : ownKnob Tryd.prog.godebug = none := by kernel_rfl
theorem laidOut : laidOutB Tryd.prog = true := by kernel_rfl

set_option maxHeartbeats 4000000 in
set_option maxRecDepth 100000 in
theorem walk (a0 : Option Addr) (len0 cap0 : Nat) (z0 : List Int) (a1 : Option Addr) (len1 cap1 : Nat) (z1 : List Int) (w : World) (w0 : ag.IsRow .u8 w a0 len0 cap0 z0) (w1 : ag.IsRow .u8 w a1 len1 cap1 z1) (m : Int) (hm : w.cell? ⟨2, 0, none⟩ = some (.int .i64 m)) (hP : tb.TP w) (hW : tb.TW w) (hN : tb.TN w) :
    Calls Tryd.prog 7 #[.slice a0 len0 cap0, .slice a1 len1 cap1] w fun e w' => e = .returned (.bool true) ∧ Below w.heap.size w w' := by
  by_cases hbig : 1048576 < len0
  · have hb : (1048576 : Int) < (len0 : Int) := by omega
    clear w0 w1 hm hP hW hN
    go_enter Tryd.func7, Tryd.ntmps7
    go_wp2
    go_ret
    exact ⟨rfl, Below.refl _ _⟩
  have hb : decide ((1048576 : Int) < (len0 : Int)) = false := decide_eq_false (by omega)
  by_cases hbig2 : 1048576 < len1
  · have hb2 : (1048576 : Int) < (len1 : Int) := by omega
    clear w0 w1 hm hP hW hN
    go_enter Tryd.func7, Tryd.ntmps7
    go_wp2
    go_ret
    exact ⟨rfl, Below.refl _ _⟩
  have hb2 : decide ((1048576 : Int) < (len1 : Int)) = false := decide_eq_false (by omega)
  have hgl := World.block_lt_of_cell? _ _ hm
  have HT : Hid (∀ W, Below w.heap.size w W → sr.Bytes W a0 len0 ∧ sr.Bytes W a1 len1 ∧ W.cell? ⟨2, 0, none⟩ = some (.int .i64 m) ∧ tb.TP W ∧ tb.TW W ∧ tb.TN W) := fun W hb =>
    ⟨sr.bytes_below (ag.row_bytes w0 (by omega)) hb, sr.bytes_below (ag.row_bytes w1 (by omega)) hb, (hb.cell (p := ⟨2, 0, none⟩) hgl).trans hm, tb.keep' hP hb, tb.keepS hW hb, tb.keepS hN hb⟩
  clear w0 w1 hm hP hW hN hgl
  go_enter Tryd.func7, Tryd.ntmps7
  go_wp2_with fail
  refine (sr.stampOf_any _ a0 len0 cap0 (HT.out _ (Below.refl _ _)).1).mono ?_
  rintro e w2 ⟨⟨n, rfl, n0, n1⟩, b2⟩
  have e3 := dx.r39_in (dw.in_yes n0 n1)
  have e8 := dx.r82_in (dw.in_yes n0 n1)
  have H3 : Hid (∀ W, Calls Tryd.prog 11 #[.string ⟨(dx.t39 n).toArray⟩] W fun e w' => e = .returned (.tuple #[.int .i64 n, .int .i64 0]) ∧ Below W.heap.size W w') := fun W => by
    have := rd.impl_39 ⟨(dx.t39 n).toArray⟩ (by show 20 ≤ 1048576; decide) W
    rw [show (⟨(dx.t39 n).toArray⟩ : ByteArray).data.toList = dx.t39 n from by simp, rd.back39 n0 n1] at this
    exact this
  have H8 : Hid (∀ W, Below w.heap.size w W → Calls Tryd.prog 15 #[.string ⟨(dx.t82 n).toArray⟩] W fun e w' => e = .returned (.tuple #[.int .i64 n, .int .i64 0]) ∧ Below W.heap.size W w') := fun W hb => rd.back82 n n0 n1 W m (HT.out W hb).2.2.1 (HT.out W hb).2.2.2.2.2 (HT.out W hb).2.2.2.2.1
  generalize (⟨(dx.t39 n).toArray⟩ : ByteArray) = T3 at e3 H3
  generalize (⟨(dx.t82 n).toArray⟩ : ByteArray) = T8 at e8 H8
  go_wp2_with fail
  refine (dx.impl_39 n _ (HT.out _ b2).2.2.2.1).mono ?_
  rintro e w3 ⟨rfl, b3⟩
  rw [e3]
  have c3 := b2.trans (b3.mono b2.size)
  clear b2 b3
  go_wp2_with fail
  refine (dx.impl_82 n _ (HT.out _ c3).2.2.2.1 (HT.out _ c3).2.2.2.2.1 (HT.out _ c3).2.2.2.2.2).mono ?_
  rintro e w4 ⟨rfl, b4⟩
  rw [e8]
  have c4 := c3.trans (b4.mono c3.size)
  clear c3 b4
  go_wp2_with fail
  refine (dx.spec_39 n _).mono ?_
  rintro e w5 ⟨rfl, b5⟩
  rw [e3]
  have c5 := c4.trans (b5.mono c4.size)
  clear c4 b5
  go_wp2_with fail
  refine (dx.spec_82 n _).mono ?_
  rintro e w6 ⟨rfl, b6⟩
  rw [e8]
  have c6 := c5.trans (b6.mono c5.size)
  clear c5 b6 e3 e8
  go_wp2_with fail
  refine (H3.out _).mono ?_
  rintro e w7 ⟨rfl, b7⟩
  have c7 := c6.trans (b7.mono c6.size)
  clear c6 b7 H3
  go_wp2_with fail
  refine (H8.out _ c7).mono ?_
  rintro e w8 ⟨rfl, b8⟩
  have c8 := c7.trans (b8.mono c7.size)
  clear c7 b8 H8
  go_wp2_with fail
  refine (sr.at_any _ a1 len1 cap1 0 13 (HT.out _ c8).2.1 (by omega) (by omega) (by omega) (by omega)).mono ?_
  rintro e w9 ⟨⟨q, rfl, q0, q1⟩, k, rfl⟩
  have c9 : Below w.heap.size w (w8.drewN k) := ⟨c8.os, c8.tape, c8.output, c8.size, c8.block⟩
  clear c8
  generalize w8.drewN k = w9 at c9 ⊢
  have q1' : q ≤ 12 := by omega
  by_cases hend : 4102444799 < n + q * 3600
  · clear HT
    go_wp2
    go_ret
    exact ⟨rfl, c9⟩
  have n2 : n + q * 3600 ≤ 4102444799 := by omega
  have e4 := dx.r39_in (dw.in_yes (show 0 ≤ n + q * 3600 by omega) n2)
  have HR : Hid (∀ W, Calls Tryd.prog 11 #[.string ((⟨(dx.t39 (n + q * 3600)).toArray⟩ : ByteArray).extract 0 19 ++ ⟨[43, dx.dg (q / 10), dx.dg (q % 10), 58, 48, 48].toArray⟩)] W fun e w' => e = .returned (.tuple #[.int .i64 n, .int .i64 0]) ∧ Below W.heap.size W w') := fun W => by
    have hd : ((⟨(dx.t39 (n + q * 3600)).toArray⟩ : ByteArray).extract 0 19 ++ ⟨[43, dx.dg (q / 10), dx.dg (q % 10), 58, 48, 48].toArray⟩).data.toList = dx.m39 (dt.yr (n + q * 3600)) (dt.mn (n + q * 3600)) (dt.dy (n + q * 3600)) (dt.hr (n + q * 3600)) (dt.mt (n + q * 3600)) (dt.sc (n + q * 3600)) ++ [43, dx.dg (q / 10), dx.dg (q % 10), 58, 48, 48] := by
      rw [ByteArray.data_append, Array.toList_append, rd.ext_list]
      rfl
    have := rd.impl_39 ((⟨(dx.t39 (n + q * 3600)).toArray⟩ : ByteArray).extract 0 19 ++ ⟨[43, dx.dg (q / 10), dx.dg (q % 10), 58, 48, 48].toArray⟩) (by rw [← rd.len_eq, hd, List.length_append]; show 19 + 6 ≤ 1048576; decide) W
    rw [hd, rd.backz n0 q0 q1' n2] at this
    exact this
  have hT4 : (⟨(dx.t39 (n + q * 3600)).toArray⟩ : ByteArray).size = 20 := rfl
  have hT4' : ((⟨(dx.t39 (n + q * 3600)).toArray⟩ : ByteArray).size : Int) = 20 := rfl
  have g1 : ((dx.dg (q / 10)).toNat : Int) = 48 + q / 10 := dx.dg_nat (by omega) (by omega)
  have g2 : ((dx.dg (q % 10)).toNat : Int) = 48 + q % 10 := dx.dg_nat (by omega) (by omega)
  have CV : Hid (∀ W : World, (convert 28 9 (.slice (some ⟨W.heap.size, 0, none⟩) 6 6)).run Tryd.prog (W.alloc (.cells #[.int .u8 43, .int .u8 (48 + q / 10), .int .u8 (48 + q % 10), .int .u8 58, .int .u8 48, .int .u8 48] 5)) = .ok (.string ⟨[43, dx.dg (q / 10), dx.dg (q % 10), 58, 48, 48].toArray⟩) (W.alloc (.cells #[.int .u8 43, .int .u8 (48 + q / 10), .int .u8 (48 + q % 10), .int .u8 58, .int .u8 48, .int .u8 48] 5))) := fun W =>
    dx.conv_new W [43, dx.dg (q / 10), dx.dg (q % 10), 58, 48, 48] #[.int .u8 43, .int .u8 (48 + q / 10), .int .u8 (48 + q % 10), .int .u8 58, .int .u8 48, .int .u8 48] (by
      rw [← g1, ← g2]
      rfl)
  clear g1 g2
  generalize (⟨(dx.t39 (n + q * 3600)).toArray⟩ : ByteArray) = T4 at e4 HR hT4 hT4'
  obtain ⟨Zb, hZb⟩ : ∃ Zb : ByteArray, Zb = ⟨[43, dx.dg (q / 10), dx.dg (q % 10), 58, 48, 48].toArray⟩ := ⟨_, rfl⟩
  have hZs : Zb.size = 6 := by rw [hZb]; rfl
  have hZs' : (Zb.size : Int) = 6 := by omega
  rw [← hZb] at HR CV
  clear hZb
  go_wp2_with fail
  refine (dx.impl_39 (n + q * 3600) _ (HT.out _ c9).2.2.2.1).mono ?_
  rintro e w10 ⟨rfl, b10⟩
  rw [e4]
  have c10 := c9.trans (b10.mono c9.size)
  have cv := CV.out w10
  clear c9 b10 e4 HT CV
  go_wp2_with fail
  refine (HR.out _).mono ?_
  rintro e w11 ⟨rfl, b11⟩
  have c11 := c10.alloc c10.size (.cells #[.int .u8 43, .int .u8 (48 + q / 10), .int .u8 (48 + q % 10), .int .u8 58, .int .u8 48, .int .u8 48] 5)
  have c12 := c11.trans (b11.mono c11.size)
  clear c10 c11 b11 HR cv
  go_wp2
  go_ret
  exact ⟨rfl, c12⟩

set_option maxRecDepth 100000 in
theorem contract (H : Type) (enc : TypeId × Value → H) (W : World) (base : Nat) (args : Array Value) (ds gs : List (DataW H)) (before : List MemPlace)
    (hval : ∀ (j : Nat) t v, Tryd.f7.params[j]? = some t → args[j]? = some v → Value.okWide Tryd.prog W .any base t v)
    (hW : DataW.Whole enc Tryd.prog Tryd.f7.params.toList Rows.fnDateTextsSpec.vars false W args.toList ds gs before) (hL : laidMetH Tryd.prog Rows.fnDateTextsRow.laid W) (hsh : W.ShapedOpen Tryd.prog) :
    Calls Tryd.prog 7 args W fun e W' => ∃ v, e = .returned v ∧ Rows.fnDateTextsSpec.post enc Tryd.prog Tryd.f7 false true false false W args v W' := by
  have hW' := hW
  obtain ⟨p, q, hA0, hV, rfl, hfz, hnd⟩ := hW
  have hA : DataW.TrodAll enc Tryd.prog W 0 (fun _ => true) true Tryd.f7.params.toList args.toList ds p := hA0
  rw [Tryd.params7] at hA hval
  obtain ⟨v0, vs0, d0, ds0, p0, q0, hargs0, rfl, rfl, h0, r0⟩ := trodAll_cons hA
  obtain ⟨v1, vs1, d1, ds1, p1, q1, hargs1, rfl, rfl, h1, r1⟩ := trodAll_cons r0
  obtain ⟨hnil, rfl, rfl⟩ := trodAll_nil r1
  obtain rfl : args = #[v0, v1] := by cases args; simp_all
  obtain ⟨a0, len0, cap0, rfl⟩ := okWide_slice Tryd.underlying28 (hval 0 28 v0 rfl rfl)
  have k0 := h0
  have lt0 : ∀ x ∈ p0, x.block < W.heap.size := by obtain ⟨m, hm⟩ := k0; exact DataW.trod_lt m _ _ _ hm
  obtain ⟨z0, w0⟩ : ∃ zs, ag.IsRow .u8 W a0 len0 cap0 zs := by
    obtain ⟨fuel, hf⟩ := h0
    rcases open_ints Tryd.underlying28 Tryd.underlying5 (by kernel_rfl) hf with ⟨hcs, _⟩ | ⟨x, l, c, zs, hcs, _, hl, hm, hz, _, hcell, hwz⟩
    · simp [Value.cells] at hcs
      obtain ⟨rfl, rfl, rfl⟩ := hcs
      exact ⟨[], .inl ⟨rfl, rfl, rfl, rfl⟩⟩
    · simp [Value.cells] at hcs
      obtain ⟨rfl, rfl, rfl⟩ := hcs
      exact ⟨zs, .inr ⟨_, rfl, hl, hm, by simpa using hz, hcell, hwz⟩⟩
  obtain ⟨a1, len1, cap1, rfl⟩ := okWide_slice Tryd.underlying28 (hval 1 28 v1 rfl rfl)
  have k1 := h1
  have lt1 : ∀ x ∈ p1, x.block < W.heap.size := by obtain ⟨m, hm⟩ := k1; exact DataW.trod_lt m _ _ _ hm
  obtain ⟨z1, w1⟩ : ∃ zs, ag.IsRow .u8 W a1 len1 cap1 zs := by
    obtain ⟨fuel, hf⟩ := h1
    rcases open_ints Tryd.underlying28 Tryd.underlying5 (by kernel_rfl) hf with ⟨hcs, _⟩ | ⟨x, l, c, zs, hcs, _, hl, hm, hz, _, hcell, hwz⟩
    · simp [Value.cells] at hcs
      obtain ⟨rfl, rfl, rfl⟩ := hcs
      exact ⟨[], .inl ⟨rfl, rfl, rfl, rfl⟩⟩
    · simp [Value.cells] at hcs
      obtain ⟨rfl, rfl, rfl⟩ := hcs
      exact ⟨zs, .inr ⟨_, rfl, hl, hm, by simpa using hz, hcell, hwz⟩⟩
  clear hA0
  simp only [List.append_nil] at hW'
  have hLL : laidMet Tryd.prog Rows.fnDateTextsRow.laid W := hL
  obtain ⟨ps, hLV, _⟩ := hLL
  obtain ⟨g, t, cs, fuel, d, pp, g2, t2, cs2, fuel2, d2, pp2, rfl, _⟩ := trodVars_two hV
  obtain ⟨m, hm⟩ := Tryd.laysM219.s1_3 W hsh
  refine (walk a0 len0 cap0 z0 a1 len1 cap1 z1 W w0 w1 m hm (tb.tp_of (List.mem_of_getElem? (i := 2) (by kernel_rfl)) hLV) (tb.tw_of (List.mem_of_getElem? (i := 4) (by kernel_rfl)) hLV) (tb.tn_of (List.mem_of_getElem? (i := 5) (by kernel_rfl)) hLV)).mono fun e W' ⟨he, bel⟩ => ?_
  subst he
  exact ⟨_, rfl, _, _, _, [], _, _, hW', trodAll_cons_mk (shut_bool Tryd.underlying4 _) trodAll_mk0, (trodAll_cons_mk (Below.trod laidOut (by kernel_rfl) (of_decide_eq_true (by kernel_rfl)) k0 bel lt0) (trodAll_cons_mk (Below.trod laidOut (by kernel_rfl) (of_decide_eq_true (by kernel_rfl)) k1 bel lt1) trodAll_mk0)), Below.trodVars laidOut bel (by kernel_rfl) hV, bel.frame _, fun h => by cases h⟩
def putF (o : Obj) : Obj := match o with
  | .cells _ t frozen => .cells (Go.Pinned.utf8FirstZ.map fun (n : Nat) => Value.int .u8 (n : Int)).toArray t frozen
  | o => o
set_option maxRecDepth 100000 in
theorem laid_met (os : Os) : laidMet Tryd.prog Rows.fnDateTextsRow.laid (({ World.doorLaid Tryd.prog 44 os with heap := (World.doorLaid Tryd.prog 44 os).heap.modify 4 putF } : World).forCall (fun _ _ => 0) ⟨#[], #[Value.slice none 0 0, Value.slice none 0 0], []⟩).memory :=
  laidMet_of_run' 8 (by kernel_rfl) (by kernel_rfl)
theorem reads (os : Os) {H : Type} (enc : TypeId × Value → H) : ∃ places, DataW.whole enc Tryd.prog (({ World.doorLaid Tryd.prog 44 os with heap := (World.doorLaid Tryd.prog 44 os).heap.modify 4 putF } : World).forCall (fun _ _ => 0) ⟨#[], #[Value.slice none 0 0, Value.slice none 0 0], []⟩).memory Tryd.f7.params.toList Rows.fnDateTextsSpec.vars false #[Value.slice none 0 0, Value.slice none 0 0].toList 8 = some ([.nil, .nil], [Rows.laid_loop_example_g00268_impl_weekdayNames, Rows.laid_loop_example_g00268_impl_monthNames], places) :=
  ⟨MemPlace.row ⟨0, 0, none⟩ 7 ++ MemPlace.row ⟨1, 0, none⟩ 13, by kernel_rfl⟩

set_option maxRecDepth 100000 in
theorem lifted (os : Os) (started : os.Started) (H : Type) (enc : TypeId × Value → H) (F : Stop.Interp) :
    ReturnsInHanded {} Tryd.checked os 7 .any ((OpenSpec.ofChange Rows.fnDateTextsSpec).preRow enc Tryd.prog Tryd.f7 Rows.fnDateTextsRow.domain false Rows.fnDateTextsRow.laid) (((OpenSpec.ofChange Rows.fnDateTextsSpec).at F).post enc Tryd.prog Tryd.f7 false true false false) := by
  obtain ⟨places, hx⟩ := reads os enc
  refine returnsInHanded_of_row (C := Tryd.checked) (s := OpenSpec.ofChange Rows.fnDateTextsSpec) own started (by kernel_rfl) Tryd.func7
    (witness_row_atRef (enc := enc) (C := Tryd.checked) false ({ World.doorLaid Tryd.prog 44 os with heap := (World.doorLaid Tryd.prog 44 os).heap.modify 4 putF } : World) #[Value.slice none 0 0, Value.slice none 0 0] rfl (by kernel_rfl) (by kernel_rfl) (by kernel_rfl)
      (OpenSpec.preRow_of_cond 8 hx (by kernel_rfl) (fun k hk => by cases hk) (by kernel_rfl) (laid_met os))) ?_
  intro W base args ds gs before hval hW _ _ _ hL hsh _
  exact contract H enc W base args ds gs before hval hW hL hsh

theorem said : Rows.FnDateTextsSaid :=
  OpenClaim.holds_of_cond 7 Tryd.f7 rfl rfl rfl rfl rfl rfl rfl ⟨rfl, rfl, rfl, rfl, rfl⟩ rfl rfl rfl rfl rfl (by kernel_rfl) Tryd.func7 (by kernel_rfl)
    (of_decide_eq_true (by kernel_rfl)) (by unfold Func.isWrapper; first | (rw [if_pos (by decide +kernel)]; kernel_rfl) | (rw [if_neg (by decide +kernel)]; exact ⟨rfl, rfl⟩))
    (fun os started H enc _ F => by rw [OpenClaim.pre_eq_preRow]; exact lifted os started H enc F)

theorem plain (f : FuncId) (fn : Func) (hf : Tryd.pinned.checked.prog.funcNamed Rows.fnDateTextsRow.func = some f) (hfn : Tryd.pinned.checked.prog.funcs[f]? = some fn) :
    false = Tryd.pinned.checked.prog.looks [] ∧ ∀ (j : Nat) t, fn.params[j]? = some t → Tryd.pinned.checked.prog.wantsStandIn t = false := by
  obtain rfl : f = 7 := Option.some.inj ((show Tryd.prog.funcNamed Rows.fnDateTextsRow.func = some 7 by kernel_rfl).symm.trans hf) |>.symm
  obtain rfl : fn = Tryd.f7 := (Option.some.inj (Tryd.func7.symm.trans hfn)).symm
  refine ⟨by kernel_rfl, fun j t ht => ?_⟩
  rw [Tryd.params7] at ht
  obtain rfl : t = 28 := by simpa using Array.mem_of_getElem? ht
  exact (show Tryd.prog.wantsStandIn 28 = false by kernel_rfl)

theorem card : Rows.FnDateTextsCardSaid :=
  Claim7.holds_tied_plain_at .later [] _ _ _ _ said (fun _ h => by cases h) (by kernel_rfl) (fun _ h => by cases h) fnDateTexts_row_tie rfl ⟨rfl, rfl⟩ (by kernel_rfl) rfl plain (by kernel_rfl)
end Go.Proofs.YtbfppgoehgdnlaaDoor.fnDateTexts
namespace Go.Proofs.YtbfppgoehgdnlaaDoor
theorem fnDateTexts_card : Rows.FnDateTextsCardSaid := fnDateTexts.card
#print axioms fnDateTexts_card
end Go.Proofs.YtbfppgoehgdnlaaDoor
