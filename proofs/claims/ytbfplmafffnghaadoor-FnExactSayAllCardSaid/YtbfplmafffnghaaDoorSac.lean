/-
  At every list of texts and every kind of which the law's guard lets through, the program's SayAll answers as the specification's, writes into no argument, keeps nothing of one, and its answer owns its memory.
-/
import Derived.Test.YtbfplmafffnghaaDoorCards
import Derived.Test.YtbfplmafffnghaaDoorTie
import Derived.Test.YtbfplmafffnghaaDoorSau
import Derived.WalkKit
import Derived.ProofKit
import Derived.OpenShut
import Derived.ShutString
import Derived.OpenVars
import Derived.ChangeOld
import Derived.Below
import Derived.Deep.DeepHandedRow
import Derived.Deep.DeepWitnessRowRef
import Derived.LaidMore
import Derived.Lib.LaidTab
import Derived.Stop.LaidTwo
namespace Go.Proofs.YtbfplmafffnghaaDoor.fnExactSayAll
open Go.ChangeShapes Go.WideShapes Go.ChangeAt Go.RowKit
open Go.ChangeMaps (open_string shut_string)
set_option linter.unusedVariables false

theorem own : ownKnob Tryd.prog.godebug = none := by kernel_rfl
theorem laidOut : laidOutB Tryd.prog = true := by kernel_rfl

set_option maxHeartbeats 4000000 in
set_option maxRecDepth 100000 in
theorem walk (u0 : Value) (ks0 : List ByteArray) (a1 : Int) (w1 : (Lit.int .i64 a1).wf = true) (w : World) (wa0 : tx.TextsIn w w.heap.size u0 ks0) (wb0 : ks0.length ≤ maxLen) (wc0 : ∀ j, j < ks0.length → (ks0.getD j ky.nt).size ≤ maxLen) (m : Int) (hm : w.cell? ⟨0, 0, none⟩ = some (.int .i64 m)) (hP : tb.TP w) (hE : nu.Sents w) :
    Calls Tryd.prog 3 #[u0, .int .i64 a1] w fun e w' => e = .returned (.bool true) ∧ Below w.heap.size w w' := by
  have HZ : Hid (Calls Tryd.prog 4 #[u0, .int .i64 1048576] w fun e w' => (∃ z : Int, e = .returned (.int .i64 z) ∧ z ≤ 1048576 ∧ -1 ≤ z ∧ (0 ≤ z → tx.Smalls ks0)) ∧ w' = w) := tx.szTexts_any w.heap.size u0 ks0 1048576 w wa0 (by omega) (by omega) wb0 wc0
  have HT : Hid (∀ W, Below w.heap.size w W → tx.Smalls ks0 → Calls Tryd.prog 6 #[u0] W fun e w' => e = .returned (.slice (some ⟨W.heap.size, 0, none⟩) ks0.length ks0.length) ∧ tx.TextsIn w' w'.heap.size (.slice (some ⟨W.heap.size, 0, none⟩) ks0.length ks0.length) ks0 ∧ Below W.heap.size W w' ∧ ∃ xs, w'.ownsRow W.heap.size 9 1 (.slice (some ⟨W.heap.size, 0, none⟩) ks0.length ks0.length) ks0.length xs) := fun W hW hs => tx.toTexts_own w.heap.size u0 ks0 W (tx.texts_below wa0 hW (Nat.le_refl _)) hW.size hs.1
  have HM : Hid (w.cell? ⟨0, 0, none⟩ = some (.int .i64 m)) := hm
  have HP : Hid (tb.TP w) := hP
  have HE : Hid (cn.Sents w) := hE
  clear hm hP hE wa0 wb0 wc0
  have HI : Hid (∀ W u, Below w.heap.size w W → tx.Smalls ks0 → ky.TextsAt W u ks0 → Calls Tryd.prog 7 #[u, .int .i64 a1] W fun e w' => sw.SayRet ks0 a1 W.heap.size e w' ∧ Below W.heap.size W w') := fun W u hW hs hu => sw.say_impl u ks0 a1 W hu hs.1 hs.2 m ((hW.cell (p := ⟨0, 0, none⟩) (World.block_lt_of_cell? w _ HM.out)).trans HM.out) (cn.sents_keep HE.out hW) (tb.keep' HP.out hW)
  have HSP : Hid (∀ W u, tx.Smalls ks0 → ky.TextsAt W u ks0 → Calls Tryd.prog 5 #[u, .int .i64 a1] W fun e w' => sw.SayRet ks0 a1 W.heap.size e w' ∧ Below W.heap.size W w') := fun W u hs hu => sw.say_spec u ks0 a1 W hu hs.1 hs.2
  clear HM HP HE
  go_enter Tryd.func3, Tryd.ntmps3
  go_wp2_with fail
  refine HZ.out.mono ?_
  rintro e w0 ⟨⟨z, rfl, hz1, hz2, hz3⟩, hw0⟩
  obtain rfl : w = w0 := hw0.symm
  clear HZ
  by_cases hneg : z < 0
  · go_wp2
    go_ret
    exact ⟨rfl, Below.refl _ _⟩
  have HSM : Hid (tx.Smalls ks0) := hz3 (by omega)
  have hlen := HSM.out.1
  clear hz3 hz2 hz1
  go_wp2_with fail
  refine (HT.out w (Below.refl _ _) HSM.out).mono ?_
  rintro e w1 ⟨rfl, t1, b1, _⟩
  have HT1 : Hid (ky.TextsAt w1 (.slice (some ⟨w.heap.size, 0, none⟩) ks0.length ks0.length) ks0) := tx.texts_at t1
  clear t1
  go_wp2_with fail
  refine (HSP.out w1 _ HSM.out HT1.out).mono ?_
  rintro e w2 ⟨⟨v2, out, c, rfl, hs2, o2⟩, hb2⟩
  have hol := sw.out_len hs2
  have HS2 : Hid (sw.SayIs ks0 a1 out c) := hs2
  have HV2 : Hid (tx.TextsIn w2 w2.heap.size v2 out) := sw.own_in o2
  have b2 := b1.trans (hb2.mono b1.size)
  obtain ⟨va, vc, rfl⟩ := sw.own_slice o2
  clear HT1 HSP hs2 o2 hb2 b1
  go_wp2_with fail
  refine (HT.out w2 b2 HSM.out).mono ?_
  rintro e w3 ⟨rfl, t3, hb3, xs3, o3⟩
  have hx : w2.heap.size < w3.heap.size := sw.own_some o3
  have HT3 : Hid (tx.TextsIn w3 w3.heap.size (.slice (some ⟨w2.heap.size, 0, none⟩) ks0.length ks0.length) ks0) := t3
  have HV3 : Hid (tx.TextsIn w3 w2.heap.size (.slice va out.length vc) out) := tx.texts_below HV2.out hb3 (Nat.le_refl _)
  have HX3 : Hid (∃ xs, w3.ownsRow w2.heap.size 9 1 (.slice (some ⟨w2.heap.size, 0, none⟩) ks0.length ks0.length) ks0.length xs) := ⟨xs3, o3⟩
  have hN : w.heap.size ≤ w2.heap.size := b2.size
  have b3 := b2.trans (hb3.mono b2.size)
  clear t3 o3 HV2 hb3 b2
  go_wp2_with fail
  refine (HI.out w3 _ b3 HSM.out (tx.texts_at HT3.out)).mono ?_
  rintro e w4 ⟨⟨v4, out4, c4, rfl, hs4, o4⟩, hb4⟩
  obtain ⟨rfl, rfl⟩ := sw.sayIs_one HS2.out hs4
  obtain ⟨ga, gc, rfl⟩ := sw.own_slice o4
  have HST4 : Hid (sw.St w4 w2.heap.size w3.heap.size (.slice va out.length vc) (.slice ga out.length gc) out out) := ⟨tx.texts_below HV3.out hb4 (Nat.le_of_lt hx), o4, hx, hb4.size⟩
  have HT4 : Hid (tx.TextsIn w4 w3.heap.size (.slice (some ⟨w2.heap.size, 0, none⟩) ks0.length ks0.length) ks0) := tx.texts_below HT3.out hb4 (Nat.le_refl _)
  have HX4 : Hid (∃ xs, w4.ownsRow w2.heap.size 9 1 (.slice (some ⟨w2.heap.size, 0, none⟩) ks0.length ks0.length) ks0.length xs) := HX3.out.imp fun _ h => ow.own_below h hb4
  have b4 := b3.trans (hb4.mono b3.size)
  have cd : ((c : Int) != c) = false := by simp
  clear hs4 o4 HT3 HV3 HX3 hb4 b3
  go_wp2_with fail
  refine (ky.eqTexts_any _ _ out w4 (ky.own_texts HST4.out.go) (tx.texts_at HST4.out.vt) (by omega)).mono ?_
  rintro e w5 ⟨rfl, hb5⟩
  have HST5 : Hid (sw.St w5 w2.heap.size w3.heap.size (.slice va out.length vc) (.slice ga out.length gc) out out) := HST4.out.below hb5
  have hG4 := HST4.out.hG
  have HT5 : Hid (tx.TextsIn w5 w3.heap.size (.slice (some ⟨w2.heap.size, 0, none⟩) ks0.length ks0.length) ks0) := tx.texts_below HT4.out hb5 hG4
  have HX5 : Hid (∃ xs, w5.ownsRow w2.heap.size 9 1 (.slice (some ⟨w2.heap.size, 0, none⟩) ks0.length ks0.length) ks0.length xs) := HX4.out.imp fun _ h => ow.own_below h hb5
  have b5 := b4.trans (hb5.mono b4.size)
  clear HST4 HT4 HX4 hb5 b4 hG4
  go_wp2_with fail
  refine (HT.out w5 b5 HSM.out).mono ?_
  rintro e w6 ⟨rfl, t6, hb6, _⟩
  have HU6 : Hid (ky.TextsAt w6 (.slice (some ⟨w5.heap.size, 0, none⟩) ks0.length ks0.length) ks0) := tx.texts_at t6
  have hG5 := HST5.out.hG
  have HST6 : Hid (sw.St w6 w2.heap.size w3.heap.size (.slice va out.length vc) (.slice ga out.length gc) out out) := HST5.out.below hb6
  have HT6 : Hid (tx.TextsIn w6 w3.heap.size (.slice (some ⟨w2.heap.size, 0, none⟩) ks0.length ks0.length) ks0) := tx.texts_below HT5.out hb6 hG5
  have HX6 : Hid (∃ xs, w6.ownsRow w2.heap.size 9 1 (.slice (some ⟨w2.heap.size, 0, none⟩) ks0.length ks0.length) ks0.length xs) := HX5.out.imp fun _ h => ow.own_below h hb6
  have b6 := b5.trans (hb6.mono b5.size)
  clear t6 HST5 HT5 HX5 hb6 b5 hG5
  go_wp2_with fail
  refine (ky.eqTexts_any _ _ ks0 w6 (tx.texts_at HT6.out) HU6.out hlen).mono ?_
  rintro e w7 ⟨rfl, hb7⟩
  have HST7 : Hid (sw.St w7 w2.heap.size w3.heap.size (.slice va out.length vc) (.slice ga out.length gc) out out) := HST6.out.below hb7
  have HX7 : Hid (∃ xs, w7.ownsRow w2.heap.size 9 1 (.slice (some ⟨w2.heap.size, 0, none⟩) ks0.length ks0.length) ks0.length xs) := HX6.out.imp fun _ h => ow.own_below h hb7
  have b7 := b6.trans (hb7.mono b6.size)
  clear HU6 HST6 HT6 HX6 hb7 b6
  go_wp2_with fail
  obtain ⟨xs7, o7⟩ := HX7.out
  refine (mx.markT_some w2.heap.size ks0.length w2.heap.size ks0.length xs7 1 w7 o7 hlen (by omega) (by omega)).mono ?_
  rintro e w8 ⟨rfl, _, hg8⟩
  have HST8 : Hid (sw.St w8 w2.heap.size w3.heap.size (.slice va out.length vc) (.slice ga out.length gc) out out) := HST7.out.mark hg8
  have b8 : Below w.heap.size w w8 := Below.grown b7 hg8 b7.size (fun k hk => by have := Option.some.inj hk; omega)
  have ck : ¬ (1 + (ks0.length : Int)) < 0 := by omega
  clear o7 HX7 HST7 hg8 b7
  go_wp2_with fail
  refine (ky.eqTexts_any _ _ out w8 (ky.own_texts HST8.out.go) (tx.texts_at HST8.out.vt) (by omega)).mono ?_
  rintro e w9 ⟨rfl, hb9⟩
  have HST9 : Hid (sw.St w9 w2.heap.size w3.heap.size (.slice va out.length vc) (.slice ga out.length gc) out out) := HST8.out.below hb9
  have b9 := b8.trans (hb9.mono b8.size)
  clear HST8 hb9 b8
  go_wp2_with fail
  refine (mk.markTexts_any _ w3.heap.size out 1 w9 HST9.out.go (by omega) (by omega) (by omega)).mono ?_
  rintro e w10 ⟨rfl, o10, hg10⟩
  have b10 : Below w.heap.size w w10 := Below.grown b9 hg10 b9.size (fun k hk => by have := ow.own_lt HST9.out.go k hk; omega)
  have HST10 : Hid (sw.St w10 w2.heap.size w3.heap.size (.slice va out.length vc) (.slice ga out.length gc) out (mk.marks 1 out.length)) := HST9.out.made hg10 o10
  clear o10 HST9 hg10 b9
  go_wp2_with fail
  refine (mk.heldTexts_any _ out.length 1 w10 (ky.own_texts HST10.out.go) (by omega) (by omega) (by omega)).mono ?_
  rintro e w11 ⟨rfl, hb11⟩
  have HST11 : Hid (sw.St w11 w2.heap.size w3.heap.size (.slice va out.length vc) (.slice ga out.length gc) out (mk.marks 1 out.length)) := HST10.out.below hb11
  have b11 := b10.trans (hb11.mono b10.size)
  have ce : ((1 + (out.length : Int)) != (1 + (out.length : Int))) = false := by simp
  have cf : ¬ (1 + (out.length : Int)) < 0 := by omega
  clear HST10 hb11 b10
  go_wp2_with fail
  refine (HT.out w11 b11 HSM.out).mono ?_
  rintro e w12 ⟨rfl, t12, hb12, _⟩
  have HU12 : Hid (ky.TextsAt w12 (.slice (some ⟨w11.heap.size, 0, none⟩) ks0.length ks0.length) ks0) := tx.texts_at t12
  have HST12 : Hid (sw.St w12 w2.heap.size w3.heap.size (.slice va out.length vc) (.slice ga out.length gc) out (mk.marks 1 out.length)) := HST11.out.below hb12
  have b12 := b11.trans (hb12.mono b11.size)
  clear t12 HST11 hb12 b11 HT
  go_wp2_with fail
  refine (HI.out w12 _ b12 HSM.out HU12.out).mono ?_
  rintro e w13 ⟨⟨v13, out13, c13, rfl, hs13, o13⟩, hb13⟩
  obtain ⟨rfl, rfl⟩ := sw.sayIs_one HS2.out hs13
  obtain ⟨ha, hc, rfl⟩ := sw.own_slice o13
  have HU13 : Hid (ky.TextsAt w13 (.slice ha out.length hc) out) := ky.own_texts o13
  have HST13 : Hid (sw.St w13 w2.heap.size w3.heap.size (.slice va out.length vc) (.slice ga out.length gc) out (mk.marks 1 out.length)) := HST12.out.below hb13
  have b13 := b12.trans (hb13.mono b12.size)
  clear hs13 o13 HU12 HST12 hb13 b12 HI HS2
  go_wp2_with fail
  refine (ky.eqTexts_any _ _ out w13 HU13.out (tx.texts_at HST13.out.vt) (by omega)).mono ?_
  rintro e w14 ⟨rfl, hb14⟩
  have HST14 : Hid (sw.St w14 w2.heap.size w3.heap.size (.slice va out.length vc) (.slice ga out.length gc) out (mk.marks 1 out.length)) := HST13.out.below hb14
  have b14 := b13.trans (hb14.mono b13.size)
  clear HU13 HST13 hb14 b13
  go_wp2_with fail
  refine (mk.heldTexts_any _ out.length 1 w14 (ky.own_texts HST14.out.go) (by omega) (by omega) (by omega)).mono ?_
  rintro e w15 ⟨rfl, hb15⟩
  have b15 := b14.trans (hb15.mono b14.size)
  clear HST14 hb15 b14
  go_wp2
  go_ret
  exact ⟨rfl, b15⟩

set_option maxRecDepth 100000 in
theorem gC : Tryd.prog.globalNamed ((Rows.fnExactSayAllRow.laid.map (·.1)).getD 4 "") = some 1 := by kernel_rfl
theorem gW : Tryd.prog.globalNamed ((Rows.fnExactSayAllRow.laid.map (·.1)).getD 3 "") = some 2 := by kernel_rfl
theorem sents_of (W : World) (hL : laidMet Tryd.prog Rows.fnExactSayAllRow.laid W) : nu.Sents W := by
  obtain ⟨ps, hLV, _⟩ := hL
  have m0 : (((Rows.fnExactSayAllRow.laid.map (·.1)).getD 4 ""), Rows.laid_strconv_ErrSyntax) ∈ Rows.fnExactSayAllRow.laid := List.mem_of_getElem? (i := 4) (by kernel_rfl)
  have m1 : (((Rows.fnExactSayAllRow.laid.map (·.1)).getD 3 ""), Rows.laid_strconv_ErrRange) ∈ Rows.fnExactSayAllRow.laid := List.mem_of_getElem? (i := 3) (by kernel_rfl)
  obtain ⟨t0, p0, h0⟩ := nu.iface_laid gC (by kernel_rfl) Tryd.underlying50 m0 hLV
  obtain ⟨t1, p1, h1⟩ := nu.iface_laid gW (by kernel_rfl) Tryd.underlying50 m1 hLV
  exact ⟨_, _, h0, h1, .inr ⟨_, _, rfl⟩, .inr ⟨_, _, rfl⟩⟩

set_option maxRecDepth 100000 in
theorem contract (H : Type) (enc : TypeId × Value → H) (W : World) (base : Nat) (args : Array Value) (ds gs : List (DataW H)) (before : List MemPlace)
    (hval : ∀ (j : Nat) t v, Tryd.f3.params[j]? = some t → args[j]? = some v → Value.okWide Tryd.prog W .any base t v)
    (hW : DataW.Whole enc Tryd.prog Tryd.f3.params.toList Rows.fnExactSayAllSpec.vars false W args.toList ds gs before) (hL : laidMetH Tryd.prog Rows.fnExactSayAllRow.laid W) (hsh : W.ShapedOpen Tryd.prog) :
    Calls Tryd.prog 3 args W fun e W' => ∃ v, e = .returned v ∧ Rows.fnExactSayAllSpec.post enc Tryd.prog Tryd.f3 false true false false W args v W' := by
  have hW' := hW
  obtain ⟨p, q, hA0, hV, rfl, hfz, hnd⟩ := hW
  have hA : DataW.TrodAll enc Tryd.prog W 0 (fun _ => true) true Tryd.f3.params.toList args.toList ds p := hA0
  rw [Tryd.params3] at hA hval
  obtain ⟨v0, vs0, d0, ds0, p0, q0, hargs0, rfl, rfl, h0, tl0⟩ := trodAll_cons hA
  obtain ⟨v1, vs1, d1, ds1, p1, q1, hargs1, rfl, rfl, h1, tl1⟩ := trodAll_cons tl0
  obtain ⟨hnil, rfl, rfl⟩ := trodAll_nil tl1
  obtain rfl : args = #[v0, v1] := by cases args; simp_all
  have k0 := h0
  have lt0 : ∀ x ∈ p0, x.block < W.heap.size := by obtain ⟨m, hm⟩ := k0; exact DataW.trod_lt m _ _ _ hm
  obtain ⟨a0, len0, cap0, rfl⟩ := okWide_slice Tryd.underlying22 (hval 0 22 v0 rfl rfl)
  obtain ⟨fu0, hf0⟩ := h0
  have hcs0 : (Value.slice a0 len0 cap0).cells.toList = [Value.slice a0 len0 cap0] := by simp [Value.cells]
  rw [hcs0] at hf0
  obtain ⟨ks0, wa0, wb0, wc0⟩ := tx.open_texts hf0
  obtain ⟨a1, rfl, rfl, rfl, w1⟩ := open_int Tryd.underlying3 (hval 1 3 v1 rfl rfl) h1
  clear hA0
  simp only [List.append_nil] at hW'
  have hLL : laidMet Tryd.prog Rows.fnExactSayAllRow.laid W := hL
  have hE := sents_of W hLL
  obtain ⟨ps, hLV, _⟩ := hLL
  obtain ⟨rfl, rfl⟩ := trodVars_none hV
  obtain ⟨m, hm⟩ := Tryd.laysM219.s1_3 W hsh
  refine (walk _ ks0 a1 w1 W wa0 wb0 wc0 m hm (tb.tp_of (List.mem_of_getElem? (i := 2) (by kernel_rfl)) hLV) hE).mono fun e W' ⟨he, bel⟩ => ?_
  subst he
  exact ⟨_, rfl, _, _, _, [], _, [], hW', trodAll_cons_mk (shut_bool Tryd.underlying4 _) trodAll_mk0, (trodAll_cons_mk (Below.trod laidOut (by kernel_rfl) (of_decide_eq_true (by kernel_rfl)) k0 bel lt0) (trodAll_cons_mk (shut_int Tryd.underlying3 w1) trodAll_mk0)), rfl, bel.frame _, fun h => by cases h⟩
set_option maxRecDepth 100000 in
theorem laid_met (os : Os) : laidMet Tryd.prog Rows.fnExactSayAllRow.laid ((World.doorLaid Tryd.prog 62 os).forCall (fun _ _ => 0) ⟨#[], #[Value.slice none 0 0, Value.int .i64 0], []⟩).memory :=
  laidMet_of_run' 8 (by kernel_rfl) (by kernel_rfl)
theorem reads (os : Os) {H : Type} (enc : TypeId × Value → H) : (DataW.whole enc Tryd.prog ((World.doorLaid Tryd.prog 62 os).forCall (fun _ _ => 0) ⟨#[], #[Value.slice none 0 0, Value.int .i64 0], []⟩).memory Tryd.f3.params.toList Rows.fnExactSayAllSpec.vars false #[Value.slice none 0 0, Value.int .i64 0].toList 8).isSome = true := by kernel_rfl

set_option maxRecDepth 100000 in
theorem lifted (os : Os) (started : os.Started) (H : Type) (enc : TypeId × Value → H) (F : Stop.Interp) :
    ReturnsInHanded {} Tryd.checked os 3 .any ((OpenSpec.ofChange Rows.fnExactSayAllSpec).preRow enc Tryd.prog Tryd.f3 Rows.fnExactSayAllRow.domain false Rows.fnExactSayAllRow.laid) (((OpenSpec.ofChange Rows.fnExactSayAllSpec).at F).post enc Tryd.prog Tryd.f3 false true false false) := by
  obtain ⟨x, hx⟩ := Option.isSome_iff_exists.1 (reads os enc)
  refine returnsInHanded_of_row (C := Tryd.checked) (s := OpenSpec.ofChange Rows.fnExactSayAllSpec) own started (by kernel_rfl) Tryd.func3
    (witness_row_atRef (enc := enc) (C := Tryd.checked) false (World.doorLaid Tryd.prog 62 os) #[Value.slice none 0 0, Value.int .i64 0] rfl (by kernel_rfl) (by kernel_rfl) (by kernel_rfl)
      (OpenSpec.preRow_of_cond 8 hx (by kernel_rfl) (fun k hk => by cases hk) (by kernel_rfl) (laid_met os))) ?_
  intro W base args ds gs before hval hW _ _ _ hL hsh _
  exact contract H enc W base args ds gs before hval hW hL hsh

theorem said : Rows.FnExactSayAllSaid :=
  OpenClaim.holds_of_cond 3 Tryd.f3 rfl rfl rfl rfl rfl rfl rfl ⟨rfl, rfl, rfl, rfl, rfl⟩ rfl rfl rfl rfl rfl (by kernel_rfl) Tryd.func3 (by kernel_rfl)
    (of_decide_eq_true (by kernel_rfl)) (by unfold Func.isWrapper; first | (rw [if_pos (by decide +kernel)]; kernel_rfl) | (rw [if_neg (by decide +kernel)]; exact ⟨rfl, rfl⟩))
    (fun os started H enc _ F => by rw [OpenClaim.pre_eq_preRow]; exact lifted os started H enc F)

theorem plain (f : FuncId) (fn : Func) (hf : Tryd.pinned.checked.prog.funcNamed Rows.fnExactSayAllRow.func = some f) (hfn : Tryd.pinned.checked.prog.funcs[f]? = some fn) :
    true = Tryd.pinned.checked.prog.looks [] ∧ ∀ (j : Nat) t, fn.params[j]? = some t → Tryd.pinned.checked.prog.wantsStandIn t = false := by
  obtain rfl : f = 3 := Option.some.inj ((show Tryd.prog.funcNamed Rows.fnExactSayAllRow.func = some 3 by kernel_rfl).symm.trans hf) |>.symm
  obtain rfl : fn = Tryd.f3 := (Option.some.inj (Tryd.func3.symm.trans hfn)).symm
  refine ⟨by kernel_rfl, fun j t ht => ?_⟩
  rw [Tryd.params3] at ht
  have hm : t = 22 ∨ t = 3 := by simpa using Array.mem_of_getElem? ht
  rcases hm with rfl | rfl
  · exact (show Tryd.prog.wantsStandIn 22 = false by kernel_rfl)
  · exact (show Tryd.prog.wantsStandIn 3 = false by kernel_rfl)

theorem card : Rows.FnExactSayAllCardSaid :=
  Claim7.holds_tied_plain_at .later [] _ _ _ _ said (fun _ h => by cases h) (by kernel_rfl) (fun _ h => by cases h) fnExactSayAll_row_tie rfl ⟨rfl, rfl⟩ (by kernel_rfl) rfl plain (by kernel_rfl)
end Go.Proofs.YtbfplmafffnghaaDoor.fnExactSayAll
namespace Go.Proofs.YtbfplmafffnghaaDoor
theorem fnExactSayAll_card : Rows.FnExactSayAllCardSaid := fnExactSayAll.card
#print axioms fnExactSayAll_card
end Go.Proofs.YtbfplmafffnghaaDoor
