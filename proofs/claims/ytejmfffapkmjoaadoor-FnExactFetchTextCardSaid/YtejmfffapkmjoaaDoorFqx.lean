/-
  For every stored mail, number, list of words and choice the law FnExactFetchText answers true, where the tables of flags and of digits are as the door lays them.
-/
import Derived.Test.YtejmfffapkmjoaaDoorCards
import Derived.Test.YtejmfffapkmjoaaDoorTie
import Derived.Test.YtejmfffapkmjoaaDoorFqi
import Derived.Test.YtejmfffapkmjoaaDoorOvl
import Derived.WalkKit
import Derived.ProofKit
import Derived.OpenShut
import Derived.ShutString
import Derived.OpenVars
import Derived.ChangeOld
import Derived.Below
import Derived.Deep.DeepHandedRow
import Derived.Deep.DeepWitnessRowRef
import Derived.LaidMore
import Derived.Lib.LaidTab
namespace Go.Proofs.YtejmfffapkmjoaaDoor.fnExactFetchText
open Go.ChangeShapes Go.WideShapes Go.ChangeAt Go.RowKit
open Go.ChangeMaps (open_string shut_string)
set_option linter.unusedVariables false

theorem own : ownKnob Tryd.prog.godebug = none := by kernel_rfl
theorem laidOut : laidOutB Tryd.prog = true := by kernel_rfl

set_option maxHeartbeats 4000000 in
set_option maxRecDepth 100000 in
theorem walk (u0 f0 : Int) (t0 : ByteArray) (hu0 : sm1.In u0) (hf0 : sm1.In f0) (ht0 : t0.size ≤ maxLen) (a1 : Int) (w1 : (Lit.int .i64 a1).wf = true) (u2 : Value) (ks2 : List ByteArray) (a3 : Bool) (w : World) (wa2 : tx.TextsIn w w.heap.size u2 ks2) (wb2 : ks2.length ≤ maxLen) (wc2 : ∀ j, j < ks2.length → (ks2.getD j ky.nt).size ≤ maxLen) (m : Int) (hm : w.cell? ⟨1, 0, none⟩ = some (.int .i64 m)) (hP : tb.TP w) (hF : tb.TF w) :
    Calls Tryd.prog 3 #[sm1.SV u0 f0 t0, .int .i64 a1, u2, .bool a3] w fun e w' => e = .returned (.bool true) ∧ Below w.heap.size w w' := by
  have HZ : Hid (∀ (left : Int) (W : World), Below w.heap.size w W → 0 ≤ left → left ≤ 1048576 → Calls Tryd.prog 5 #[u2, .int .i64 left] W fun e w' => (∃ z : Int, e = .returned (.int .i64 z) ∧ z ≤ left ∧ -1 ≤ z ∧ (0 ≤ z → tx.Smalls ks2)) ∧ w' = W) := fun left W hW h0 h1 => tx.szTexts_any w.heap.size u2 ks2 left W (tx.texts_below wa2 hW (Nat.le_refl _)) h0 h1 wb2 wc2
  have HT : Hid (∀ W, Below w.heap.size w W → tx.Smalls ks2 → Calls Tryd.prog 8 #[u2] W fun e w' => e = .returned (.slice (some ⟨W.heap.size, 0, none⟩) ks2.length ks2.length) ∧ tx.TextsIn w' w'.heap.size (.slice (some ⟨W.heap.size, 0, none⟩) ks2.length ks2.length) ks2 ∧ Below W.heap.size W w') := fun W hW hs => tx.toTexts_any w.heap.size u2 ks2 W (tx.texts_below wa2 hW (Nat.le_refl _)) hW.size hs.1
  obtain ⟨x, hof⟩ := fq.fm_ex u0 f0 t0
  have HIH : Hid (∀ W u, tx.Smalls ks2 → t0.size ≤ 1048576 → ky.TextsAt W u ks2 → ∀ mx, W.cell? ⟨1, 0, none⟩ = some (.int .i64 mx) → tb.TP W → tb.TF W → Calls Tryd.prog 9 #[.agg #[.int .i64 u0, .int .i64 f0, .string t0], .int .i64 a1, u, .bool a3] W fun e w' => fq.FtRet x u0 f0 t0 a1 ks2 a3 e ∧ Below W.heap.size W w') := fun W u h1 h2 h3 mx h4 h5 h6 => fq.fetch_impl x u0 f0 t0 a1 ks2 a3 hof W u h1 h3 mx h4 h5 h6
  have HSH : Hid (∀ W u, tx.Smalls ks2 → t0.size ≤ 1048576 → ky.TextsAt W u ks2 → Calls Tryd.prog 6 #[.agg #[.int .i64 u0, .int .i64 f0, .string t0], .int .i64 a1, u, .bool a3] W fun e w' => fq.FtRet x u0 f0 t0 a1 ks2 a3 e ∧ Below W.heap.size W w') := fun W u h1 h2 h3 => fq.fetch_spec x u0 f0 t0 a1 ks2 a3 hof W u h1 h3
  have c0 := sm1.cell3 w #[.int .i64 u0, .int .i64 f0, .string t0] 23 0 _ rfl
  have c1 := sm1.cell3 w #[.int .i64 u0, .int .i64 f0, .string t0] 23 1 _ rfl
  have c2 := sm1.cell3 w #[.int .i64 u0, .int .i64 f0, .string t0] 23 2 _ rfl
  have b0 : Below w.heap.size w (w.alloc (.cells #[.int .i64 u0, .int .i64 f0, .string t0] 23)) := (Below.refl _ _).alloc (Nat.le_refl _) _
  have hgl := World.block_lt_of_cell? _ _ hm
  have HM : Hid (∀ W, Below w.heap.size w W → W.cell? ⟨1, 0, none⟩ = some (.int .i64 m) ∧ tb.TP W ∧ tb.TF W) := fun W hW => ⟨(hW.cell (p := ⟨1, 0, none⟩) hgl).trans hm, tb.keep' hP hW, tb.keepS hF hW⟩
  clear hm hgl hP hF hu0 hf0 wa2 wb2 wc2 hof w1
  unfold sm1.SV
  go_enter Tryd.func3, Tryd.ntmps3
  go_wp2_with fail
  generalize w.alloc _ = w0 at c0 c1 c2 b0 ⊢
  have HC : Hid (∀ W, Below w0.heap.size w0 W → W.cell? ⟨w.heap.size, 0, none⟩ = some (.int .i64 u0) ∧ W.cell? ⟨w.heap.size, 1, none⟩ = some (.int .i64 f0) ∧ W.cell? ⟨w.heap.size, 2, none⟩ = some (.string t0)) := fun W hW => ⟨fq.kq hW c0, fq.kq hW c1, fq.kq hW c2⟩
  have HB0 : Hid (Below w.heap.size w w0) := b0
  clear c0 c1 c2 b0
  refine (sm1.szStored_any u0 f0 t0 w0 ht0).mono ?_
  rintro e w1 ⟨⟨z, rfl, hz0, hz1, hz2⟩, b1⟩
  have HB1 : Hid (Below w.heap.size w w1) := HB0.out.trans (b1.mono HB0.out.size)
  by_cases hz : z < 0
  · go_wp2
    go_ret
    exact ⟨rfl, HB1.out⟩
  have hts := hz2 (by omega)
  have HTS : Hid (t0.size ≤ 1048576) := hts
  clear hz2 hts
  go_wp2_with fail
  refine (HZ.out z w1 HB1.out (by omega) (by omega)).mono ?_
  rintro e w2 ⟨⟨y, rfl, hy1, hy2, hy3⟩, hw2⟩
  have hw2 := hw2.symm
  subst hw2
  by_cases hyn : y < 0
  · go_wp2
    go_ret
    exact ⟨rfl, HB1.out⟩
  have HSM : Hid (tx.Smalls ks2) := hy3 (by omega)
  have c0 := (HC.out w1 b1).1
  have c1 := (HC.out w1 b1).2.1
  have c2 := (HC.out w1 b1).2.2
  clear hy1 hy2 hy3 hz0 hz1 HZ ht0
  go_wp2_with fail
  refine (sm1.toStored_any u0 f0 t0 w1).mono ?_
  rintro e w2 ⟨rfl, hb2⟩
  have b2 := b1.trans (hb2.mono b1.size)
  have HB2 : Hid (Below w.heap.size w w2) := HB0.out.trans (b2.mono HB0.out.size)
  clear c0 c1 c2 hb2 b1
  go_wp2_with fail
  refine (HT.out w2 HB2.out HSM.out).mono ?_
  rintro e w3 ⟨rfl, t3, hb3⟩
  have b3 := b2.trans (hb3.mono b2.size)
  have HB3 : Hid (Below w.heap.size w w3) := HB0.out.trans (b3.mono HB0.out.size)
  have HT3 : Hid (ky.TextsAt w3 (.slice (some ⟨w2.heap.size, 0, none⟩) ks2.length ks2.length) ks2) := tx.texts_at t3
  clear t3 hb3 b2
  go_wp2_with fail
  refine (HSH.out w3 _ HSM.out HTS.out HT3.out).mono ?_
  rintro e w4 ⟨h4, hb4⟩
  obtain ⟨A, s, c, rfl⟩ := fq.ft_ex h4
  have H4 : Hid (fq.FtRet x u0 f0 t0 a1 ks2 a3 (.returned (.tuple #[.string A, .bool s, .int .i64 c]))) := h4
  have b4 := b3.trans (hb4.mono b3.size)
  have HB4 : Hid (Below w.heap.size w w4) := HB0.out.trans (b4.mono HB0.out.size)
  clear h4 hb4 b3 HT3 HSH
  go_wp2_with fail
  refine (HT.out w4 HB4.out HSM.out).mono ?_
  rintro e w5 ⟨rfl, t5, hb5⟩
  have b5 := b4.trans (hb5.mono b4.size)
  have HB5 : Hid (Below w.heap.size w w5) := HB0.out.trans (b5.mono HB0.out.size)
  have HT5 : Hid (tx.TextsIn w5 w5.heap.size (.slice (some ⟨w4.heap.size, 0, none⟩) ks2.length ks2.length) ks2) := t5
  have c0 := (HC.out w5 b5).1
  have c1 := (HC.out w5 b5).2.1
  have c2 := (HC.out w5 b5).2.2
  clear t5 hb5 b4
  go_wp2_with fail
  refine (sm1.toStored_any u0 f0 t0 w5).mono ?_
  rintro e w6 ⟨rfl, hb6⟩
  have HB6 : Hid (Below w.heap.size w w6) := HB5.out.trans (hb6.mono HB5.out.size)
  have HT6 : Hid (tx.TextsIn w6 w6.heap.size (.slice (some ⟨w4.heap.size, 0, none⟩) ks2.length ks2.length) ks2) := tx.texts_more (tx.texts_below HT5.out hb6 (Nat.le_refl _)) hb6.size
  clear c0 c1 c2 hb6 b5 HT5
  go_wp2_with fail
  refine (HIH.out w6 _ HSM.out HTS.out (tx.texts_at HT6.out) m (HM.out _ HB6.out).1 (HM.out _ HB6.out).2.1 (HM.out _ HB6.out).2.2).mono ?_
  rintro e w7 ⟨h7, hb7⟩
  obtain ⟨A', s', c', rfl⟩ := fq.ft_ex h7
  obtain ⟨rfl, rfl, rfl⟩ := fq.ft_same H4.out h7
  have HB7 : Hid (Below w.heap.size w w7) := HB6.out.trans (hb7.mono HB6.out.size)
  have HT7 : Hid (tx.TextsIn w7 w7.heap.size (.slice (some ⟨w4.heap.size, 0, none⟩) ks2.length ks2.length) ks2) := tx.texts_more (tx.texts_below HT6.out hb7 (Nat.le_refl _)) hb7.size
  have hss : (s != s) = false := by simp
  clear h7 hb7 H4 HT6 HIH HM
  go_wp2_with fail
  refine (HT.out w7 HB7.out HSM.out).mono ?_
  rintro e w8 ⟨rfl, t8, hb8⟩
  have HB8 : Hid (Below w.heap.size w w8) := HB7.out.trans (hb8.mono HB7.out.size)
  have HT8 : Hid (ky.TextsAt w8 (.slice (some ⟨w4.heap.size, 0, none⟩) ks2.length ks2.length) ks2) := tx.texts_at (tx.texts_below HT7.out hb8 (Nat.le_refl _))
  have HU8 : Hid (ky.TextsAt w8 (.slice (some ⟨w7.heap.size, 0, none⟩) ks2.length ks2.length) ks2) := tx.texts_at t8
  have hlen := HSM.out.1
  clear t8 hb8 HT7
  go_wp2_with fail
  refine (ky.eqTexts_any _ _ ks2 w8 HT8.out HU8.out hlen).mono ?_
  rintro e w9 ⟨rfl, hb9⟩
  have HB9 : Hid (Below w.heap.size w w9) := HB8.out.trans (hb9.mono HB8.out.size)
  clear HT8 HU8 hb9
  go_wp2
  go_ret
  exact ⟨rfl, HB9.out⟩

set_option maxRecDepth 100000 in
theorem contract (H : Type) (enc : TypeId × Value → H) (W : World) (base : Nat) (args : Array Value) (ds gs : List (DataW H)) (before : List MemPlace)
    (hval : ∀ (j : Nat) t v, Tryd.f3.params[j]? = some t → args[j]? = some v → Value.okWide Tryd.prog W .any base t v)
    (hW : DataW.Whole enc Tryd.prog Tryd.f3.params.toList Rows.fnExactFetchTextSpec.vars false W args.toList ds gs before) (hL : laidMetH Tryd.prog Rows.fnExactFetchTextRow.laid W) (hsh : W.ShapedOpen Tryd.prog) :
    Calls Tryd.prog 3 args W fun e W' => ∃ v, e = .returned v ∧ Rows.fnExactFetchTextSpec.post enc Tryd.prog Tryd.f3 false true false false W args v W' := by
  have hW' := hW
  obtain ⟨p, q, hA0, hV, rfl, hfz, hnd⟩ := hW
  have hA : DataW.TrodAll enc Tryd.prog W 0 (fun _ => true) true Tryd.f3.params.toList args.toList ds p := hA0
  rw [Tryd.params3] at hA hval
  obtain ⟨v0, vs0, d0, ds0, p0, q0, hargs0, rfl, rfl, h0, tl0⟩ := trodAll_cons hA
  obtain ⟨v1, vs1, d1, ds1, p1, q1, hargs1, rfl, rfl, h1, tl1⟩ := trodAll_cons tl0
  obtain ⟨v2, vs2, d2, ds2, p2, q2, hargs2, rfl, rfl, h2, tl2⟩ := trodAll_cons tl1
  obtain ⟨v3, vs3, d3, ds3, p3, q3, hargs3, rfl, rfl, h3, tl3⟩ := trodAll_cons tl2
  obtain ⟨hnil, rfl, rfl⟩ := trodAll_nil tl3
  obtain rfl : args = #[v0, v1, v2, v3] := by cases args; simp_all
  have k0 := h0
  have lt0 : ∀ x ∈ p0, x.block < W.heap.size := by obtain ⟨m, hm⟩ := k0; exact DataW.trod_lt m _ _ _ hm
  obtain ⟨u0, f0, t0, rfl, hu0, hf0, ht0⟩ := sm1.open_stored (hval 0 23 v0 rfl rfl) h0
  obtain ⟨a1, rfl, rfl, rfl, w1⟩ := open_int Tryd.underlying3 (hval 1 3 v1 rfl rfl) h1
  have k2 := h2
  have lt2 : ∀ x ∈ p2, x.block < W.heap.size := by obtain ⟨m, hm⟩ := k2; exact DataW.trod_lt m _ _ _ hm
  obtain ⟨a2, len2, cap2, rfl⟩ := okWide_slice Tryd.underlying24 (hval 2 24 v2 rfl rfl)
  obtain ⟨fu2, hf2⟩ := h2
  have hcs2 : (Value.slice a2 len2 cap2).cells.toList = [Value.slice a2 len2 cap2] := by simp [Value.cells]
  rw [hcs2] at hf2
  obtain ⟨ks2, wa2, wb2, wc2⟩ := tx.open_texts hf2
  obtain ⟨a3, rfl, rfl, rfl⟩ := open_bool Tryd.underlying4 (hval 3 4 v3 rfl rfl) h3
  clear hA0
  simp only [List.append_nil] at hW'
  have hLL : laidMet Tryd.prog Rows.fnExactFetchTextRow.laid W := hL
  obtain ⟨ps, hLV, _⟩ := hLL
  obtain ⟨g, t, cs, fuel, d, pp, rfl, _, _, _, _, _⟩ := trodVars_one hV
  obtain ⟨m, hm⟩ := Tryd.laysM219.s1_3 W hsh
  refine (walk u0 f0 t0 hu0 hf0 ht0 a1 w1 _ ks2 a3 W wa2 wb2 wc2 m hm (tb.tp_of (List.mem_of_getElem? (i := 2) (by kernel_rfl)) hLV) (tb.tf_of (List.mem_of_getElem? (i := 4) (by kernel_rfl)) hLV)).mono fun e W' ⟨he, bel⟩ => ?_
  subst he
  exact ⟨_, rfl, _, _, _, [], _, _, hW', trodAll_cons_mk (shut_bool Tryd.underlying4 _) trodAll_mk0, (trodAll_cons_mk (Below.trod laidOut (by kernel_rfl) (of_decide_eq_true (by kernel_rfl)) k0 bel lt0) (trodAll_cons_mk (shut_int Tryd.underlying3 w1) (trodAll_cons_mk (Below.trod laidOut (by kernel_rfl) (of_decide_eq_true (by kernel_rfl)) k2 bel lt2) (trodAll_cons_mk (shut_bool Tryd.underlying4 a3) trodAll_mk0)))), Below.trodVars laidOut bel (by kernel_rfl) hV, bel.frame _, fun h => by cases h⟩
def putF (o : Obj) : Obj := match o with
  | .cells _ t frozen => .cells (Go.Pinned.utf8FirstZ.map fun (n : Nat) => Value.int .u8 (n : Int)).toArray t frozen
  | o => o
set_option maxRecDepth 100000 in
theorem laid_met (os : Os) : laidMet Tryd.prog Rows.fnExactFetchTextRow.laid (({ World.doorLaid Tryd.prog 39 os with heap := (World.doorLaid Tryd.prog 39 os).heap.modify 5 putF } : World).forCall (fun _ _ => 0) ⟨#[], #[Value.agg #[.int .i64 0, .int .i64 0, .string .empty], Value.int .i64 0, Value.slice none 0 0, Value.bool false], []⟩).memory :=
  laidMet_of_run' 8 (by kernel_rfl) (by kernel_rfl)
theorem reads (os : Os) {H : Type} (enc : TypeId × Value → H) : ∃ places, DataW.whole enc Tryd.prog (({ World.doorLaid Tryd.prog 39 os with heap := (World.doorLaid Tryd.prog 39 os).heap.modify 5 putF } : World).forCall (fun _ _ => 0) ⟨#[], #[Value.agg #[.int .i64 0, .int .i64 0, .string .empty], Value.int .i64 0, Value.slice none 0 0, Value.bool false], []⟩).memory Tryd.f3.params.toList Rows.fnExactFetchTextSpec.vars false #[Value.agg #[.int .i64 0, .int .i64 0, .string .empty], Value.int .i64 0, Value.slice none 0 0, Value.bool false].toList 8 = some ([.agg [.lit (.int .i64 0), .lit (.int .i64 0), .lit (.string [])], .lit (.int .i64 0), .nil, .lit (.bool false)], [Rows.laid_loop_example_g00268_impl_flagNames], places) :=
  ⟨MemPlace.row ⟨0, 0, none⟩ 5, by kernel_rfl⟩

set_option maxRecDepth 100000 in
theorem lifted (os : Os) (started : os.Started) (H : Type) (enc : TypeId × Value → H) (F : Stop.Interp) :
    ReturnsInHanded {} Tryd.checked os 3 .any ((OpenSpec.ofChange Rows.fnExactFetchTextSpec).preRow enc Tryd.prog Tryd.f3 Rows.fnExactFetchTextRow.domain false Rows.fnExactFetchTextRow.laid) (((OpenSpec.ofChange Rows.fnExactFetchTextSpec).at F).post enc Tryd.prog Tryd.f3 false true false false) := by
  obtain ⟨places, hx⟩ := reads os enc
  refine returnsInHanded_of_row (C := Tryd.checked) (s := OpenSpec.ofChange Rows.fnExactFetchTextSpec) own started (by kernel_rfl) Tryd.func3
    (witness_row_atRef (enc := enc) (C := Tryd.checked) false ({ World.doorLaid Tryd.prog 39 os with heap := (World.doorLaid Tryd.prog 39 os).heap.modify 5 putF } : World) #[Value.agg #[.int .i64 0, .int .i64 0, .string .empty], Value.int .i64 0, Value.slice none 0 0, Value.bool false] rfl (by kernel_rfl) (by kernel_rfl) (by kernel_rfl)
      (OpenSpec.preRow_of_cond 8 hx (by kernel_rfl) (fun k hk => by cases hk) (by kernel_rfl) (laid_met os))) ?_
  intro W base args ds gs before hval hW _ _ _ hL hsh _
  exact contract H enc W base args ds gs before hval hW hL hsh

theorem said : Rows.FnExactFetchTextSaid :=
  OpenClaim.holds_of_cond 3 Tryd.f3 rfl rfl rfl rfl rfl rfl rfl ⟨rfl, rfl, rfl, rfl, rfl⟩ rfl rfl rfl rfl rfl (by kernel_rfl) Tryd.func3 (by kernel_rfl)
    (of_decide_eq_true (by kernel_rfl)) (by unfold Func.isWrapper; first | (rw [if_pos (by decide +kernel)]; kernel_rfl) | (rw [if_neg (by decide +kernel)]; exact ⟨rfl, rfl⟩))
    (fun os started H enc _ F => by rw [OpenClaim.pre_eq_preRow]; exact lifted os started H enc F)

theorem plain (f : FuncId) (fn : Func) (hf : Tryd.pinned.checked.prog.funcNamed Rows.fnExactFetchTextRow.func = some f) (hfn : Tryd.pinned.checked.prog.funcs[f]? = some fn) :
    false = Tryd.pinned.checked.prog.looks [] ∧ ∀ (j : Nat) t, fn.params[j]? = some t → Tryd.pinned.checked.prog.wantsStandIn t = false := by
  obtain rfl : f = 3 := Option.some.inj ((show Tryd.prog.funcNamed Rows.fnExactFetchTextRow.func = some 3 by kernel_rfl).symm.trans hf) |>.symm
  obtain rfl : fn = Tryd.f3 := (Option.some.inj (Tryd.func3.symm.trans hfn)).symm
  refine ⟨by kernel_rfl, fun j t ht => ?_⟩
  rw [Tryd.params3] at ht
  have hm : t = 23 ∨ t = 3 ∨ t = 24 ∨ t = 4 := by simpa using Array.mem_of_getElem? ht
  rcases hm with rfl | rfl | rfl | rfl
  · exact (show Tryd.prog.wantsStandIn 23 = false by kernel_rfl)
  · exact (show Tryd.prog.wantsStandIn 3 = false by kernel_rfl)
  · exact (show Tryd.prog.wantsStandIn 24 = false by kernel_rfl)
  · exact (show Tryd.prog.wantsStandIn 4 = false by kernel_rfl)

theorem card : Rows.FnExactFetchTextCardSaid :=
  Claim7.holds_tied_plain_at .later [] _ _ _ _ said (fun _ h => by cases h) (by kernel_rfl) (fun _ h => by cases h) fnExactFetchText_row_tie rfl ⟨rfl, rfl⟩ (by kernel_rfl) rfl plain (by kernel_rfl)
end Go.Proofs.YtejmfffapkmjoaaDoor.fnExactFetchText
namespace Go.Proofs.YtejmfffapkmjoaaDoor
theorem fnExactFetchText_card : Rows.FnExactFetchTextCardSaid := fnExactFetchText.card
#print axioms fnExactFetchText_card
end Go.Proofs.YtejmfffapkmjoaaDoor
