/-
  The card of FnQuoted: the proof.
-/
import Derived.Test.YtpbmofofigkpjaaDoorCards
import Derived.Test.YtpbmofofigkpjaaDoorTie
import Derived.Test.YtpbmofofigkpjaaDoorLoi
import Derived.Test.YtpbmofofigkpjaaDoorQte
import Derived.Test.YtpbmofofigkpjaaDoorIuo
import Derived.Test.YtpbmofofigkpjaaDoorQlw
import Derived.Test.YtpbmofofigkpjaaDoorSrd
import Derived.Test.YtpbmofofigkpjaaDoorAgc
import Derived.Test.YtpbmofofigkpjaaDoorFix
import Derived.WalkKit
import Derived.ProofKit
import Derived.OpenShut
import Derived.ShutString
import Derived.OpenVars
import Derived.ChangeOld
import Derived.Below
import Derived.Deep.DeepHandedRow
import Derived.Deep.DeepWitnessRowRef
import Derived.LaidMore
import Derived.Lib.LaidTab
namespace Go.Proofs.YtpbmofofigkpjaaDoor.fnQuoted
open Go.ChangeShapes Go.WideShapes Go.ChangeAt Go.RowKit
open Go.ChangeMaps (open_string shut_string)
set_option linter.unusedVariables false

theorem own : ownKnob Tryd.prog.godebug = none := by kernel_rfl
theorem laidOut : laidOutB Tryd.prog = true := by kernel_rfl

set_option maxHeartbeats 4000000 in
set_option maxRecDepth 100000 in
theorem walk (a0 : Option Addr) (len0 cap0 : Nat) (z0 : List Int) (w : World) (w0 : ag.IsRow .u8 w a0 len0 cap0 z0) (m : Int) (hm : w.cell? ⟨3, 0, none⟩ = some (.int .i64 m)) (hD : tb.TD w) :
    Calls Tryd.prog 3 #[.slice a0 len0 cap0] w fun e w' => e = .returned (.bool true) ∧ Below w.heap.size w w' := by
  obtain ⟨l, hl, hr⟩ := ag.bytes w0
  clear w0
  by_cases hbig : 1048576 < len0
  · have hb : (1048576 : Int) < (len0 : Int) := by omega
    clear hr hD hl hm
    go_enter Tryd.func3, Tryd.ntmps3
    go_wp2
    go_ret
    exact ⟨rfl, Below.refl _ _⟩
  have hb : (len0 : Int) ≤ 1048576 := by omega
  have HCode : Hid (sr.Bytes w a0 len0) := ag.code hl (by omega) hr
  have hgl := World.block_lt_of_cell? _ _ hm
  have HT : Hid (∀ W, Below w.heap.size w W → W.cell? ⟨3, 0, none⟩ = some (.int .i64 m) ∧ tb.TD W) := fun W hW => ⟨(hW.cell (p := ⟨3, 0, none⟩) hgl).trans hm, tb.keep' hD hW⟩
  clear hr hm hD hl hgl l
  go_enter Tryd.func3, Tryd.ntmps3
  go_wp2_with fail
  refine (sr.bodyOf_any _ a0 len0 cap0 HCode.out).mono ?_
  rintro e w1 ⟨⟨v1, q, rfl, hq, own1⟩, b1⟩
  have hes : qu.es q = ⟨(qu.qt 0 q).toArray⟩ := if_pos (by omega)
  have hec : qu.ec q = 0 := if_pos (by omega)
  have hqz := qu.qt_len 0 q
  obtain ⟨T, hT⟩ : ∃ s : ByteArray, s = ⟨(qu.qt 0 q).toArray⟩ := ⟨_, rfl⟩
  have hTl : T.data.toList = qu.qt 0 q := by rw [hT]
  have hTz : T.size ≤ 6 * 280 := by rw [Lib.size_eq, hTl]; omega
  have hrl := qu.ul_some (s := T) (o := q) (by omega) (by rw [hTl]; exact qu.uq_qt 0 q)
  have hlr : ln.lret T ≤ 76 := by
    have h1 : ln.lret T = (ln.ll T.data.toList : Int) := if_pos (by omega)
    rw [h1, hTl]
    have := qu.ll_qt q
    unfold ln.ll
    omega
  have HCH : Hid (∀ k, ∀ h : k < T.size, qu.Char T k h) := fun k h => qu.char_qt hTl k h
  rw [← hT] at hes
  clear hT hTl hqz HCode
  have own1r := own1
  rw [← b6.bz_cells, ← b6.bz_len] at own1r
  go_wp2_with fail
  refine (qu.implText_any v1 q _ (ow.reads_own own1r) (HT.out w1 b1).2).mono ?_
  rw [hes, hec]
  rintro e w2 ⟨rfl, b2⟩
  have b2' := b1.trans (b2.mono b1.size)
  have own2 := ow.own_below own1 b2
  have own2r := ow.own_below own1r b2
  clear own1 own1r
  go_wp2_with fail
  refine (qu.specText_any v1 q _ (ow.reads_own own2r) (by omega)).mono ?_
  rw [hes, hec]
  rintro e w3 ⟨rfl, b3⟩
  have b3' := b2'.trans (b3.mono b2'.size)
  have own3 := ow.own_below own2 b3
  clear own2 own2r hes hec
  go_wp2_with fail
  refine (qu.implUn_any T _ (HT.out w3 b3').2 (by unfold maxLen; omega)).mono ?_
  rintro e w4 ⟨⟨v4, rfl, own4⟩, b4⟩
  rw [hrl.1] at own4
  rw [hrl.2]
  have b4' := b3'.trans (b4.mono b3'.size)
  have own3' := ow.own_below own3 b4
  have cv1 := ow.conv_bytes (P := Tryd.prog) (src := 22) (dst := 9) q own3' Tryd.underlying22 Tryd.underlying5 Tryd.underlying9
  have cv4 := ow.conv_bytes (P := Tryd.prog) (src := 22) (dst := 9) q own4 Tryd.underlying22 Tryd.underlying5 Tryd.underlying9
  clear own3 own3' own4 hrl
  generalize (⟨q.toArray⟩ : ByteArray) = qs at cv1 cv4
  obtain ⟨r, hr⟩ : ∃ r, r = ln.lret T := ⟨_, rfl⟩
  rw [← hr] at hlr
  have HI : Hid (∀ W, Below w.heap.size w W → Calls Tryd.prog 12 #[.string T] W fun e w' => e = .returned (.int .i64 r) ∧ Below W.heap.size W w') := by rw [hr]; exact fun W hW => ln.impl_any T m W (by unfold maxLen; omega) (HT.out W hW).1
  have HS : Hid (∀ W, Calls Tryd.prog 13 #[.string T] W fun e w' => e = .returned (.int .i64 r) ∧ w' = W) := by rw [hr]; exact fun W => ln.spec_any T W (by unfold maxLen; omega)
  have hr1 : decide ((76 : Int) < r) = false := decide_eq_false (by omega)
  have hr2 : (r != r) = false := by simp
  have hTi : (T.size : Int) ≤ 1680 := by omega
  clear hr HT
  go_wp2_with fail
  refine (HI.out _ b4').mono ?_
  rintro e w5 ⟨rfl, b5⟩
  have b5' := b4'.trans (b5.mono b4'.size)
  clear cv1 cv4
  go_wp2_with fail
  refine (HI.out _ b5').mono ?_
  rintro e w6 ⟨rfl, b6'⟩
  have b6'' := b5'.trans (b6'.mono b5'.size)
  go_wp2_with fail
  refine (HS.out _).mono ?_
  rintro e w7 ⟨rfl, rfl⟩
  clear HI HS b1 b2 b2' b3 b3' b4 b4' b5 b5' b6'
  go_wp2
  go_loop [10] (fun i => ∃ k : Nat, k ≤ T.size ∧ i = .int .i64 k) (fun i => T.size - (intOf i).toNat)
  case atStart => exact ⟨0, Nat.zero_le _, rfl⟩
  case round =>
    obtain ⟨k, hk, rfl⟩ := hrel
    by_cases hlt : k < T.size
    case neg =>
      have hlt' : (T.size : Int) ≤ (k : Int) := by omega
      clear HCH
      go_wp2
      go_ret
      exact ⟨rfl, b6''⟩
    have hlt' : (k : Int) < (T.size : Int) := by omega
    rcases HCH.out k hlt with ⟨x, h1, y⟩ | ⟨x, j, hj, y⟩ | ⟨x, y, z⟩
    · have d1 : (((T[k]'hlt).toNat : Int) == 13) = true := beq_iff_eq.2 x
      have d2 : decide ((k : Int) + 1 < (T.size : Int)) = true := decide_eq_true (by omega)
      have d3 : (((T[k + 1]'h1).toNat : Int) == 10) = true := beq_iff_eq.2 y
      have d4 : (((T[k]'hlt).toNat : Int) == 32) = false := beq_eq_false_iff_ne.2 (by omega)
      clear x y HCH
      go_wp2
      go_round
      case rel => exact ⟨k + 1, by omega, by go_num⟩
      case measure => simp [intOf]; omega
    · subst hj
      have hlj : j < T.size := by omega
      have d1 : (((T[j + 1]'hlt).toNat : Int) == 13) = false := beq_eq_false_iff_ne.2 (by omega)
      have d2 : (((T[j + 1]'hlt).toNat : Int) == 10) = true := beq_iff_eq.2 x
      have d3 : (((T[j]'hlj).toNat : Int) == 13) = true := beq_iff_eq.2 y
      have d4 : (((T[j + 1]'hlt).toNat : Int) == 32) = false := beq_eq_false_iff_ne.2 (by omega)
      clear x y HCH
      go_wp2
      go_round
      case rel => exact ⟨j + 2, by omega, by go_num⟩
      case measure => simp [intOf]; omega
    · have d1 : (((T[k]'hlt).toNat : Int) == 13) = false := beq_eq_false_iff_ne.2 (by omega)
      have d2 : (((T[k]'hlt).toNat : Int) == 10) = false := beq_eq_false_iff_ne.2 (by omega)
      have d3 : decide (((T[k]'hlt).toNat : Int) < 32) = false := decide_eq_false (by omega)
      have d4 : decide ((126 : Int) < ((T[k]'hlt).toNat : Int)) = false := decide_eq_false (by omega)
      by_cases h32 : ((T[k]'hlt).toNat : Int) = 32
      · obtain ⟨h1, y1⟩ := z h32
        have d5 : (((T[k]'hlt).toNat : Int) == 32) = true := beq_iff_eq.2 h32
        have d6 : ((k : Int) + 1 == (T.size : Int)) = false := beq_eq_false_iff_ne.2 (by omega)
        have d7 : (((T[k + 1]'h1).toNat : Int) == 13) = false := beq_eq_false_iff_ne.2 y1
        clear x y z HCH h32 y1
        go_wp2
        go_round
        case rel => exact ⟨k + 1, by omega, by go_num⟩
        case measure => simp [intOf]; omega
      · have d5 : (((T[k]'hlt).toNat : Int) == 32) = false := beq_eq_false_iff_ne.2 h32
        clear x y z HCH h32
        go_wp2
        go_round
        case rel => exact ⟨k + 1, by omega, by go_num⟩
        case measure => simp [intOf]; omega

set_option maxRecDepth 100000 in
theorem contract (H : Type) (enc : TypeId × Value → H) (W : World) (base : Nat) (args : Array Value) (ds gs : List (DataW H)) (before : List MemPlace)
    (hval : ∀ (j : Nat) t v, Tryd.f3.params[j]? = some t → args[j]? = some v → Value.okWide Tryd.prog W .any base t v)
    (hW : DataW.Whole enc Tryd.prog Tryd.f3.params.toList Rows.fnQuotedSpec.vars false W args.toList ds gs before) (hL : laidMetH Tryd.prog Rows.fnQuotedRow.laid W) (hsh : W.ShapedOpen Tryd.prog) :
    Calls Tryd.prog 3 args W fun e W' => ∃ v, e = .returned v ∧ Rows.fnQuotedSpec.post enc Tryd.prog Tryd.f3 false true false false W args v W' := by
  have hW' := hW
  obtain ⟨p, q, hA0, hV, rfl, hfz, hnd⟩ := hW
  have hA : DataW.TrodAll enc Tryd.prog W 0 (fun _ => true) true Tryd.f3.params.toList args.toList ds p := hA0
  rw [Tryd.params3] at hA hval
  obtain ⟨v0, vs0, d0, ds0, p0, q0, hargs0, rfl, rfl, h0, r0⟩ := trodAll_cons hA
  obtain ⟨hnil, rfl, rfl⟩ := trodAll_nil r0
  obtain rfl : args = #[v0] := by cases args; simp_all
  obtain ⟨a0, len0, cap0, rfl⟩ := okWide_slice Tryd.underlying22 (hval 0 22 v0 rfl rfl)
  have k0 := h0
  have lt0 : ∀ x ∈ p0, x.block < W.heap.size := by obtain ⟨m, hm⟩ := k0; exact DataW.trod_lt m _ _ _ hm
  obtain ⟨z0, w0⟩ : ∃ zs, ag.IsRow .u8 W a0 len0 cap0 zs := by
    obtain ⟨fuel, hf⟩ := h0
    rcases open_ints Tryd.underlying22 Tryd.underlying5 (by kernel_rfl) hf with ⟨hcs, _⟩ | ⟨x, l, c, zs, hcs, _, hl, hm, hz, _, hcell, hwz⟩
    · simp [Value.cells] at hcs
      obtain ⟨rfl, rfl, rfl⟩ := hcs
      exact ⟨[], .inl ⟨rfl, rfl, rfl, rfl⟩⟩
    · simp [Value.cells] at hcs
      obtain ⟨rfl, rfl, rfl⟩ := hcs
      exact ⟨zs, .inr ⟨_, rfl, hl, hm, by simpa using hz, hcell, hwz⟩⟩
  clear hA0
  simp only [List.append_nil] at hW'
  have hLL : laidMet Tryd.prog Rows.fnQuotedRow.laid W := hL
  obtain ⟨ps, hLV, _⟩ := hLL
  obtain ⟨g, t, cs, fuel, d, pp, rfl, _, _, _, _, _⟩ := trodVars_one hV
  obtain ⟨m, hm⟩ := Tryd.laysM219.s1_3 W hsh
  refine (walk a0 len0 cap0 z0 W w0 m hm (tb.td_of (List.mem_of_getElem? (i := 1) (by kernel_rfl)) hLV)).mono fun e W' ⟨he, bel⟩ => ?_
  subst he
  exact ⟨_, rfl, _, _, _, [], _, _, hW', trodAll_cons_mk (shut_bool Tryd.underlying4 _) trodAll_mk0, (trodAll_cons_mk (Below.trod laidOut (by kernel_rfl) (of_decide_eq_true (by kernel_rfl)) k0 bel lt0) trodAll_mk0), Below.trodVars laidOut bel (by kernel_rfl) hV, bel.frame _, fun h => by cases h⟩
def putF (o : Obj) : Obj := match o with
  | .cells _ t frozen => .cells (Go.Pinned.utf8FirstZ.map fun (n : Nat) => Value.int .u8 (n : Int)).toArray t frozen
  | o => o
set_option maxRecDepth 100000 in
theorem laid_met (os : Os) : laidMet Tryd.prog Rows.fnQuotedRow.laid (({ World.doorLaid Tryd.prog 58 os with heap := (World.doorLaid Tryd.prog 58 os).heap.modify 6 putF } : World).forCall (fun _ _ => 0) ⟨#[], #[Value.slice none 0 0], []⟩).memory :=
  laidMet_of_run' 8 (by kernel_rfl) (by kernel_rfl)
theorem reads (os : Os) {H : Type} (enc : TypeId × Value → H) : ∃ places, DataW.whole enc Tryd.prog (({ World.doorLaid Tryd.prog 58 os with heap := (World.doorLaid Tryd.prog 58 os).heap.modify 6 putF } : World).forCall (fun _ _ => 0) ⟨#[], #[Value.slice none 0 0], []⟩).memory Tryd.f3.params.toList Rows.fnQuotedSpec.vars false #[Value.slice none 0 0].toList 8 = some ([.nil], [Rows.laid_loop_example_g00268_impl_digitChars], places) :=
  ⟨MemPlace.row ⟨0, 0, none⟩ 16, by kernel_rfl⟩

set_option maxRecDepth 100000 in
theorem lifted (os : Os) (started : os.Started) (H : Type) (enc : TypeId × Value → H) (F : Stop.Interp) :
    ReturnsInHanded {} Tryd.checked os 3 .any ((OpenSpec.ofChange Rows.fnQuotedSpec).preRow enc Tryd.prog Tryd.f3 Rows.fnQuotedRow.domain false Rows.fnQuotedRow.laid) (((OpenSpec.ofChange Rows.fnQuotedSpec).at F).post enc Tryd.prog Tryd.f3 false true false false) := by
  obtain ⟨places, hx⟩ := reads os enc
  refine returnsInHanded_of_row (C := Tryd.checked) (s := OpenSpec.ofChange Rows.fnQuotedSpec) own started (by kernel_rfl) Tryd.func3
    (witness_row_atRef (enc := enc) (C := Tryd.checked) false ({ World.doorLaid Tryd.prog 58 os with heap := (World.doorLaid Tryd.prog 58 os).heap.modify 6 putF } : World) #[Value.slice none 0 0] rfl (by kernel_rfl) (by kernel_rfl) (by kernel_rfl)
      (OpenSpec.preRow_of_cond 8 hx (by kernel_rfl) (fun k hk => by cases hk) (by kernel_rfl) (laid_met os))) ?_
  intro W base args ds gs before hval hW _ _ _ hL hsh _
  exact contract H enc W base args ds gs before hval hW hL hsh

theorem said : Rows.FnQuotedSaid :=
  OpenClaim.holds_of_cond 3 Tryd.f3 rfl rfl rfl rfl rfl rfl rfl ⟨rfl, rfl, rfl, rfl, rfl⟩ rfl rfl rfl rfl rfl (by kernel_rfl) Tryd.func3 (by kernel_rfl)
    (of_decide_eq_true (by kernel_rfl)) (by unfold Func.isWrapper; first | (rw [if_pos (by decide +kernel)]; kernel_rfl) | (rw [if_neg (by decide +kernel)]; exact ⟨rfl, rfl⟩))
    (fun os started H enc _ F => by rw [OpenClaim.pre_eq_preRow]; exact lifted os started H enc F)

theorem plain (f : FuncId) (fn : Func) (hf : Tryd.pinned.checked.prog.funcNamed Rows.fnQuotedRow.func = some f) (hfn : Tryd.pinned.checked.prog.funcs[f]? = some fn) :
    false = Tryd.pinned.checked.prog.looks [] ∧ ∀ (j : Nat) t, fn.params[j]? = some t → Tryd.pinned.checked.prog.wantsStandIn t = false := by
  obtain rfl : f = 3 := Option.some.inj ((show Tryd.prog.funcNamed Rows.fnQuotedRow.func = some 3 by kernel_rfl).symm.trans hf) |>.symm
  obtain rfl : fn = Tryd.f3 := (Option.some.inj (Tryd.func3.symm.trans hfn)).symm
  refine ⟨by kernel_rfl, fun j t ht => ?_⟩
  rw [Tryd.params3] at ht
  obtain rfl : t = 22 := by simpa using Array.mem_of_getElem? ht
  exact (show Tryd.prog.wantsStandIn 22 = false by kernel_rfl)

theorem card : Rows.FnQuotedCardSaid :=
  Claim7.holds_tied_plain_at .later [] _ _ _ _ said (fun _ h => by cases h) (by kernel_rfl) (fun _ h => by cases h) fnQuoted_row_tie rfl ⟨rfl, rfl⟩ (by kernel_rfl) rfl plain (by kernel_rfl)
end Go.Proofs.YtpbmofofigkpjaaDoor.fnQuoted
namespace Go.Proofs.YtpbmofofigkpjaaDoor
theorem fnQuoted_card : Rows.FnQuotedCardSaid := fnQuoted.card
#print axioms fnQuoted_card
end Go.Proofs.YtpbmofofigkpjaaDoor
