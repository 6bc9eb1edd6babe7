/-
  Flags are read back from their text, in letters of either size; for every input.
-/
import Derived.Test.YtofpnabfecimhaaDoorCards
import Derived.Test.YtofpnabfecimhaaDoorTie
import Derived.Test.YtofpnabfecimhaaDoorFgw
import Derived.Test.YtofpnabfecimhaaDoorArg
import Derived.WalkKit
import Derived.ProofKit
import Derived.OpenShut
import Derived.ShutString
import Derived.OpenVars
import Derived.ChangeOld
import Derived.Below
import Derived.Deep.DeepHandedRow
import Derived.Deep.DeepWitnessRowRef
import Derived.LaidMore
import Derived.Lib.LaidTab
namespace Go.Proofs.YtofpnabfecimhaaDoor.fnFlagTexts
open Go.ChangeShapes Go.WideShapes Go.ChangeAt Go.RowKit
open Go.ChangeMaps (open_string shut_string)
set_option linter.unusedVariables false

theorem own : ownKnob Tryd.prog.godebug = none := by kernel_rfl
theorem laidOut : laidOutB Tryd.prog = true := by kernel_rfl

set_option maxHeartbeats 4000000 in
set_option maxRecDepth 100000 in
theorem walk (a0 : Option Addr) (len0 cap0 : Nat) (z0 : List Int) (w : World) (w0 : ag.IsRow .u8 w a0 len0 cap0 z0) (m : Int) (hm : w.cell? ⟨1, 0, none⟩ = some (.int .i64 m)) (hF : tb.TF w) :
    Calls Tryd.prog 3 #[.slice a0 len0 cap0] w fun e w' => e = .returned (.bool true) ∧ Below w.heap.size w w' := by
  have HM : Hid (w.cell? ⟨1, 0, none⟩ = some (.int .i64 m)) := hm
  have HF : Hid (tb.TF w) := hF
  have HW0 : Hid (ag.IsRow .u8 w a0 len0 cap0 z0) := w0
  clear hm hF w0
  by_cases hlen : 1048576 < len0
  · have hlen' : (1048576 : Int) < (len0 : Int) := by omega
    go_enter Tryd.func3, Tryd.ntmps3
    go_wp2
    go_ret
    exact ⟨rfl, Below.refl _ _⟩
  have hlen' : (len0 : Int) ≤ 1048576 := by omega
  go_enter Tryd.func3, Tryd.ntmps3
  go_wp2_with fail
  refine (ag.at_any w a0 len0 cap0 0 32 (ag.row_bytes HW0.out (by omega)) (by omega) (by omega) (by omega) (by omega)).mono ?_
  rintro e w1 ⟨⟨z, rfl, hz0, hz1⟩, b1⟩
  obtain ⟨f, rfl⟩ : ∃ f : Nat, z = f := ⟨z.toNat, by omega⟩
  have hf : f < 32 := by omega
  have HF1 : Hid (tb.TF w1) := tb.keepS HF.out b1
  have HI : Hid (∀ W, tb.TF W → Calls Tryd.prog 6 #[.int .i64 (f : Int)] W fun e w' => e = .returned (.tuple #[.string (fg.FT f), .int .i64 0]) ∧ Below W.heap.size W w') := fun W h => by
    have := fg.implFT (f : Int) W h
    rw [fg.FR_at hf] at this
    exact this
  have HSP : Hid (∀ W, Calls Tryd.prog 7 #[.int .i64 (f : Int)] W fun e w' => e = .returned (.tuple #[.string (fg.FT f), .int .i64 0]) ∧ Below W.heap.size W w') := fun W => by
    have := fg.specFT (f : Int) W
    rw [fg.FR_at hf] at this
    exact this
  have hTs := fg.FT_size f hf
  have HR1 : Hid (∀ W, tb.TF W → W.cell? ⟨1, 0, none⟩ = some (.int .i64 m) → Calls Tryd.prog 8 #[.string (fg.FT f)] W fun e w' => e = .returned (.tuple #[.int .i64 (f : Int), .int .i64 0]) ∧ Below W.heap.size W w') := fun W h1 h2 => by
    have := fg.implRF (fg.FT f) W m (by omega) h1 h2
    rw [fg.back_at f hf] at this
    exact this
  have HR2 : Hid (∀ W, tb.TF W → W.cell? ⟨1, 0, none⟩ = some (.int .i64 m) → Calls Tryd.prog 8 #[.string ⟨(up.lower (fg.FT f).data.toList).toArray⟩] W fun e w' => e = .returned (.tuple #[.int .i64 (f : Int), .int .i64 0]) ∧ Below W.heap.size W w') := fun W h1 h2 => by
    have := fg.implRF ⟨(up.lower (fg.FT f).data.toList).toArray⟩ W m (by rw [Lib.size_eq]; show (up.lower (fg.FT f).data.toList).length ≤ _; rw [up.lower_len, ← Lib.size_eq]; omega) h1 h2
    rw [fg.great_at f hf] at this
    exact this
  generalize fg.FT f = s at HI HSP HR1 HR2 hTs
  clear hz0 hz1
  go_wp2_with fail
  refine (HI.out _ HF1.out).mono ?_
  rintro e w2 ⟨rfl, hb2⟩
  have b2 := b1.trans (hb2.mono b1.size)
  clear HI hb2 b1 HF1
  go_wp2_with fail
  refine (HSP.out _).mono ?_
  rintro e w3 ⟨rfl, hb3⟩
  have b3 := b2.trans (hb3.mono b2.size)
  clear HSP hb3 b2
  have HM3 : Hid (w3.cell? ⟨1, 0, none⟩ = some (.int .i64 m)) := (b3.cell (p := ⟨1, 0, none⟩) (World.block_lt_of_cell? w _ HM.out)).trans HM.out
  have HF3 : Hid (tb.TF w3) := tb.keepS HF.out b3
  go_wp2_with fail
  refine (HR1.out _ HF3.out HM3.out).mono ?_
  rintro e w4 ⟨rfl, hb4⟩
  have b4 := b3.trans (hb4.mono b3.size)
  have HM4 : Hid (w4.cell? ⟨1, 0, none⟩ = some (.int .i64 m)) := (b4.cell (p := ⟨1, 0, none⟩) (World.block_lt_of_cell? w _ HM.out)).trans HM.out
  have HF4 : Hid (tb.TF w4) := tb.keepS HF.out b4
  clear HR1 hb4 b3 HM3 HF3
  have hcv := Lib.run_convert_string_bytes (P := Tryd.prog) w4 9 22 5 s Tryd.underlying9 Tryd.underlying22 Tryd.underlying5
  have HM0 : Hid (up.Mid w4 (Lib.bytesWorld w4 5 s) s (grownCap w4 s.size 0 5) 0) := up.mid_start w4 s (by unfold maxLen; omega)
  generalize grownCap w4 s.size 0 5 = cap at hcv HM0
  generalize Lib.bytesWorld w4 5 s = W0 at hcv HM0
  go_wp2
  go_loopw [11] (fun i wr => ∃ k : Nat, k ≤ s.size ∧ i = .int .i64 k ∧ up.Mid w4 wr s cap k) (fun i _ => s.size - (intOf i).toNat)
  case atStart => exact ⟨0, Nat.zero_le _, rfl, HM0.out⟩
  case round =>
    clear hcv HM0
    obtain ⟨k, hk, rfl, hmid⟩ := hrel
    have HMD : Hid (up.Mid w4 wr s cap k) := hmid
    by_cases hlt : k < s.size
    · have hlt' : (k : Int) < (s.size : Int) := by omega
      have c0 := hmid.cell hlt
      have f0 := hmid.free hlt
      clear hmid
      by_cases h1 : 97 ≤ ((s[k]'hlt).toNat : Int)
      · have d1 : decide (97 ≤ ((s[k]'hlt).toNat : Int)) = true := decide_eq_true h1
        by_cases h2 : ((s[k]'hlt).toNat : Int) ≤ 122
        · have d2 : decide (((s[k]'hlt).toNat : Int) ≤ 122) = true := decide_eq_true h2
          have hw := up.u8_add h1 h2
          have HN : Hid (up.Mid w4 (wr.setCell ⟨w4.heap.size, k, none⟩ (.int .u8 (((s[k]'hlt).toNat : Int) - 32))) s cap (k + 1)) := HMD.out.great hlt h1 h2
          go_wp2
          go_roundw
          case rel => exact ⟨k + 1, by omega, by go_num, HN.out⟩
          case measure => simp [intOf]; omega
        · have d2 : decide (((s[k]'hlt).toNat : Int) ≤ 122) = false := decide_eq_false h2
          have HN : Hid (up.Mid w4 wr s cap (k + 1)) := HMD.out.other hlt (fun h => h2 h.2)
          go_wp2
          go_roundw
          case rel => exact ⟨k + 1, by omega, by go_num, HN.out⟩
          case measure => simp [intOf]; omega
      · have d1 : decide (97 ≤ ((s[k]'hlt).toNat : Int)) = false := decide_eq_false h1
        have HN : Hid (up.Mid w4 wr s cap (k + 1)) := HMD.out.other hlt (fun h => h1 h.1)
        go_wp2
        go_roundw
        case rel => exact ⟨k + 1, by omega, by go_num, HN.out⟩
        case measure => simp [intOf]; omega
    · have hlt' : ¬ (k : Int) < (s.size : Int) := by omega
      have htx := hmid.text (by omega)
      have bm := hmid.2
      have HM5 : Hid (wr.cell? ⟨1, 0, none⟩ = some (.int .i64 m)) := (bm.cell (p := ⟨1, 0, none⟩) (World.block_lt_of_cell? w4 _ HM4.out)).trans HM4.out
      have HF5 : Hid (tb.TF wr) := tb.keepS HF4.out bm
      have b5 := b4.trans (bm.mono b4.size)
      clear hmid bm HM4 HF4 b4 HMD
      generalize (⟨(up.lower s.data.toList).toArray⟩ : ByteArray) = S at HR2 htx
      go_wp2_with fail
      refine (HR2.out _ HF5.out HM5.out).mono ?_
      rintro e w6 ⟨rfl, hb6⟩
      have b6 := b5.trans (hb6.mono b5.size)
      have cc : (s.toList == s.toList) = true := by simp
      have cd : ((f : Int) == f) = true := by simp
      clear HR2 hb6 htx HM5 HF5
      go_wp2
      go_ret
      exact ⟨rfl, b6⟩

set_option maxRecDepth 100000 in
theorem contract (H : Type) (enc : TypeId × Value → H) (W : World) (base : Nat) (args : Array Value) (ds gs : List (DataW H)) (before : List MemPlace)
    (hval : ∀ (j : Nat) t v, Tryd.f3.params[j]? = some t → args[j]? = some v → Value.okWide Tryd.prog W .any base t v)
    (hW : DataW.Whole enc Tryd.prog Tryd.f3.params.toList Rows.fnFlagTextsSpec.vars false W args.toList ds gs before) (hL : laidMetH Tryd.prog Rows.fnFlagTextsRow.laid W) (hsh : W.ShapedOpen Tryd.prog) :
    Calls Tryd.prog 3 args W fun e W' => ∃ v, e = .returned v ∧ Rows.fnFlagTextsSpec.post enc Tryd.prog Tryd.f3 false true false false W args v W' := by
  have hW' := hW
  obtain ⟨p, q, hA0, hV, rfl, hfz, hnd⟩ := hW
  have hA : DataW.TrodAll enc Tryd.prog W 0 (fun _ => true) true Tryd.f3.params.toList args.toList ds p := hA0
  rw [Tryd.params3] at hA hval
  obtain ⟨v0, vs0, d0, ds0, p0, q0, hargs0, rfl, rfl, h0, r0⟩ := trodAll_cons hA
  obtain ⟨hnil, rfl, rfl⟩ := trodAll_nil r0
  obtain rfl : args = #[v0] := by cases args; simp_all
  obtain ⟨a0, len0, cap0, rfl⟩ := okWide_slice Tryd.underlying22 (hval 0 22 v0 rfl rfl)
  have k0 := h0
  have lt0 : ∀ x ∈ p0, x.block < W.heap.size := by obtain ⟨m, hm⟩ := k0; exact DataW.trod_lt m _ _ _ hm
  obtain ⟨z0, w0⟩ : ∃ zs, ag.IsRow .u8 W a0 len0 cap0 zs := by
    obtain ⟨fuel, hf⟩ := h0
    rcases open_ints Tryd.underlying22 Tryd.underlying5 (by kernel_rfl) hf with ⟨hcs, _⟩ | ⟨x, l, c, zs, hcs, _, hl, hm, hz, _, hcell, hwz⟩
    · simp [Value.cells] at hcs
      obtain ⟨rfl, rfl, rfl⟩ := hcs
      exact ⟨[], .inl ⟨rfl, rfl, rfl, rfl⟩⟩
    · simp [Value.cells] at hcs
      obtain ⟨rfl, rfl, rfl⟩ := hcs
      exact ⟨zs, .inr ⟨_, rfl, hl, hm, by simpa using hz, hcell, hwz⟩⟩
  clear hA0
  simp only [List.append_nil] at hW'
  have hLL : laidMet Tryd.prog Rows.fnFlagTextsRow.laid W := hL
  obtain ⟨ps, hLV, _⟩ := hLL
  obtain ⟨g, t, cs, fuel, d, pp, rfl, _, _, _, _, _⟩ := trodVars_one hV
  obtain ⟨m, hm⟩ := Tryd.laysM219.s1_3 W hsh
  refine (walk a0 len0 cap0 z0 W w0 m hm (tb.tf_of (List.mem_of_getElem? (i := 1) (by kernel_rfl)) hLV)).mono fun e W' ⟨he, bel⟩ => ?_
  subst he
  exact ⟨_, rfl, _, _, _, [], _, _, hW', trodAll_cons_mk (shut_bool Tryd.underlying4 _) trodAll_mk0, (trodAll_cons_mk (Below.trod laidOut (by kernel_rfl) (of_decide_eq_true (by kernel_rfl)) k0 bel lt0) trodAll_mk0), Below.trodVars laidOut bel (by kernel_rfl) hV, bel.frame _, fun h => by cases h⟩
def putF (o : Obj) : Obj := match o with
  | .cells _ t frozen => .cells (Go.Pinned.utf8FirstZ.map fun (n : Nat) => Value.int .u8 (n : Int)).toArray t frozen
  | o => o
set_option maxRecDepth 100000 in
theorem laid_met (os : Os) : laidMet Tryd.prog Rows.fnFlagTextsRow.laid (({ World.doorLaid Tryd.prog 77 os with heap := (World.doorLaid Tryd.prog 77 os).heap.modify 2 putF } : World).forCall (fun _ _ => 0) ⟨#[], #[Value.slice none 0 0], []⟩).memory :=
  laidMet_of_run' 8 (by kernel_rfl) (by kernel_rfl)
theorem reads (os : Os) {H : Type} (enc : TypeId × Value → H) : ∃ places, DataW.whole enc Tryd.prog (({ World.doorLaid Tryd.prog 77 os with heap := (World.doorLaid Tryd.prog 77 os).heap.modify 2 putF } : World).forCall (fun _ _ => 0) ⟨#[], #[Value.slice none 0 0], []⟩).memory Tryd.f3.params.toList Rows.fnFlagTextsSpec.vars false #[Value.slice none 0 0].toList 8 = some ([.nil], [Rows.laid_loop_example_g00268_impl_flagNames], places) :=
  ⟨MemPlace.row ⟨0, 0, none⟩ 5, by kernel_rfl⟩

set_option maxRecDepth 100000 in
theorem lifted (os : Os) (started : os.Started) (H : Type) (enc : TypeId × Value → H) (F : Stop.Interp) :
    ReturnsInHanded {} Tryd.checked os 3 .any ((OpenSpec.ofChange Rows.fnFlagTextsSpec).preRow enc Tryd.prog Tryd.f3 Rows.fnFlagTextsRow.domain false Rows.fnFlagTextsRow.laid) (((OpenSpec.ofChange Rows.fnFlagTextsSpec).at F).post enc Tryd.prog Tryd.f3 false true false false) := by
  obtain ⟨places, hx⟩ := reads os enc
  refine returnsInHanded_of_row (C := Tryd.checked) (s := OpenSpec.ofChange Rows.fnFlagTextsSpec) own started (by kernel_rfl) Tryd.func3
    (witness_row_atRef (enc := enc) (C := Tryd.checked) false ({ World.doorLaid Tryd.prog 77 os with heap := (World.doorLaid Tryd.prog 77 os).heap.modify 2 putF } : World) #[Value.slice none 0 0] rfl (by kernel_rfl) (by kernel_rfl) (by kernel_rfl)
      (OpenSpec.preRow_of_cond 8 hx (by kernel_rfl) (fun k hk => by cases hk) (by kernel_rfl) (laid_met os))) ?_
  intro W base args ds gs before hval hW _ _ _ hL hsh _
  exact contract H enc W base args ds gs before hval hW hL hsh

theorem said : Rows.FnFlagTextsSaid :=
  OpenClaim.holds_of_cond 3 Tryd.f3 rfl rfl rfl rfl rfl rfl rfl ⟨rfl, rfl, rfl, rfl, rfl⟩ rfl rfl rfl rfl rfl (by kernel_rfl) Tryd.func3 (by kernel_rfl)
    (of_decide_eq_true (by kernel_rfl)) (by unfold Func.isWrapper; first | (rw [if_pos (by decide +kernel)]; kernel_rfl) | (rw [if_neg (by decide +kernel)]; exact ⟨rfl, rfl⟩))
    (fun os started H enc _ F => by rw [OpenClaim.pre_eq_preRow]; exact lifted os started H enc F)

theorem plain (f : FuncId) (fn : Func) (hf : Tryd.pinned.checked.prog.funcNamed Rows.fnFlagTextsRow.func = some f) (hfn : Tryd.pinned.checked.prog.funcs[f]? = some fn) :
    true = Tryd.pinned.checked.prog.looks [] ∧ ∀ (j : Nat) t, fn.params[j]? = some t → Tryd.pinned.checked.prog.wantsStandIn t = false := by
  obtain rfl : f = 3 := Option.some.inj ((show Tryd.prog.funcNamed Rows.fnFlagTextsRow.func = some 3 by kernel_rfl).symm.trans hf) |>.symm
  obtain rfl : fn = Tryd.f3 := (Option.some.inj (Tryd.func3.symm.trans hfn)).symm
  refine ⟨by kernel_rfl, fun j t ht => ?_⟩
  rw [Tryd.params3] at ht
  obtain rfl : t = 22 := by simpa using Array.mem_of_getElem? ht
  exact (show Tryd.prog.wantsStandIn 22 = false by kernel_rfl)

theorem card : Rows.FnFlagTextsCardSaid :=
  Claim7.holds_tied_plain_at .later [] _ _ _ _ said (fun _ h => by cases h) (by kernel_rfl) (fun _ h => by cases h) fnFlagTexts_row_tie rfl ⟨rfl, rfl⟩ (by kernel_rfl) rfl plain (by kernel_rfl)
end Go.Proofs.YtofpnabfecimhaaDoor.fnFlagTexts
namespace Go.Proofs.YtofpnabfecimhaaDoor
theorem fnFlagTexts_card : Rows.FnFlagTextsCardSaid := fnFlagTexts.card
#print axioms fnFlagTexts_card
end Go.Proofs.YtofpnabfecimhaaDoor
