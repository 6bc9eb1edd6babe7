/-
  What is sent of a drawn text of lines is read back as it was, and no beginning of it is read; for every input.
-/
import Derived.Test.YtcflfejdpjphjaaDoorCards
import Derived.Test.YtcflfejdpjphjaaDoorTie
import Derived.Test.YtcflfejdpjphjaaDoorSrt
import Derived.Test.YtcflfejdpjphjaaDoorDui
import Derived.Test.YtcflfejdpjphjaaDoorArg
import Derived.WalkKit
import Derived.ProofKit
import Derived.OpenShut
import Derived.ShutString
import Derived.OpenVars
import Derived.ChangeOld
import Derived.Below
import Derived.Deep.DeepHandedRow
import Derived.Deep.DeepWitnessRowRef
import Derived.LaidMore
import Derived.Lib.LaidTab
namespace Go.Proofs.YtcflfejdpjphjaaDoor.fnStuff
open Go.ChangeShapes Go.WideShapes Go.ChangeAt Go.RowKit
open Go.ChangeMaps (open_string shut_string)
set_option linter.unusedVariables false

theorem own : ownKnob Tryd.prog.godebug = none := by kernel_rfl
theorem laidOut : laidOutB Tryd.prog = true := by kernel_rfl

set_option maxHeartbeats 4000000 in
set_option maxRecDepth 100000 in
theorem walk (a0 : Option Addr) (len0 cap0 : Nat) (z0 : List Int) (a1 : Option Addr) (len1 cap1 : Nat) (z1 : List Int) (w : World) (w0 : ag.IsRow .u8 w a0 len0 cap0 z0) (w1 : ag.IsRow .u8 w a1 len1 cap1 z1) (m : Int) (hm : w.cell? ⟨0, 0, none⟩ = some (.int .i64 m)) :
    Calls Tryd.prog 3 #[.slice a0 len0 cap0, .slice a1 len1 cap1] w fun e w' => e = .returned (.bool true) ∧ Below w.heap.size w w' := by
  have HM : Hid (w.cell? ⟨0, 0, none⟩ = some (.int .i64 m)) := hm
  have HW0 : Hid (ag.IsRow .u8 w a0 len0 cap0 z0) := w0
  have HW1 : Hid (ag.IsRow .u8 w a1 len1 cap1 z1) := w1
  clear hm w0 w1
  by_cases hlen : 1048576 < len0
  · have hlen' : (1048576 : Int) < (len0 : Int) := by omega
    go_enter Tryd.func3, Tryd.ntmps3
    go_wp2
    go_ret
    exact ⟨rfl, Below.refl _ _⟩
  have hlen' : decide ((1048576 : Int) < (len0 : Int)) = false := decide_eq_false (by omega)
  by_cases hlen1 : 1048576 < len1
  · have hlen1' : decide ((1048576 : Int) < (len1 : Int)) = true := decide_eq_true (by omega)
    go_enter Tryd.func3, Tryd.ntmps3
    go_wp2
    go_ret
    exact ⟨rfl, Below.refl _ _⟩
  have hlen1' : decide ((1048576 : Int) < (len1 : Int)) = false := decide_eq_false (by omega)
  have HB0 : Hid (se.Bytes w a0 len0) := ag.row_bytes HW0.out (by omega)
  have HB1 : Hid (ag.Bytes w a1 len1) := ag.row_bytes HW1.out (by omega)
  clear HW0 HW1
  have HMK : Hid (∀ W, Below w.heap.size w W → W.cell? ⟨0, 0, none⟩ = some (.int .i64 m)) := fun W hW => (hW.cell (p := ⟨0, 0, none⟩) (World.block_lt_of_cell? w _ HM.out)).trans HM.out
  clear HM
  go_enter Tryd.func3, Tryd.ntmps3
  go_wp2_with fail
  refine (dt.stuffingOf_any w a0 len0 cap0 HB0.out).mono ?_
  rintro e w1 ⟨⟨t, rfl, hst⟩, b1⟩
  have htz : t.size ≤ 30 := hst.1
  have hdsR : dt.sfR t = (0, dt.sf 0 t.data.toList ++ dt.tl) := by unfold dt.sfR; rw [if_neg (by omega), if_pos (dt.stf_ln hst)]
  have hxl : (dt.sf 0 t.data.toList ++ dt.tl).length ≤ 63 := by
    have := dt.sf_len t.data.toList 0
    rw [List.length_append, show dt.tl.length = 3 from rfl]
    rw [← Lib.size_eq] at this
    omega
  have hxl3 : 3 ≤ (dt.sf 0 t.data.toList ++ dt.tl).length := by rw [List.length_append, show dt.tl.length = 3 from rfl]; omega
  obtain ⟨X, hX⟩ : ∃ X : ByteArray, X = ⟨(dt.sf 0 t.data.toList ++ dt.tl).toArray⟩ := ⟨_, rfl⟩
  have hXl : X.data.toList = dt.sf 0 t.data.toList ++ dt.tl := by rw [hX]
  have hXs : X.size ≤ 63 := by rw [Lib.size_eq, hXl]; exact hxl
  have hXs3 : 3 ≤ X.size := by rw [Lib.size_eq, hXl]; exact hxl3
  have hbk : dt.unR X = (0, t.data.toList) := by unfold dt.unR; rw [if_neg (by omega), hXl, dt.un_sf _ 0 (by decide) hst.2]
  have htt : (⟨t.data.toList.toArray⟩ : ByteArray) = t := by cases t; simp
  have HDI : Hid (∀ W, Below w.heap.size w W → Calls Tryd.prog 6 #[.string t] W fun e w' => e = .returned (.tuple #[.string X, .int .i64 0]) ∧ Below W.heap.size W w') := fun W h => by
    have := dt.implDs_any t W m (HMK.out W h) (by omega)
    unfold dt.SfIs at this
    rw [hdsR, ← hX] at this
    exact this
  have HDS : Hid (∀ W, Calls Tryd.prog 7 #[.string t] W fun e w' => e = .returned (.tuple #[.string X, .int .i64 0]) ∧ Below W.heap.size W w') := fun W => by
    have := dt.specDs_any t W (by omega)
    unfold dt.SfIs at this
    rw [hdsR, ← hX] at this
    exact this
  have HUI : Hid (∀ W, Below w.heap.size w W → Calls Tryd.prog 8 #[.string X] W fun e w' => e = .returned (.tuple #[.string t, .int .i64 0]) ∧ Below W.heap.size W w') := fun W h => by
    have := dt.implUn_any X W m (HMK.out W h) (by omega)
    unfold dt.UnIs at this
    rw [hbk, htt] at this
    exact this
  have HCU : Hid (∀ k : Nat, k < X.size → (dt.unR (X.extract 0 k)).1 ≠ 0) := fun k hk => by
    unfold dt.unR
    have e1 : (X.extract 0 k).data.toList = X.data.toList.take k := by rw [← Lib.toList_data, Lib.extract_toList]; simp
    have e2 : (X.extract 0 k).size ≤ 65536 := by rw [ByteArray.size_extract]; omega
    rw [if_neg (by omega), e1, hXl]
    exact dt.un_cut _ 0 k (by decide) hst.2 (by rw [← hXl, ← Lib.size_eq]; exact hk)
  clear hst hdsR hxl hxl3 hX hXl hbk htt HB0
  have B1 : Hid (Below w.heap.size w w1) := b1
  clear b1
  go_wp2_with fail
  refine (HDI.out _ B1.out).mono ?_
  rintro e w2 ⟨rfl, b2⟩
  have B2 : Hid (Below w.heap.size w w2) := B1.out.trans (b2.mono B1.out.size)
  clear b2 B1 HDI
  go_wp2_with fail
  refine (HDS.out _).mono ?_
  rintro e w3 ⟨rfl, b3⟩
  have B3 : Hid (Below w.heap.size w w3) := B2.out.trans (b3.mono B2.out.size)
  clear b3 B2 HDS
  go_wp2_with fail
  refine (HUI.out _ B3.out).mono ?_
  rintro e w4 ⟨rfl, b4⟩
  have B4 : Hid (Below w.heap.size w w4) := B3.out.trans (b4.mono B3.out.size)
  clear b4 B3 HUI
  go_wp2_with fail
  refine (ag.at_any w4 a1 len1 cap1 0 X.size (ag.bytes_below HB1.out B4.out) (by omega) (by omega) (by omega) (by omega)).mono ?_
  rintro e w5 ⟨⟨z, rfl, z0, z1⟩, b5⟩
  have B5 : Hid (Below w.heap.size w w5) := B4.out.trans (b5.mono B4.out.size)
  clear b5 B4 HB1
  obtain ⟨k, rfl⟩ : ∃ k : Nat, z = (k : Int) := ⟨z.toNat, by omega⟩
  have hkX : k ≤ X.size := by omega
  have hkX' : (k : Int) ≤ (X.size : Int) := by omega
  have hne := HCU.out k (by omega)
  have hes : (X.extract 0 k).size ≤ 1048576 := by rw [ByteArray.size_extract]; omega
  have HUP : Hid (∀ W, Below w.heap.size w W → Calls Tryd.prog 8 #[.string (X.extract 0 k)] W fun e w' => dt.UnIs (X.extract 0 k) e ∧ Below W.heap.size W w') := fun W h => dt.implUn_any _ W m (HMK.out W h) hes
  have HUS : Hid (∀ W, Calls Tryd.prog 10 #[.string (X.extract 0 k)] W fun e w' => dt.UnIs (X.extract 0 k) e ∧ Below W.heap.size W w') := fun W => dt.specUn_any _ W hes
  unfold dt.UnIs at HUP HUS
  generalize (dt.unR (X.extract 0 k)).1 = c at hne HUP HUS
  generalize (⟨(dt.unR (X.extract 0 k)).2.toArray⟩ : ByteArray) = Y at HUP HUS
  have hc1 : (c != 0) = true := by rw [bne_iff_ne]; exact hne
  have hc2 : (c == c) = true := by simp
  clear hne hes HCU
  go_wp2_with fail
  refine (HUP.out _ B5.out).mono ?_
  rintro e w6 ⟨rfl, b6⟩
  have B6 : Hid (Below w.heap.size w w6) := B5.out.trans (b6.mono B5.out.size)
  clear b6 B5 HUP
  go_wp2_with fail
  refine (HUS.out _).mono ?_
  rintro e w7 ⟨rfl, b7⟩
  have B7 : Hid (Below w.heap.size w w7) := B6.out.trans (b7.mono B6.out.size)
  clear b7 B6 HUS
  go_wp2
  go_ret
  exact ⟨rfl, B7.out⟩

set_option maxRecDepth 100000 in
theorem contract (H : Type) (enc : TypeId × Value → H) (W : World) (base : Nat) (args : Array Value) (ds gs : List (DataW H)) (before : List MemPlace)
    (hval : ∀ (j : Nat) t v, Tryd.f3.params[j]? = some t → args[j]? = some v → Value.okWide Tryd.prog W .any base t v)
    (hW : DataW.Whole enc Tryd.prog Tryd.f3.params.toList Rows.fnStuffSpec.vars false W args.toList ds gs before) (hL : laidMetH Tryd.prog Rows.fnStuffRow.laid W) (hsh : W.ShapedOpen Tryd.prog) :
    Calls Tryd.prog 3 args W fun e W' => ∃ v, e = .returned v ∧ Rows.fnStuffSpec.post enc Tryd.prog Tryd.f3 false true false false W args v W' := by
  have hW' := hW
  obtain ⟨p, q, hA0, hV, rfl, hfz, hnd⟩ := hW
  have hA : DataW.TrodAll enc Tryd.prog W 0 (fun _ => true) true Tryd.f3.params.toList args.toList ds p := hA0
  rw [Tryd.params3] at hA hval
  obtain ⟨v0, vs0, d0, ds0, p0, q0, hargs0, rfl, rfl, h0, r0⟩ := trodAll_cons hA
  obtain ⟨v1, vs1, d1, ds1, p1, q1, hargs1, rfl, rfl, h1, r1⟩ := trodAll_cons r0
  obtain ⟨hnil, rfl, rfl⟩ := trodAll_nil r1
  obtain rfl : args = #[v0, v1] := by cases args; simp_all
  obtain ⟨a0, len0, cap0, rfl⟩ := okWide_slice Tryd.underlying22 (hval 0 22 v0 rfl rfl)
  have k0 := h0
  have lt0 : ∀ x ∈ p0, x.block < W.heap.size := by obtain ⟨m, hm⟩ := k0; exact DataW.trod_lt m _ _ _ hm
  obtain ⟨z0, w0⟩ : ∃ zs, ag.IsRow .u8 W a0 len0 cap0 zs := by
    obtain ⟨fuel, hf⟩ := h0
    rcases open_ints Tryd.underlying22 Tryd.underlying5 (by kernel_rfl) hf with ⟨hcs, _⟩ | ⟨x, l, c, zs, hcs, _, hl, hm, hz, _, hcell, hwz⟩
    · simp [Value.cells] at hcs
      obtain ⟨rfl, rfl, rfl⟩ := hcs
      exact ⟨[], .inl ⟨rfl, rfl, rfl, rfl⟩⟩
    · simp [Value.cells] at hcs
      obtain ⟨rfl, rfl, rfl⟩ := hcs
      exact ⟨zs, .inr ⟨_, rfl, hl, hm, by simpa using hz, hcell, hwz⟩⟩
  obtain ⟨a1, len1, cap1, rfl⟩ := okWide_slice Tryd.underlying22 (hval 1 22 v1 rfl rfl)
  have k1 := h1
  have lt1 : ∀ x ∈ p1, x.block < W.heap.size := by obtain ⟨m, hm⟩ := k1; exact DataW.trod_lt m _ _ _ hm
  obtain ⟨z1, w1⟩ : ∃ zs, ag.IsRow .u8 W a1 len1 cap1 zs := by
    obtain ⟨fuel, hf⟩ := h1
    rcases open_ints Tryd.underlying22 Tryd.underlying5 (by kernel_rfl) hf with ⟨hcs, _⟩ | ⟨x, l, c, zs, hcs, _, hl, hm, hz, _, hcell, hwz⟩
    · simp [Value.cells] at hcs
      obtain ⟨rfl, rfl, rfl⟩ := hcs
      exact ⟨[], .inl ⟨rfl, rfl, rfl, rfl⟩⟩
    · simp [Value.cells] at hcs
      obtain ⟨rfl, rfl, rfl⟩ := hcs
      exact ⟨zs, .inr ⟨_, rfl, hl, hm, by simpa using hz, hcell, hwz⟩⟩
  clear hA0
  simp only [List.append_nil] at hW'
  have hLL : laidMet Tryd.prog Rows.fnStuffRow.laid W := hL
  obtain ⟨ps, hLV, _⟩ := hLL
  obtain ⟨rfl, rfl⟩ := trodVars_none hV
  obtain ⟨m, hm⟩ := Tryd.laysM219.s1_3 W hsh
  refine (walk a0 len0 cap0 z0 a1 len1 cap1 z1 W w0 w1 m hm).mono fun e W' ⟨he, bel⟩ => ?_
  subst he
  exact ⟨_, rfl, _, _, _, [], _, [], hW', trodAll_cons_mk (shut_bool Tryd.underlying4 _) trodAll_mk0, (trodAll_cons_mk (Below.trod laidOut (by kernel_rfl) (of_decide_eq_true (by kernel_rfl)) k0 bel lt0) (trodAll_cons_mk (Below.trod laidOut (by kernel_rfl) (of_decide_eq_true (by kernel_rfl)) k1 bel lt1) trodAll_mk0)), rfl, bel.frame _, fun h => by cases h⟩
def putF (o : Obj) : Obj := match o with
  | .cells _ t frozen => .cells (Go.Pinned.utf8FirstZ.map fun (n : Nat) => Value.int .u8 (n : Int)).toArray t frozen
  | o => o
set_option maxRecDepth 100000 in
theorem laid_met (os : Os) : laidMet Tryd.prog Rows.fnStuffRow.laid (({ World.doorLaid Tryd.prog 19 os with heap := (World.doorLaid Tryd.prog 19 os).heap.modify 1 putF } : World).forCall (fun _ _ => 0) ⟨#[], #[Value.slice none 0 0, Value.slice none 0 0], []⟩).memory :=
  laidMet_of_run' 8 (by kernel_rfl) (by kernel_rfl)
theorem reads (os : Os) {H : Type} (enc : TypeId × Value → H) : ∃ places, DataW.whole enc Tryd.prog (({ World.doorLaid Tryd.prog 19 os with heap := (World.doorLaid Tryd.prog 19 os).heap.modify 1 putF } : World).forCall (fun _ _ => 0) ⟨#[], #[Value.slice none 0 0, Value.slice none 0 0], []⟩).memory Tryd.f3.params.toList Rows.fnStuffSpec.vars false #[Value.slice none 0 0, Value.slice none 0 0].toList 8 = some ([.nil, .nil], [], places) :=
  ⟨[], by kernel_rfl⟩

set_option maxRecDepth 100000 in
theorem lifted (os : Os) (started : os.Started) (H : Type) (enc : TypeId × Value → H) (F : Stop.Interp) :
    ReturnsInHanded {} Tryd.checked os 3 .any ((OpenSpec.ofChange Rows.fnStuffSpec).preRow enc Tryd.prog Tryd.f3 Rows.fnStuffRow.domain false Rows.fnStuffRow.laid) (((OpenSpec.ofChange Rows.fnStuffSpec).at F).post enc Tryd.prog Tryd.f3 false true false false) := by
  obtain ⟨places, hx⟩ := reads os enc
  refine returnsInHanded_of_row (C := Tryd.checked) (s := OpenSpec.ofChange Rows.fnStuffSpec) own started (by kernel_rfl) Tryd.func3
    (witness_row_atRef (enc := enc) (C := Tryd.checked) false ({ World.doorLaid Tryd.prog 19 os with heap := (World.doorLaid Tryd.prog 19 os).heap.modify 1 putF } : World) #[Value.slice none 0 0, Value.slice none 0 0] rfl (by kernel_rfl) (by kernel_rfl) (by kernel_rfl)
      (OpenSpec.preRow_of_cond 8 hx (by kernel_rfl) (fun k hk => by cases hk) (by kernel_rfl) (laid_met os))) ?_
  intro W base args ds gs before hval hW _ _ _ hL hsh _
  exact contract H enc W base args ds gs before hval hW hL hsh

theorem said : Rows.FnStuffSaid :=
  OpenClaim.holds_of_cond 3 Tryd.f3 rfl rfl rfl rfl rfl rfl rfl ⟨rfl, rfl, rfl, rfl, rfl⟩ rfl rfl rfl rfl rfl (by kernel_rfl) Tryd.func3 (by kernel_rfl)
    (of_decide_eq_true (by kernel_rfl)) (by unfold Func.isWrapper; first | (rw [if_pos (by decide +kernel)]; kernel_rfl) | (rw [if_neg (by decide +kernel)]; exact ⟨rfl, rfl⟩))
    (fun os started H enc _ F => by rw [OpenClaim.pre_eq_preRow]; exact lifted os started H enc F)

theorem plain (f : FuncId) (fn : Func) (hf : Tryd.pinned.checked.prog.funcNamed Rows.fnStuffRow.func = some f) (hfn : Tryd.pinned.checked.prog.funcs[f]? = some fn) :
    false = Tryd.pinned.checked.prog.looks [] ∧ ∀ (j : Nat) t, fn.params[j]? = some t → Tryd.pinned.checked.prog.wantsStandIn t = false := by
  obtain rfl : f = 3 := Option.some.inj ((show Tryd.prog.funcNamed Rows.fnStuffRow.func = some 3 by kernel_rfl).symm.trans hf) |>.symm
  obtain rfl : fn = Tryd.f3 := (Option.some.inj (Tryd.func3.symm.trans hfn)).symm
  refine ⟨by kernel_rfl, fun j t ht => ?_⟩
  rw [Tryd.params3] at ht
  obtain rfl : t = 22 := by simpa using Array.mem_of_getElem? ht
  exact (show Tryd.prog.wantsStandIn 22 = false by kernel_rfl)

theorem card : Rows.FnStuffCardSaid :=
  Claim7.holds_tied_plain_at .later [] _ _ _ _ said (fun _ h => by cases h) (by kernel_rfl) (fun _ h => by cases h) fnStuff_row_tie rfl ⟨rfl, rfl⟩ (by kernel_rfl) rfl plain (by kernel_rfl)
end Go.Proofs.YtcflfejdpjphjaaDoor.fnStuff
namespace Go.Proofs.YtcflfejdpjphjaaDoor
theorem fnStuff_card : Rows.FnStuffCardSaid := fnStuff.card
#print axioms fnStuff_card
end Go.Proofs.YtcflfejdpjphjaaDoor
