/-
  The two ParseMail functions answer alike at every text, the answer owns its memory, and the argument stays as it was.
-/
import Derived.Test.YtkclakfgpanplaaDoorCards
import Derived.Test.YtkclakfgpanplaaDoorTie
import Derived.Test.YtkclakfgpanplaaDoorPah
import Derived.WalkKit
import Derived.ProofKit
import Derived.OpenShut
import Derived.ShutString
import Derived.OpenVars
import Derived.ChangeOld
import Derived.Below
import Derived.Deep.DeepHandedRow
import Derived.Deep.DeepWitnessRowRef
import Derived.LaidMore
import Derived.Lib.LaidTab
namespace Go.Proofs.YtkclakfgpanplaaDoor.fnExactParseMail
open Go.ChangeShapes Go.WideShapes Go.ChangeAt Go.RowKit
open Go.ChangeMaps (open_string shut_string)
set_option linter.unusedVariables false

theorem own : ownKnob Tryd.prog.godebug = none := by kernel_rfl
theorem laidOut : laidOutB Tryd.prog = true := by kernel_rfl

set_option maxHeartbeats 4000000 in
set_option maxRecDepth 100000 in
theorem walk (a0 : ByteArray) (w0 : a0.size ≤ maxLen) (w : World)  (m : Int) (hm : w.cell? ⟨0, 0, none⟩ = some (.int .i64 m)) :
    Calls Tryd.prog 4 #[.string a0] w fun e w' => e = .returned (.bool true) ∧ Below w.heap.size w w' := by
  by_cases hbig : 1048576 < a0.size
  · have hb : (1048576 : Int) < (a0.size : Int) := by omega
    clear hm
    go_enter Tryd.func4, Tryd.ntmps4
    go_wp2
    go_ret
    exact ⟨rfl, Below.refl _ _⟩
  have hb : (a0.size : Int) ≤ 1048576 := by omega
  have hb' : a0.size ≤ 1048576 := by omega
  have hgl := World.block_lt_of_cell? _ _ hm
  have HM : Hid (∀ W, Below w.heap.size w W → W.cell? ⟨0, 0, none⟩ = some (.int .i64 m)) := fun W hW => (hW.cell (p := ⟨0, 0, none⟩) hgl).trans hm
  clear hm hgl
  go_enter Tryd.func4, Tryd.ntmps4
  go_wp2_with fail
  refine (ml.specMail_any a0 w hb').mono ?_
  rintro e w1 ⟨h1, b1⟩
  obtain ⟨fs, b, v1, c, hp, rfl, hfa1, hfl⟩ := ml.pm_of h1
  have HP : Hid (ml.PmIs a0.data.toList fs b c) := hp
  have HF1 : Hid (ml.FieldsAt w1 w.heap.size v1 fs) := hfa1
  obtain ⟨x1, cap1, rfl⟩ := ml.fields_form hfa1
  have HB1 : Hid (Below w.heap.size w w1) := b1
  clear h1 hp hfa1 b1
  generalize hT : ml.tv b = T
  obtain ⟨T, rfl⟩ : ∃ y : ByteArray, T = .string y := ⟨_, hT.symm⟩
  have HT : Hid (ml.tv b = .string T) := hT
  clear hT
  have bx1 : Below w1.heap.size w1 (w1.alloc (.cells #[.slice x1 fs.length cap1, .string T] 27)) := (Below.refl _ _).alloc (Nat.le_refl _) _
  have HX1 : Hid (b2.Box (w1.alloc (.cells #[.slice x1 fs.length cap1, .string T] 27)) w1.heap.size 27 (.slice x1 fs.length cap1) (.string T)) := b2.new _ _ _ _
  have HF1' : Hid (ml.FieldsAt (w1.alloc (.cells #[.slice x1 fs.length cap1, .string T] 27)) w.heap.size (.slice x1 fs.length cap1) fs) := ow.own_below HF1.out bx1
  have HB1' : Hid (Below w.heap.size w (w1.alloc (.cells #[.slice x1 fs.length cap1, .string T] 27))) := HB1.out.alloc HB1.out.size _
  clear bx1 HF1 HB1
  go_wp2_with fail
  generalize hW1 : World.alloc _ _ = W1 at HX1 HF1' HB1' ⊢
  clear hW1
  refine (ml.implMail_any a0 W1 m (HM.out _ HB1'.out) hb').mono ?_
  rintro e w2 ⟨h2, hb2⟩
  obtain ⟨fs2, b2', v2, c2, hp2, rfl, hfa2, _⟩ := ml.pm_of h2
  obtain ⟨rfl, rfl, rfl⟩ := ml.pm_one HP.out hp2
  obtain ⟨x2, cap2, rfl⟩ := ml.fields_form hfa2
  rw [HT.out]
  have HF2 : Hid (ml.FieldsAt w2 W1.heap.size (.slice x2 fs.length cap2) fs) := hfa2
  have HX1b : Hid (b2.Box w2 w1.heap.size 27 (.slice x1 fs.length cap1) (.string T)) := HX1.out.below hb2
  have HF1b : Hid (ml.FieldsAt w2 w.heap.size (.slice x1 fs.length cap1) fs) := ow.own_below HF1'.out hb2
  have HB2 : Hid (Below w.heap.size w w2) := HB1'.out.trans (hb2.mono HB1'.out.size)
  have HLT : Hid (w1.heap.size < W1.heap.size) := HX1.out.lt
  have HSZ : Hid (w.heap.size ≤ W1.heap.size) := HB1'.out.size
  have HA1 : Hid ((Value.slice x1 fs.length cap1).ownBlock = none ∨ (Value.slice x1 fs.length cap1).ownBlock ≠ (Value.slice x2 fs.length cap2).ownBlock) := ow.apart HF1'.out hfa2
  have HSW : Hid (W1.heap.size ≤ w2.heap.size) := hb2.size
  clear h2 hp2 hfa2 hb2 HX1 HF1' HB1'
  have bx2 : Below w2.heap.size w2 (w2.alloc (.cells #[.slice x2 fs.length cap2, .string T] 27)) := (Below.refl _ _).alloc (Nat.le_refl _) _
  have HX2 : Hid (b2.Box (w2.alloc (.cells #[.slice x2 fs.length cap2, .string T] 27)) w2.heap.size 27 (.slice x2 fs.length cap2) (.string T)) := b2.new _ _ _ _
  have HX1c : Hid (b2.Box (w2.alloc (.cells #[.slice x2 fs.length cap2, .string T] 27)) w1.heap.size 27 (.slice x1 fs.length cap1) (.string T)) := HX1b.out.below bx2
  have HF1c : Hid (ml.FieldsAt (w2.alloc (.cells #[.slice x2 fs.length cap2, .string T] 27)) w.heap.size (.slice x1 fs.length cap1) fs) := ow.own_below HF1b.out bx2
  have HF2c : Hid (ml.FieldsAt (w2.alloc (.cells #[.slice x2 fs.length cap2, .string T] 27)) W1.heap.size (.slice x2 fs.length cap2) fs) := ow.own_below HF2.out bx2
  have HB3 : Hid (Below w.heap.size w (w2.alloc (.cells #[.slice x2 fs.length cap2, .string T] 27))) := HB2.out.alloc HB2.out.size _
  have c0 := HX1c.out.c0
  have c1 := HX1c.out.c1
  clear bx2 HX1b HF1b HF2 HB2
  go_wp2_with fail
  generalize hW2 : World.alloc _ _ = W2 at HX2 HX1c HF1c HF2c HB3 c0 c1 ⊢
  clear hW2 c0 c1
  have HPL : Hid ((fa.AttrsAt W2 (.slice x2 fs.length cap2) (ml.prs fs)) ∧ fa.AttrsAt W2 (.slice x1 fs.length cap1) (ml.prs fs)) := ⟨ml.fields_attrs HF2c.out, ml.fields_attrs HF1c.out⟩
  refine (ml.eqMail_any _ _ T (ml.prs fs) W2 HPL.out.1 HPL.out.2 (by rw [ml.prs_len]; exact hfl)).mono ?_
  rintro e w3 ⟨rfl, hb3⟩
  have HX2d : Hid (b2.Box w3 w2.heap.size 27 (.slice x2 fs.length cap2) (.string T)) := HX2.out.below hb3
  have HX1d : Hid (b2.Box w3 w1.heap.size 27 (.slice x1 fs.length cap1) (.string T)) := HX1c.out.below hb3
  have HF1d : Hid (ml.FieldsAt w3 w.heap.size (.slice x1 fs.length cap1) fs) := ow.own_below HF1c.out hb3
  have HF2d : Hid (ml.FieldsAt w3 W1.heap.size (.slice x2 fs.length cap2) fs) := ow.own_below HF2c.out hb3
  have HB3d : Hid (Below w.heap.size w w3) := HB3.out.trans (hb3.mono HB3.out.size)
  have c0 := HX2d.out.c0
  have c1 := HX2d.out.c1
  have hcc : (c != c) = false := by simp
  clear hb3 HPL HX2 HX1c HF1c HF2c HB3
  go_wp2_with fail
  clear c0 c1
  refine (ml.markMail_any (.slice x2 fs.length cap2) T W1.heap.size fs.length (ml.fcells fs) 1 w3 HF2d.out hfl (by omega) (by omega)).mono ?_
  rintro e w4 ⟨rfl, ho4, hg4⟩
  have HM4 : Hid (w4.ownsRow W1.heap.size 57 2 (.slice x2 fs.length cap2) fs.length (mk.marks 1 (fs.length * 2))) := ho4
  have HX2e : Hid (b2.Box w4 w2.heap.size 27 (.slice x2 fs.length cap2) (.string T)) := ml.box_grown0 HX2d.out HF2d.out (by decide) hg4
  have HX1e : Hid (b2.Box w4 w1.heap.size 27 (.slice x1 fs.length cap1) (.string T)) := ml.box_grown0 HX1d.out HF2d.out (by decide) hg4
  have HF1e : Hid (ml.FieldsAt w4 w.heap.size (.slice x1 fs.length cap1) fs) := (show ml.FieldsAt _ _ _ _ from HF1d.out.kept hg4 (HA1.out.imp id (fun h => fun x => h x)))
  have HB4 : Hid (Below w.heap.size w w4) := Below.grown HB3d.out hg4 HB3d.out.size (fun j hj => Nat.le_trans HSZ.out (ow.own_lt HF2d.out j hj))
  have c0 := HX2e.out.c0
  have c1 := HX2e.out.c1
  clear ho4 hg4 HX2d HX1d HF1d HF2d HB3d
  go_wp2_with fail
  clear c0 c1
  refine (ml.heldMail_any (.slice x2 fs.length cap2) T W1.heap.size fs.length 1 w4 HM4.out hfl (by omega) (by omega)).mono ?_
  rintro e w5 ⟨rfl, hb5⟩
  have HM5 : Hid (w5.ownsRow W1.heap.size 57 2 (.slice x2 fs.length cap2) fs.length (mk.marks 1 (fs.length * 2))) := ow.own_below HM4.out hb5
  have HX2f : Hid (b2.Box w5 w2.heap.size 27 (.slice x2 fs.length cap2) (.string T)) := HX2e.out.below hb5
  have HX1f : Hid (b2.Box w5 w1.heap.size 27 (.slice x1 fs.length cap1) (.string T)) := HX1e.out.below hb5
  have HF1f : Hid (ml.FieldsAt w5 w.heap.size (.slice x1 fs.length cap1) fs) := ow.own_below HF1e.out hb5
  have HB5 : Hid (Below w.heap.size w w5) := HB4.out.trans (hb5.mono HB4.out.size)
  clear hb5 HM4 HX2e HX1e HF1e HB4
  have hKp : ¬ 1 + 2 * (fs.length : Int) < 0 := by omega
  have HKE : Hid (∃ K : Int, K = 1 + 2 * (fs.length : Int) ∧ 0 ≤ K) := ⟨_, rfl, by omega⟩
  generalize hK : 1 + 2 * (fs.length : Int) = K at hKp ⊢
  have hKK : (K != K) = false := by simp
  have HK : Hid (1 + 2 * (fs.length : Int) = K) := hK
  clear hK HKE
  go_wp2_with fail
  refine (ml.implMail_any a0 w5 m (HM.out _ HB5.out) hb').mono ?_
  rintro e w6 ⟨h6, hb6⟩
  obtain ⟨fs6, b6, v6, c6, hp6, rfl, hfa6, _⟩ := ml.pm_of h6
  obtain ⟨rfl, rfl, rfl⟩ := ml.pm_one HP.out hp6
  obtain ⟨x6, cap6, rfl⟩ := ml.fields_form hfa6
  rw [HT.out]
  have HM6 : Hid (w6.ownsRow W1.heap.size 57 2 (.slice x2 fs.length cap2) fs.length (mk.marks 1 (fs.length * 2))) := ow.own_below HM5.out hb6
  have HX2g : Hid (b2.Box w6 w2.heap.size 27 (.slice x2 fs.length cap2) (.string T)) := HX2f.out.below hb6
  have HX1g : Hid (b2.Box w6 w1.heap.size 27 (.slice x1 fs.length cap1) (.string T)) := HX1f.out.below hb6
  have HF1g : Hid (ml.FieldsAt w6 w.heap.size (.slice x1 fs.length cap1) fs) := ow.own_below HF1f.out hb6
  have HF6 : Hid (ml.FieldsAt w6 w5.heap.size (.slice x6 fs.length cap6) fs) := hfa6
  have HB6 : Hid (Below w.heap.size w w6) := HB5.out.trans (hb6.mono HB5.out.size)
  clear hb6 h6 hp6 hfa6 HM5 HX2f HX1f HF1f HB5
  have bx6 : Below w6.heap.size w6 (w6.alloc (.cells #[.slice x6 fs.length cap6, .string T] 27)) := (Below.refl _ _).alloc (Nat.le_refl _) _
  have HM7 : Hid ((w6.alloc (.cells #[.slice x6 fs.length cap6, .string T] 27)).ownsRow W1.heap.size 57 2 (.slice x2 fs.length cap2) fs.length (mk.marks 1 (fs.length * 2))) := ow.own_below HM6.out bx6
  have HX2h : Hid (b2.Box (w6.alloc (.cells #[.slice x6 fs.length cap6, .string T] 27)) w2.heap.size 27 (.slice x2 fs.length cap2) (.string T)) := HX2g.out.below bx6
  have HX1h : Hid (b2.Box (w6.alloc (.cells #[.slice x6 fs.length cap6, .string T] 27)) w1.heap.size 27 (.slice x1 fs.length cap1) (.string T)) := HX1g.out.below bx6
  have HPL : Hid (fa.AttrsAt (w6.alloc (.cells #[.slice x6 fs.length cap6, .string T] 27)) (.slice x6 fs.length cap6) (ml.prs fs) ∧ fa.AttrsAt (w6.alloc (.cells #[.slice x6 fs.length cap6, .string T] 27)) (.slice x1 fs.length cap1) (ml.prs fs)) := ⟨ml.fields_attrs (ow.own_below HF6.out bx6), ml.fields_attrs (ow.own_below HF1g.out bx6)⟩
  have HB7 : Hid (Below w.heap.size w (w6.alloc (.cells #[.slice x6 fs.length cap6, .string T] 27))) := HB6.out.alloc HB6.out.size _
  have c0 := HX1h.out.c0
  have c1 := HX1h.out.c1
  clear bx6 HM6 HX2g HX1g HF1g HF6 HB6
  go_wp2_with fail
  generalize hW6 : World.alloc _ _ = W6 at HM7 HX2h HX1h HPL HB7 c0 c1 ⊢
  clear hW6 c0 c1
  refine (ml.eqMail_any _ _ T (ml.prs fs) W6 HPL.out.1 HPL.out.2 (by rw [ml.prs_len]; exact hfl)).mono ?_
  rintro e w7 ⟨rfl, hb7⟩
  have HM8 : Hid (w7.ownsRow W1.heap.size 57 2 (.slice x2 fs.length cap2) fs.length (mk.marks 1 (fs.length * 2))) := ow.own_below HM7.out hb7
  have HX2i : Hid (b2.Box w7 w2.heap.size 27 (.slice x2 fs.length cap2) (.string T)) := HX2h.out.below hb7
  have HB8 : Hid (Below w.heap.size w w7) := HB7.out.trans (hb7.mono HB7.out.size)
  have c0 := HX2i.out.c0
  have c1 := HX2i.out.c1
  clear hb7 HM7 HX2h HX1h HPL HB7
  go_wp2_with fail
  clear c0 c1
  refine (ml.heldMail_any (.slice x2 fs.length cap2) T W1.heap.size fs.length 1 w7 HM8.out hfl (by omega) (by omega)).mono ?_
  rintro e w8 ⟨rfl, hb8⟩
  have hb9 := HB8.out.trans (hb8.mono HB8.out.size)
  rw [HK.out]
  clear hb8 HM8 HX2i HB8
  go_wp2
  go_ret
  exact ⟨rfl, hb9⟩

set_option maxRecDepth 100000 in
theorem contract (H : Type) (enc : TypeId × Value → H) (W : World) (base : Nat) (args : Array Value) (ds gs : List (DataW H)) (before : List MemPlace)
    (hval : ∀ (j : Nat) t v, Tryd.f4.params[j]? = some t → args[j]? = some v → Value.okWide Tryd.prog W .any base t v)
    (hW : DataW.Whole enc Tryd.prog Tryd.f4.params.toList Rows.fnExactParseMailSpec.vars false W args.toList ds gs before) (hL : laidMetH Tryd.prog Rows.fnExactParseMailRow.laid W) (hsh : W.ShapedOpen Tryd.prog) :
    Calls Tryd.prog 4 args W fun e W' => ∃ v, e = .returned v ∧ Rows.fnExactParseMailSpec.post enc Tryd.prog Tryd.f4 false true false false W args v W' := by
  have hW' := hW
  obtain ⟨p, q, hA0, hV, rfl, hfz, hnd⟩ := hW
  have hA : DataW.TrodAll enc Tryd.prog W 0 (fun _ => true) true Tryd.f4.params.toList args.toList ds p := hA0
  rw [Tryd.params4] at hA hval
  obtain ⟨v0, vs0, d0, ds0, p0, q0, hargs0, rfl, rfl, h0, r0⟩ := trodAll_cons hA
  obtain ⟨hnil, rfl, rfl⟩ := trodAll_nil r0
  obtain rfl : args = #[v0] := by cases args; simp_all
  obtain ⟨a0, rfl, rfl, rfl, w0⟩ := open_string Tryd.underlying9 (hval 0 9 v0 rfl rfl) h0
  clear hA0
  simp only [List.append_nil] at hW'
  have hLL : laidMet Tryd.prog Rows.fnExactParseMailRow.laid W := hL
  obtain ⟨ps, hLV, _⟩ := hLL
  obtain ⟨rfl, rfl⟩ := trodVars_none hV
  obtain ⟨m, hm⟩ := Tryd.laysM219.s1_3 W hsh
  refine (walk a0 w0 W  m hm).mono fun e W' ⟨he, bel⟩ => ?_
  subst he
  exact ⟨_, rfl, _, _, _, [], [], [], hW', trodAll_cons_mk (shut_bool Tryd.underlying4 _) trodAll_mk0, (trodAll_cons_mk (shut_string Tryd.underlying9 w0) trodAll_mk0), rfl, bel.frame _, fun h => by cases h⟩
def putF (o : Obj) : Obj := match o with
  | .cells _ t frozen => .cells (Go.Pinned.utf8FirstZ.map fun (n : Nat) => Value.int .u8 (n : Int)).toArray t frozen
  | o => o
set_option maxRecDepth 100000 in
theorem laid_met (os : Os) : laidMet Tryd.prog Rows.fnExactParseMailRow.laid (({ World.doorLaid Tryd.prog 19 os with heap := (World.doorLaid Tryd.prog 19 os).heap.modify 1 putF } : World).forCall (fun _ _ => 0) ⟨#[], #[Value.string .empty], []⟩).memory :=
  laidMet_of_run' 8 (by kernel_rfl) (by kernel_rfl)
theorem reads (os : Os) {H : Type} (enc : TypeId × Value → H) : ∃ places, DataW.whole enc Tryd.prog (({ World.doorLaid Tryd.prog 19 os with heap := (World.doorLaid Tryd.prog 19 os).heap.modify 1 putF } : World).forCall (fun _ _ => 0) ⟨#[], #[Value.string .empty], []⟩).memory Tryd.f4.params.toList Rows.fnExactParseMailSpec.vars false #[Value.string .empty].toList 8 = some ([.lit (.string [])], [], places) :=
  ⟨[], by kernel_rfl⟩

set_option maxRecDepth 100000 in
theorem lifted (os : Os) (started : os.Started) (H : Type) (enc : TypeId × Value → H) (F : Stop.Interp) :
    ReturnsInHanded {} Tryd.checked os 4 .any ((OpenSpec.ofChange Rows.fnExactParseMailSpec).preRow enc Tryd.prog Tryd.f4 Rows.fnExactParseMailRow.domain false Rows.fnExactParseMailRow.laid) (((OpenSpec.ofChange Rows.fnExactParseMailSpec).at F).post enc Tryd.prog Tryd.f4 false true false false) := by
  obtain ⟨places, hx⟩ := reads os enc
  refine returnsInHanded_of_row (C := Tryd.checked) (s := OpenSpec.ofChange Rows.fnExactParseMailSpec) own started (by kernel_rfl) Tryd.func4
    (witness_row_atRef (enc := enc) (C := Tryd.checked) false ({ World.doorLaid Tryd.prog 19 os with heap := (World.doorLaid Tryd.prog 19 os).heap.modify 1 putF } : World) #[Value.string .empty] rfl (by kernel_rfl) (by kernel_rfl) (by kernel_rfl)
      (OpenSpec.preRow_of_cond 8 hx (by kernel_rfl) (fun k hk => by cases hk) (by kernel_rfl) (laid_met os))) ?_
  intro W base args ds gs before hval hW _ _ _ hL hsh _
  exact contract H enc W base args ds gs before hval hW hL hsh

theorem said : Rows.FnExactParseMailSaid :=
  OpenClaim.holds_of_cond 4 Tryd.f4 rfl rfl rfl rfl rfl rfl rfl ⟨rfl, rfl, rfl, rfl, rfl⟩ rfl rfl rfl rfl rfl (by kernel_rfl) Tryd.func4 (by kernel_rfl)
    (of_decide_eq_true (by kernel_rfl)) (by unfold Func.isWrapper; first | (rw [if_pos (by decide +kernel)]; kernel_rfl) | (rw [if_neg (by decide +kernel)]; exact ⟨rfl, rfl⟩))
    (fun os started H enc _ F => by rw [OpenClaim.pre_eq_preRow]; exact lifted os started H enc F)

theorem plain (f : FuncId) (fn : Func) (hf : Tryd.pinned.checked.prog.funcNamed Rows.fnExactParseMailRow.func = some f) (hfn : Tryd.pinned.checked.prog.funcs[f]? = some fn) :
    false = Tryd.pinned.checked.prog.looks [] ∧ ∀ (j : Nat) t, fn.params[j]? = some t → Tryd.pinned.checked.prog.wantsStandIn t = false := by
  obtain rfl : f = 4 := Option.some.inj ((show Tryd.prog.funcNamed Rows.fnExactParseMailRow.func = some 4 by kernel_rfl).symm.trans hf) |>.symm
  obtain rfl : fn = Tryd.f4 := (Option.some.inj (Tryd.func4.symm.trans hfn)).symm
  refine ⟨by kernel_rfl, fun j t ht => ?_⟩
  rw [Tryd.params4] at ht
  obtain rfl : t = 9 := by simpa using Array.mem_of_getElem? ht
  exact (show Tryd.prog.wantsStandIn 9 = false by kernel_rfl)

theorem card : Rows.FnExactParseMailCardSaid :=
  Claim7.holds_tied_plain_at .later [] _ _ _ _ said (fun _ h => by cases h) (by kernel_rfl) (fun _ h => by cases h) fnExactParseMail_row_tie rfl ⟨rfl, rfl⟩ (by kernel_rfl) rfl plain (by kernel_rfl)
end Go.Proofs.YtkclakfgpanplaaDoor.fnExactParseMail
namespace Go.Proofs.YtkclakfgpanplaaDoor
theorem fnExactParseMail_card : Rows.FnExactParseMailCardSaid := fnExactParseMail.card
#print axioms fnExactParseMail_card
end Go.Proofs.YtkclakfgpanplaaDoor
