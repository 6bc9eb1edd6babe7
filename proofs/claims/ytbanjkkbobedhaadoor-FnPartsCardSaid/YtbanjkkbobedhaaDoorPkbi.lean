/-
  FnParts holds at every world: the mail of a drawn entry is its header with the empty line and its text, and its fields are found in letters of either size; the two tables of package unicode/utf8, strconv and the program that the seat's page names are tied.
-/
import Derived.Test.YtbanjkkbobedhaaDoorCards
import Derived.Test.YtbanjkkbobedhaaDoorTie
import Derived.Test.YtbanjkkbobedhaaDoorPkbh
import Derived.Test.YtbanjkkbobedhaaDoorPkax
import Derived.WalkKit
import Derived.ProofKit
import Derived.OpenShut
import Derived.ShutString
import Derived.OpenVars
import Derived.ChangeOld
import Derived.Below
import Derived.Deep.DeepHandedRow
import Derived.Deep.DeepWitnessRowRef
import Derived.LaidMore
import Derived.Lib.LaidTab

namespace Go.Proofs.YtbanjkkbobedhaaDoor.fnParts
open Go.ChangeShapes Go.WideShapes Go.ChangeAt Go.RowKit
open Go.ChangeMaps (open_string shut_string)
set_option linter.unusedVariables false

theorem own : ownKnob Tryd.prog.godebug = none := by kernel_rfl
theorem laidOut : laidOutB Tryd.prog = true := by kernel_rfl

set_option maxHeartbeats 4000000 in
set_option maxRecDepth 100000 in
theorem walk (a0 : Option Addr) (len0 cap0 : Nat) (z0 : List Int) (a1 : Option Addr) (len1 cap1 : Nat) (z1 : List Int) (w : World) (w0 : ag.IsRow .u8 w a0 len0 cap0 z0) (w1 : ag.IsRow .u8 w a1 len1 cap1 z1) (m : Int) (hm : w.cell? ⟨0, 0, none⟩ = some (.int .i64 m)) :
    Calls Tryd.prog 3 #[.slice a0 len0 cap0, .slice a1 len1 cap1] w fun e w' => e = .returned (.bool true) ∧ Below w.heap.size w w' := by
  by_cases hbig : 1048576 < len0
  · have hb : (1048576 : Int) < (len0 : Int) := by omega
    clear w0 w1 hm
    go_enter Tryd.func3, Tryd.ntmps3
    go_wp2
    go_ret
    exact ⟨rfl, Below.refl _ _⟩
  have hb : (len0 : Int) ≤ 1048576 := by omega
  by_cases hbig1 : 1048576 < len1
  · have hb1 : (1048576 : Int) < (len1 : Int) := by omega
    clear w0 w1 hm
    go_enter Tryd.func3, Tryd.ntmps3
    go_wp2
    go_ret
    exact ⟨rfl, Below.refl _ _⟩
  have hb1 : (len1 : Int) ≤ 1048576 := by omega
  have HB : Hid (se.Bytes w a0 len0) := me.row_bytes w0 (by omega)
  obtain ⟨zs, hr, hzl, hby⟩ := me.row_reads w1
  have HCK : Hid (∀ W, Below w.heap.size w W → ow.Reads .u8 W (.slice a1 len1 cap1) zs) := fun W hbel => ow.reads_keep hr (fun a u h => (hbel.cell (p := a) (World.block_lt_of_cell? w _ h)).trans h)
  have HBY : Hid (ck.Bytes zs ∧ zs.length ≤ 1048576) := ⟨hby, by omega⟩
  have hgl := World.block_lt_of_cell? _ _ hm
  have HM : Hid (∀ W, Below w.heap.size w W → W.cell? ⟨0, 0, none⟩ = some (.int .i64 m)) := fun W kW => (kW.cell (p := ⟨0, 0, none⟩) hgl).trans hm
  clear w0 w1 hm hgl hr hzl hby
  go_enter Tryd.func3, Tryd.ntmps3
  go_wp2_with fail
  refine (se.entryOf_any _ a0 len0 cap0 HB.out).mono ?_
  rintro e x1 ⟨⟨i, t, l, a, c, d, rfl, hi, ht, hl, ha, hc, d0, d1⟩, b1⟩
  obtain ⟨s, H, T, ps, sv, hT⟩ := me.told_of (en.drawn_ok hi ht hl ha hc d0 d1)
  have HS : Hid (me.Told i t l a d c s H T ps sv) := hT
  clear hi ht hl ha hc d0 d1 hT HB
  unfold se.EV6
  go_wp2_with fail
  refine (rn.specRE_any ⟨i, t, l, a, d, c⟩ me.news x1 HS.out.small (by decide)).mono ?_
  rintro e x2 ⟨h2, hb2⟩
  obtain rfl := HS.out.re _ h2
  have b2 := b1.trans (hb2.mono b1.size)
  clear h2 hb2 b1
  go_wp2_with fail
  refine (ml.implPart_any s ⟨#[]⟩ x2 m (HM.out x2 b2) (by have := HS.out.size; omega) (by decide)).mono ?_
  rintro e x3 ⟨h3, hb3⟩
  obtain rfl := HS.out.all _ h3
  have b3 := b2.trans (hb3.mono b2.size)
  clear h3 hb3 b2
  go_wp2_with fail
  refine (ml.implPart_any s me.hdrT x3 m (HM.out x3 b3) (by have := HS.out.size; omega) (by decide)).mono ?_
  rintro e x4 ⟨h4, hb4⟩
  obtain rfl := HS.out.head _ h4
  have b4 := b3.trans (hb4.mono b3.size)
  clear h4 hb4 b3
  go_wp2_with fail
  refine (ml.implPart_any s me.txtT x4 m (HM.out x4 b4) (by have := HS.out.size; omega) (by decide)).mono ?_
  rintro e x5 ⟨h5, hb5⟩
  obtain rfl := HS.out.text _ h5
  have b5 := b4.trans (hb5.mono b4.size)
  clear h5 hb5 b4
  go_wp2_with fail
  refine (ml.implMail_any s x5 m (HM.out x5 b5) (by have := HS.out.size; omega)).mono ?_
  rintro e x6 ⟨h6, hb6⟩
  obtain ⟨v, rfl, hv⟩ := HS.out.parse _ _ _ h6
  have HV : Hid (fa.AttrsAt x6 v ps) := hv
  obtain ⟨va, vc, rfl, _⟩ := hv
  have b6 := b5.trans (hb6.mono b5.size)
  clear h6 hb6 b5
  have z6 : Below x6.heap.size x6 (x6.alloc (.cells #[.slice va ps.length vc, .string T] 31)) := (Below.refl _ _).alloc (Nat.le_refl _) _
  have R6 : (x6.alloc (.cells #[.slice va ps.length vc, .string T] 31)).heap[x6.heap.size]? = some (.cells #[.slice va ps.length vc, .string T] 31 (0, 0)) := by show (x6.heap.push _)[x6.heap.size]? = _; simp
  have c0 : (x6.alloc (.cells #[.slice va ps.length vc, .string T] 31)).cell? ⟨x6.heap.size, 0, none⟩ = some (.slice va ps.length vc) := by rw [cell_of_row _ _ _ _ _ _ R6]; rfl
  have c1 : (x6.alloc (.cells #[.slice va ps.length vc, .string T] 31)).cell? ⟨x6.heap.size, 0 + 1, none⟩ = some (.string T) := by rw [cell_of_row _ _ _ _ _ _ R6]; rfl
  have b7 := b6.trans (z6.mono b6.size)
  have HV7 : Hid (fa.AttrsAt (x6.alloc (.cells #[.slice va ps.length vc, .string T] 31)) (.slice va ps.length vc) ps) := fa.at_below HV.out z6
  have hlt : x6.heap.size < (x6.alloc (.cells #[.slice va ps.length vc, .string T] 31)).heap.size := by simp
  clear R6 z6 b6 HV
  have hs4 := HS.out.four
  have hHT : H.size + T.size ≤ 65536 := by have := HS.out.size; rw [← HS.out.both, ByteArray.size_append] at this; exact this
  have hss : (s.toList != s.toList) = false := by simp
  have hTT : (T.toList != T.toList) = false := by simp
  have hbt : (H ++ T).toList = s.toList := by rw [HS.out.both]
  obtain ⟨k, hk⟩ : ∃ k, H.size = k + 4 := ⟨H.size - 4, by omega⟩
  have he : H.extract k (k + 4) = ⟨#[13, 10, 13, 10]⟩ := by have := HS.out.ends; rw [hk] at this; exact this
  have HE : Hid (H.extract k (k + 4) = ⟨#[13, 10, 13, 10]⟩ ∧ H.size = k + 4) := ⟨he, hk⟩
  have h4f : decide ((H.size : Int) < 4) = false := decide_eq_false (by omega)
  have hsl : ∀ wx : World, (Instr.slice 9 (.string H) (some (.int .i64 ((H.size : Int) - 4))) none none).run Tryd.prog wx = .ok (.string ⟨#[13, 10, 13, 10]⟩) wx := fun wx => by
    rw [run_slice_string_l (P := Tryd.prog) (w := wx) 9 H Tryd.underlying9 .i64 _ (by omega) (by omega)]
    rw [show ((H.size : Int) - 4).toNat = k by omega, hk, he]
  clear he hk
  have HFO : Hid (∀ W nm, fa.AttrsAt W (.slice va ps.length vc) ps → nm.size ≤ 1048576 → fo.foC ps nm = (sv, 0) → Calls Tryd.prog 8 #[.agg #[.slice va ps.length vc, .string T], .string nm] W fun e w' => e = .returned (.tuple #[.string sv, .int .i64 0]) ∧ Below W.heap.size W w') := fun W nm hA hn hf => (fo.impl_fo _ T ps nm W hA HS.out.few hn).mono fun e w' h => ⟨by rw [h.1, hf], h.2⟩
  go_wp2_with fail
  generalize x6.alloc _ = x7 at c0 c1 b7 HV7 hlt ⊢
  generalize x6.heap.size = G at c0 c1 hlt ⊢
  refine (HFO.out x7 me.subA HV7.out (by decide) HS.out.subj).mono ?_
  rintro e x8 ⟨rfl, hb8⟩
  have d0 := (hb8.cell (p := ⟨G, 0, none⟩) hlt).trans c0
  have d1 := (hb8.cell (p := ⟨G, 0 + 1, none⟩) hlt).trans c1
  have b8 := b7.trans (hb8.mono b7.size)
  have HV8 : Hid (fa.AttrsAt x8 (.slice va ps.length vc) ps) := fa.at_below HV7.out hb8
  clear c0 c1 b7 hb8 HV7 hlt
  go_wp2_with fail
  refine (HFO.out x8 me.subB HV8.out (by decide) HS.out.subj2).mono ?_
  rintro e x9 ⟨rfl, hb9⟩
  have b9 := b8.trans (hb9.mono b8.size)
  clear d0 d1 b8 hb9 HV8 HFO
  have hvv : (sv.toList == sv.toList) = true := by simp
  obtain ⟨X, hX0⟩ : ∃ X : Int, X = (if zs.length ≤ 65536 then ((ck.sum zs : Nat) : Int) else 0) := ⟨_, rfl⟩
  have HI : Hid (Calls Tryd.prog 9 #[.slice a1 len1 cap1] x9 fun e w' => e = .returned (.int .i64 X) ∧ w' = x9) := by rw [hX0]; exact ck.impl_any _ zs x9 (HCK.out x9 b9) HBY.out.1 HBY.out.2
  have HSC : Hid (Calls Tryd.prog 10 #[.slice a1 len1 cap1] x9 fun e w' => e = .returned (.int .i64 X) ∧ w' = x9) := by rw [hX0]; exact ck.spec_any _ zs x9 (HCK.out x9 b9) HBY.out.1 HBY.out.2
  clear hX0 HCK HBY
  have hX : ((X : Int) == X) = true := by simp
  go_wp2_with fail
  refine HI.out.mono ?_
  rintro e x10 ⟨rfl, rfl⟩
  go_wp2_with fail
  refine HSC.out.mono ?_
  rintro e x11 ⟨rfl, rfl⟩
  go_wp2
  go_ret
  exact ⟨rfl, b9⟩

set_option maxRecDepth 100000 in
theorem contract (H : Type) (enc : TypeId × Value → H) (W : World) (base : Nat) (args : Array Value) (ds gs : List (DataW H)) (before : List MemPlace)
    (hval : ∀ (j : Nat) t v, Tryd.f3.params[j]? = some t → args[j]? = some v → Value.okWide Tryd.prog W .any base t v)
    (hW : DataW.Whole enc Tryd.prog Tryd.f3.params.toList Rows.fnPartsSpec.vars false W args.toList ds gs before) (hL : laidMetH Tryd.prog Rows.fnPartsRow.laid W) (hsh : W.ShapedOpen Tryd.prog) :
    Calls Tryd.prog 3 args W fun e W' => ∃ v, e = .returned v ∧ Rows.fnPartsSpec.post enc Tryd.prog Tryd.f3 false true false false W args v W' := by
  have hW' := hW
  obtain ⟨p, q, hA0, hV, rfl, hfz, hnd⟩ := hW
  have hA : DataW.TrodAll enc Tryd.prog W 0 (fun _ => true) true Tryd.f3.params.toList args.toList ds p := hA0
  rw [Tryd.params3] at hA hval
  obtain ⟨v0, vs0, d0, ds0, p0, q0, hargs0, rfl, rfl, h0, tl0⟩ := trodAll_cons hA
  obtain ⟨v1, vs1, d1, ds1, p1, q1, hargs1, rfl, rfl, h1, tl1⟩ := trodAll_cons tl0
  obtain ⟨hnil, rfl, rfl⟩ := trodAll_nil tl1
  obtain rfl : args = #[v0, v1] := by cases args; simp_all
  obtain ⟨a0, len0, cap0, rfl⟩ := okWide_slice Tryd.underlying22 (hval 0 22 v0 rfl rfl)
  have k0 := h0
  have lt0 : ∀ x ∈ p0, x.block < W.heap.size := by obtain ⟨m, hm⟩ := k0; exact DataW.trod_lt m _ _ _ hm
  obtain ⟨z0, w0⟩ : ∃ zs, ag.IsRow .u8 W a0 len0 cap0 zs := by
    obtain ⟨fuel, hf⟩ := h0
    rcases open_ints Tryd.underlying22 Tryd.underlying5 (by kernel_rfl) hf with ⟨hcs, _⟩ | ⟨x, l, c, zs, hcs, _, hl, hm, hz, _, hcell, hwz⟩
    · simp [Value.cells] at hcs
      obtain ⟨rfl, rfl, rfl⟩ := hcs
      exact ⟨[], .inl ⟨rfl, rfl, rfl, rfl⟩⟩
    · simp [Value.cells] at hcs
      obtain ⟨rfl, rfl, rfl⟩ := hcs
      exact ⟨zs, .inr ⟨_, rfl, hl, hm, by simpa using hz, hcell, hwz⟩⟩
  obtain ⟨a1, len1, cap1, rfl⟩ := okWide_slice Tryd.underlying22 (hval 1 22 v1 rfl rfl)
  have k1 := h1
  have lt1 : ∀ x ∈ p1, x.block < W.heap.size := by obtain ⟨m, hm⟩ := k1; exact DataW.trod_lt m _ _ _ hm
  obtain ⟨z1, w1⟩ : ∃ zs, ag.IsRow .u8 W a1 len1 cap1 zs := by
    obtain ⟨fuel, hf⟩ := h1
    rcases open_ints Tryd.underlying22 Tryd.underlying5 (by kernel_rfl) hf with ⟨hcs, _⟩ | ⟨x, l, c, zs, hcs, _, hl, hm, hz, _, hcell, hwz⟩
    · simp [Value.cells] at hcs
      obtain ⟨rfl, rfl, rfl⟩ := hcs
      exact ⟨[], .inl ⟨rfl, rfl, rfl, rfl⟩⟩
    · simp [Value.cells] at hcs
      obtain ⟨rfl, rfl, rfl⟩ := hcs
      exact ⟨zs, .inr ⟨_, rfl, hl, hm, by simpa using hz, hcell, hwz⟩⟩
  clear hA0
  simp only [List.append_nil] at hW'
  have hLL : laidMet Tryd.prog Rows.fnPartsRow.laid W := hL
  obtain ⟨ps, hLV, _⟩ := hLL
  obtain ⟨rfl, rfl⟩ := trodVars_none hV
  obtain ⟨m, hm⟩ := Tryd.laysM219.s1_3 W hsh
  refine (walk a0 len0 cap0 z0 a1 len1 cap1 z1 W w0 w1 m hm).mono fun e W' ⟨he, bel⟩ => ?_
  subst he
  exact ⟨_, rfl, _, _, _, [], _, [], hW', trodAll_cons_mk (shut_bool Tryd.underlying4 _) trodAll_mk0, (trodAll_cons_mk (Below.trod laidOut (by kernel_rfl) (of_decide_eq_true (by kernel_rfl)) k0 bel lt0) (trodAll_cons_mk (Below.trod laidOut (by kernel_rfl) (of_decide_eq_true (by kernel_rfl)) k1 bel lt1) trodAll_mk0)), rfl, bel.frame _, fun h => by cases h⟩
def putF (o : Obj) : Obj := match o with
  | .cells _ t frozen => .cells (Go.Pinned.utf8FirstZ.map fun (n : Nat) => Value.int .u8 (n : Int)).toArray t frozen
  | o => o
set_option maxRecDepth 100000 in
theorem laid_met (os : Os) : laidMet Tryd.prog Rows.fnPartsRow.laid (({ World.doorLaid Tryd.prog 19 os with heap := (World.doorLaid Tryd.prog 19 os).heap.modify 1 putF } : World).forCall (fun _ _ => 0) ⟨#[], #[Value.slice none 0 0, Value.slice none 0 0], []⟩).memory :=
  laidMet_of_run' 8 (by kernel_rfl) (by kernel_rfl)
theorem reads (os : Os) {H : Type} (enc : TypeId × Value → H) : ∃ places, DataW.whole enc Tryd.prog (({ World.doorLaid Tryd.prog 19 os with heap := (World.doorLaid Tryd.prog 19 os).heap.modify 1 putF } : World).forCall (fun _ _ => 0) ⟨#[], #[Value.slice none 0 0, Value.slice none 0 0], []⟩).memory Tryd.f3.params.toList Rows.fnPartsSpec.vars false #[Value.slice none 0 0, Value.slice none 0 0].toList 8 = some ([.nil, .nil], [], places) :=
  ⟨[], by kernel_rfl⟩

set_option maxRecDepth 100000 in
theorem lifted (os : Os) (started : os.Started) (H : Type) (enc : TypeId × Value → H) (F : Stop.Interp) :
    ReturnsInHanded {} Tryd.checked os 3 .any ((OpenSpec.ofChange Rows.fnPartsSpec).preRow enc Tryd.prog Tryd.f3 Rows.fnPartsRow.domain false Rows.fnPartsRow.laid) (((OpenSpec.ofChange Rows.fnPartsSpec).at F).post enc Tryd.prog Tryd.f3 false true false false) := by
  obtain ⟨places, hx⟩ := reads os enc
  refine returnsInHanded_of_row (C := Tryd.checked) (s := OpenSpec.ofChange Rows.fnPartsSpec) own started (by kernel_rfl) Tryd.func3
    (witness_row_atRef (enc := enc) (C := Tryd.checked) false ({ World.doorLaid Tryd.prog 19 os with heap := (World.doorLaid Tryd.prog 19 os).heap.modify 1 putF } : World) #[Value.slice none 0 0, Value.slice none 0 0] rfl (by kernel_rfl) (by kernel_rfl) (by kernel_rfl)
      (OpenSpec.preRow_of_cond 8 hx (by kernel_rfl) (fun k hk => by cases hk) (by kernel_rfl) (laid_met os))) ?_
  intro W base args ds gs before hval hW _ _ _ hL hsh _
  exact contract H enc W base args ds gs before hval hW hL hsh

theorem said : Rows.FnPartsSaid :=
  OpenClaim.holds_of_cond 3 Tryd.f3 rfl rfl rfl rfl rfl rfl rfl ⟨rfl, rfl, rfl, rfl, rfl⟩ rfl rfl rfl rfl rfl (by kernel_rfl) Tryd.func3 (by kernel_rfl)
    (of_decide_eq_true (by kernel_rfl)) (by unfold Func.isWrapper; first | (rw [if_pos (by decide +kernel)]; kernel_rfl) | (rw [if_neg (by decide +kernel)]; exact ⟨rfl, rfl⟩))
    (fun os started H enc _ F => by rw [OpenClaim.pre_eq_preRow]; exact lifted os started H enc F)

theorem plain (f : FuncId) (fn : Func) (hf : Tryd.pinned.checked.prog.funcNamed Rows.fnPartsRow.func = some f) (hfn : Tryd.pinned.checked.prog.funcs[f]? = some fn) :
    false = Tryd.pinned.checked.prog.looks [] ∧ ∀ (j : Nat) t, fn.params[j]? = some t → Tryd.pinned.checked.prog.wantsStandIn t = false := by
  obtain rfl : f = 3 := Option.some.inj ((show Tryd.prog.funcNamed Rows.fnPartsRow.func = some 3 by kernel_rfl).symm.trans hf) |>.symm
  obtain rfl : fn = Tryd.f3 := (Option.some.inj (Tryd.func3.symm.trans hfn)).symm
  refine ⟨by kernel_rfl, fun j t ht => ?_⟩
  rw [Tryd.params3] at ht
  obtain rfl : t = 22 := by simpa using Array.mem_of_getElem? ht
  exact (show Tryd.prog.wantsStandIn 22 = false by kernel_rfl)

theorem card : Rows.FnPartsCardSaid :=
  Claim7.holds_tied_plain_at .later [] _ _ _ _ said (fun _ h => by cases h) (by kernel_rfl) (fun _ h => by cases h) fnParts_row_tie rfl ⟨rfl, rfl⟩ (by kernel_rfl) rfl plain (by kernel_rfl)
end Go.Proofs.YtbanjkkbobedhaaDoor.fnParts
namespace Go.Proofs.YtbanjkkbobedhaaDoor
theorem fnParts_card : Rows.FnPartsCardSaid := fnParts.card
#print axioms fnParts_card
end Go.Proofs.YtbanjkkbobedhaaDoor
