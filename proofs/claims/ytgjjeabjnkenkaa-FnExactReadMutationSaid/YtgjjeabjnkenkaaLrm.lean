/-
  Both ReadMutation functions answer alike at all bytes, the bytes that were handed in are as they were, and the mutation that the program answers is its own memory; for every input.
-/
import Derived.Test.YtgjjeabjnkenkaaRmh
import Derived.Test.YtgjjeabjnkenkaaRows
import Derived.WalkKit
import Derived.ProofKit
import Derived.OpenShut
import Derived.ShutString
import Derived.ChangeOld
import Derived.Below
namespace Go.Proofs.Ytgjjeabjnkenkaa.fnExactReadMutation
open Go.ChangeShapes Go.WideShapes Go.ChangeAt Go.RowKit
open Go.ChangeMaps (open_string shut_string)
set_option linter.unusedVariables false

theorem own : ownKnob Try.prog.godebug = none := by kernel_rfl
theorem laidOut : laidOutB Try.prog = true := by kernel_rfl

/-- WHAT THE WALK IS TOLD OF A SLICE OF INTEGERS THAT CAME IN: it is nil; or it leads to a row of 'cap' cells, the numbers 'zs' (the first 'len' are its elements, the rest its spare room), each fitting its kind. -/
def IsRow (k : IntKind) (w : World) (a : Option Addr) (len cap : Nat) (zs : List Int) : Prop :=
  (a = none ∧ len = 0 ∧ cap = 0 ∧ zs = []) ∨
  ∃ x, a = some x ∧ len ≤ cap ∧ cap ≤ maxLen ∧ zs.length = cap ∧ (∀ i, i < zs.length → w.cell? (x.add i) = some (.int k (zs.getD i 0))) ∧ ∀ n ∈ zs, (Lit.int k n).wf = true

theorem walk (a0 : Option Addr) (len0 cap0 : Nat) (z0 : List Int) (w : World) (w0 : IsRow .u8 w a0 len0 cap0 z0) :
    Calls Try.prog 6 #[.slice a0 len0 cap0] w fun e w' => e = .returned (.bool true) ∧ Below w.heap.size w w' := by
  obtain ⟨l, hll, hr⟩ := rm.bytes w0
  clear w0
  subst hll
  by_cases hbig : 1048576 < l.length
  · have hb : (1048576 : Int) < (l.length : Int) := by omega
    clear hr
    go_enter Try.func6, Try.ntmps6
    go_wp2
    go_ret
    exact ⟨rfl, Below.refl _ _⟩
  have hb : (l.length : Int) ≤ 1048576 := by omega
  have hbn : (rm.bz l).length ≤ 1048576 := by rw [rm.bz_len]; omega
  have HT : Hid (∀ W, Below w.heap.size w W → ow.Reads .u8 W (.slice a0 l.length cap0) (rm.bz l)) := fun W hbel => ow.reads_keep hr (fun a u h => (hbel.cell (p := a) (World.block_lt_of_cell? w _ h)).trans h)
  have HBN : Hid ((rm.bz l).length ≤ 1048576) := hbn
  have HLN : Hid (l.length ≤ 1048576) := (show l.length ≤ 1048576 by omega)
  clear hr hbn
  go_enter Try.func6, Try.ntmps6
  go_wp2_with fail
  refine (ow.toBytes_any _ (rm.bz l) _ (HT.out w (Below.refl _ _)) HBN.out).mono ?_
  rintro e w1 ⟨v1, rfl, own1, b1⟩
  go_wp2_with fail
  refine (rm.spec_rm v1 l w1 (ow.reads_own own1) HLN.out).mono ?_
  rintro e w2 ⟨⟨us, rfl, hus⟩, hb2⟩
  have b2 := b1.trans (hb2.mono b1.size)
  clear own1 b1 hb2
  have hsm := rm.rmx_small l
  have HSM : Hid ((rm.rmx l).ps.length ≤ 1048576) := hsm.2.2.1
  clear hsm
  generalize hx : rm.rmx l = x at HSM hus
  generalize hc : rm.rmc l = c
  have HXC : Hid (rm.rmx l = x ∧ rm.rmc l = c) := ⟨hx, hc⟩
  clear hx hc
  obtain ⟨sa, sn, sc, rfl⟩ := rm.rows_form hus
  have HUS : Hid (rm.Rows2 w2 w1.heap.size (.slice sa sn sc) x.ps) := hus
  clear hus
  have hcc : (c != c) = false := by simp
  unfold mu.MV
  have L3 := mu.lies_new w2 34 x (.slice sa sn sc)
  have k3 := mu.new_below w2 34 #[.int .i64 x.k, .int .i64 x.u, .int .i64 x.m, .int .i64 x.f, .string x.b, .slice sa sn sc]
  have b3 := b2.trans (k3.mono b2.size)
  have HU3 : Hid (rm.Rows2 (w2.alloc (.cells #[.int .i64 x.k, .int .i64 x.u, .int .i64 x.m, .int .i64 x.f, .string x.b, .slice sa sn sc] 34)) w1.heap.size (.slice sa sn sc) x.ps) := ow.own_below HUS.out k3
  clear HUS b2 k3
  go_wp2_with fail
  obtain ⟨G3, hG3⟩ : ∃ G, G = w2.heap.size := ⟨_, rfl⟩
  rw [← hG3] at L3 ⊢
  clear hG3
  generalize w2.alloc _ = W3 at L3 b3 HU3 ⊢
  refine (ow.toBytes_any _ (rm.bz l) _ (HT.out _ b3) HBN.out).mono ?_
  rintro e w4 ⟨v4, rfl, own4, hb4⟩
  have L4 := L3.keep hb4
  have HU4 : Hid (rm.Rows2 w4 w1.heap.size (.slice sa sn sc) x.ps) := ow.own_below HU3.out hb4
  have b4 := b3.trans (hb4.mono b3.size)
  have HBA : Hid (w.heap.size ≤ W3.heap.size) := b3.size
  clear L3 HU3 b3 hb4
  obtain ⟨va, vn, vc, rfl⟩ : ∃ a n c, v4 = .slice a n c := by
    rcases own4.2 with ⟨rfl, _⟩ | ⟨g, cap, cur, rfl, _⟩
    · exact ⟨_, _, _, rfl⟩
    · exact ⟨_, _, _, rfl⟩
  have HO4 : Hid (w4.ownsRow W3.heap.size 5 1 (.slice va vn vc) (rm.bz l).length ((rm.bz l).map (Value.int .u8))) := own4
  clear own4
  go_wp2_with fail
  refine (rm.impl_rm _ l w4 (ow.reads_own HO4.out) HLN.out).mono ?_
  rintro e w5 ⟨⟨ui, rfl, hui⟩, hb5⟩
  rw [HXC.out.1] at hui
  rw [HXC.out.1, HXC.out.2]
  obtain ⟨ia, im, ic, rfl⟩ := rm.rows_form hui
  have HUI : Hid (rm.Rows2 w5 w4.heap.size (.slice ia im ic) x.ps) := hui
  have L5 := L4.keep hb5
  have HU5 : Hid (rm.Rows2 w5 w1.heap.size (.slice sa sn sc) x.ps ∧ ∀ k, (Value.slice sa sn sc).ownBlock = some k → k < w4.heap.size) := ⟨ow.own_below HU4.out hb5, fun k hk => (HU4.out.lt k hk).2⟩
  have HO5 : Hid (w5.ownsRow W3.heap.size 5 1 (.slice va vn vc) (rm.bz l).length ((rm.bz l).map (Value.int .u8))) := ow.own_below HO4.out hb5
  have b5 := b4.trans (hb5.mono b4.size)
  have HBB : Hid (w.heap.size ≤ w4.heap.size) := b4.size
  clear L4 HU4 b4 hb5 hui HO4
  unfold mu.MV
  have k6 := mu.new_below w5 34 #[.int .i64 x.k, .int .i64 x.u, .int .i64 x.m, .int .i64 x.f, .string x.b, .slice ia im ic]
  have T6 : rm.Two w (w5.alloc (.cells #[.int .i64 x.k, .int .i64 x.u, .int .i64 x.m, .int .i64 x.f, .string x.b, .slice ia im ic] 34)) G3 w5.heap.size w1.heap.size w4.heap.size x (.slice sa sn sc) (.slice ia im ic) := ⟨b5.trans (k6.mono b5.size), L5.keep k6, mu.lies_new _ _ _ _, ow.own_below HU5.out.1 k6, HBB.out, HU5.out.2⟩
  have HUI6 : Hid (rm.Rows2 (w5.alloc (.cells #[.int .i64 x.k, .int .i64 x.u, .int .i64 x.m, .int .i64 x.f, .string x.b, .slice ia im ic] 34)) w4.heap.size (.slice ia im ic) x.ps) := ow.own_below HUI.out k6
  have HO6 : Hid ((w5.alloc (.cells #[.int .i64 x.k, .int .i64 x.u, .int .i64 x.m, .int .i64 x.f, .string x.b, .slice ia im ic] 34)).ownsRow W3.heap.size 5 1 (.slice va vn vc) (rm.bz l).length ((rm.bz l).map (Value.int .u8))) := ow.own_below HO5.out k6
  clear b5 k6 L5 HU5 HUI HO5
  have s0 := T6.2.1.c0
  have s1 := T6.2.1.c1
  have s2 := T6.2.1.c2
  have s3 := T6.2.1.c3
  have s4 := T6.2.1.c4
  have s5 := T6.2.1.c5
  go_wp2_with fail
  obtain ⟨G6, hG6⟩ : ∃ G, G = w5.heap.size := ⟨_, rfl⟩
  rw [← hG6] at T6 ⊢
  clear hG6
  generalize w5.alloc _ = W6 at T6 HUI6 HO6 s0 s1 s2 s3 s4 s5 ⊢
  have HT6 : Hid (rm.Two w W6 G3 G6 w1.heap.size w4.heap.size x (.slice sa sn sc) (.slice ia im ic)) := T6
  clear T6 s0 s1 s2 s3 s4 s5
  refine (mu.eqMut_any x _ _ W6 (rm.rows_at HUI6.out) (rm.rows_at HT6.out.2.2.2.1) HSM.out).mono ?_
  rintro e w7 ⟨rfl, hb7⟩
  have HT7 : Hid (rm.Two w w7 G3 G6 w1.heap.size w4.heap.size x (.slice sa sn sc) (.slice ia im ic)) := HT6.out.keep hb7
  have HUI7 : Hid (rm.Rows2 w7 w4.heap.size (.slice ia im ic) x.ps) := ow.own_below HUI6.out hb7
  have HO7 : Hid (w7.ownsRow W3.heap.size 5 1 (.slice va vn vc) (rm.bz l).length ((rm.bz l).map (Value.int .u8))) := ow.own_below HO6.out hb7
  clear HT6 HUI6 HO6 hb7
  go_wp2_with fail
  refine (ow.toBytes_any _ (rm.bz l) _ (HT.out _ HT7.out.1) HBN.out).mono ?_
  rintro e w8 ⟨v8, rfl, own8, hb8⟩
  have HT8 : Hid (rm.Two w w8 G3 G6 w1.heap.size w4.heap.size x (.slice sa sn sc) (.slice ia im ic)) := HT7.out.keep hb8
  have HUI8 : Hid (rm.Rows2 w8 w4.heap.size (.slice ia im ic) x.ps) := ow.own_below HUI7.out hb8
  have HO8 : Hid (w8.ownsRow W3.heap.size 5 1 (.slice va vn vc) (rm.bz l).length ((rm.bz l).map (Value.int .u8))) := ow.own_below HO7.out hb8
  clear HT7 HUI7 HO7 hb8
  go_wp2_with fail
  refine (ow.eqBytes_any _ v8 (rm.bz l) (rm.bz l) _ (ow.reads_own HO8.out) (ow.reads_own own8) HBN.out HBN.out).mono ?_
  rintro e w9 ⟨hs, m9, rfl⟩
  obtain rfl := ow.says_true hs rfl
  have k9 : Below w8.heap.size w8 (w8.drewN m9) := below_drewN (Below.refl _ _) m9
  have HT9 : Hid (rm.Two w (w8.drewN m9) G3 G6 w1.heap.size w4.heap.size x (.slice sa sn sc) (.slice ia im ic)) := HT8.out.keep k9
  have HUI9 : Hid (rm.Rows2 (w8.drewN m9) w4.heap.size (.slice ia im ic) x.ps) := ow.own_below HUI8.out k9
  have HO9 : Hid ((w8.drewN m9).ownsRow W3.heap.size 5 1 (.slice va vn vc) (rm.bz l).length ((rm.bz l).map (Value.int .u8))) := ow.own_below HO8.out k9
  clear HT8 HUI8 HO8 k9 own8 hs
  generalize w8.drewN m9 = w9 at HT9 HUI9 HO9 ⊢
  go_wp2_with fail
  refine (ow.markB_any _ _ _ (rm.bz l) 1 _ HO9.out HBN.out (by omega) (by omega)).mono ?_
  rintro e w10 ⟨rfl, _, hg10⟩
  have HT10 : Hid (rm.Two w w10 G3 G6 w1.heap.size w4.heap.size x (.slice sa sn sc) (.slice ia im ic)) := HT9.out.bytes HO9.out HBA.out hg10
  have HUI10 : Hid (rm.Rows2 w10 w4.heap.size (.slice ia im ic) x.ps) := HUI9.out.kept hg10 (rm.row_row HUI9.out HO9.out (by decide))
  clear HT9 HUI9 HO9 hg10
  have hk1 : (0 : Int) ≤ 1 + ((rm.bz l).length : Int) := by omega
  have hk2 : ((rm.bz l).length : Int) ≤ 1048576 := by have := HBN.out; omega
  have i0 := HT10.out.2.2.1.c0
  have i1 := HT10.out.2.2.1.c1
  have i2 := HT10.out.2.2.1.c2
  have i3 := HT10.out.2.2.1.c3
  have i4 := HT10.out.2.2.1.c4
  have i5 := HT10.out.2.2.1.c5
  have s0 := HT10.out.2.1.c0
  have s1 := HT10.out.2.1.c1
  have s2 := HT10.out.2.1.c2
  have s3 := HT10.out.2.1.c3
  have s4 := HT10.out.2.1.c4
  have s5 := HT10.out.2.1.c5
  go_wp2_with fail
  clear i0 i1 i2 i3 i4 i5 s0 s1 s2 s3 s4 s5
  refine (mu.eqMut_any x _ _ w10 (rm.rows_at HUI10.out) (rm.rows_at HT10.out.2.2.2.1) HSM.out).mono ?_
  rintro e w11 ⟨rfl, hb11⟩
  have HT11 : Hid (rm.Two w w11 G3 G6 w1.heap.size w4.heap.size x (.slice sa sn sc) (.slice ia im ic)) := HT10.out.keep hb11
  have HUI11 : Hid (rm.Rows2 w11 w4.heap.size (.slice ia im ic) x.ps) := ow.own_below HUI10.out hb11
  clear HT10 HUI10 hb11
  have i0 := HT11.out.2.2.1.c0
  have i1 := HT11.out.2.2.1.c1
  have i2 := HT11.out.2.2.1.c2
  have i3 := HT11.out.2.2.1.c3
  have i4 := HT11.out.2.2.1.c4
  have i5 := HT11.out.2.2.1.c5
  go_wp2_with fail
  clear i0 i1 i2 i3 i4 i5
  refine (mi.markMut_any _ _ _ _ _ 1 w11 _ _ _ _ _ rfl HUI11.out HSM.out (by omega) (by omega)).mono ?_
  rintro e w12 ⟨rfl, ho12, hg12⟩
  have HT12 : Hid (rm.Two w w12 G3 G6 w1.heap.size w4.heap.size x (.slice sa sn sc) (.slice ia im ic)) := HT11.out.items HUI11.out hg12
  have HM12 : Hid (w12.ownsRow w4.heap.size 75 2 (.slice ia im ic) x.ps.length (mi.marks 1 (x.ps.length * 2))) := ho12
  clear HT11 HUI11 ho12 hg12
  have hq1 : (0 : Int) ≤ 1 + 2 * (x.ps.length : Int) := by omega
  have hq2 : ((1 + 2 * (x.ps.length : Int)) != (1 + 2 * (x.ps.length : Int))) = false := by simp
  have i0 := HT12.out.2.2.1.c0
  have i1 := HT12.out.2.2.1.c1
  have i2 := HT12.out.2.2.1.c2
  have i3 := HT12.out.2.2.1.c3
  have i4 := HT12.out.2.2.1.c4
  have i5 := HT12.out.2.2.1.c5
  go_wp2_with fail
  clear i0 i1 i2 i3 i4 i5
  refine (mi.heldMut_any _ _ _ _ 1 w12 _ _ _ _ _ rfl HM12.out HSM.out (by omega) (by omega)).mono ?_
  rintro e w13 ⟨rfl, hb13⟩
  have HT13 : Hid (rm.Two w w13 G3 G6 w1.heap.size w4.heap.size x (.slice sa sn sc) (.slice ia im ic)) := HT12.out.keep hb13
  have HM13 : Hid (w13.ownsRow w4.heap.size 75 2 (.slice ia im ic) x.ps.length (mi.marks 1 (x.ps.length * 2))) := ow.own_below HM12.out hb13
  clear HT12 HM12 hb13
  go_wp2_with fail
  refine (ow.toBytes_any _ (rm.bz l) _ (HT.out _ HT13.out.1) HBN.out).mono ?_
  rintro e w14 ⟨v14, rfl, own14, hb14⟩
  have HT14 : Hid (rm.Two w w14 G3 G6 w1.heap.size w4.heap.size x (.slice sa sn sc) (.slice ia im ic)) := HT13.out.keep hb14
  have HM14 : Hid (w14.ownsRow w4.heap.size 75 2 (.slice ia im ic) x.ps.length (mi.marks 1 (x.ps.length * 2))) := ow.own_below HM13.out hb14
  clear HT13 HM13 hb14
  go_wp2_with fail
  refine (rm.impl_rm v14 l w14 (ow.reads_own own14) HLN.out).mono ?_
  rintro e w15 ⟨⟨uh, rfl, huh⟩, hb15⟩
  rw [HXC.out.1] at huh
  rw [HXC.out.1, HXC.out.2]
  obtain ⟨ha, hm, hc, rfl⟩ := rm.rows_form huh
  have k16 := mu.new_below w15 34 #[.int .i64 x.k, .int .i64 x.u, .int .i64 x.m, .int .i64 x.f, .string x.b, .slice ha hm hc]
  have T15 := HT14.out.keep hb15
  have HT16 : Hid (rm.Two w (w15.alloc (.cells #[.int .i64 x.k, .int .i64 x.u, .int .i64 x.m, .int .i64 x.f, .string x.b, .slice ha hm hc] 34)) G3 G6 w1.heap.size w4.heap.size x (.slice sa sn sc) (.slice ia im ic)) := T15.keep k16
  have HM16 : Hid ((w15.alloc (.cells #[.int .i64 x.k, .int .i64 x.u, .int .i64 x.m, .int .i64 x.f, .string x.b, .slice ha hm hc] 34)).ownsRow w4.heap.size 75 2 (.slice ia im ic) x.ps.length (mi.marks 1 (x.ps.length * 2))) := ow.own_below (ow.own_below HM14.out hb15) k16
  have HUH : Hid (rm.Rows2 (w15.alloc (.cells #[.int .i64 x.k, .int .i64 x.u, .int .i64 x.m, .int .i64 x.f, .string x.b, .slice ha hm hc] 34)) w14.heap.size (.slice ha hm hc) x.ps) := ow.own_below huh k16
  have s0 := HT16.out.2.1.c0
  have s1 := HT16.out.2.1.c1
  have s2 := HT16.out.2.1.c2
  have s3 := HT16.out.2.1.c3
  have s4 := HT16.out.2.1.c4
  have s5 := HT16.out.2.1.c5
  clear T15 HT14 HM14 huh hb15 k16 own14
  unfold mu.MV
  go_wp2_with fail
  generalize w15.alloc _ = W16 at HT16 HM16 HUH s0 s1 s2 s3 s4 s5 ⊢
  clear s0 s1 s2 s3 s4 s5
  refine (mu.eqMut_any x _ _ W16 (rm.rows_at HUH.out) (rm.rows_at HT16.out.2.2.2.1) HSM.out).mono ?_
  rintro e w17 ⟨rfl, hb17⟩
  have HT17 : Hid (rm.Two w w17 G3 G6 w1.heap.size w4.heap.size x (.slice sa sn sc) (.slice ia im ic)) := HT16.out.keep hb17
  have HM17 : Hid (w17.ownsRow w4.heap.size 75 2 (.slice ia im ic) x.ps.length (mi.marks 1 (x.ps.length * 2))) := ow.own_below HM16.out hb17
  clear HT16 HM16 HUH hb17
  have i0 := HT17.out.2.2.1.c0
  have i1 := HT17.out.2.2.1.c1
  have i2 := HT17.out.2.2.1.c2
  have i3 := HT17.out.2.2.1.c3
  have i4 := HT17.out.2.2.1.c4
  have i5 := HT17.out.2.2.1.c5
  go_wp2_with fail
  clear i0 i1 i2 i3 i4 i5
  refine (mi.heldMut_any _ _ _ _ 1 w17 _ _ _ _ _ rfl HM17.out HSM.out (by omega) (by omega)).mono ?_
  rintro e w18 ⟨rfl, hb18⟩
  have b18 := (HT17.out.keep hb18).1
  clear HT17 HM17 hb18
  go_wp2
  go_ret
  exact ⟨rfl, b18⟩

set_option maxRecDepth 100000 in
theorem lifted (os : Os) (started : os.Started) (H : Type) (enc : TypeId × Value → H) :
    ReturnsInHanded {} Try.checked os 6 .any (Rows.fnExactReadMutationSpec.pre6 enc Try.prog Try.f6 Rows.fnExactReadMutationRow.domain false) (Rows.fnExactReadMutationSpec.post enc Try.prog Try.f6 false true false false) := by
  refine returnsInHanded_of_change (C := Try.checked) own started (by kernel_rfl) Try.func6
    (ChangeSpec.witness6 (enc := enc) (C := Try.checked) false ⟨#[], #[.slice none 0 0], []⟩ 8 (by kernel_rfl) (by kernel_rfl) (by kernel_rfl) (by kernel_rfl)) ?_
  intro W base args ds gs before hval0 hW hcnd _
  have hval : ∀ (j : Nat) t v, Try.f6.params[j]? = some t → args[j]? = some v → Value.okWide Try.prog W .any base t v := hval0
  have hW' := hW
  obtain ⟨p, q, hA0, hV, rfl, hfz, hnd⟩ := hW
  have hA : DataW.TrodAll enc Try.prog W 0 (fun _ => true) true Try.f6.params.toList args.toList ds p := hA0
  rw [Try.params6] at hA hval
  obtain ⟨v0, vs0, d0, ds0, p0, q0, hargs, rfl, rfl, h0, r0⟩ := trodAll_cons hA
  obtain ⟨rfl, rfl, rfl⟩ := trodAll_nil r0
  obtain rfl : args = #[v0] := by cases args; simp_all
  obtain ⟨rfl, rfl⟩ := trodVars_none hV
  obtain ⟨a0, len0, cap0, rfl⟩ := okWide_slice Try.underlying43 (hval 0 43 v0 rfl rfl)
  have k0 := h0
  have lt0 : ∀ x ∈ p0, x.block < W.heap.size := by obtain ⟨m, hm⟩ := k0; exact DataW.trod_lt m _ _ _ hm
  obtain ⟨z0, w0⟩ : ∃ zs, IsRow .u8 W a0 len0 cap0 zs := by
    obtain ⟨fuel, hf⟩ := h0
    rcases open_ints Try.underlying43 Try.underlying5 (by kernel_rfl) hf with ⟨hcs, _⟩ | ⟨x, l, c, zs, hcs, _, hl, hm, hz, _, hcell, hwz⟩
    · simp [Value.cells] at hcs
      obtain ⟨rfl, rfl, rfl⟩ := hcs
      exact ⟨[], .inl ⟨rfl, rfl, rfl, rfl⟩⟩
    · simp [Value.cells] at hcs
      obtain ⟨rfl, rfl, rfl⟩ := hcs
      exact ⟨zs, .inr ⟨_, rfl, hl, hm, by simpa using hz, hcell, hwz⟩⟩
  clear hA0 hval0
  refine (walk a0 len0 cap0 z0 W w0).mono fun e W' ⟨he, bel⟩ => ?_
  subst he
  exact ⟨_, rfl, _, _, _, [], _, [], hW', trodAll_mk1 (shut_bool Try.underlying4 _), (trodAll_cons_mk (Below.trod laidOut (by kernel_rfl) (of_decide_eq_true (by kernel_rfl)) k0 bel lt0) trodAll_mk0), rfl, bel.frame _, fun h => by cases h⟩

theorem over : Rows.fnExactReadMutationRow.holds Try.pinned (OpenSpec.ofChange Rows.fnExactReadMutationSpec) :=
  OpenClaim.holds_of_wide 6 Try.f6 rfl rfl rfl rfl rfl rfl rfl ⟨rfl, rfl, rfl, rfl, rfl⟩ rfl rfl rfl rfl rfl (by kernel_rfl) Try.func6 (by kernel_rfl)
    (of_decide_eq_true (by kernel_rfl)) (by unfold Func.isWrapper; first | (rw [if_pos (by decide +kernel)]; kernel_rfl) | (rw [if_neg (by decide +kernel)]; exact ⟨rfl, rfl⟩))
    (fun os started H enc _ => lifted os started H enc)

theorem proved : Rows.FnExactReadMutationSaid := over
end Go.Proofs.Ytgjjeabjnkenkaa.fnExactReadMutation
namespace Go.Proofs.Ytgjjeabjnkenkaa
theorem fnExactReadMutation_holds : Rows.FnExactReadMutationSaid := fnExactReadMutation.proved
#print axioms fnExactReadMutation_holds
end Go.Proofs.Ytgjjeabjnkenkaa
