/-
  Both MutationBytes functions answer alike at every mutation, the mutation that was handed in is as it was, and the bytes that the program answers are its own memory; for every input.
-/
import Derived.Test.YtgjjeabjnkenkaaMbi
import Derived.Test.YtgjjeabjnkenkaaRmh
import Derived.Test.YtgjjeabjnkenkaaMuo
import Derived.WalkKit
import Derived.ProofKit
import Derived.OpenShut
import Derived.ChangeOld
import Derived.Below
import Derived.Carry
import Derived.Lib.SmallJoins
import Derived.Deep.RegionHeld
namespace Go.Proofs.Ytgjjeabjnkenkaa.fnExactMutationBytes
open Go.ChangeShapes Go.WideShapes Go.ChangeAt Go.RowKit Go.Joins Go.Deep
set_option linter.unusedVariables false

theorem own : ownKnob Try.prog.godebug = none := by kernel_rfl
theorem laidOut : laidOutB Try.prog = true := by kernel_rfl

open mu it mb
/-- What the law holds: the copy's variable, the row that the specification answered. -/
def Two (w0 W : World) (G Bs Bi : Nat) (x : Mu) (v4 us : Value) (l : List UInt8) : Prop :=
  Below w0.heap.size w0 W ∧ Lies W G 34 x v4 ∧ ra.Own W Bs us l ∧ w0.heap.size ≤ Bi ∧ (∀ k, us.ownBlock = some k → k < Bi)
theorem Two.keep {w0 W W' : World} {G Bs Bi : Nat} {x : Mu} {v4 us : Value} {l : List UInt8} (h : Two w0 W G Bs Bi x v4 us l) (hb : Below W.heap.size W W') : Two w0 W' G Bs Bi x v4 us l :=
  ⟨h.1.trans (hb.mono h.1.size), h.2.1.keep hb, ow.own_below h.2.2.1 hb, h.2.2.2⟩
/-- A row of another kind is marked. -/
theorem Two.items {w0 W W' : World} {G Bs Bi : Nat} {x : Mu} {v4 us : Value} {l : List UInt8} (h : Two w0 W G Bs Bi x v4 us l) {b n : Nat} {v : Value} {xs : List Value} (ho : W.ownsRow b 75 2 v n xs) (hb : w0.heap.size ≤ b) (hg : W.grownBy W' v.ownBlock) : Two w0 W' G Bs Bi x v4 us l :=
  ⟨h.1.grown hg h.1.size (fun k hk => Nat.le_trans hb (ho.lt k hk).1), rm.lies_grown h.2.1 hg (rm.row_lies ho h.2.1 (by decide)), h.2.2.1.kept hg (rm.row_row h.2.2.1 ho (by decide)), h.2.2.2⟩
/-- The row that the program answered is marked. -/
theorem Two.bytes {w0 W W' : World} {G Bs Bi : Nat} {x : Mu} {v4 us : Value} {l : List UInt8} (h : Two w0 W G Bs Bi x v4 us l) {n : Nat} {v : Value} {xs : List Value} (ho : W.ownsRow Bi 5 1 v n xs) (hg : W.grownBy W' v.ownBlock) : Two w0 W' G Bs Bi x v4 us l := by
  refine ⟨h.1.grown hg h.1.size (fun k hk => Nat.le_trans h.2.2.2.1 (ho.lt k hk).1), rm.lies_grown h.2.1 hg (rm.row_lies ho h.2.1 (by decide)), h.2.2.1.kept hg ?_, h.2.2.2⟩
  cases e : us.ownBlock with
  | none => exact .inl rfl
  | some k =>
    right
    intro hk
    have h1 := h.2.2.2.2 k e
    have h2 := (ho.lt k hk.symm).1
    omega
theorem own_ints {W : World} {B : Nat} {v : Value} {l : List UInt8} (h : ra.Own W B v l) : W.ownsRow B 5 1 v (rm.bz l).length ((rm.bz l).map (Value.int .u8)) := by
  rw [rm.bz_len, show (rm.bz l).map (Value.int .u8) = Lib.byteCells l from by simp [rm.bz, Lib.byteCells]]
  exact h
set_option maxHeartbeats 8000000 in
set_option maxRecDepth 100000 in
theorem walk (x : Mu) (v : Value) (w : World) (h : AttrsAt w v x.ps) (hh : Held x) :
    Calls Try.prog 5 #[MV x v] w fun e w' => e = .returned (.bool true) ∧ Below w.heap.size w w' := by
  have L0 := lies_new w 25 x v
  have b0 := new_below w 25 #[.int .i64 x.k, .int .i64 x.u, .int .i64 x.m, .int .i64 x.f, .string x.b, v]
  have HA := at_below h b0
  have HS : Hid (Held x) := hh
  obtain ⟨a, cap, rfl, _⟩ := h
  clear hh
  unfold MV
  go_enter Try.func5, Try.ntmps5
  go_wp2_with fail
  generalize w.alloc _ = w0 at L0 b0 HA ⊢
  have HARG : Hid (∀ W, Below w0.heap.size w0 W → Lies W w.heap.size 25 x (.slice a x.ps.length cap) ∧ AttrsAt W (.slice a x.ps.length cap) x.ps) := fun W hW => ⟨L0.keep hW, at_below HA hW⟩
  have HB0 : Hid (Below w.heap.size w w0 ∧ w.heap.size ≤ w0.heap.size) := ⟨b0, b0.size⟩
  clear L0 HA b0
  refine (szMut_any x _ 1048576 w0 (HARG.out w0 (Below.refl _ _)).2 (by omega) (by omega) HS.out).mono ?_
  rintro e w1 ⟨⟨z, rfl, hz0, hz1, hz2⟩, b1⟩
  clear HS
  by_cases hz : z < 0
  · have HE : Hid (Below w.heap.size w w1) := HB0.out.1.trans (b1.mono HB0.out.2)
    go_wp2
    go_ret
    exact ⟨rfl, HE.out⟩
  have hsm := hz2 (by omega)
  have HSM : Hid (Small x) := hsm
  have hpl : x.ps.length ≤ 1048576 := hsm.2.2.1
  clear hz2 hsm
  have c0 := (HARG.out w1 b1).1.c0
  have c1 := (HARG.out w1 b1).1.c1
  have c2 := (HARG.out w1 b1).1.c2
  have c3 := (HARG.out w1 b1).1.c3
  have c4 := (HARG.out w1 b1).1.c4
  have c5 := (HARG.out w1 b1).1.c5
  go_wp2_with fail
  refine (toMut_any x _ w1 (HARG.out w1 b1).2 hpl).mono ?_
  rintro e w2 ⟨g2, rfl, hv2, hb2⟩
  have b2 := b1.trans (hb2.mono b1.size)
  clear hb2 b1 c0 c1 c2 c3 c4 c5
  unfold MV
  go_wp2_with fail
  refine (spec_mb x _ w2 hv2 HSM.out).mono ?_
  rintro e w3 ⟨⟨us, rfl, hus⟩, hb3⟩
  have b3 := b2.trans (hb3.mono b2.size)
  clear hb3 hv2
  have HLL : Hid ((mbl x).length ≤ 20000) := mbl_len x
  generalize hRl : mbl x = l at hus HLL
  generalize hRc : mbc x = c
  have HR : Hid (mbl x = l ∧ mbc x = c) := ⟨hRl, hRc⟩
  clear hRl hRc
  have HUS : Hid (ra.Own w3 w2.heap.size us l) := hus
  clear hus b2
  obtain ⟨sa, sn, sc, rfl⟩ := ra.own_form HUS.out
  have c0 := (HARG.out w3 b3).1.c0
  have c1 := (HARG.out w3 b3).1.c1
  have c2 := (HARG.out w3 b3).1.c2
  have c3 := (HARG.out w3 b3).1.c3
  have c4 := (HARG.out w3 b3).1.c4
  have c5 := (HARG.out w3 b3).1.c5
  go_wp2_with fail
  refine (toMut_own x _ w3 (HARG.out w3 b3).2 hpl).mono ?_
  rintro e w4 ⟨g4, rfl, hv4, hb4, xs4, ho4⟩
  have b4 := b3.trans (hb4.mono b3.size)
  have HU4 : Hid (ra.Own w4 w2.heap.size (.slice sa sn sc) l) := ow.own_below HUS.out hb4
  have HB3 : Hid (w0.heap.size ≤ w3.heap.size) := b3.size
  clear hb4 b3 c0 c1 c2 c3 c4 c5 HUS
  unfold MV
  have k5 := new_below w4 34 #[.int .i64 x.k, .int .i64 x.u, .int .i64 x.m, .int .i64 x.f, .string x.b, .slice (some ⟨g4, 0, none⟩) x.ps.length x.ps.length]
  have M5 := lies_new w4 34 x (.slice (some ⟨g4, 0, none⟩) x.ps.length x.ps.length)
  have b5 := b4.trans (k5.mono b4.size)
  have HV5 := at_below hv4 k5
  have HO5 := ow.own_below ho4 k5
  have HU5 : ra.Own _ w2.heap.size (.slice sa sn sc) l := ow.own_below HU4.out k5
  clear b4 hv4 ho4 HU4 k5
  go_wp2_with fail
  generalize w4.alloc _ = w5 at M5 b5 HV5 HO5 HU5 ⊢
  have HV5 : Hid (AttrsAt w5 (.slice (some ⟨g4, 0, none⟩) x.ps.length x.ps.length) x.ps) := HV5
  have HO5 : Hid (w5.ownsRow w3.heap.size 75 2 (.slice (some ⟨g4, 0, none⟩) x.ps.length x.ps.length) x.ps.length xs4) := HO5
  have HT5 : Hid (Two w0 w5 w4.heap.size w2.heap.size w5.heap.size x (.slice (some ⟨g4, 0, none⟩) x.ps.length x.ps.length) (.slice sa sn sc) l) := ⟨b5, M5, HU5, b5.size, fun k hk => (HU5.lt k hk).2⟩
  clear M5 b5 HU5
  refine (impl_mb x _ w5 HV5.out HSM.out).mono ?_
  rintro e w6 ⟨⟨ui, rfl, hui⟩, hb6⟩
  rw [HR.out.1] at hui
  rw [HR.out.2]
  have HT6 : Hid (Two w0 w6 w4.heap.size w2.heap.size w5.heap.size x (.slice (some ⟨g4, 0, none⟩) x.ps.length x.ps.length) (.slice sa sn sc) l) := HT5.out.keep hb6
  have HV6 : Hid (AttrsAt w6 (.slice (some ⟨g4, 0, none⟩) x.ps.length x.ps.length) x.ps) := at_below HV5.out hb6
  have HO6 : Hid (w6.ownsRow w3.heap.size 75 2 (.slice (some ⟨g4, 0, none⟩) x.ps.length x.ps.length) x.ps.length xs4) := ow.own_below HO5.out hb6
  have HUI6 : Hid (ra.Own w6 w5.heap.size ui l) := hui
  clear HT5 HV5 HO5 hb6 hui
  obtain ⟨ia, im, ic, rfl⟩ := ra.own_form HUI6.out
  have hcc : (c != c) = false := by simp
  have HZ : Hid ((rm.bz l).length ≤ 1048576) := (show (rm.bz l).length ≤ 1048576 by rw [rm.bz_len]; have := HLL.out; omega)
  go_wp2_with fail
  refine (ow.eqBytes_any _ _ (rm.bz l) (rm.bz l) _ (ow.reads_own (own_ints HUI6.out)) (ow.reads_own (own_ints HT6.out.2.2.1)) HZ.out HZ.out).mono ?_
  rintro e w8 ⟨hs, m8, hw8⟩
  obtain rfl := ow.says_true hs rfl
  have k8 : Below w6.heap.size w6 w8 := by rw [hw8]; exact below_drewN (Below.refl _ _) m8
  clear hw8 hs
  have HT8 : Hid (Two w0 w8 w4.heap.size w2.heap.size w5.heap.size x (.slice (some ⟨g4, 0, none⟩) x.ps.length x.ps.length) (.slice sa sn sc) l) := HT6.out.keep k8
  have HV8 : Hid (AttrsAt w8 (.slice (some ⟨g4, 0, none⟩) x.ps.length x.ps.length) x.ps) := at_below HV6.out k8
  have HO8 : Hid (w8.ownsRow w3.heap.size 75 2 (.slice (some ⟨g4, 0, none⟩) x.ps.length x.ps.length) x.ps.length xs4) := ow.own_below HO6.out k8
  have HUI8 : Hid (ra.Own w8 w5.heap.size (.slice ia im ic) l) := ow.own_below HUI6.out k8
  clear HT6 HV6 HO6 HUI6 k8
  have L6 := (HARG.out w8 HT8.out.1).1
  have M6 := HT8.out.2.1
  have HA6 : Hid (AttrsAt w8 (.slice a x.ps.length cap) x.ps) := (HARG.out w8 HT8.out.1).2
  have HV6 : Hid (AttrsAt w8 (.slice (some ⟨g4, 0, none⟩) x.ps.length x.ps.length) x.ps) := HV8.out
  go_wp2_with fail
  have c0 := L6.c0
  have c1 := L6.c1
  have c2 := L6.c2
  have c3 := L6.c3
  have c4 := L6.c4
  have c5 := L6.c5
  have d0 := M6.c0
  have d1 := M6.c1
  have d2 := M6.c2
  have d3 := M6.c3
  have d4 := M6.c4
  have d5 := M6.c5
  have HK : Hid (∀ y, Below w8.heap.size w8 y → y.cell? ⟨w.heap.size, 0, none⟩ = some (.int .i64 x.k) ∧ y.cell? ⟨w.heap.size, 0 + 1, none⟩ = some (.int .i64 x.u) ∧ y.cell? ⟨w.heap.size, 0 + 2, none⟩ = some (.int .i64 x.m) ∧ y.cell? ⟨w.heap.size, 0 + 3, none⟩ = some (.int .i64 x.f) ∧ y.cell? ⟨w.heap.size, 0 + 4, none⟩ = some (.string x.b) ∧ y.cell? ⟨w.heap.size, 0 + 5, none⟩ = some (.slice a x.ps.length cap) ∧ y.cell? ⟨w4.heap.size, 0, none⟩ = some (.int .i64 x.k) ∧ y.cell? ⟨w4.heap.size, 0 + 1, none⟩ = some (.int .i64 x.u) ∧ y.cell? ⟨w4.heap.size, 0 + 2, none⟩ = some (.int .i64 x.m) ∧ y.cell? ⟨w4.heap.size, 0 + 3, none⟩ = some (.int .i64 x.f) ∧ y.cell? ⟨w4.heap.size, 0 + 4, none⟩ = some (.string x.b) ∧ y.cell? ⟨w4.heap.size, 0 + 5, none⟩ = some (.slice (some ⟨g4, 0, none⟩) x.ps.length x.ps.length)) := fun y hx => ⟨(L6.keep hx).c0, (L6.keep hx).c1, (L6.keep hx).c2, (L6.keep hx).c3, (L6.keep hx).c4, (L6.keep hx).c5, (M6.keep hx).c0, (M6.keep hx).c1, (M6.keep hx).c2, (M6.keep hx).c3, (M6.keep hx).c4, (M6.keep hx).c5⟩
  have HT : Hid (∀ y, Below w8.heap.size w8 y → Calls Try.prog 11 #[.agg #[.int .i64 x.k, .int .i64 x.u, .int .i64 x.m, .int .i64 x.f, .string x.b, .slice a x.ps.length cap]] y fun e w' => ∃ g, e = .returned (.agg #[.int .i64 x.k, .int .i64 x.u, .int .i64 x.m, .int .i64 x.f, .string x.b, .slice (some ⟨g, 0, none⟩) x.ps.length x.ps.length]) ∧ AttrsAt w' (.slice (some ⟨g, 0, none⟩) x.ps.length x.ps.length) x.ps ∧ Below w8.heap.size w8 w' ∧ w'.cell? ⟨w.heap.size, 0, none⟩ = some (.int .i64 x.k) ∧ w'.cell? ⟨w.heap.size, 0 + 1, none⟩ = some (.int .i64 x.u) ∧ w'.cell? ⟨w.heap.size, 0 + 2, none⟩ = some (.int .i64 x.m) ∧ w'.cell? ⟨w.heap.size, 0 + 3, none⟩ = some (.int .i64 x.f) ∧ w'.cell? ⟨w.heap.size, 0 + 4, none⟩ = some (.string x.b) ∧ w'.cell? ⟨w.heap.size, 0 + 5, none⟩ = some (.slice a x.ps.length cap) ∧ w'.cell? ⟨w4.heap.size, 0, none⟩ = some (.int .i64 x.k) ∧ w'.cell? ⟨w4.heap.size, 0 + 1, none⟩ = some (.int .i64 x.u) ∧ w'.cell? ⟨w4.heap.size, 0 + 2, none⟩ = some (.int .i64 x.m) ∧ w'.cell? ⟨w4.heap.size, 0 + 3, none⟩ = some (.int .i64 x.f) ∧ w'.cell? ⟨w4.heap.size, 0 + 4, none⟩ = some (.string x.b) ∧ w'.cell? ⟨w4.heap.size, 0 + 5, none⟩ = some (.slice (some ⟨g4, 0, none⟩) x.ps.length x.ps.length)) := fun y hx =>
    (toMut_any x _ y (at_below HA6.out hx) hpl).mono fun e w' ⟨g, he, hv', hb'⟩ => ⟨g, he, hv', hx.trans (hb'.mono hx.size), HK.out _ (hx.trans (hb'.mono hx.size))⟩
  have HE : Hid (∀ y g, AttrsAt y (.slice (some ⟨g, 0, none⟩) x.ps.length x.ps.length) x.ps → Below w8.heap.size w8 y → Calls Try.prog 14 #[.agg #[.int .i64 x.k, .int .i64 x.u, .int .i64 x.m, .int .i64 x.f, .string x.b, .slice (some ⟨g4, 0, none⟩) x.ps.length x.ps.length], .agg #[.int .i64 x.k, .int .i64 x.u, .int .i64 x.m, .int .i64 x.f, .string x.b, .slice (some ⟨g, 0, none⟩) x.ps.length x.ps.length]] y fun e w' => e = .returned (.bool true) ∧ Below w8.heap.size w8 w' ∧ w'.cell? ⟨w.heap.size, 0, none⟩ = some (.int .i64 x.k) ∧ w'.cell? ⟨w.heap.size, 0 + 1, none⟩ = some (.int .i64 x.u) ∧ w'.cell? ⟨w.heap.size, 0 + 2, none⟩ = some (.int .i64 x.m) ∧ w'.cell? ⟨w.heap.size, 0 + 3, none⟩ = some (.int .i64 x.f) ∧ w'.cell? ⟨w.heap.size, 0 + 4, none⟩ = some (.string x.b) ∧ w'.cell? ⟨w.heap.size, 0 + 5, none⟩ = some (.slice a x.ps.length cap) ∧ w'.cell? ⟨w4.heap.size, 0, none⟩ = some (.int .i64 x.k) ∧ w'.cell? ⟨w4.heap.size, 0 + 1, none⟩ = some (.int .i64 x.u) ∧ w'.cell? ⟨w4.heap.size, 0 + 2, none⟩ = some (.int .i64 x.m) ∧ w'.cell? ⟨w4.heap.size, 0 + 3, none⟩ = some (.int .i64 x.f) ∧ w'.cell? ⟨w4.heap.size, 0 + 4, none⟩ = some (.string x.b) ∧ w'.cell? ⟨w4.heap.size, 0 + 5, none⟩ = some (.slice (some ⟨g4, 0, none⟩) x.ps.length x.ps.length)) := fun y g h2 hx =>
    (eqMut_any x _ _ y (at_below HV6.out hx) h2 hpl).mono fun e w' ⟨he, hb'⟩ => ⟨he, hx.trans (hb'.mono hx.size), HK.out _ (hx.trans (hb'.mono hx.size))⟩
  have hd : Below w8.heap.size w8 w8.drew := (Below.refl _ _).drew
  have hM : w4.heap.size < w8.heap.size := M6.lt
  have hL : w.heap.size < w8.heap.size := L6.lt
  clear HA6 HV6 L6 M6
  go_region_held (fun w' => w'.cell? ⟨w.heap.size, 0, none⟩ = some (.int .i64 x.k) ∧ w'.cell? ⟨w.heap.size, 0 + 1, none⟩ = some (.int .i64 x.u) ∧ w'.cell? ⟨w.heap.size, 0 + 2, none⟩ = some (.int .i64 x.m) ∧ w'.cell? ⟨w.heap.size, 0 + 3, none⟩ = some (.int .i64 x.f) ∧ w'.cell? ⟨w.heap.size, 0 + 4, none⟩ = some (.string x.b) ∧ w'.cell? ⟨w.heap.size, 0 + 5, none⟩ = some (.slice a x.ps.length cap) ∧ w'.cell? ⟨w4.heap.size, 0, none⟩ = some (.int .i64 x.k) ∧ w'.cell? ⟨w4.heap.size, 0 + 1, none⟩ = some (.int .i64 x.u) ∧ w'.cell? ⟨w4.heap.size, 0 + 2, none⟩ = some (.int .i64 x.m) ∧ w'.cell? ⟨w4.heap.size, 0 + 3, none⟩ = some (.int .i64 x.f) ∧ w'.cell? ⟨w4.heap.size, 0 + 4, none⟩ = some (.string x.b) ∧ w'.cell? ⟨w4.heap.size, 0 + 5, none⟩ = some (.slice (some ⟨g4, 0, none⟩) x.ps.length x.ps.length))
    (go_keep)
    (first | (go_at_call 11; refine (HT.out _ hd).mono ?_; rintro e y7 ⟨q0, rfl, h2, hb7, p0, p1, p2, p3, p4, p5, p6, p7, p8, p9, p10, p11⟩) | (go_at_call 14; refine (HE.out _ _ h2 hb7).mono ?_; rintro e y8 ⟨rfl, hb8, p0, p1, p2, p3, p4, p5, p6, p7, p8, p9, p10, p11⟩))
  have HT9 : Hid (Two w0 y8 w4.heap.size w2.heap.size w5.heap.size x (.slice (some ⟨g4, 0, none⟩) x.ps.length x.ps.length) (.slice sa sn sc) l) := HT8.out.keep hb8
  have HO9 : Hid (y8.ownsRow w3.heap.size 75 2 (.slice (some ⟨g4, 0, none⟩) x.ps.length x.ps.length) x.ps.length xs4) := ow.own_below HO8.out hb8
  have HUI9 : Hid (ra.Own y8 w5.heap.size (.slice ia im ic) l) := ow.own_below HUI8.out hb8
  clear HT8 HO8 HUI8 HV8 hb8 hb7 h2 hd hM hL HK HT HE p0 p1 p2 p3 p4 p5 p6 p7 p8 p9 p10 p11
  have i0 := HT9.out.2.1.c0
  have i1 := HT9.out.2.1.c1
  have i2 := HT9.out.2.1.c2
  have i3 := HT9.out.2.1.c3
  have i4 := HT9.out.2.1.c4
  have i5 := HT9.out.2.1.c5
  go_wp2_with fail
  clear i0 i1 i2 i3 i4 i5
  refine (mi.markMut_any _ _ _ _ _ 1 y8 _ _ _ _ _ rfl HO9.out hpl (by omega) (by omega)).mono ?_
  rintro e w10 ⟨rfl, _, hg10⟩
  have HT10 : Hid (Two w0 w10 w4.heap.size w2.heap.size w5.heap.size x (.slice (some ⟨g4, 0, none⟩) x.ps.length x.ps.length) (.slice sa sn sc) l) := HT9.out.items HO9.out HB3.out hg10
  have HUI10 : Hid (ra.Own w10 w5.heap.size (.slice ia im ic) l) := HUI9.out.kept hg10 (rm.row_row HUI9.out HO9.out (by decide))
  clear HT9 HO9 HUI9 hg10
  have hk1 : (0 : Int) ≤ 1 + 2 * (x.ps.length : Int) := by omega
  have hk2 : (x.ps.length : Int) ≤ 1048576 := by omega
  go_wp2_with fail
  refine (ow.eqBytes_any _ _ (rm.bz l) (rm.bz l) _ (ow.reads_own (own_ints HUI10.out)) (ow.reads_own (own_ints HT10.out.2.2.1)) HZ.out HZ.out).mono ?_
  rintro e w11 ⟨hs, m11, hw11⟩
  obtain rfl := ow.says_true hs rfl
  have k11 : Below w10.heap.size w10 w11 := by rw [hw11]; exact below_drewN (Below.refl _ _) m11
  clear hw11 hs
  have HT11 : Hid (Two w0 w11 w4.heap.size w2.heap.size w5.heap.size x (.slice (some ⟨g4, 0, none⟩) x.ps.length x.ps.length) (.slice sa sn sc) l) := HT10.out.keep k11
  have HUI11 : Hid (ra.Own w11 w5.heap.size (.slice ia im ic) l) := ow.own_below HUI10.out k11
  clear HT10 HUI10 k11
  go_wp2_with fail
  refine (ow.markB_any _ _ _ (rm.bz l) 1 _ (own_ints HUI11.out) HZ.out (by omega) (by omega)).mono ?_
  rintro e w12 ⟨rfl, ⟨ys, hyl, hym, hyo⟩, hg12⟩
  have HT12 : Hid (Two w0 w12 w4.heap.size w2.heap.size w5.heap.size x (.slice (some ⟨g4, 0, none⟩) x.ps.length x.ps.length) (.slice sa sn sc) l) := HT11.out.bytes HUI11.out hg12
  have HY12 : Hid (w12.ownsRow w5.heap.size 5 1 (.slice ia im ic) (rm.bz l).length (ys.map (Value.int .u8))) := hyo
  have HYM : Hid (ow.MarksB 1 ys ys.length ∧ ys.length ≤ 1048576) := ⟨by rw [hyl]; exact hym, by rw [hyl]; exact HZ.out⟩
  have HYL : Hid (ys.length = (rm.bz l).length) := hyl
  clear HT11 HUI11 hyo hg12 hym hyl
  have hq0 : (0 : Int) ≤ 1 + ((rm.bz l).length : Int) := by omega
  have hq1 : ((rm.bz l).length : Int) ≤ 1048576 := by have := HZ.out; omega
  have hq2 : ((1 + ((rm.bz l).length : Int)) != (1 + ((rm.bz l).length : Int))) = false := by simp
  go_wp2_with fail
  refine (ow.heldB_any _ ys 1 _ (ow.reads_own HY12.out) HYM.out.1 HYM.out.2 (by omega) (by omega)).mono ?_
  rintro e w13 ⟨rfl, rfl⟩
  rw [HYL.out]
  have b13 := HT12.out.1
  have c0 := (HARG.out w13 b13).1.c0
  have c1 := (HARG.out w13 b13).1.c1
  have c2 := (HARG.out w13 b13).1.c2
  have c3 := (HARG.out w13 b13).1.c3
  have c4 := (HARG.out w13 b13).1.c4
  have c5 := (HARG.out w13 b13).1.c5
  go_wp2_with fail
  refine (toMut_any x _ w13 (HARG.out w13 b13).2 hpl).mono ?_
  rintro e w14 ⟨g14, rfl, hv14, hb14⟩
  have HT14 : Hid (Two w0 w14 w4.heap.size w2.heap.size w5.heap.size x (.slice (some ⟨g4, 0, none⟩) x.ps.length x.ps.length) (.slice sa sn sc) l) := HT12.out.keep hb14
  have HY14 : Hid (w14.ownsRow w5.heap.size 5 1 (.slice ia im ic) (rm.bz l).length (ys.map (Value.int .u8))) := ow.own_below HY12.out hb14
  clear hb14 b13 c0 c1 c2 c3 c4 c5 HT12 HY12
  unfold MV
  go_wp2_with fail
  refine (impl_mb x _ w14 hv14 HSM.out).mono ?_
  rintro e w15 ⟨⟨uh, rfl, huh⟩, hb15⟩
  rw [HR.out.1] at huh
  rw [HR.out.2]
  have HT15 : Hid (Two w0 w15 w4.heap.size w2.heap.size w5.heap.size x (.slice (some ⟨g4, 0, none⟩) x.ps.length x.ps.length) (.slice sa sn sc) l) := HT14.out.keep hb15
  have HY15 : Hid (w15.ownsRow w5.heap.size 5 1 (.slice ia im ic) (rm.bz l).length (ys.map (Value.int .u8))) := ow.own_below HY14.out hb15
  have HUH : Hid (ra.Own w15 w14.heap.size uh l) := huh
  clear HT14 HY14 hb15 huh hv14
  obtain ⟨ha, hm, hc, rfl⟩ := ra.own_form HUH.out
  go_wp2_with fail
  refine (ow.eqBytes_any _ _ (rm.bz l) (rm.bz l) _ (ow.reads_own (own_ints HUH.out)) (ow.reads_own (own_ints HT15.out.2.2.1)) HZ.out HZ.out).mono ?_
  rintro e w16 ⟨hs, m16, hw16⟩
  obtain rfl := ow.says_true hs rfl
  have k16 : Below w15.heap.size w15 w16 := by rw [hw16]; exact below_drewN (Below.refl _ _) m16
  clear hw16 hs
  have HT16 : Hid (Two w0 w16 w4.heap.size w2.heap.size w5.heap.size x (.slice (some ⟨g4, 0, none⟩) x.ps.length x.ps.length) (.slice sa sn sc) l) := HT15.out.keep k16
  have HY16 : Hid (w16.ownsRow w5.heap.size 5 1 (.slice ia im ic) (rm.bz l).length (ys.map (Value.int .u8))) := ow.own_below HY15.out k16
  clear HT15 HY15 HUH k16
  go_wp2_with fail
  refine (ow.heldB_any _ ys 1 _ (ow.reads_own HY16.out) HYM.out.1 HYM.out.2 (by omega) (by omega)).mono ?_
  rintro e w17 ⟨rfl, rfl⟩
  rw [HYL.out]
  have HE : Hid (Below w.heap.size w w17) := HB0.out.1.trans (HT16.out.1.mono HB0.out.2)
  clear HT16 HY16
  go_wp2
  go_ret
  exact ⟨rfl, HE.out⟩

set_option maxRecDepth 100000 in
theorem lifted (os : Os) (started : os.Started) (H : Type) (enc : TypeId × Value → H) :
    ReturnsInHanded {} Try.checked os 5 .any (Rows.fnExactMutationBytesSpec.pre6 enc Try.prog Try.f5 Rows.fnExactMutationBytesRow.domain false) (Rows.fnExactMutationBytesSpec.post enc Try.prog Try.f5 false true false false) := by
  refine returnsInHanded_of_change (C := Try.checked) own started (by kernel_rfl) Try.func5
    (ChangeSpec.witness6 (enc := enc) (C := Try.checked) false ⟨#[], #[.agg #[.int .i64 0, .int .i64 0, .int .i64 0, .int .i64 0, .string ⟨#[]⟩, .slice none 0 0]], []⟩ 8 (by kernel_rfl) (by kernel_rfl) (by kernel_rfl) (by kernel_rfl)) ?_
  intro W base args ds gs before hval0 hW hcnd _
  have hval : ∀ (j : Nat) t v, Try.f5.params[j]? = some t → args[j]? = some v → Value.okWide Try.prog W .any base t v := hval0
  have hW' := hW
  obtain ⟨p, q, hA0, hV, rfl, hfz, hnd⟩ := hW
  have hA : DataW.TrodAll enc Try.prog W 0 (fun _ => true) true Try.f5.params.toList args.toList ds p := hA0
  rw [Try.params5] at hA hval
  obtain ⟨v0, vs0, d0, ds0, p0, q0, hargs, rfl, rfl, h0, r0⟩ := trodAll_cons hA
  obtain ⟨rfl, rfl, rfl⟩ := trodAll_nil r0
  obtain rfl : args = #[v0] := by cases args; simp_all
  obtain ⟨rfl, rfl⟩ := trodVars_none hV
  have k0 := h0
  have lt0 : ∀ x ∈ p0, x.block < W.heap.size := by obtain ⟨m, hm⟩ := k0; exact DataW.trod_lt m _ _ _ hm
  obtain ⟨x, u, rfl, hat, hh⟩ := mu.open_mut (hval 0 25 v0 rfl rfl) h0
  clear hA0 hval0
  refine (walk x u W hat hh).mono fun e W' ⟨he, bel⟩ => ?_
  subst he
  exact ⟨_, rfl, _, _, _, [], _, [], hW', trodAll_mk1 (shut_bool Try.underlying4 _), (trodAll_cons_mk (Below.trod laidOut (by kernel_rfl) (of_decide_eq_true (by kernel_rfl)) k0 bel lt0) trodAll_mk0), rfl, bel.frame _, fun h => by cases h⟩

theorem over : Rows.fnExactMutationBytesRow.holds Try.pinned (OpenSpec.ofChange Rows.fnExactMutationBytesSpec) :=
  OpenClaim.holds_of_wide 5 Try.f5 rfl rfl rfl rfl rfl rfl rfl ⟨rfl, rfl, rfl, rfl, rfl⟩ rfl rfl rfl rfl rfl (by kernel_rfl) Try.func5 (by kernel_rfl)
    (of_decide_eq_true (by kernel_rfl)) (by unfold Func.isWrapper; first | (rw [if_pos (by decide +kernel)]; kernel_rfl) | (rw [if_neg (by decide +kernel)]; exact ⟨rfl, rfl⟩))
    (fun os started H enc _ => lifted os started H enc)

theorem proved : Rows.FnExactMutationBytesSaid := over
end Go.Proofs.Ytgjjeabjnkenkaa.fnExactMutationBytes
namespace Go.Proofs.Ytgjjeabjnkenkaa
theorem fnExactMutationBytes_holds : Rows.FnExactMutationBytesSaid := fnExactMutationBytes.proved
#print axioms fnExactMutationBytes_holds
end Go.Proofs.Ytgjjeabjnkenkaa
