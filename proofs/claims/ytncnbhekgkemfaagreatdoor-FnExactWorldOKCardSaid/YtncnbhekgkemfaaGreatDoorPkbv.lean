/-
  For every world the law FnExactWorldOK answers true, where the two named errors of the log are as the door lays them.
-/
import Derived.Test.YtncnbhekgkemfaaGreatDoorCards
import Derived.Test.YtncnbhekgkemfaaGreatDoorTie
import Derived.Test.YtncnbhekgkemfaaGreatDoorPkbt
import Derived.Test.YtncnbhekgkemfaaGreatDoorPkbu
import Derived.WalkKit
import Derived.ProofKit
import Derived.OpenShut
import Derived.ShutString
import Derived.OpenVars
import Derived.ChangeOld
import Derived.Below
import Derived.Deep.DeepHandedRow
import Derived.Deep.DeepWitnessRowRef
import Derived.LaidMore
import Derived.Lib.LaidTab
import Derived.Stop.LaidTwo

namespace Go.Proofs.YtncnbhekgkemfaaGreatDoor.fnExactWorldOK
open Go.ChangeShapes Go.WideShapes Go.ChangeAt Go.RowKit
open Go.ChangeMaps (open_string shut_string)
set_option linter.unusedVariables false

theorem own : ownKnob Tryz.prog.godebug = none := by kernel_rfl
theorem laidOut : laidOutB Tryz.prog = true := by kernel_rfl

set_option maxHeartbeats 4000000 in
set_option maxRecDepth 100000 in
theorem walk (r0 : Int) (dd0 : ByteArray) (s0 : Int) (u0 y0 : Value) (xs0 : List bx.Bx) (us0 : Nat → Value × Value) (cs0 : List cn.Cn) (ps0 : Nat → Value) (hr0 : lg.In r0) (hd0 : dd0.size ≤ maxLen) (hs0 : lg.In s0) (w : World) (wa0 : bx.BoxesAt w u0 xs0 us0) (wb0 : xs0.length ≤ maxLen) (wc0 : ∀ j, j < xs0.length → bx.Held (xs0.getD j bx.noB)) (wd0 : cn.ConnsAt w y0 cs0 ps0) (we0 : cs0.length ≤ maxLen) (wf0 : ∀ j, j < cs0.length → cn.Held (cs0.getD j cn.noC)) (ec eb : Addr) (eca ecb : Array Value) (eta etb : TypeId) (hS : lg.Errs w ec eb eca ecb eta etb) :
    Calls Tryz.prog 3 #[cn.WV r0 dd0 s0 u0 y0] w fun e w' => e = .returned (.bool true) ∧ Below w.heap.size w w' := by
  have L0 := cn.liesW_new w 29 r0 dd0 s0 u0 y0
  have b0 := cn.new_below w 29 #[.int .i64 r0, .string dd0, .int .i64 s0, u0, y0]
  have HS0 : Hid (lg.Errs w ec eb eca ecb eta etb) := hS
  have HA0 : Hid (bx.BoxesAt w u0 xs0 us0 ∧ (∀ j, j < xs0.length → bx.Held (xs0.getD j bx.noB)) ∧ cn.ConnsAt w y0 cs0 ps0 ∧ ∀ j, j < cs0.length → cn.Held (cs0.getD j cn.noC)) := ⟨wa0, wc0, wd0, wf0⟩
  obtain ⟨⟨a, cap, rfl, _⟩, _⟩ := wa0
  obtain ⟨⟨ka, kc, rfl, _⟩, _⟩ := wd0
  clear hS wc0 wf0
  unfold cn.WV
  go_enter Tryz.func3, Tryz.ntmps3
  go_wp2_with fail
  generalize w.alloc _ = w0 at L0 b0 ⊢
  refine (cn.szWorld_any r0 dd0 s0 _ _ xs0 us0 cs0 ps0 w0 (bx.boxes_below HA0.out.1 b0) hd0 wb0 HA0.out.2.1 (cn.conns_below HA0.out.2.2.1 b0) we0 HA0.out.2.2.2).mono ?_
  rintro e w1 ⟨⟨z, rfl, hz0, hz1, hz2⟩, d1⟩
  have HB0 : Hid (Below w.heap.size w w0) := b0
  by_cases hz : z < 0
  · go_wp2
    go_ret
    exact ⟨rfl, b0.trans (d1.mono b0.size)⟩
  obtain ⟨hd2, hsm, hsc⟩ := hz2 (by omega)
  have HSM : Hid (bx.Smalls xs0 ∧ cn.Smalls cs0) := ⟨hsm, hsc⟩
  have HL0 : Hid (cn.LiesW w0 w.heap.size 29 r0 dd0 s0 (.slice a xs0.length cap) (.slice ka cs0.length kc)) := L0
  have HT : Hid (∀ W, Below w0.heap.size w0 W → Calls Tryz.prog 6 #[.agg #[.int .i64 r0, .string dd0, .int .i64 s0, .slice a xs0.length cap, .slice ka cs0.length kc]] W fun e w' => ∃ B C qs ps, e = .returned (.agg #[.int .i64 r0, .string dd0, .int .i64 s0, .slice (some ⟨B, 0, none⟩) xs0.length xs0.length, .slice (some ⟨C, 0, none⟩) cs0.length cs0.length]) ∧ bx.BoxesAt w' (.slice (some ⟨B, 0, none⟩) xs0.length xs0.length) xs0 qs ∧ (∀ j, j < xs0.length → ∀ a n c, (qs j).2 = .slice a n c → n ≤ c) ∧ cn.ConnsAt w' (.slice (some ⟨C, 0, none⟩) cs0.length cs0.length) cs0 ps ∧ Below W.heap.size W w') := fun W hW => cn.toWorld_any r0 dd0 s0 _ _ xs0 us0 cs0 ps0 W (bx.boxes_below HA0.out.1 (HB0.out.trans (hW.mono HB0.out.size))) HSM.out.1 (cn.conns_below HA0.out.2.2.1 (HB0.out.trans (hW.mono HB0.out.size))) HSM.out.2
  clear hz2 hsm hsc L0 hz0 hz1 hd0 wb0 we0 b0
  have c0 := (HL0.out.keep d1).c0
  have c1 := (HL0.out.keep d1).c1
  have c2 := (HL0.out.keep d1).c2
  have c3 := (HL0.out.keep d1).c3
  have c4 := (HL0.out.keep d1).c4
  have HSP : Hid (∀ W B C us ps, bx.BoxesAt W (.slice (some ⟨B, 0, none⟩) xs0.length xs0.length) xs0 us → (∀ j, j < xs0.length → ∀ a n c, (us j).2 = .slice a n c → n ≤ c) → cn.ConnsAt W (.slice (some ⟨C, 0, none⟩) cs0.length cs0.length) cs0 ps → Calls Tryz.prog 5 #[.agg #[.int .i64 r0, .string dd0, .int .i64 s0, .slice (some ⟨B, 0, none⟩) xs0.length xs0.length, .slice (some ⟨C, 0, none⟩) cs0.length cs0.length]] W fun e w' => ow.Says (cn.WK r0 dd0 s0 xs0 cs0) e ∧ Below W.heap.size W w') := fun W B C us ps h1 h2 h3 => cn.spec_world r0 dd0 s0 _ _ xs0 us cs0 ps W hr0 hd2 hs0 h1 HSM.out.1 (fun a n c e => by cases e; exact Nat.le_refl _) h2 h3 HSM.out.2
  have HIP : Hid (∀ W B C us ps, lg.Errs W ec eb eca ecb eta etb → bx.BoxesAt W (.slice (some ⟨B, 0, none⟩) xs0.length xs0.length) xs0 us → cn.ConnsAt W (.slice (some ⟨C, 0, none⟩) cs0.length cs0.length) cs0 ps → Calls Tryz.prog 7 #[.agg #[.int .i64 r0, .string dd0, .int .i64 s0, .slice (some ⟨B, 0, none⟩) xs0.length xs0.length, .slice (some ⟨C, 0, none⟩) cs0.length cs0.length]] W fun e w' => ow.Says (cn.WK r0 dd0 s0 xs0 cs0) e ∧ Below W.heap.size W w') := fun W B C us ps h1 h2 h3 => cn.impl_world r0 dd0 s0 _ _ xs0 us cs0 ps W ec eb eca ecb eta etb hr0 hd2 hs0 h1 h2 HSM.out.1 h3 HSM.out.2
  clear hr0 hs0 hd2
  go_wp2_with fail
  refine (HT.out w1 d1).mono ?_
  rintro e w2 ⟨B1, C1, g1, p1, rfl, hC1, hF1, hK1, hb2⟩
  have d2 := d1.trans (hb2.mono d1.size)
  have HC1 : Hid (bx.BoxesAt w2 (.slice (some ⟨B1, 0, none⟩) xs0.length xs0.length) xs0 g1 ∧ (∀ j, j < xs0.length → ∀ a n c, (g1 j).2 = .slice a n c → n ≤ c) ∧ cn.ConnsAt w2 (.slice (some ⟨C1, 0, none⟩) cs0.length cs0.length) cs0 p1) := ⟨hC1, hF1, hK1⟩
  clear hC1 hF1 hK1 hb2 d1 c0 c1 c2 c3 c4
  go_wp2_with fail
  refine (HSP.out w2 B1 C1 g1 p1 HC1.out.1 HC1.out.2.1 HC1.out.2.2).mono ?_
  rintro e w3 ⟨⟨o, rfl, hEk⟩, hb3⟩
  have HE1 : Hid (o = true ↔ cn.WK r0 dd0 s0 xs0 cs0) := hEk
  have d3 := d2.trans (hb3.mono d2.size)
  clear hEk hb3 d2 HC1 HSP
  have c0 := (HL0.out.keep d3).c0
  have c1 := (HL0.out.keep d3).c1
  have c2 := (HL0.out.keep d3).c2
  have c3 := (HL0.out.keep d3).c3
  have c4 := (HL0.out.keep d3).c4
  go_wp2_with fail
  refine (HT.out w3 d3).mono ?_
  rintro e w4 ⟨B2, C2, g2, p2, rfl, hC2, hF2, hK2, hb4⟩
  have d4 := d3.trans (hb4.mono d3.size)
  have HC2 : Hid (bx.BoxesAt w4 (.slice (some ⟨B2, 0, none⟩) xs0.length xs0.length) xs0 g2 ∧ cn.ConnsAt w4 (.slice (some ⟨C2, 0, none⟩) cs0.length cs0.length) cs0 p2) := ⟨hC2, hK2⟩
  have M5 := cn.liesW_new w4 38 r0 dd0 s0 (.slice (some ⟨B2, 0, none⟩) xs0.length xs0.length) (.slice (some ⟨C2, 0, none⟩) cs0.length cs0.length)
  have n5 := cn.new_below w4 38 #[.int .i64 r0, .string dd0, .int .i64 s0, .slice (some ⟨B2, 0, none⟩) xs0.length xs0.length, .slice (some ⟨C2, 0, none⟩) cs0.length cs0.length]
  clear hC2 hF2 hK2 hb4 d3 c0 c1 c2 c3 c4
  go_wp2_with fail
  generalize w4.alloc _ = w5 at M5 n5 ⊢
  have d5 := d4.trans (n5.mono d4.size)
  refine (HIP.out w5 B2 C2 g2 p2 (HS0.out.keep (HB0.out.trans (d5.mono HB0.out.size))) (bx.boxes_below HC2.out.1 n5) (cn.conns_below HC2.out.2 n5)).mono ?_
  rintro e w6 ⟨⟨o2, rfl, hEk2⟩, hb6⟩
  obtain rfl : o2 = o := Bool.eq_iff_iff.2 (hEk2.trans HE1.out.symm)
  have M6 := M5.keep hb6
  have d6 := d5.trans (hb6.mono d5.size)
  have L6 := HL0.out.keep d6
  have HC6 : Hid (bx.BoxesAt w6 (.slice (some ⟨B2, 0, none⟩) xs0.length xs0.length) xs0 g2 ∧ cn.ConnsAt w6 (.slice (some ⟨C2, 0, none⟩) cs0.length cs0.length) cs0 p2) := ⟨bx.boxes_below HC2.out.1 (n5.trans (hb6.mono n5.size)), cn.conns_below HC2.out.2 (n5.trans (hb6.mono n5.size))⟩
  have HE6 : Hid (Below w.heap.size w w6) := HB0.out.trans (d6.mono HB0.out.size)
  have HD6 : Hid (Below w0.heap.size w0 w6) := d6
  clear M5 n5 d4 d5 d6 hb6 hEk2 HE1 HC2 HIP
  have cc : (o2 != o2) = false := by simp
  go_wp2_with fail
  have c0 := L6.c0
  have c1 := L6.c1
  have c2 := L6.c2
  have c3 := L6.c3
  have c4 := L6.c4
  have e0 := M6.c0
  have e1 := M6.c1
  have e2 := M6.c2
  have e3 := M6.c3
  have e4 := M6.c4
  have HK : Hid (∀ x, Below w6.heap.size w6 x → x.cell? ⟨w.heap.size, 0, none⟩ = some (.int .i64 r0) ∧ x.cell? ⟨w.heap.size, 0 + 1, none⟩ = some (.string dd0) ∧ x.cell? ⟨w.heap.size, 0 + 2, none⟩ = some (.int .i64 s0) ∧ x.cell? ⟨w.heap.size, 0 + 3, none⟩ = some (.slice a xs0.length cap) ∧ x.cell? ⟨w.heap.size, 0 + 4, none⟩ = some (.slice ka cs0.length kc) ∧ x.cell? ⟨w4.heap.size, 0, none⟩ = some (.int .i64 r0) ∧ x.cell? ⟨w4.heap.size, 0 + 1, none⟩ = some (.string dd0) ∧ x.cell? ⟨w4.heap.size, 0 + 2, none⟩ = some (.int .i64 s0) ∧ x.cell? ⟨w4.heap.size, 0 + 3, none⟩ = some (.slice (some ⟨B2, 0, none⟩) xs0.length xs0.length) ∧ x.cell? ⟨w4.heap.size, 0 + 4, none⟩ = some (.slice (some ⟨C2, 0, none⟩) cs0.length cs0.length)) := fun x hx => ⟨(L6.keep hx).c0, (L6.keep hx).c1, (L6.keep hx).c2, (L6.keep hx).c3, (L6.keep hx).c4, (M6.keep hx).c0, (M6.keep hx).c1, (M6.keep hx).c2, (M6.keep hx).c3, (M6.keep hx).c4⟩
  have HT7 : Hid (∀ x, Below w6.heap.size w6 x → Calls Tryz.prog 6 #[.agg #[.int .i64 r0, .string dd0, .int .i64 s0, .slice a xs0.length cap, .slice ka cs0.length kc]] x fun e w' => ∃ B C us ps, e = .returned (.agg #[.int .i64 r0, .string dd0, .int .i64 s0, .slice (some ⟨B, 0, none⟩) xs0.length xs0.length, .slice (some ⟨C, 0, none⟩) cs0.length cs0.length]) ∧ (bx.BoxesAt w' (.slice (some ⟨B, 0, none⟩) xs0.length xs0.length) xs0 us ∧ cn.ConnsAt w' (.slice (some ⟨C, 0, none⟩) cs0.length cs0.length) cs0 ps) ∧ Below w6.heap.size w6 w' ∧ w'.cell? ⟨w.heap.size, 0, none⟩ = some (.int .i64 r0) ∧ w'.cell? ⟨w.heap.size, 0 + 1, none⟩ = some (.string dd0) ∧ w'.cell? ⟨w.heap.size, 0 + 2, none⟩ = some (.int .i64 s0) ∧ w'.cell? ⟨w.heap.size, 0 + 3, none⟩ = some (.slice a xs0.length cap) ∧ w'.cell? ⟨w.heap.size, 0 + 4, none⟩ = some (.slice ka cs0.length kc) ∧ w'.cell? ⟨w4.heap.size, 0, none⟩ = some (.int .i64 r0) ∧ w'.cell? ⟨w4.heap.size, 0 + 1, none⟩ = some (.string dd0) ∧ w'.cell? ⟨w4.heap.size, 0 + 2, none⟩ = some (.int .i64 s0) ∧ w'.cell? ⟨w4.heap.size, 0 + 3, none⟩ = some (.slice (some ⟨B2, 0, none⟩) xs0.length xs0.length) ∧ w'.cell? ⟨w4.heap.size, 0 + 4, none⟩ = some (.slice (some ⟨C2, 0, none⟩) cs0.length cs0.length)) := fun x hx =>
    (HT.out x (HD6.out.trans (hx.mono HD6.out.size))).mono fun e w' ⟨B, C, us, ps, he, h1, _, h2, hb⟩ => ⟨B, C, us, ps, he, ⟨h1, h2⟩, hx.trans (hb.mono hx.size), HK.out _ (hx.trans (hb.mono hx.size))⟩
  have HE7 : Hid (∀ x B C us ps, (bx.BoxesAt x (.slice (some ⟨B, 0, none⟩) xs0.length xs0.length) xs0 us ∧ cn.ConnsAt x (.slice (some ⟨C, 0, none⟩) cs0.length cs0.length) cs0 ps) → Below w6.heap.size w6 x → Calls Tryz.prog 8 #[.agg #[.int .i64 r0, .string dd0, .int .i64 s0, .slice (some ⟨B2, 0, none⟩) xs0.length xs0.length, .slice (some ⟨C2, 0, none⟩) cs0.length cs0.length], .agg #[.int .i64 r0, .string dd0, .int .i64 s0, .slice (some ⟨B, 0, none⟩) xs0.length xs0.length, .slice (some ⟨C, 0, none⟩) cs0.length cs0.length]] x fun e w' => e = .returned (.bool true) ∧ Below w6.heap.size w6 w' ∧ w'.cell? ⟨w.heap.size, 0, none⟩ = some (.int .i64 r0) ∧ w'.cell? ⟨w.heap.size, 0 + 1, none⟩ = some (.string dd0) ∧ w'.cell? ⟨w.heap.size, 0 + 2, none⟩ = some (.int .i64 s0) ∧ w'.cell? ⟨w.heap.size, 0 + 3, none⟩ = some (.slice a xs0.length cap) ∧ w'.cell? ⟨w.heap.size, 0 + 4, none⟩ = some (.slice ka cs0.length kc) ∧ w'.cell? ⟨w4.heap.size, 0, none⟩ = some (.int .i64 r0) ∧ w'.cell? ⟨w4.heap.size, 0 + 1, none⟩ = some (.string dd0) ∧ w'.cell? ⟨w4.heap.size, 0 + 2, none⟩ = some (.int .i64 s0) ∧ w'.cell? ⟨w4.heap.size, 0 + 3, none⟩ = some (.slice (some ⟨B2, 0, none⟩) xs0.length xs0.length) ∧ w'.cell? ⟨w4.heap.size, 0 + 4, none⟩ = some (.slice (some ⟨C2, 0, none⟩) cs0.length cs0.length)) := fun x B C us ps h2 hx =>
    (cn.eqWorld_any r0 dd0 s0 _ _ _ _ xs0 g2 us cs0 p2 ps x (bx.boxes_below HC6.out.1 hx) h2.1 HSM.out.1 (cn.conns_below HC6.out.2 hx) h2.2 HSM.out.2).mono fun e w' ⟨he, hb'⟩ => ⟨he, hx.trans (hb'.mono hx.size), HK.out _ (hx.trans (hb'.mono hx.size))⟩
  have hd : Below w6.heap.size w6 w6.drew := (Below.refl _ _).drew
  have hM : w4.heap.size < w6.heap.size := M6.lt
  have hL : w.heap.size < w6.heap.size := L6.lt
  clear L6 M6 HC6 HT HK
  go_region_held (fun w' => w'.cell? ⟨w.heap.size, 0, none⟩ = some (.int .i64 r0) ∧ w'.cell? ⟨w.heap.size, 0 + 1, none⟩ = some (.string dd0) ∧ w'.cell? ⟨w.heap.size, 0 + 2, none⟩ = some (.int .i64 s0) ∧ w'.cell? ⟨w.heap.size, 0 + 3, none⟩ = some (.slice a xs0.length cap) ∧ w'.cell? ⟨w.heap.size, 0 + 4, none⟩ = some (.slice ka cs0.length kc) ∧ w'.cell? ⟨w4.heap.size, 0, none⟩ = some (.int .i64 r0) ∧ w'.cell? ⟨w4.heap.size, 0 + 1, none⟩ = some (.string dd0) ∧ w'.cell? ⟨w4.heap.size, 0 + 2, none⟩ = some (.int .i64 s0) ∧ w'.cell? ⟨w4.heap.size, 0 + 3, none⟩ = some (.slice (some ⟨B2, 0, none⟩) xs0.length xs0.length) ∧ w'.cell? ⟨w4.heap.size, 0 + 4, none⟩ = some (.slice (some ⟨C2, 0, none⟩) cs0.length cs0.length))
    (go_keep)
    (first | (go_at_call 6; refine (HT7.out _ hd).mono ?_; rintro e w7 ⟨q0, q1, q2, q3, rfl, h2, hb7, p0, p1, p2, p3, p4, p5, p6, p7, p8, p9⟩) | (go_at_call 8; refine (HE7.out _ _ _ _ _ h2 hb7).mono ?_; rintro e w8 ⟨rfl, hb8, p0, p1, p2, p3, p4, p5, p6, p7, p8, p9⟩))
  go_wp2
  go_ret
  exact ⟨rfl, HE6.out.trans (Below.mono (by assumption) HE6.out.size)⟩

set_option maxRecDepth 100000 in
theorem gC : Tryz.prog.globalNamed ((Rows.fnExactWorldOKRow.laid.map (·.1)).getD 0 "") = some 0 := by kernel_rfl
theorem gW : Tryz.prog.globalNamed ((Rows.fnExactWorldOKRow.laid.map (·.1)).getD 1 "") = some 1 := by kernel_rfl
theorem errs_of (W : World) (hL : laidMet Tryz.prog Rows.fnExactWorldOKRow.laid W) : ∃ (c b : Addr) (ca cb : Array Value) (ta tb : TypeId), lg.Errs W c b ca cb ta tb := by
  obtain ⟨a0, a1, s0, s1, c0, c1, t0, t1, hv0, hv1, hc0, hs0, hz0, hc1, hs1, hz1, hne, hb0, hb1⟩ := laid_sentinels2 (ti := 118) hL gC (by kernel_rfl) gW (by kernel_rfl) Tryz.underlying118 (fun u h => typeName_ptr_named (nm := "errors.errorString") (by kernel_rfl) (by kernel_rfl) (by decide) u (h.trans (congrArg some (by decide)))) Tryz.underlying205 Tryz.underlying235 rfl rfl Tryz.underlying9 (by kernel_rfl) (by kernel_rfl)
  have hg0 : W.cell? ⟨0, 0, none⟩ = some (.iface 205 (.pointer (some a0))) := by simpa using World.var?_cell gC hv0 0
  have hg1 : W.cell? ⟨1, 0, none⟩ = some (.iface 205 (.pointer (some a1))) := by simpa using World.var?_cell gW hv1 0
  exact ⟨a0, a1, c0, c1, t0, t1, hg0, hg1, hne, hb0, hb1⟩

set_option maxRecDepth 100000 in
theorem contract (H : Type) (enc : TypeId × Value → H) (W : World) (base : Nat) (args : Array Value) (ds gs : List (DataW H)) (before : List MemPlace)
    (hval : ∀ (j : Nat) t v, Tryz.f3.params[j]? = some t → args[j]? = some v → Value.okWide Tryz.prog W .any base t v)
    (hW : DataW.Whole enc Tryz.prog Tryz.f3.params.toList Rows.fnExactWorldOKSpec.vars false W args.toList ds gs before) (hL : laidMetH Tryz.prog Rows.fnExactWorldOKRow.laid W) (hsh : W.ShapedOpen Tryz.prog) :
    Calls Tryz.prog 3 args W fun e W' => ∃ v, e = .returned v ∧ Rows.fnExactWorldOKSpec.post enc Tryz.prog Tryz.f3 false true false false W args v W' := by
  have hW' := hW
  obtain ⟨p, q, hA0, hV, rfl, hfz, hnd⟩ := hW
  have hA : DataW.TrodAll enc Tryz.prog W 0 (fun _ => true) true Tryz.f3.params.toList args.toList ds p := hA0
  rw [Tryz.params3] at hA hval
  obtain ⟨v0, vs0, d0, ds0, p0, q0, hargs0, rfl, rfl, h0, tl0⟩ := trodAll_cons hA
  obtain ⟨hnil, rfl, rfl⟩ := trodAll_nil tl0
  obtain rfl : args = #[v0] := by cases args; simp_all
  have k0 := h0
  have lt0 : ∀ x ∈ p0, x.block < W.heap.size := by obtain ⟨m, hm⟩ := k0; exact DataW.trod_lt m _ _ _ hm
  obtain ⟨r0, dd0, s0, u0, y0, xs0, us0, cs0, ps0, rfl, hr0, hd0, hs0, wa0, wb0, wc0, wd0, we0, wf0⟩ := cn.open_world (hval 0 29 v0 rfl rfl) h0
  clear hA0
  simp only [List.append_nil] at hW'
  have hLL : laidMet Tryz.prog Rows.fnExactWorldOKRow.laid W := hL
  obtain ⟨g, t, cs, fuel, d, pp, g2, t2, cs2, fuel2, d2, pp2, rfl, _⟩ := trodVars_two hV
  have hS := errs_of W hLL
  obtain ⟨ec, eb, eca, ecb, eta, etb, hS⟩ := hS
  refine (walk r0 dd0 s0 u0 y0 xs0 us0 cs0 ps0 hr0 hd0 hs0 W wa0 wb0 wc0 wd0 we0 wf0 _ _ _ _ _ _ hS).mono fun e W' ⟨he, bel⟩ => ?_
  subst he
  exact ⟨_, rfl, _, _, _, [], _, _, hW', trodAll_cons_mk (shut_bool Tryz.underlying4 _) trodAll_mk0, (trodAll_cons_mk (Below.trod laidOut (by kernel_rfl) (of_decide_eq_true (by kernel_rfl)) k0 bel lt0) trodAll_mk0), Below.trodVars laidOut bel (by kernel_rfl) hV, bel.frame _, fun h => by cases h⟩
set_option maxRecDepth 100000 in
theorem laid_met (os : Os) : laidMet Tryz.prog Rows.fnExactWorldOKRow.laid ((World.doorLaid Tryz.prog 47 os).forCall (fun _ _ => 0) ⟨#[], #[Value.agg #[.int .i64 0, .string .empty, .int .i64 0, .slice none 0 0, .slice none 0 0]], []⟩).memory :=
  laidMet_of_run' 8 (by kernel_rfl) (by kernel_rfl)
theorem reads (os : Os) {H : Type} (enc : TypeId × Value → H) : (DataW.whole enc Tryz.prog ((World.doorLaid Tryz.prog 47 os).forCall (fun _ _ => 0) ⟨#[], #[Value.agg #[.int .i64 0, .string .empty, .int .i64 0, .slice none 0 0, .slice none 0 0]], []⟩).memory Tryz.f3.params.toList Rows.fnExactWorldOKSpec.vars false #[Value.agg #[.int .i64 0, .string .empty, .int .i64 0, .slice none 0 0, .slice none 0 0]].toList 8).isSome = true := by kernel_rfl

set_option maxRecDepth 100000 in
theorem lifted (os : Os) (started : os.Started) (H : Type) (enc : TypeId × Value → H) (F : Stop.Interp) :
    ReturnsInHanded {} Tryz.checked os 3 .any ((OpenSpec.ofChange Rows.fnExactWorldOKSpec).preRow enc Tryz.prog Tryz.f3 Rows.fnExactWorldOKRow.domain false Rows.fnExactWorldOKRow.laid) (((OpenSpec.ofChange Rows.fnExactWorldOKSpec).at F).post enc Tryz.prog Tryz.f3 false true false false) := by
  obtain ⟨x, hx⟩ := Option.isSome_iff_exists.1 (reads os enc)
  refine returnsInHanded_of_row (C := Tryz.checked) (s := OpenSpec.ofChange Rows.fnExactWorldOKSpec) own started (by kernel_rfl) Tryz.func3
    (witness_row_atRef (enc := enc) (C := Tryz.checked) false (World.doorLaid Tryz.prog 47 os) #[Value.agg #[.int .i64 0, .string .empty, .int .i64 0, .slice none 0 0, .slice none 0 0]] rfl (by kernel_rfl) (by kernel_rfl) (by kernel_rfl)
      (OpenSpec.preRow_of_cond 8 hx (by kernel_rfl) (fun k hk => by cases hk) (by kernel_rfl) (laid_met os))) ?_
  intro W base args ds gs before hval hW _ _ _ hL hsh _
  exact contract H enc W base args ds gs before hval hW hL hsh

theorem said : Rows.FnExactWorldOKSaid :=
  OpenClaim.holds_of_cond 3 Tryz.f3 rfl rfl rfl rfl rfl rfl rfl ⟨rfl, rfl, rfl, rfl, rfl⟩ rfl rfl rfl rfl rfl (by kernel_rfl) Tryz.func3 (by kernel_rfl)
    (of_decide_eq_true (by kernel_rfl)) (by unfold Func.isWrapper; first | (rw [if_pos (by decide +kernel)]; kernel_rfl) | (rw [if_neg (by decide +kernel)]; exact ⟨rfl, rfl⟩))
    (fun os started H enc _ F => by rw [OpenClaim.pre_eq_preRow]; exact lifted os started H enc F)

theorem plain (f : FuncId) (fn : Func) (hf : Tryz.pinned.checked.prog.funcNamed Rows.fnExactWorldOKRow.func = some f) (hfn : Tryz.pinned.checked.prog.funcs[f]? = some fn) :
    true = Tryz.pinned.checked.prog.looks [] ∧ ∀ (j : Nat) t, fn.params[j]? = some t → Tryz.pinned.checked.prog.wantsStandIn t = false := by
  obtain rfl : f = 3 := Option.some.inj ((show Tryz.prog.funcNamed Rows.fnExactWorldOKRow.func = some 3 by kernel_rfl).symm.trans hf) |>.symm
  obtain rfl : fn = Tryz.f3 := (Option.some.inj (Tryz.func3.symm.trans hfn)).symm
  refine ⟨by kernel_rfl, fun j t ht => ?_⟩
  rw [Tryz.params3] at ht
  obtain rfl : t = 29 := by simpa using Array.mem_of_getElem? ht
  exact (show Tryz.prog.wantsStandIn 29 = false by kernel_rfl)

theorem card : Rows.FnExactWorldOKCardSaid :=
  Claim7.holds_tied_plain_at .later [] _ _ _ _ said (fun _ h => by cases h) (by kernel_rfl) (fun _ h => by cases h) fnExactWorldOK_row_tie rfl ⟨rfl, rfl⟩ (by kernel_rfl) rfl plain (by kernel_rfl)
end Go.Proofs.YtncnbhekgkemfaaGreatDoor.fnExactWorldOK
namespace Go.Proofs.YtncnbhekgkemfaaGreatDoor
theorem fnExactWorldOK_card : Rows.FnExactWorldOKCardSaid := fnExactWorldOK.card
#print axioms fnExactWorldOK_card
end Go.Proofs.YtncnbhekgkemfaaGreatDoor
