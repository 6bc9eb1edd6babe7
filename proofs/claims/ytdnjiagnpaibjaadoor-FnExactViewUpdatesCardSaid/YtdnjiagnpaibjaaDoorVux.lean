/-
  Both ViewUpdates functions answer alike at every box and view, what was handed in is as it was, and the view that the program answers is its own memory; the card ties strconv's powers of ten and the other tables of its row to the seat's own page; for every input.
-/
import Derived.Test.YtdnjiagnpaibjaaDoorCards
import Derived.Test.YtdnjiagnpaibjaaDoorTie
import Derived.Test.YtdnjiagnpaibjaaDoorVul
import Derived.Test.YtdnjiagnpaibjaaDoorOpn
import Derived.WalkKit
import Derived.ProofKit
import Derived.OpenShut
import Derived.ShutString
import Derived.OpenVars
import Derived.ChangeOld
import Derived.Below
import Derived.Deep.DeepHandedRow
import Derived.Deep.DeepWitnessRowRef
import Derived.LaidMore
import Derived.Lib.LaidTab
namespace Go.Proofs.YtdnjiagnpaibjaaDoor.fnExactViewUpdates
open Go.ChangeShapes Go.WideShapes Go.ChangeAt Go.RowKit
open Go.ChangeMaps (open_string shut_string)
set_option linter.unusedVariables false

theorem own : ownKnob Tryd.prog.godebug = none := by kernel_rfl
theorem laidOut : laidOutB Tryd.prog = true := by kernel_rfl

set_option maxHeartbeats 4000000 in
set_option maxRecDepth 100000 in
theorem walk (bx0 : bx.Bx) (pv0 qv0 : Value) (u1 : Value) (zs1 : List Int) (w : World) (wa0 : bx.RowsAt w pv0 qv0 bx0.ms bx0.ks) (wb0 : bx.Held bx0) (wa1 : ow.Reads .i64 w u1 zs1) (wb1 : zs1.length ≤ maxLen) (hP : tb.TP w) :
    Calls Tryd.prog 3 #[bx.BV bx0 pv0 qv0, u1] w fun e w' => e = .returned (.bool true) ∧ Below w.heap.size w w' := by
  have hwl : zs1.length ≤ 9223372036854775807 := wb1
  obtain ⟨W, hW⟩ : ∃ W, W = w.alloc (.cells #[.string bx0.nm, .int .i64 bx0.vd, .int .i64 bx0.nx, pv0, qv0] 25) := ⟨_, rfl⟩
  have L0 : bx.Lies W w.heap.size 25 bx0 pv0 qv0 := by rw [hW]; exact bx.lies_new w 25 bx0 pv0 qv0
  have b0 : Below w.heap.size w W := by rw [hW]; exact bx.new_below w _ _
  have HK : Hid (∀ X, Below W.heap.size W X → bx.Lies X w.heap.size 25 bx0 pv0 qv0 ∧ bx.RowsAt X pv0 qv0 bx0.ms bx0.ks ∧ ow.Reads .i64 X u1 zs1 ∧ tb.TP X ∧ Below w.heap.size w X) := fun X hX => by
    have hb : Below w.heap.size w X := b0.trans (hX.mono b0.size)
    exact ⟨L0.keep hX, bx.rows_below wa0 hb, vu.reads_below wa1 hb, tb.keep' hP hb, hb⟩
  have HH : Hid (bx.Held bx0) := wb0
  obtain ⟨⟨a, cap, rfl, hd1⟩, ⟨a1, cap1, rfl, hd2⟩⟩ := wa0
  obtain ⟨av, cv, rfl, hd3⟩ := wa1
  clear hd1 hd2 hd3 hP wb0 wb1 L0
  have HB0 : Hid (Below w.heap.size w W) := b0
  clear b0
  obtain ⟨nm, vd, nx, ms, ks⟩ := bx0
  unfold bx.BV
  simp only at *
  by_cases hbig : 1048576 < zs1.length
  · have hbig' : (1048576 : Int) < (zs1.length : Int) := by omega
    go_enter Tryd.func3, Tryd.ntmps3
    go_wp2_with (rw [← hW])
    go_ret
    exact ⟨rfl, HB0.out⟩
  have hn : zs1.length ≤ 1048576 := by omega
  have hnc : ¬ (1048576 : Int) < (zs1.length : Int) := by omega
  clear hbig hwl
  go_enter Tryd.func3, Tryd.ntmps3
  go_wp2_with (rw [← hW])
  clear hW
  obtain ⟨hL, hR, hZ, hTP, hB⟩ := HK.out W (Below.refl _ _)
  clear hL hZ hTP hB
  refine (bx.szBox_any ⟨nm, vd, nx, ms, ks⟩ _ _ 1048576 W hR (by omega) (by omega) HH.out).mono ?_
  rintro e w1 ⟨⟨zz, rfl, hz0, hz1, hz2⟩, hb1⟩
  clear hR
  obtain ⟨hL, hR, hZ, hTP, hB⟩ := HK.out w1 hb1
  by_cases hz : zz < 0
  · have HB : Hid (Below w.heap.size w w1) := hB
    clear hL hR hZ hTP hB
    go_wp2
    go_ret
    exact ⟨rfl, HB.out⟩
  have hsm := hz2 (by omega)
  have HSM : Hid (bx.Small ⟨nm, vd, nx, ms, ks⟩) := hsm
  have hpl : ms.length ≤ 1048576 ∧ ks.length ≤ 1048576 := ⟨hsm.2.2.1.1, hsm.2.2.2.1⟩
  have HR1 : Hid (bx.RowsAt w1 (.slice a ms.length cap) (.slice a1 ks.length cap1) ms ks) := hR
  have c0 := hL.c0
  have c1 := hL.c1
  have c2 := hL.c2
  have c3 := hL.c3
  have c4 := hL.c4
  simp only at c0 c1 c2
  clear hz2 hsm hL hR hZ hTP hB hz0 hz1 HH
  go_wp2_with fail
  refine (bx.toBox_any ⟨nm, vd, nx, ms, ks⟩ _ _ w1 HR1.out hpl).mono ?_
  rintro e w2 ⟨g2, g3, rfl, hv2, hb2⟩
  have hc2 := hb1.trans (hb2.mono hb1.size)
  obtain ⟨hL, hR, hZ, hTP, hB⟩ := HK.out w2 hc2
  have HV2 : Hid (bx.RowsAt w2 (.slice (some ⟨g2, 0, none⟩) ms.length ms.length) (.slice (some ⟨g3, 0, none⟩) ks.length ks.length) ms ks) := hv2
  have HZ2 : Hid (ow.Reads .i64 w2 (.slice av zs1.length cv) zs1) := hZ
  clear hL hR hZ hTP hB hv2 hb2 c0 c1 c2 c3 c4 HR1
  unfold bx.BV
  simp only
  go_wp2_with fail
  refine (ow.toInts_any _ zs1 w2 HZ2.out hn).mono ?_
  rintro e w3 ⟨V3, rfl, ho3, hb3⟩
  obtain ⟨a3, q3, rfl⟩ := vu.own_form ho3
  have hc3 := hc2.trans (hb3.mono hc2.size)
  have HV3 : Hid (bx.RowsAt w3 (.slice (some ⟨g2, 0, none⟩) ms.length ms.length) (.slice (some ⟨g3, 0, none⟩) ks.length ks.length) ms ks ∧ ow.Reads .i64 w3 (.slice a3 zs1.length q3) zs1) := ⟨bx.rows_below HV2.out hb3, ow.reads_own ho3⟩
  clear HV2 HZ2 ho3 hb3 hc2
  go_wp2_with fail
  refine (vu.spec_vu ⟨nm, vd, nx, ms, ks⟩ _ _ _ zs1 w3 HV3.out.1 HSM.out (fun a n c e => by cases e; exact Nat.le_refl _) HV3.out.2 hn).mono ?_
  rintro e w4 ⟨⟨V4, rfl, hr4⟩, hb4⟩
  have hc4 := hc3.trans (hb4.mono hc3.size)
  have hlen := vu.vr_len ⟨nm, vd, nx, ms, ks⟩ zs1
  have HIV : Hid (∀ (p q v : Value) (X : World), tb.TP X → bx.RowsAt X p q ms ks → ow.Reads .i64 X v zs1 → Calls Tryd.prog 10 #[.agg #[.string nm, .int .i64 vd, .int .i64 nx, p, q], v] X fun e w' => (∃ V, e = .returned (.tuple #[.string ⟨(vu.Vr ⟨nm, vd, nx, ms, ks⟩ zs1).1.toArray⟩, V, .int .i64 (vu.Vr ⟨nm, vd, nx, ms, ks⟩ zs1).2.2]) ∧ w'.ownsRow X.heap.size 3 1 V (vu.Vr ⟨nm, vd, nx, ms, ks⟩ zs1).2.1.length ((vu.Vr ⟨nm, vd, nx, ms, ks⟩ zs1).2.1.map (Value.int .i64))) ∧ Below X.heap.size X w') := fun p q v X h1 h2 h3 => vu.impl_vu ⟨nm, vd, nx, ms, ks⟩ p q v zs1 X h1 h2 HSM.out h3 hn
  generalize vu.Vr ⟨nm, vd, nx, ms, ks⟩ zs1 = R at hr4 hlen HIV ⊢
  obtain ⟨RT, RL, RC⟩ := R
  simp only at hr4 hlen HIV ⊢
  generalize (⟨RT.toArray⟩ : ByteArray) = T at HIV ⊢
  obtain ⟨a4, q4, rfl, hd⟩ := id hr4
  clear hd
  have HA : Hid (∀ X, Below w4.heap.size w4 X → bx.Lies X w.heap.size 25 ⟨nm, vd, nx, ms, ks⟩ (.slice a ms.length cap) (.slice a1 ks.length cap1) ∧ bx.RowsAt X (.slice a ms.length cap) (.slice a1 ks.length cap1) ms ks ∧ ow.Reads .i64 X (.slice av zs1.length cv) zs1 ∧ tb.TP X ∧ Below w.heap.size w X ∧ ow.Reads .i64 X (.slice a4 RL.length q4) RL) := fun X hX => by
    have h := HK.out X (hc4.trans (hX.mono hc4.size))
    exact ⟨h.1, h.2.1, h.2.2.1, h.2.2.2.1, h.2.2.2.2, vu.reads_below hr4 hX⟩
  clear HK hr4 hc4 hc3 hb4 hb1 HV3 HSM HB0
  obtain ⟨hL, hR, hZ, hTP, hB, hQ⟩ := HA.out w4 (Below.refl _ _)
  have HR4 : Hid (bx.RowsAt w4 (.slice a ms.length cap) (.slice a1 ks.length cap1) ms ks) := hR
  have c0 := hL.c0
  have c1 := hL.c1
  have c2 := hL.c2
  have c3 := hL.c3
  have c4 := hL.c4
  simp only at c0 c1 c2
  clear hL hR hZ hTP hB hQ
  go_wp2_with fail
  refine (bx.toBox_own ⟨nm, vd, nx, ms, ks⟩ _ _ w4 HR4.out hpl).mono ?_
  rintro e w5 ⟨g5, g6, rfl, hv5, hb5, hg5, hg6, ho5, ho6⟩
  unfold bx.BV
  simp only
  have hb6 := bx.new_below w5 32 #[.string nm, .int .i64 vd, .int .i64 nx, .slice (some ⟨g5, 0, none⟩) ms.length ms.length, .slice (some ⟨g6, 0, none⟩) ks.length ks.length]
  have M6 := bx.lies_new w5 32 ⟨nm, vd, nx, ms, ks⟩ (.slice (some ⟨g5, 0, none⟩) ms.length ms.length) (.slice (some ⟨g6, 0, none⟩) ks.length ks.length)
  simp only at M6 ho5 ho6
  have V6 := bx.rows_below hv5 hb6
  have O5 : ∃ xs, (w5.alloc (.cells #[.string nm, .int .i64 vd, .int .i64 nx, .slice (some ⟨g5, 0, none⟩) ms.length ms.length, .slice (some ⟨g6, 0, none⟩) ks.length ks.length] 32)).ownsRow w4.heap.size 49 3 (.slice (some ⟨g5, 0, none⟩) ms.length ms.length) ms.length xs := by obtain ⟨xs, h⟩ := ho5; exact ⟨xs, ow.own_below h hb6⟩
  have O6 : ∃ xs, (w5.alloc (.cells #[.string nm, .int .i64 vd, .int .i64 nx, .slice (some ⟨g5, 0, none⟩) ms.length ms.length, .slice (some ⟨g6, 0, none⟩) ks.length ks.length] 32)).ownsRow w4.heap.size 9 1 (.slice (some ⟨g6, 0, none⟩) ks.length ks.length) ks.length xs := by obtain ⟨xs, h⟩ := ho6; exact ⟨xs, ow.own_below h hb6⟩
  have hc6 := hb5.trans (hb6.mono hb5.size)
  obtain ⟨hL, hR, hZ, hTP, hB, hQ⟩ := HA.out _ hc6
  clear hL hR hTP hB hQ hv5 hb5 hb6 ho5 ho6 c0 c1 c2 c3 c4 HR4
  go_wp2_with fail
  generalize hG : w5.heap.size = G at M6 ⊢
  clear hG
  generalize w5.alloc _ = w6 at M6 V6 O5 O6 hc6 hZ ⊢
  refine (ow.toInts_any _ zs1 w6 hZ hn).mono ?_
  rintro e w7 ⟨V7, rfl, ho7, hb7⟩
  obtain ⟨a7, q7, rfl⟩ := vu.own_form ho7
  have hc7 := hc6.trans (hb7.mono hc6.size)
  have M7 := M6.keep hb7
  have HV7 : Hid (bx.RowsAt w7 (.slice (some ⟨g5, 0, none⟩) ms.length ms.length) (.slice (some ⟨g6, 0, none⟩) ks.length ks.length) ms ks) := bx.rows_below V6 hb7
  have O5 : ∃ xs, w7.ownsRow w4.heap.size 49 3 (.slice (some ⟨g5, 0, none⟩) ms.length ms.length) ms.length xs := by obtain ⟨xs, h⟩ := O5; exact ⟨xs, ow.own_below h hb7⟩
  have O6 : ∃ xs, w7.ownsRow w4.heap.size 9 1 (.slice (some ⟨g6, 0, none⟩) ks.length ks.length) ks.length xs := by obtain ⟨xs, h⟩ := O6; exact ⟨xs, ow.own_below h hb7⟩
  have o7 := vu.own_mono ho7 hc6.size
  have h7 : Hid (∀ g, (Value.slice a7 zs1.length q7).ownBlock = some g → g < w7.heap.size) := fun g hg => (ho7.lt g hg).2
  have hgB : g5 < w7.heap.size ∧ g6 < w7.heap.size := by obtain ⟨xs, h⟩ := O5; obtain ⟨ys, h'⟩ := O6; exact ⟨(h.lt g5 rfl).2, (h'.lt g6 rfl).2⟩
  obtain ⟨hL, hR, hZ7, hTP, hB, hQ⟩ := HA.out _ hc7
  have d0 := M7.c0
  have d1 := M7.c1
  have d2 := M7.c2
  have d3 := M7.c3
  have d4 := M7.c4
  simp only at d0 d1 d2
  have HT7 : Hid (tb.TP w7 ∧ ow.Reads .i64 w7 (.slice a7 zs1.length q7) zs1) := ⟨hTP, ow.reads_own ho7⟩
  have HO : Hid ((∃ xs, w7.ownsRow w4.heap.size 49 3 (.slice (some ⟨g5, 0, none⟩) ms.length ms.length) ms.length xs) ∧ (∃ xs, w7.ownsRow w4.heap.size 9 1 (.slice (some ⟨g6, 0, none⟩) ks.length ks.length) ks.length xs) ∧ w7.ownsRow w4.heap.size 3 1 (.slice a7 zs1.length q7) zs1.length (zs1.map (Value.int .i64)) ∧ Below w4.heap.size w4 w7) := ⟨O5, O6, o7, hc7⟩
  clear hL hR hZ7 hZ hTP hB hQ M6 V6 O5 O6 o7 ho7 hb7 hc6
  go_wp2_with fail
  refine (HIV.out _ _ _ w7 HT7.out.1 HV7.out HT7.out.2).mono ?_
  rintro e w8 ⟨⟨V8, rfl, ho8⟩, hb8⟩
  obtain ⟨a8, q8, rfl⟩ := vu.own_form ho8
  clear d0 d1 d2 d3 d4
  have HF : Hid (∀ X, Below w8.heap.size w8 X → bx.Lies X G 32 ⟨nm, vd, nx, ms, ks⟩ (.slice (some ⟨g5, 0, none⟩) ms.length ms.length) (.slice (some ⟨g6, 0, none⟩) ks.length ks.length) ∧ bx.RowsAt X (.slice (some ⟨g5, 0, none⟩) ms.length ms.length) (.slice (some ⟨g6, 0, none⟩) ks.length ks.length) ms ks ∧ (∃ xs, X.ownsRow w4.heap.size 49 3 (.slice (some ⟨g5, 0, none⟩) ms.length ms.length) ms.length xs) ∧ (∃ xs, X.ownsRow w4.heap.size 9 1 (.slice (some ⟨g6, 0, none⟩) ks.length ks.length) ks.length xs) ∧ X.ownsRow w4.heap.size 3 1 (.slice a7 zs1.length q7) zs1.length (zs1.map (Value.int .i64)) ∧ X.ownsRow w7.heap.size 3 1 (.slice a8 RL.length q8) RL.length (RL.map (Value.int .i64)) ∧ Below w4.heap.size w4 X) := fun X hX => by
    have hX7 : Below w7.heap.size w7 X := hb8.trans (hX.mono hb8.size)
    obtain ⟨⟨xs, o1⟩, ⟨ys, o2⟩, o3, o4⟩ := HO.out
    exact ⟨M7.keep hX7, bx.rows_below HV7.out hX7, ⟨xs, ow.own_below o1 hX7⟩, ⟨ys, ow.own_below o2 hX7⟩, ow.own_below o3 hX7, ow.own_below ho8 hX, o4.trans (hX7.mono o4.size)⟩
  have HSZ : Hid (w4.heap.size ≤ w7.heap.size) := HO.out.2.2.2.size
  clear HO HT7 HV7 M7 ho8 hb8 hc7
  have hTT : (T.toList == T.toList) = true := by simp
  have hTT2 : (T.toList != T.toList) = false := by simp
  have hCC : (RC != RC) = false := by simp
  obtain ⟨f1, f2, f3, f4, f5, f6, f7⟩ := HF.out w8 (Below.refl _ _)
  obtain ⟨hL, hR, hZ, hTP, hB, hQ⟩ := HA.out _ f7
  clear hL hR hZ hTP hB f1 f2 f3 f4 f5 f7
  go_wp2_with fail
  refine (ow.eqInts_any _ _ RL RL w8 (ow.reads_own f6) hQ (by omega) (by omega)).mono ?_
  rintro e w9 ⟨hs, mq, rfl⟩
  have hs := ow.says_true hs rfl
  subst hs
  have hb9 : Below w8.heap.size w8 (w8.drewN mq) := below_drewN (Below.refl _ _) mq
  clear f6 hQ
  generalize w8.drewN mq = w9 at hb9 ⊢
  go_wp2_with fail
  have HKC : Hid (∀ x, Below w8.heap.size w8 x → x.cell? ⟨w.heap.size, 0, none⟩ = some (.string nm) ∧ x.cell? ⟨w.heap.size, 0 + 1, none⟩ = some (.int .i64 vd) ∧ x.cell? ⟨w.heap.size, 0 + 2, none⟩ = some (.int .i64 nx) ∧ x.cell? ⟨w.heap.size, 0 + 3, none⟩ = some (.slice a ms.length cap) ∧ x.cell? ⟨w.heap.size, 0 + 4, none⟩ = some (.slice a1 ks.length cap1) ∧ x.cell? ⟨G, 0, none⟩ = some (.string nm) ∧ x.cell? ⟨G, 0 + 1, none⟩ = some (.int .i64 vd) ∧ x.cell? ⟨G, 0 + 2, none⟩ = some (.int .i64 nx) ∧ x.cell? ⟨G, 0 + 3, none⟩ = some (.slice (some ⟨g5, 0, none⟩) ms.length ms.length) ∧ x.cell? ⟨G, 0 + 4, none⟩ = some (.slice (some ⟨g6, 0, none⟩) ks.length ks.length)) := fun x hx => by
    obtain ⟨f1, _, _, _, _, _, f7⟩ := HF.out x hx
    obtain ⟨hL, _⟩ := HA.out _ f7
    exact ⟨hL.c0, hL.c1, hL.c2, hL.c3, hL.c4, f1.c0, f1.c1, f1.c2, f1.c3, f1.c4⟩
  have HTB : Hid (∀ x, Below w8.heap.size w8 x → Calls Tryd.prog 8 #[.agg #[.string nm, .int .i64 vd, .int .i64 nx, .slice a ms.length cap, .slice a1 ks.length cap1]] x fun e w' => ∃ g g', e = .returned (.agg #[.string nm, .int .i64 vd, .int .i64 nx, .slice (some ⟨g, 0, none⟩) ms.length ms.length, .slice (some ⟨g', 0, none⟩) ks.length ks.length]) ∧ bx.RowsAt w' (.slice (some ⟨g, 0, none⟩) ms.length ms.length) (.slice (some ⟨g', 0, none⟩) ks.length ks.length) ms ks ∧ Below w8.heap.size w8 w' ∧ w'.cell? ⟨w.heap.size, 0, none⟩ = some (.string nm) ∧ w'.cell? ⟨w.heap.size, 0 + 1, none⟩ = some (.int .i64 vd) ∧ w'.cell? ⟨w.heap.size, 0 + 2, none⟩ = some (.int .i64 nx) ∧ w'.cell? ⟨w.heap.size, 0 + 3, none⟩ = some (.slice a ms.length cap) ∧ w'.cell? ⟨w.heap.size, 0 + 4, none⟩ = some (.slice a1 ks.length cap1) ∧ w'.cell? ⟨G, 0, none⟩ = some (.string nm) ∧ w'.cell? ⟨G, 0 + 1, none⟩ = some (.int .i64 vd) ∧ w'.cell? ⟨G, 0 + 2, none⟩ = some (.int .i64 nx) ∧ w'.cell? ⟨G, 0 + 3, none⟩ = some (.slice (some ⟨g5, 0, none⟩) ms.length ms.length) ∧ w'.cell? ⟨G, 0 + 4, none⟩ = some (.slice (some ⟨g6, 0, none⟩) ks.length ks.length)) := fun x hx => by
    obtain ⟨_, _, _, _, _, _, f7⟩ := HF.out x hx
    obtain ⟨_, hR, _⟩ := HA.out _ f7
    exact (bx.toBox_any ⟨nm, vd, nx, ms, ks⟩ _ _ x hR hpl).mono fun e w' ⟨g, g', he, hv', hb'⟩ => ⟨g, g', he, hv', hx.trans (hb'.mono hx.size), HKC.out _ (hx.trans (hb'.mono hx.size))⟩
  have HEB : Hid (∀ x g g', bx.RowsAt x (.slice (some ⟨g, 0, none⟩) ms.length ms.length) (.slice (some ⟨g', 0, none⟩) ks.length ks.length) ms ks → Below w8.heap.size w8 x → Calls Tryd.prog 12 #[.agg #[.string nm, .int .i64 vd, .int .i64 nx, .slice (some ⟨g5, 0, none⟩) ms.length ms.length, .slice (some ⟨g6, 0, none⟩) ks.length ks.length], .agg #[.string nm, .int .i64 vd, .int .i64 nx, .slice (some ⟨g, 0, none⟩) ms.length ms.length, .slice (some ⟨g', 0, none⟩) ks.length ks.length]] x fun e w' => e = .returned (.bool true) ∧ Below w8.heap.size w8 w' ∧ w'.cell? ⟨w.heap.size, 0, none⟩ = some (.string nm) ∧ w'.cell? ⟨w.heap.size, 0 + 1, none⟩ = some (.int .i64 vd) ∧ w'.cell? ⟨w.heap.size, 0 + 2, none⟩ = some (.int .i64 nx) ∧ w'.cell? ⟨w.heap.size, 0 + 3, none⟩ = some (.slice a ms.length cap) ∧ w'.cell? ⟨w.heap.size, 0 + 4, none⟩ = some (.slice a1 ks.length cap1) ∧ w'.cell? ⟨G, 0, none⟩ = some (.string nm) ∧ w'.cell? ⟨G, 0 + 1, none⟩ = some (.int .i64 vd) ∧ w'.cell? ⟨G, 0 + 2, none⟩ = some (.int .i64 nx) ∧ w'.cell? ⟨G, 0 + 3, none⟩ = some (.slice (some ⟨g5, 0, none⟩) ms.length ms.length) ∧ w'.cell? ⟨G, 0 + 4, none⟩ = some (.slice (some ⟨g6, 0, none⟩) ks.length ks.length)) := fun x g g' h2 hx => by
    obtain ⟨_, f2, _⟩ := HF.out x hx
    exact (bx.eqBox_any ⟨nm, vd, nx, ms, ks⟩ _ _ _ _ x f2 h2 hpl).mono fun e w' ⟨he, hb'⟩ => ⟨he, hx.trans (hb'.mono hx.size), HKC.out _ (hx.trans (hb'.mono hx.size))⟩
  have hd : Below w8.heap.size w8 w9.drew := hb9.drew
  obtain ⟨e0, e1, e2, e3, e4, e5, e6, e7, e8, e9⟩ := HKC.out w9 hb9
  obtain ⟨f1, _, _, _, _, _, f7⟩ := HF.out w9 hb9
  obtain ⟨hL, _⟩ := HA.out _ f7
  have hMl : G < w9.heap.size := f1.lt
  have hLl : w.heap.size < w9.heap.size := hL.lt
  clear f1 f7 hL
  go_region_held (fun w' => w'.cell? ⟨w.heap.size, 0, none⟩ = some (.string nm) ∧ w'.cell? ⟨w.heap.size, 0 + 1, none⟩ = some (.int .i64 vd) ∧ w'.cell? ⟨w.heap.size, 0 + 2, none⟩ = some (.int .i64 nx) ∧ w'.cell? ⟨w.heap.size, 0 + 3, none⟩ = some (.slice a ms.length cap) ∧ w'.cell? ⟨w.heap.size, 0 + 4, none⟩ = some (.slice a1 ks.length cap1) ∧ w'.cell? ⟨G, 0, none⟩ = some (.string nm) ∧ w'.cell? ⟨G, 0 + 1, none⟩ = some (.int .i64 vd) ∧ w'.cell? ⟨G, 0 + 2, none⟩ = some (.int .i64 nx) ∧ w'.cell? ⟨G, 0 + 3, none⟩ = some (.slice (some ⟨g5, 0, none⟩) ms.length ms.length) ∧ w'.cell? ⟨G, 0 + 4, none⟩ = some (.slice (some ⟨g6, 0, none⟩) ks.length ks.length))
    (go_keep)
    (first | (go_at_call 8; refine (HTB.out _ hd).mono ?_; rintro e w10 ⟨q0, q1, rfl, h2, hb10, p0, p1, p2, p3, p4, p5, p6, p7, p8, p9⟩) | (go_at_call 12; refine (HEB.out _ _ _ h2 hb10).mono ?_; rintro e w11 ⟨rfl, hb11, p0, p1, p2, p3, p4, p5, p6, p7, p8, p9⟩))
  have hb12 : Below w8.heap.size w8 w11 := hb11
  clear HTB HEB HKC hd hb9 hb10 hb11 h2 p0 p1 p2 p3 p4 p5 p6 p7 p8 p9 e0 e1 e2 e3 e4 e5 e6 e7 e8 e9 hMl hLl
  obtain ⟨f1, f2, f3, f4, f5, f6, f7⟩ := HF.out w11 hb12
  obtain ⟨hL, hR, hZ, hTP, hB, hQ⟩ := HA.out _ f7
  clear hL hR hTP hB hQ f1 f2 f3 f4 f5 f6 f7
  go_wp2_with fail
  refine (ow.toInts_any _ zs1 w11 hZ hn).mono ?_
  rintro e w13 ⟨V13, rfl, ho13, hb13⟩
  obtain ⟨a13, q13, rfl⟩ := vu.own_form ho13
  have hb14 := hb12.trans (hb13.mono hb12.size)
  clear hZ hb12 hb13
  obtain ⟨f1, f2, f3, f4, f5, f6, f7⟩ := HF.out w13 hb14
  clear f1 f2 f3 f4 f6 f7
  go_wp2_with fail
  refine (ow.eqInts_any _ _ zs1 zs1 w13 (ow.reads_own f5) (ow.reads_own ho13) hn hn).mono ?_
  rintro e w14 ⟨hs, mq2, rfl⟩
  have hs := ow.says_true hs rfl
  subst hs
  have hb15 : Below w8.heap.size w8 (w13.drewN mq2) := below_drewN hb14 mq2
  clear f5 ho13 hb14
  generalize w13.drewN mq2 = w14 at hb15 ⊢
  obtain ⟨f1, f2, f3, f4, f5, f6, f7⟩ := HF.out w14 hb15
  have d0 := f1.c0
  have d1 := f1.c1
  have d2 := f1.c2
  have d3 := f1.c3
  have d4 := f1.c4
  simp only at d0 d1 d2
  have HMB : Hid (Calls Tryd.prog 13 #[.agg #[.string nm, .int .i64 vd, .int .i64 nx, .slice (some ⟨g5, 0, none⟩) ms.length ms.length, .slice (some ⟨g6, 0, none⟩) ks.length ks.length], .int .i64 1] w14 fun e w' => (∃ k : Int, e = .returned (.int .i64 k) ∧ 0 ≤ k ∧ k ≤ 10000000) ∧ mx.Mk w4.heap.size w7.heap.size w14 w' ∧ vu.IntRows w14 w') := vu.markBox_mk ⟨nm, vd, nx, ms, ks⟩ g5 g6 w4.heap.size w7.heap.size w14 f3 f4 ⟨hg5, hg6⟩ hgB hpl
  have HO : Hid (w14.ownsRow w4.heap.size 3 1 (.slice a7 zs1.length q7) zs1.length (zs1.map (Value.int .i64)) ∧ w14.ownsRow w7.heap.size 3 1 (.slice a8 RL.length q8) RL.length (RL.map (Value.int .i64)) ∧ Below w4.heap.size w4 w14) := ⟨f5, f6, f7⟩
  clear f1 f2 f3 f4 f5 f6 f7 HF hb15
  go_wp2_with fail
  refine HMB.out.mono ?_
  rintro e w15 ⟨⟨k15, rfl, hk0, hk1⟩, hm15, hi15⟩
  have HO2 : Hid (w15.ownsRow w4.heap.size 3 1 (.slice a7 zs1.length q7) zs1.length (zs1.map (Value.int .i64)) ∧ w15.ownsRow w7.heap.size 3 1 (.slice a8 RL.length q8) RL.length (RL.map (Value.int .i64)) ∧ Below w4.heap.size w4 w15) := ⟨hi15 _ _ _ _ HO.out.1, hi15 _ _ _ _ HO.out.2.1, HO.out.2.2.trans ((hm15.bel HO.out.2.2.size).mono (Nat.le_refl _))⟩
  clear HMB HO hm15 hi15 d0 d1 d2 d3 d4
  have HMI : Hid (Calls Tryd.prog 14 #[.slice a7 zs1.length q7, .int .i64 k15] w15 fun e w' => (∃ k' : Int, e = .returned (.int .i64 k') ∧ 0 ≤ k') ∧ w'.ownsRow w7.heap.size 3 1 (.slice a8 RL.length q8) RL.length (RL.map (Value.int .i64)) ∧ Below w4.heap.size w4 w') := by
    refine (ow.mark_any _ zs1.length w4.heap.size zs1 k15 w15 HO2.out.1 hn hk0 (by omega)).mono ?_
    rintro e w' ⟨rfl, _, hg⟩
    refine ⟨⟨_, rfl, by omega⟩, HO2.out.2.1.kept hg ?_, HO2.out.2.2.grown hg HO2.out.2.2.size (fun k hk => ow.own_lt HO2.out.1 k hk)⟩
    cases hb : (Value.slice a8 RL.length q8).ownBlock with
    | none => exact .inl rfl
    | some g8 =>
      right
      intro e
      have h1 := ow.own_lt HO2.out.2.1 g8 hb
      have h2 := h7.out g8 e.symm
      omega
  clear HO2
  go_wp2_with fail
  refine HMI.out.mono ?_
  rintro e w16 ⟨⟨k16, rfl, hk16⟩, o16, hb16⟩
  clear HMI hk0 hk1
  have hk16' : ¬ k16 < 0 := by omega
  have hk16d : decide (k16 < 0) = false := decide_eq_false hk16'
  obtain ⟨hL, hR, hZ, hTP, hB, hQ⟩ := HA.out _ hb16
  clear hL hR hZ hTP hB
  go_wp2_with fail
  refine (ow.eqInts_any _ _ RL RL w16 (ow.reads_own o16) hQ (by omega) (by omega)).mono ?_
  rintro e w17 ⟨hs, mq3, rfl⟩
  have hs := ow.says_true hs rfl
  subst hs
  have hb17 : Below w4.heap.size w4 (w16.drewN mq3) := below_drewN hb16 mq3
  have o17 : (w16.drewN mq3).ownsRow w7.heap.size 3 1 (.slice a8 RL.length q8) RL.length (RL.map (Value.int .i64)) := ow.own_below o16 (below_drewN (Below.refl _ _) mq3)
  clear o16 hb16 hQ
  generalize w16.drewN mq3 = w17 at hb17 o17 ⊢
  go_wp2_with fail
  refine (ow.mark_any _ RL.length w7.heap.size RL 1 w17 o17 (by omega) (by omega) (by omega)).mono ?_
  rintro e w18 ⟨rfl, ⟨ys, hyl, hmk, o18⟩, hg18⟩
  have hb18 : Below w4.heap.size w4 w18 := hb17.grown hg18 hb17.size (fun k hk => Nat.le_trans HSZ.out (ow.own_lt o17 k hk))
  clear o17 hb17 hg18
  have HYL : Hid (ys.length = RL.length) := hyl
  have HMK : Hid (ow.Marks 1 ys RL.length) := hmk
  have HHE : Hid (∀ X, X.ownsRow w7.heap.size 3 1 (.slice a8 RL.length q8) RL.length (ys.map (Value.int .i64)) → Calls Tryd.prog 15 #[.slice a8 RL.length q8, .int .i64 1] X fun e w' => e = .returned (.int .i64 (1 + (RL.length : Int))) ∧ w' = X) := fun X hX => by
    have h1 := ow.held_any _ ys 1 X (ow.reads_own hX) (by rw [HYL.out]; exact HMK.out) (by rw [HYL.out]; omega) (by omega) (by omega)
    rw [HYL.out] at h1
    exact h1
  clear hyl hmk
  go_wp2_with fail
  refine (HHE.out w18 o18).mono ?_
  rintro e w' ⟨rfl, hw'⟩
  have hw' := hw'.symm
  subst hw'
  have hq1 : ¬ (1 + (RL.length : Int)) < 0 := by omega
  have hq1d : decide (1 + (RL.length : Int) < 0) = false := decide_eq_false hq1
  have hq2 : ((1 + (RL.length : Int)) != (1 + (RL.length : Int))) = false := by simp
  have HO18 : Hid (w18.ownsRow w7.heap.size 3 1 (.slice a8 RL.length q8) RL.length (ys.map (Value.int .i64))) := o18
  obtain ⟨hL, hR, hZ, hTP, hB, hQ⟩ := HA.out _ hb18
  have HR18 : Hid (bx.RowsAt w18 (.slice a ms.length cap) (.slice a1 ks.length cap1) ms ks) := hR
  have c0 := hL.c0
  have c1 := hL.c1
  have c2 := hL.c2
  have c3 := hL.c3
  have c4 := hL.c4
  simp only at c0 c1 c2
  clear hL hR hZ hTP hB hQ o18
  go_wp2_with fail
  refine (bx.toBox_any ⟨nm, vd, nx, ms, ks⟩ _ _ w18 HR18.out hpl).mono ?_
  rintro e w19 ⟨g19, g20, rfl, hv19, hb19⟩
  have hb20 := hb18.trans (hb19.mono hb18.size)
  obtain ⟨hL, hR, hZ, hTP, hB, hQ⟩ := HA.out _ hb20
  have HO19 : Hid (w19.ownsRow w7.heap.size 3 1 (.slice a8 RL.length q8) RL.length (ys.map (Value.int .i64)) ∧ ow.Reads .i64 w19 (.slice av zs1.length cv) zs1 ∧ bx.RowsAt w19 (.slice (some ⟨g19, 0, none⟩) ms.length ms.length) (.slice (some ⟨g20, 0, none⟩) ks.length ks.length) ms ks) := ⟨ow.own_below HO18.out hb19, hZ, hv19⟩
  clear hL hR hZ hTP hB hQ hv19 hb19 hb18 c0 c1 c2 c3 c4 HR18 HO18
  unfold bx.BV
  simp only
  go_wp2_with fail
  refine (ow.toInts_any _ zs1 w19 HO19.out.2.1 hn).mono ?_
  rintro e w20 ⟨V20, rfl, ho20, hb21⟩
  obtain ⟨a20, q20, rfl⟩ := vu.own_form ho20
  have hb22 := hb20.trans (hb21.mono hb20.size)
  obtain ⟨hL, hR, hZ, hTP, hB, hQ⟩ := HA.out _ hb22
  have HO20 : Hid (w20.ownsRow w7.heap.size 3 1 (.slice a8 RL.length q8) RL.length (ys.map (Value.int .i64)) ∧ ow.Reads .i64 w20 (.slice a20 zs1.length q20) zs1 ∧ bx.RowsAt w20 (.slice (some ⟨g19, 0, none⟩) ms.length ms.length) (.slice (some ⟨g20, 0, none⟩) ks.length ks.length) ms ks ∧ tb.TP w20) := ⟨ow.own_below HO19.out.1 hb21, ow.reads_own ho20, bx.rows_below HO19.out.2.2 hb21, hTP⟩
  clear hL hR hZ hTP hB hQ ho20 hb20 hb21 HO19
  go_wp2_with fail
  refine (HIV.out _ _ _ w20 HO20.out.2.2.2 HO20.out.2.2.1 HO20.out.2.1).mono ?_
  rintro e w21 ⟨⟨V21, rfl, ho21⟩, hb23⟩
  obtain ⟨a21, q21, rfl⟩ := vu.own_form ho21
  have hb24 := hb22.trans (hb23.mono hb22.size)
  obtain ⟨hL, hR, hZ, hTP, hB, hQ⟩ := HA.out _ hb24
  have HO21 : Hid (w21.ownsRow w7.heap.size 3 1 (.slice a8 RL.length q8) RL.length (ys.map (Value.int .i64))) := ow.own_below HO20.out.1 hb23
  clear hL hR hZ hTP hB HO20 hb22 hb23
  go_wp2_with fail
  refine (ow.eqInts_any _ _ RL RL w21 (ow.reads_own ho21) hQ (by omega) (by omega)).mono ?_
  rintro e w22 ⟨hs, mq4, rfl⟩
  have hs := ow.says_true hs rfl
  subst hs
  have hb25 : Below w4.heap.size w4 (w21.drewN mq4) := below_drewN hb24 mq4
  have o22 : (w21.drewN mq4).ownsRow w7.heap.size 3 1 (.slice a8 RL.length q8) RL.length (ys.map (Value.int .i64)) := ow.own_below HO21.out (below_drewN (Below.refl _ _) mq4)
  clear ho21 hb24 hQ HO21
  generalize w21.drewN mq4 = w22 at hb25 o22 ⊢
  go_wp2_with fail
  refine (HHE.out w22 o22).mono ?_
  rintro e w' ⟨rfl, hw'⟩
  have hw' := hw'.symm
  subst hw'
  obtain ⟨hL, hR, hZ, hTP, hB, hQ⟩ := HA.out _ hb25
  have HBB : Hid (Below w.heap.size w w22) := hB
  clear hL hR hZ hTP hB hQ o22 hb25
  go_wp2
  go_ret
  exact ⟨rfl, HBB.out⟩

set_option maxRecDepth 100000 in
theorem contract (H : Type) (enc : TypeId × Value → H) (W : World) (base : Nat) (args : Array Value) (ds gs : List (DataW H)) (before : List MemPlace)
    (hval : ∀ (j : Nat) t v, Tryd.f3.params[j]? = some t → args[j]? = some v → Value.okWide Tryd.prog W .any base t v)
    (hW : DataW.Whole enc Tryd.prog Tryd.f3.params.toList Rows.fnExactViewUpdatesSpec.vars false W args.toList ds gs before) (hL : laidMetH Tryd.prog Rows.fnExactViewUpdatesRow.laid W) (hsh : W.ShapedOpen Tryd.prog) :
    Calls Tryd.prog 3 args W fun e W' => ∃ v, e = .returned v ∧ Rows.fnExactViewUpdatesSpec.post enc Tryd.prog Tryd.f3 false true false false W args v W' := by
  have hW' := hW
  obtain ⟨p, q, hA0, hV, rfl, hfz, hnd⟩ := hW
  have hA : DataW.TrodAll enc Tryd.prog W 0 (fun _ => true) true Tryd.f3.params.toList args.toList ds p := hA0
  rw [Tryd.params3] at hA hval
  obtain ⟨v0, vs0, d0, ds0, p0, q0, hargs0, rfl, rfl, h0, r0⟩ := trodAll_cons hA
  obtain ⟨v1, vs1, d1, ds1, p1, q1, hargs1, rfl, rfl, h1, r1⟩ := trodAll_cons r0
  obtain ⟨hnil, rfl, rfl⟩ := trodAll_nil r1
  obtain rfl : args = #[v0, v1] := by cases args; simp_all
  have k0 := h0
  have lt0 : ∀ x ∈ p0, x.block < W.heap.size := by obtain ⟨m, hm⟩ := k0; exact DataW.trod_lt m _ _ _ hm
  obtain ⟨bx0, pv0, qv0, rfl, wa0, wb0⟩ := bx.open_box (hval 0 25 v0 rfl rfl) h0
  have k1 := h1
  have lt1 : ∀ x ∈ p1, x.block < W.heap.size := by obtain ⟨m, hm⟩ := k1; exact DataW.trod_lt m _ _ _ hm
  obtain ⟨a1, len1, cap1, rfl⟩ := okWide_slice Tryd.underlying26 (hval 1 26 v1 rfl rfl)
  obtain ⟨fu1, hf1⟩ := h1
  have hcs1 : (Value.slice a1 len1 cap1).cells.toList = [Value.slice a1 len1 cap1] := by simp [Value.cells]
  rw [hcs1] at hf1
  obtain ⟨zs1, wa1, wb1⟩ := oi.open_ints hf1
  clear hA0
  simp only [List.append_nil] at hW'
  have hLL : laidMet Tryd.prog Rows.fnExactViewUpdatesRow.laid W := hL
  obtain ⟨ps, hLV, _⟩ := hLL
  obtain ⟨rfl, rfl⟩ := trodVars_none hV
  refine (walk bx0 _ _ _ zs1 W wa0 wb0 wa1 wb1 (tb.tp_of (List.mem_of_getElem? (i := 2) (by kernel_rfl)) hLV)).mono fun e W' ⟨he, bel⟩ => ?_
  subst he
  exact ⟨_, rfl, _, _, _, [], _, [], hW', trodAll_cons_mk (shut_bool Tryd.underlying4 _) trodAll_mk0, (trodAll_cons_mk (Below.trod laidOut (by kernel_rfl) (of_decide_eq_true (by kernel_rfl)) k0 bel lt0) (trodAll_cons_mk (Below.trod laidOut (by kernel_rfl) (of_decide_eq_true (by kernel_rfl)) k1 bel lt1) trodAll_mk0)), rfl, bel.frame _, fun h => by cases h⟩
set_option maxRecDepth 100000 in
theorem laid_met (os : Os) : laidMet Tryd.prog Rows.fnExactViewUpdatesRow.laid ((World.doorLaid Tryd.prog 39 os).forCall (fun _ _ => 0) ⟨#[], #[Value.agg #[.string .empty, .int .i64 0, .int .i64 0, .slice none 0 0, .slice none 0 0], Value.slice none 0 0], []⟩).memory :=
  laidMet_of_run' 8 (by kernel_rfl) (by kernel_rfl)
theorem reads (os : Os) {H : Type} (enc : TypeId × Value → H) : ∃ places, DataW.whole enc Tryd.prog ((World.doorLaid Tryd.prog 39 os).forCall (fun _ _ => 0) ⟨#[], #[Value.agg #[.string .empty, .int .i64 0, .int .i64 0, .slice none 0 0, .slice none 0 0], Value.slice none 0 0], []⟩).memory Tryd.f3.params.toList Rows.fnExactViewUpdatesSpec.vars false #[Value.agg #[.string .empty, .int .i64 0, .int .i64 0, .slice none 0 0, .slice none 0 0], Value.slice none 0 0].toList 8 = some ([.agg [.lit (.string []), .lit (.int .i64 0), .lit (.int .i64 0), .nil, .nil], .nil], [], places) :=
  ⟨[], by kernel_rfl⟩

set_option maxRecDepth 100000 in
theorem lifted (os : Os) (started : os.Started) (H : Type) (enc : TypeId × Value → H) (F : Stop.Interp) :
    ReturnsInHanded {} Tryd.checked os 3 .any ((OpenSpec.ofChange Rows.fnExactViewUpdatesSpec).preRow enc Tryd.prog Tryd.f3 Rows.fnExactViewUpdatesRow.domain false Rows.fnExactViewUpdatesRow.laid) (((OpenSpec.ofChange Rows.fnExactViewUpdatesSpec).at F).post enc Tryd.prog Tryd.f3 false true false false) := by
  obtain ⟨places, hx⟩ := reads os enc
  refine returnsInHanded_of_row (C := Tryd.checked) (s := OpenSpec.ofChange Rows.fnExactViewUpdatesSpec) own started (by kernel_rfl) Tryd.func3
    (witness_row_atRef (enc := enc) (C := Tryd.checked) false (World.doorLaid Tryd.prog 39 os) #[Value.agg #[.string .empty, .int .i64 0, .int .i64 0, .slice none 0 0, .slice none 0 0], Value.slice none 0 0] rfl (by kernel_rfl) (by kernel_rfl) (by kernel_rfl)
      (OpenSpec.preRow_of_cond 8 hx (by kernel_rfl) (fun k hk => by cases hk) (by kernel_rfl) (laid_met os))) ?_
  intro W base args ds gs before hval hW _ _ _ hL hsh _
  exact contract H enc W base args ds gs before hval hW hL hsh

theorem said : Rows.FnExactViewUpdatesSaid :=
  OpenClaim.holds_of_cond 3 Tryd.f3 rfl rfl rfl rfl rfl rfl rfl ⟨rfl, rfl, rfl, rfl, rfl⟩ rfl rfl rfl rfl rfl (by kernel_rfl) Tryd.func3 (by kernel_rfl)
    (of_decide_eq_true (by kernel_rfl)) (by unfold Func.isWrapper; first | (rw [if_pos (by decide +kernel)]; kernel_rfl) | (rw [if_neg (by decide +kernel)]; exact ⟨rfl, rfl⟩))
    (fun os started H enc _ F => by rw [OpenClaim.pre_eq_preRow]; exact lifted os started H enc F)

theorem plain (f : FuncId) (fn : Func) (hf : Tryd.pinned.checked.prog.funcNamed Rows.fnExactViewUpdatesRow.func = some f) (hfn : Tryd.pinned.checked.prog.funcs[f]? = some fn) :
    false = Tryd.pinned.checked.prog.looks [] ∧ ∀ (j : Nat) t, fn.params[j]? = some t → Tryd.pinned.checked.prog.wantsStandIn t = false := by
  obtain rfl : f = 3 := Option.some.inj ((show Tryd.prog.funcNamed Rows.fnExactViewUpdatesRow.func = some 3 by kernel_rfl).symm.trans hf) |>.symm
  obtain rfl : fn = Tryd.f3 := (Option.some.inj (Tryd.func3.symm.trans hfn)).symm
  refine ⟨by kernel_rfl, fun j t ht => ?_⟩
  rw [Tryd.params3] at ht
  have hm : t = 25 ∨ t = 26 := by simpa using Array.mem_of_getElem? ht
  rcases hm with rfl | rfl
  · exact (show Tryd.prog.wantsStandIn 25 = false by kernel_rfl)
  · exact (show Tryd.prog.wantsStandIn 26 = false by kernel_rfl)

theorem card : Rows.FnExactViewUpdatesCardSaid :=
  Claim7.holds_tied_plain_at .later [] _ _ _ _ said (fun _ h => by cases h) (by kernel_rfl) (fun _ h => by cases h) fnExactViewUpdates_row_tie rfl ⟨rfl, rfl⟩ (by kernel_rfl) rfl plain (by kernel_rfl)
end Go.Proofs.YtdnjiagnpaibjaaDoor.fnExactViewUpdates
namespace Go.Proofs.YtdnjiagnpaibjaaDoor
theorem fnExactViewUpdates_card : Rows.FnExactViewUpdatesCardSaid := fnExactViewUpdates.card
#print axioms fnExactViewUpdates_card
end Go.Proofs.YtdnjiagnpaibjaaDoor
