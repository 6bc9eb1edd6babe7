/-
  Both ViewUpdates functions.
-/
import Derived.Test.YtdnjiagnpaibjaaDoorVui
import Derived.Test.YtdnjiagnpaibjaaDoorSpm
namespace Go.Proofs.YtdnjiagnpaibjaaDoor.vu
open Go.RowKit
open ow (Reads)
set_option linter.unusedVariables false

/-- What ViewUpdates answers. -/
def Vr (x : bx.Bx) (zs : List Int) : List UInt8 × List Int × Int := if 4096 < zs.length then ([], [], 2) else if bx.bok x = true ∧ vi.upB zs = true then (sd (uo x.ms) zs, al (uo x.ms) zs, 0) else ([], [], 1)

set_option maxHeartbeats 2000000 in
set_option maxRecDepth 100000 in
theorem impl_vu (x : bx.Bx) (p q v : Value) (zs : List Int) (w : World) (hT : tb.TP w) (h : bx.RowsAt w p q x.ms x.ks) (hx : bx.Small x) (hz : Reads .i64 w v zs) (hzl : zs.length ≤ 1048576) :
    Calls Tryd.prog 10 #[bx.BV x p q, v] w fun e w' => (∃ V, e = .returned (.tuple #[.string ⟨(Vr x zs).1.toArray⟩, V, .int .i64 (Vr x zs).2.2]) ∧ w'.ownsRow w.heap.size 3 1 V (Vr x zs).2.1.length ((Vr x zs).2.1.map (Value.int .i64))) ∧ Below w.heap.size w w' := by
  have L0 := bx.lies_new w 32 x p q
  have b0 := bx.new_below w 32 #[.string x.nm, .int .i64 x.vd, .int .i64 x.nx, p, q]
  have HK : Hid (∀ X, Below (w.alloc (.cells #[.string x.nm, .int .i64 x.vd, .int .i64 x.nx, p, q] 32)).heap.size (w.alloc (.cells #[.string x.nm, .int .i64 x.vd, .int .i64 x.nx, p, q] 32)) X → bx.Lies X w.heap.size 32 x p q ∧ bx.RowsAt X p q x.ms x.ks ∧ Reads .i64 X v zs ∧ tb.TP X ∧ Below w.heap.size w X) := fun X hX => by
    have hb : Below w.heap.size w X := b0.trans (hX.mono (by simp))
    exact ⟨L0.keep hX, bx.rows_below h hb, reads_below hz hb, tb.keep' hT hb, hb⟩
  have HX : Hid (bx.Small x) := hx
  obtain ⟨⟨a, cap, rfl, hd1⟩, ⟨a1, cap1, rfl, hd2⟩⟩ := h
  obtain ⟨av, cv, rfl, hd3⟩ := hz
  clear hd1 hd2 hd3 hT hx
  obtain ⟨n, hn⟩ : ∃ n, n = zs.length := ⟨_, rfl⟩
  have HN : Hid (n = zs.length) := hn
  rw [← hn] at HK hzl ⊢
  clear hn
  obtain ⟨nm, vd, nx, ms, ks⟩ := x
  unfold bx.BV
  simp only at *
  by_cases hbig : 4096 < n
  · have HV : Hid (Vr ⟨nm, vd, nx, ms, ks⟩ zs = ([], [], 2)) := if_pos (by rw [← HN.out]; exact hbig)
    have hbig' : (4096 : Int) < (n : Int) := by omega
    go_enter Tryd.func10, Tryd.ntmps10
    go_wp2
    go_ret3
    exact ⟨⟨.slice none 0 0, by rw [HV.out]; rfl, by rw [HV.out]; exact World.ownsRow_nil _ _ _ _⟩, b0⟩
  have hbig' : (n : Int) ≤ 4096 := by omega
  have HV0 : Hid (Vr ⟨nm, vd, nx, ms, ks⟩ zs = if bx.bok ⟨nm, vd, nx, ms, ks⟩ = true ∧ vi.upB zs = true then (sd (uo ms) zs, al (uo ms) zs, 0) else ([], [], 1)) := if_neg (by rw [← HN.out]; exact hbig)
  obtain ⟨W, hW⟩ : ∃ W, W = w.alloc (.cells #[.string nm, .int .i64 vd, .int .i64 nx, .slice a ms.length cap, .slice a1 ks.length cap1] 32) := ⟨_, rfl⟩
  rw [← hW] at HK L0 b0
  obtain ⟨hL, hR, hZ, hTP, hB⟩ := HK.out W (Below.refl _ _)
  have HBO : Hid (Calls Tryd.prog 30 #[.agg #[.string nm, .int .i64 vd, .int .i64 nx, .slice a ms.length cap, .slice a1 ks.length cap1]] W fun e w' => e = .returned (.bool (bx.bok ⟨nm, vd, nx, ms, ks⟩)) ∧ Below W.heap.size W w') := bx.impl_bok ⟨nm, vd, nx, ms, ks⟩ _ _ W hR HX.out
  clear hL hR hZ hTP hB b0 L0
  have hc : ¬ (4096 : Int) < (n : Int) := by omega
  go_enter Tryd.func10, Tryd.ntmps10
  go_wp2_with (rw [← hW])
  clear hW
  refine HBO.out.mono ?_
  rintro e w1 ⟨rfl, hb1⟩
  generalize hbo : bx.bok ⟨nm, vd, nx, ms, ks⟩ = bo at HV0 ⊢
  have HBK : Hid (bx.bok ⟨nm, vd, nx, ms, ks⟩ = bo) := hbo
  clear hbo HBO
  obtain ⟨hL, hR, hZ, hTP, hB⟩ := HK.out w1 hb1
  cases bo
  · have HV : Hid (Vr ⟨nm, vd, nx, ms, ks⟩ zs = ([], [], 1)) := by rw [HV0.out, if_neg (fun y => by cases y.1)]; exact rfl
    have HB : Hid (Below w.heap.size w w1) := hB
    clear hL hR hZ hTP hB
    go_wp2
    go_ret3
    exact ⟨⟨.slice none 0 0, by rw [HV.out]; rfl, by rw [HV.out]; exact World.ownsRow_nil _ _ _ _⟩, HB.out⟩
  have HVI : Hid (Calls Tryd.prog 31 #[.slice av n cv] w1 fun e w' => ow.Says (vi.IsV zs) e ∧ w' = w1) := vi.impl_view _ zs w1 hZ (by rw [← HN.out]; exact hzl)
  have c0 := hL.c0
  have c1 := hL.c1
  have c2 := hL.c2
  have c3 := hL.c3
  have c4 := hL.c4
  simp only at c0 c1 c2
  have HR : Hid (bx.RowsAt w1 (.slice a ms.length cap) (.slice a1 ks.length cap1) ms ks ∧ Reads .i64 w1 (.slice av n cv) zs ∧ tb.TP w1 ∧ Below w.heap.size w w1) := ⟨hR, hZ, hTP, hB⟩
  clear hL hR hZ hTP hB
  go_wp2_with fail
  refine HVI.out.mono ?_
  rintro e w' ⟨⟨bv, rfl, hbv⟩, hw'⟩
  have hw' := hw'.symm
  subst hw'
  have HBV : Hid (bv = true ↔ vi.IsV zs) := hbv
  clear hbv HVI
  cases bv
  · have HV : Hid (Vr ⟨nm, vd, nx, ms, ks⟩ zs = ([], [], 1)) := by rw [HV0.out, if_neg (fun y => by have := HBV.out.2 ((vi.upB_iff zs).1 y.2); simp at this)]; exact rfl
    have HB : Hid (Below w.heap.size w w1) := HR.out.2.2.2
    go_wp2
    go_ret3
    exact ⟨⟨.slice none 0 0, by rw [HV.out]; rfl, by rw [HV.out]; exact World.ownsRow_nil _ _ _ _⟩, HB.out⟩
  have hv : vi.IsV zs := HBV.out.1 (by trivial)
  have HV : Hid (Vr ⟨nm, vd, nx, ms, ks⟩ zs = (sd (uo ms) zs, al (uo ms) zs, 0)) := by rw [HV0.out, if_pos ⟨by trivial, (vi.upB_iff zs).2 hv⟩]; exact rfl
  have HU : Hid (Calls Tryd.prog 32 #[.agg #[.string nm, .int .i64 vd, .int .i64 nx, .slice a ms.length cap, .slice a1 ks.length cap1], .slice av n cv] w1 fun e w' => (∃ V, e = .returned (.tuple #[.string ⟨(sd (uo ms) zs).toArray⟩, V]) ∧ w'.ownsRow w1.heap.size 3 1 V (al (uo ms) zs).length ((al (uo ms) zs).map (Value.int .i64))) ∧ Below w1.heap.size w1 w') := impl_up ⟨nm, vd, nx, ms, ks⟩ _ _ _ zs w1 HR.out.2.2.1 HR.out.1 (bx.mails_of ((bx.bok_of _).1 HBK.out).2.2.2.1).1 (st.rising_bok HBK.out) HR.out.2.1 (by have := vi.up_len hv; omega)
  clear hv
  go_wp2_with fail
  refine HU.out.mono ?_
  rintro e w2 ⟨⟨V, rfl, ho⟩, hb2⟩
  have HO : Hid (w2.ownsRow w.heap.size 3 1 V (al (uo ms) zs).length ((al (uo ms) zs).map (Value.int .i64)) ∧ Below w.heap.size w w2) := ⟨own_mono ho HR.out.2.2.2.size, HR.out.2.2.2.trans (hb2.mono HR.out.2.2.2.size)⟩
  clear HU ho hb2 HR c0 c1 c2 c3 c4
  go_wp2
  go_ret3
  exact ⟨⟨V, by rw [HV.out]; rfl, by rw [HV.out]; exact HO.out.1⟩, HO.out.2⟩
end Go.Proofs.YtdnjiagnpaibjaaDoor.vu
