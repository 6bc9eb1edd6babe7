/-
  The specification's ViewUpdates; the marks of a box and of a view.
-/
import Derived.Test.YtdnjiagnpaibjaaDoorVus
import Derived.Test.YtdnjiagnpaibjaaDoorMkx
import Derived.Test.YtdnjiagnpaibjaaDoorBxf
namespace Go.Proofs.YtdnjiagnpaibjaaDoor.vu
open Go.RowKit
open ow (Reads)
set_option linter.unusedVariables false

theorem ris_bok {x : bx.Bx} (h : bx.bok x = true) : Ris (uo x.ms) := by
  have h1 := st.rising_bok h
  have h2 := (bx.mails_of ((bx.bok_of x).1 h).2.2.2.1).2
  refine ⟨fun i j hij hj => ?_, fun j hj => ?_⟩
  · rw [uo_len] at hj
    rw [uo_at (by omega), uo_at hj]
    exact h1 i j hij hj
  · rw [uo_len] at hj
    rw [uo_at hj]
    have h3 := (h2 j hj).1
    have h4 := bx.last_pos (k := j) (fun i hi => h2 i (by omega))
    omega

set_option maxHeartbeats 2000000 in
set_option maxRecDepth 100000 in
theorem spec_vu (x : bx.Bx) (p q v : Value) (zs : List Int) (w : World) (h : bx.RowsAt w p q x.ms x.ks) (hx : bx.Small x) (hcap : ∀ a n c, q = .slice a n c → n ≤ c) (hz : Reads .i64 w v zs) (hzl : zs.length ≤ 1048576) :
    Calls Tryd.prog 7 #[bx.BV x p q, v] w fun e w' => (∃ V, e = .returned (.tuple #[.string ⟨(Vr x zs).1.toArray⟩, V, .int .i64 (Vr x zs).2.2]) ∧ Reads .i64 w' V (Vr x zs).2.1) ∧ Below w.heap.size w w' := by
  have L0 := bx.lies_new w 32 x p q
  have b0 := bx.new_below w 32 #[.string x.nm, .int .i64 x.vd, .int .i64 x.nx, p, q]
  have HK : Hid (∀ X, Below (w.alloc (.cells #[.string x.nm, .int .i64 x.vd, .int .i64 x.nx, p, q] 32)).heap.size (w.alloc (.cells #[.string x.nm, .int .i64 x.vd, .int .i64 x.nx, p, q] 32)) X → bx.Lies X w.heap.size 32 x p q ∧ bx.RowsAt X p q x.ms x.ks ∧ Reads .i64 X v zs ∧ Below w.heap.size w X) := fun X hX => by
    have hb : Below w.heap.size w X := b0.trans (hX.mono (by simp))
    exact ⟨L0.keep hX, bx.rows_below h hb, reads_below hz hb, hb⟩
  have HX : Hid (bx.Small x) := hx
  have HCA : Hid (∀ a n c, q = .slice a n c → n ≤ c) := hcap
  obtain ⟨⟨a, cap, rfl, hd1⟩, ⟨a1, cap1, rfl, hd2⟩⟩ := h
  obtain ⟨av, cv, rfl, hd3⟩ := hz
  clear hd1 hd2 hd3 hx hcap
  obtain ⟨n, hn⟩ : ∃ n, n = zs.length := ⟨_, rfl⟩
  have HN : Hid (n = zs.length) := hn
  rw [← hn] at HK hzl ⊢
  clear hn
  obtain ⟨nm, vd, nx, ms, ks⟩ := x
  unfold bx.BV
  simp only at *
  by_cases hbig : 4096 < n
  · have HV : Hid (Vr ⟨nm, vd, nx, ms, ks⟩ zs = ([], [], 2)) := if_pos (by rw [← HN.out]; exact hbig)
    have hbig' : (4096 : Int) < (n : Int) := by omega
    go_enter Tryd.func7, Tryd.ntmps7
    go_wp2
    go_ret3
    exact ⟨⟨_, by rw [HV.out]; rfl, by rw [HV.out]; exact ⟨_, _, rfl, .inl rfl⟩⟩, b0.alloc (by simp) _⟩
  have hc : ¬ (4096 : Int) < (n : Int) := by omega
  have HV0 : Hid (Vr ⟨nm, vd, nx, ms, ks⟩ zs = if bx.bok ⟨nm, vd, nx, ms, ks⟩ = true ∧ vi.upB zs = true then (sd (uo ms) zs, al (uo ms) zs, 0) else ([], [], 1)) := if_neg (by rw [← HN.out]; exact hbig)
  obtain ⟨W, hW⟩ : ∃ W, W = w.alloc (.cells #[.string nm, .int .i64 vd, .int .i64 nx, .slice a ms.length cap, .slice a1 ks.length cap1] 32) := ⟨_, rfl⟩
  rw [← hW] at HK L0 b0
  obtain ⟨hL, hR, hZ, hB⟩ := HK.out W (Below.refl _ _)
  have HBO : Hid (Calls Tryd.prog 26 #[.agg #[.string nm, .int .i64 vd, .int .i64 nx, .slice a ms.length cap, .slice a1 ks.length cap1]] W fun e w' => e = .returned (.bool (bx.bok ⟨nm, vd, nx, ms, ks⟩)) ∧ Below W.heap.size W w') := bx.spec_bok ⟨nm, vd, nx, ms, ks⟩ _ _ W hR HX.out HCA.out
  clear hL hR hZ hB b0 L0
  go_enter Tryd.func7, Tryd.ntmps7
  go_wp2_with (rw [← hW])
  clear hW
  refine HBO.out.mono ?_
  rintro e w1 ⟨rfl, hb1⟩
  generalize hbo : bx.bok ⟨nm, vd, nx, ms, ks⟩ = bo at HV0 ⊢
  have HBK : Hid (bx.bok ⟨nm, vd, nx, ms, ks⟩ = bo) := hbo
  clear hbo HBO
  obtain ⟨hL, hR, hZ, hB⟩ := HK.out w1 hb1
  cases bo
  · have HV : Hid (Vr ⟨nm, vd, nx, ms, ks⟩ zs = ([], [], 1)) := by rw [HV0.out, if_neg (fun y => by cases y.1)]; exact rfl
    have HB : Hid (∀ o, Below w.heap.size w (w1.alloc o)) := fun o => hB.alloc hB.size o
    clear hL hR hZ hB
    go_wp2
    go_ret3
    exact ⟨⟨_, by rw [HV.out]; rfl, by rw [HV.out]; exact ⟨_, _, rfl, .inl rfl⟩⟩, HB.out _⟩
  have HVI : Hid (Calls Tryd.prog 27 #[.slice av n cv] w1 fun e w' => ow.Says (vi.IsV zs) e ∧ ∃ q, w' = w1.drewN q) := vi.spec_view _ zs w1 hZ (by rw [← HN.out]; exact hzl)
  clear hL hR hZ hB
  go_wp2_with fail
  refine HVI.out.mono ?_
  rintro e w' ⟨⟨bv, rfl, hbv⟩, qq, rfl⟩
  have HBV : Hid (bv = true ↔ vi.IsV zs) := hbv
  have hb2 := below_drewN hb1 qq
  clear hbv HVI hb1
  generalize w1.drewN qq = w2 at hb2 ⊢
  obtain ⟨hL, hR, hZ, hB⟩ := HK.out w2 hb2
  cases bv
  · have HV : Hid (Vr ⟨nm, vd, nx, ms, ks⟩ zs = ([], [], 1)) := by rw [HV0.out, if_neg (fun y => by have := HBV.out.2 ((vi.upB_iff zs).1 y.2); simp at this)]; exact rfl
    have HB : Hid (∀ o, Below w.heap.size w (w2.alloc o)) := fun o => hB.alloc hB.size o
    clear hL hR hZ hB
    go_wp2
    go_ret3
    exact ⟨⟨_, by rw [HV.out]; rfl, by rw [HV.out]; exact ⟨_, _, rfl, .inl rfl⟩⟩, HB.out _⟩
  have c0 := hL.c0
  have c1 := hL.c1
  have c2 := hL.c2
  have c3 := hL.c3
  have c4 := hL.c4
  simp only at c0 c1 c2
  have HR : Hid (bx.RowsAt w2 (.slice a ms.length cap) (.slice a1 ks.length cap1) ms ks ∧ Reads .i64 w2 (.slice av n cv) zs ∧ Below w.heap.size w w2) := ⟨hR, hZ, hB⟩
  clear hL hR hZ hB
  have hv : vi.IsV zs := HBV.out.1 (by trivial)
  have HV : Hid (Vr ⟨nm, vd, nx, ms, ks⟩ zs = (sd (uo ms) zs, al (uo ms) zs, 0)) := by rw [HV0.out, if_pos ⟨by trivial, (vi.upB_iff zs).2 hv⟩]; exact rfl
  have HU : Hid (Calls Tryd.prog 28 #[.agg #[.string nm, .int .i64 vd, .int .i64 nx, .slice a ms.length cap, .slice a1 ks.length cap1], .slice av n cv] w2 fun e w' => (∃ V, e = .returned (.tuple #[.string ⟨(sd (uo ms) zs).toArray⟩, V]) ∧ w'.ownsRow w2.heap.size 3 1 V (al (uo ms) zs).length ((al (uo ms) zs).map (Value.int .i64))) ∧ Below w2.heap.size w2 w') := spec_up ⟨nm, vd, nx, ms, ks⟩ _ _ _ zs w2 HR.out.1 (bx.mails_of ((bx.bok_of _).1 HBK.out).2.2.2.1).1 (ris_bok HBK.out) HR.out.2.1 (by have := vi.up_len hv; omega)
  clear hv
  go_wp2_with fail
  refine HU.out.mono ?_
  rintro e w3 ⟨⟨V, rfl, ho⟩, hb3⟩
  have HO : Hid (Reads .i64 w3 V (al (uo ms) zs) ∧ Below w.heap.size w w3) := ⟨ow.reads_own ho, HR.out.2.2.trans (hb3.mono HR.out.2.2.size)⟩
  clear HU ho hb3 HR c0 c1 c2 c3 c4
  go_wp2
  go_ret3
  exact ⟨⟨V, by rw [HV.out]; rfl, by rw [HV.out]; exact HO.out.1⟩, HO.out.2⟩

/-- A row behind the marked ones stays. -/
theorem mk_row {A B base e s n : Nat} {w w' : World} {v : Value} {xs : List Value} (h : w.ownsRow base e s v n xs) (hm : mx.Mk A B w w') (hB : B ≤ base) : w'.ownsRow base e s v n xs := by
  refine ⟨h.1, ?_⟩
  rcases h.2 with hz | ⟨g, cap, cur, rfl, h1, h2, h3⟩
  · exact .inl hz
  · exact .inr ⟨g, cap, cur, rfl, h1, (hm.block g (Array.getElem?_eq_some_iff.1 h2).1 (.inr (Nat.le_trans hB h1))).trans h2, h3⟩

/-- Rows of numbers stay. -/
def IntRows (w w' : World) : Prop := ∀ (b n : Nat) (r : Value) (xs : List Value), w.ownsRow b 3 1 r n xs → w'.ownsRow b 3 1 r n xs
theorem intRows_grown {w w' : World} {b e s n g c : Nat} {xs : List Value} (hg : w.grownBy w' (some g)) (o : w.ownsRow b e s (.slice (some ⟨g, 0, none⟩) n c) n xs) (he : e ≠ 3) : IntRows w w' := fun b' n' r ys h => by
  refine h.kept hg ?_
  rcases h.2 with ⟨rfl, _⟩ | ⟨g1, c1, cur, rfl, _, hb, _⟩
  · exact .inl rfl
  · right
    intro e1
    have e1 : g1 = g := by simpa [Value.ownBlock] using e1
    subst e1
    rcases o.2 with ⟨e2, _⟩ | ⟨g2, c2, cur2, e2, _, hb2, _⟩
    · cases e2
    · cases e2
      rw [hb] at hb2
      cases hb2
      exact he rfl
theorem intRows_below {w w' : World} (h : Below w.heap.size w w') : IntRows w w' := fun _ _ _ _ ho => ow.own_below ho h
theorem vr_len (x : bx.Bx) (zs : List Int) : (Vr x zs).2.1.length ≤ 2000 := by
  unfold Vr
  split
  · simp
  · split
    · rename_i h
      have h1 := vi.up_len ((vi.upB_iff zs).1 h.2)
      have h2 := (bx.mails_of ((bx.bok_of x).1 h.1).2.2.2.1).1
      have h3 := l1_len (uo x.ms) zs zs.length
      have h4 := (l2_len (uo x.ms) (l1 (uo x.ms) zs zs.length) (lst (l1 (uo x.ms) zs zs.length)) (uo x.ms).length).2
      rw [uo_len] at h4
      show (al (uo x.ms) zs).length ≤ 2000
      unfold al
      rw [uo_len]
      omega
    · simp
set_option maxHeartbeats 2000000 in
set_option maxRecDepth 100000 in
theorem markBox_mk (x : bx.Bx) (g g' A B : Nat) (w : World) (h1 : ∃ xs, w.ownsRow A 49 3 (.slice (some ⟨g, 0, none⟩) x.ms.length x.ms.length) x.ms.length xs) (h2 : ∃ xs, w.ownsRow A 9 1 (.slice (some ⟨g', 0, none⟩) x.ks.length x.ks.length) x.ks.length xs) (hA : A ≤ g ∧ A ≤ g') (hB : g < B ∧ g' < B) (hn : x.ms.length ≤ 1048576 ∧ x.ks.length ≤ 1048576) :
    Calls Tryd.prog 13 #[bx.BV x (.slice (some ⟨g, 0, none⟩) x.ms.length x.ms.length) (.slice (some ⟨g', 0, none⟩) x.ks.length x.ks.length), .int .i64 1] w fun e w' => (∃ k : Int, e = .returned (.int .i64 k) ∧ 0 ≤ k ∧ k ≤ 10000000) ∧ mx.Mk A B w w' ∧ IntRows w w' := by
  have L0 := bx.lies_new w 32 x (.slice (some ⟨g, 0, none⟩) x.ms.length x.ms.length) (.slice (some ⟨g', 0, none⟩) x.ks.length x.ks.length)
  have b0 := bx.new_below w 32 #[.string x.nm, .int .i64 x.vd, .int .i64 x.nx, .slice (some ⟨g, 0, none⟩) x.ms.length x.ms.length, .slice (some ⟨g', 0, none⟩) x.ks.length x.ks.length]
  obtain ⟨xs1, ho1⟩ := h1
  obtain ⟨xs2, ho2⟩ := h2
  have hgl : g' < w.heap.size := (ho2.lt g' rfl).2
  have a1 := ow.own_below ho1 b0
  have a2 := ow.own_below ho2 b0
  have m0 : mx.Mk A B w (w.alloc (.cells #[.string x.nm, .int .i64 x.vd, .int .i64 x.nx, .slice (some ⟨g, 0, none⟩) x.ms.length x.ms.length, .slice (some ⟨g', 0, none⟩) x.ks.length x.ks.length] 32)) := mx.mk_below b0
  obtain ⟨nm, vd, nx, ms, ks⟩ := x
  unfold bx.BV
  simp only at *
  have c4 := L0.c4
  go_enter Tryd.func13, Tryd.ntmps13
  go_wp2_with fail
  generalize w.alloc _ = W at L0 b0 a1 a2 m0 c4 ⊢
  refine (mx.markM_some A ms.length g ms.length xs1 1 W a1 hn.1 (by omega) (by omega)).mono ?_
  rintro e w1 ⟨rfl, ⟨xs3, o3⟩, hg1⟩
  have m1 : mx.Mk A B w w1 := m0.trans (mx.mk_grown hg1 a1 o3 hA.1 hB.1)
  have i1 : IntRows w w1 := fun b n r xs h => intRows_grown hg1 a1 (by decide) b n r xs (intRows_below b0 b n r xs h)
  have hlt := (a2.lt g' rfl).2
  have hne : g' ≠ g := by
    intro e
    subst e
    rcases a1.2 with ⟨e, _⟩ | ⟨g1, c1, cur, e, _, hb, _⟩
    · cases e
    · cases e
      rcases a2.2 with ⟨e, _⟩ | ⟨g1, c1, cur, e, _, hb2, _⟩
      · cases e
      · cases e
        rw [hb] at hb2
        cases hb2
  have hsne : w.heap.size ≠ g := by have := (ho1.lt g rfl).2; omega
  have L1 : bx.Lies w1 w.heap.size 32 ⟨nm, vd, nx, ms, ks⟩ (.slice (some ⟨g, 0, none⟩) ms.length ms.length) (.slice (some ⟨g', 0, none⟩) ks.length ks.length) := (hg1.block _ L0.lt (by intro e; cases e; exact hsne rfl)).trans L0
  have a3 : w1.ownsRow A 9 1 (.slice (some ⟨g', 0, none⟩) ks.length ks.length) ks.length xs2 := a2.kept hg1 (.inr (fun e => hne (by simpa [Value.ownBlock] using e)))
  have c4' := L1.c4
  clear a1 a2 m0 L0 b0 c4 hg1 o3
  go_wp2_with fail
  refine (mx.markT_some A ks.length g' ks.length xs2 _ w1 a3 hn.2 (by omega) (by omega)).mono ?_
  rintro e w2 ⟨rfl, ⟨xs4, o4⟩, hg2⟩
  have m2 : mx.Mk A B w w2 := m1.trans (mx.mk_grown hg2 a3 o4 hA.2 hB.2)
  have i2 : IntRows w w2 := fun b n r xs h => intRows_grown hg2 a3 (by decide) b n r xs (i1 b n r xs h)
  have HI2 : Hid (IntRows w w2) := i2
  clear i1 i2
  clear a3 o4 hg2 m1 L1 c4'
  go_wp2
  go_ret
  exact ⟨⟨_, rfl, by omega, by omega⟩, m2, HI2.out⟩
/-- The marks of a view, as to their shape. -/
theorem markInts_mk (V : Value) (n A B : Nat) (xs : List Int) (k : Int) (w : World) (h : w.ownsRow A 3 1 V n (xs.map (Value.int .i64))) (hB : w.heap.size ≤ B) (hn : n ≤ 1048576) (h0 : 0 ≤ k) (h1 : k ≤ 10000000) :
    Calls Tryd.prog 14 #[V, .int .i64 k] w fun e w' => (∃ k' : Int, e = .returned (.int .i64 k') ∧ 0 ≤ k') ∧ mx.Mk A B w w' := by
  refine (ow.mark_any V n A xs k w h hn h0 (by omega)).mono ?_
  rintro e w' ⟨rfl, ⟨ys, _, _, ho⟩, hg⟩
  refine ⟨⟨_, rfl, by omega⟩, ?_⟩
  rcases h.2 with ⟨rfl, _⟩ | ⟨g, cap, cur, rfl, hb, hh, _⟩
  · exact ⟨hg.os, hg.tape, hg.output, hg.size, fun k hk _ => hg.block k hk (by intro e; cases e), fun k hk => .inl (hg.block k hk (by intro e; cases e))⟩
  · exact mx.mk_grown hg h ho hb (Nat.lt_of_lt_of_le (Array.getElem?_eq_some_iff.1 hh).1 hB)
end Go.Proofs.YtdnjiagnpaibjaaDoor.vu
