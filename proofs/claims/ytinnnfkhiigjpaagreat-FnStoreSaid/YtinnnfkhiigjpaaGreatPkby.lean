/-
  Whatever is done to boxes: the law's walk.
-/
import Derived.Test.YtinnnfkhiigjpaaGreatPkbx
import Derived.Test.YtinnnfkhiigjpaaGreatPkad
import Derived.Test.YtinnnfkhiigjpaaGreatPkak
import Derived.Deep.DeepCutAuto
import Derived.Deep.Cut
import Derived.Deep.CutRange
import Derived.Deep.RegionWith
import Derived.BigQuiet
import Derived.Deep.QuietTactic

namespace Go.Proofs.YtinnnfkhiigjpaaGreat.kp
open Go.RowKit Go.WideShapes Go.Deep
open gr
set_option linter.unusedVariables false

/-- A fresh variable for a mail. -/
def Z3 (w : World) (g : Nat) : Prop := w.heap[g]? = some (.cells #[.int .i64 0, .int .i64 0, .string ⟨#[]⟩] 46 (0, 0))
theorem z3_of {w : World} {g : Nat} (h : w.heap[g]? = some (.cells #[.int .i64 0, .int .i64 0, .string ⟨#[]⟩] 46 (0, 0))) : Z3 w g := h
theorem Z3.c0 {w : World} {g : Nat} (h : Z3 w g) : w.cell? ⟨g, 0, none⟩ = some (.int .i64 0) := by rw [cell_of_row _ _ 0 _ _ _ h]; rfl
theorem Z3.c1 {w : World} {g : Nat} (h : Z3 w g) : w.cell? ⟨g, 0 + 1, none⟩ = some (.int .i64 0) := by rw [cell_of_row _ _ _ _ _ _ h]; rfl
theorem Z3.c2 {w : World} {g : Nat} (h : Z3 w g) : w.cell? ⟨g, 0 + 2, none⟩ = some (.string ⟨#[]⟩) := by rw [cell_of_row _ _ _ _ _ _ h]; rfl
theorem Z3.f {w : World} {g : Nat} (h : Z3 w g) (j : Nat) : w.frozen? ⟨g, j, none⟩ = false := frozen_of_row _ _ _ _ _ h
theorem end_alloc {B : Nat} {a w w' : World} (h : Below B a w) (hB : B ≤ w.heap.size) (hb' : Below w.heap.size w w') (o : Obj) : Below B a (w'.alloc o) := (h.trans (hb'.mono hB)).alloc (Nat.le_trans hB hb'.size) o
theorem end_store {B g : Nat} {a w w' : World} (h : Below B a w) (hB : B ≤ w.heap.size) (hb' : Below w.heap.size w w') (hg : B ≤ g) (hz : Z3 w' g) (u f : Int) (t : ByteArray) :
    (((w'.setCell ⟨g, 0, none⟩ (.int .i64 u)).setCell ⟨g, 1, none⟩ (.int .i64 f)).setCell ⟨g, 2, none⟩ (.string t)).heap[g]? = some (.cells #[.int .i64 u, .int .i64 f, .string t] 46 (0, 0)) ∧ Below B a (((w'.setCell ⟨g, 0, none⟩ (.int .i64 u)).setCell ⟨g, 1, none⟩ (.int .i64 f)).setCell ⟨g, 2, none⟩ (.string t)) :=
  ⟨heap_setCell_same _ g 2 _ _ _ (heap_setCell_same _ g 1 _ _ _ (heap_setCell_same _ g 0 _ _ _ hz)), (((h.trans (hb'.mono hB)).setCell (p := ⟨g, 0, none⟩) hg _).setCell (p := ⟨g, 1, none⟩) hg _).setCell (p := ⟨g, 2, none⟩) hg _⟩
theorem bel_drewN {B : Nat} {a w : World} (h : Below B a w) (n : Nat) : Below B a (w.drewN n) := ⟨h.os, h.tape, h.output, h.size, h.block⟩
set_option maxHeartbeats 8000000 in
set_option maxRecDepth 100000 in
theorem store_any (a0 : Option Addr) (len0 cap0 : Nat) (w : World) (w0 : len0 ≤ 1048576 → se.Bytes w a0 len0) :
    Calls Tryz.prog 3 #[.slice a0 len0 cap0] w fun e w' => e = .returned (.bool true) ∧ Below w.heap.size w w' := by
  by_cases hbig : 1048576 < len0
  · have hb : (1048576 : Int) < (len0 : Int) := by omega
    clear w0
    go_enter Tryz.func3, Tryz.ntmps3
    go_wp2
    go_ret
    exact ⟨rfl, Below.refl _ _⟩
  have hb : decide ((1048576 : Int) < (len0 : Int)) = false := decide_eq_false (by omega)
  have HB0 : Hid (se.Bytes w a0 len0) := w0 (by omega)
  clear w0
  go_enter Tryz.func3, Tryz.ntmps3
  go_wp2_with fail
  refine (dm.mutationsOf_any w a0 len0 cap0 HB0.out).mono ?_
  rintro e w1 ⟨⟨v, L, rfl, ho, hn, hL⟩, b1⟩
  obtain ⟨la, lc, rfl, hla⟩ := kp.list_of ho
  have HR : Hid (∀ (j : Nat) (p : mu.Mu × Value), L[j]? = some p → it.AttrsAt w1 p.2 p.1.ps ∧ mu.mok p.1 = true) := fun j p hp => ⟨dm.rows_at (ho.2 p (List.mem_of_getElem? hp)), (hL p (List.mem_of_getElem? hp)).1⟩
  have HL : Hid (L = [] ∨ ∃ b, la = some ⟨b, 0, none⟩ ∧ ∀ (j : Nat) (p : mu.Mu × Value), L[j]? = some p → w1.cell? ⟨b, j * 6, none⟩ = some (.int .i64 p.1.k) ∧ w1.cell? ⟨b, j * 6 + 1, none⟩ = some (.int .i64 p.1.u) ∧ w1.cell? ⟨b, j * 6 + 2, none⟩ = some (.int .i64 p.1.m) ∧ w1.cell? ⟨b, j * 6 + 3, none⟩ = some (.int .i64 p.1.f) ∧ w1.cell? ⟨b, j * 6 + 4, none⟩ = some (.string p.1.b) ∧ w1.cell? ⟨b, j * 6 + 5, none⟩ = some p.2) := hla
  have HBN : Hid (kp.Bag (w1.alloc (.cells #[] 38)) (.slice (some ⟨w1.heap.size, 0, none⟩) 0 0) [] (fun _ => (.slice none 0 0, .slice none 0 0))) := kp.bag_of (sa.own_none w1 0 _ (Nat.zero_le _)) kp.smalls_nil kp.sok_nil
  have hb0 : Below w1.heap.size w1 (w1.alloc (.cells #[] 38)) := (Below.refl _ _).alloc (Nat.le_refl _) _
  clear HB0 ho hL hla hb
  obtain ⟨n, hnL⟩ : ∃ n, n = L.length := ⟨_, rfl⟩
  have HN : Hid (n = L.length) := hnL
  have hn2 : n ≤ 20 := by omega
  rw [← hnL]
  clear hnL hn
  go_wp2
  go_loopw [4, 5] (fun bv i wr => ∃ (k : Nat) (xs : List bx.Bx) (vs : Nat → Value × Value), k ≤ n ∧ i = .int .i64 k ∧ Bag wr bv xs vs ∧ Below w1.heap.size w1 wr) (fun _ i _ => n - (intOf i).toNat)
  case atStart => exact ⟨0, [], _, Nat.zero_le _, rfl, HBN.out, hb0⟩
  case round =>
    clear HBN hb0
    obtain ⟨k, xs, vs, hk, rfl, hbag, hbw⟩ := hrel
    obtain ⟨⟨ba, bc, hbe, hcl⟩, hrw⟩ := hbag.at_
    subst hbe
    have HBag : Hid (Bag wr (.slice ba xs.length bc) xs vs) := hbag
    have HCL : Hid ((xs = [] ∨ ∃ b off, ba = some ⟨b, off, none⟩ ∧ b < wr.heap.size ∧ ∀ j, j < xs.length → bx.At5 wr b (off + j * 5) (xs.getD j bx.noB) (vs j)) ∧ ∀ j, j < xs.length → bx.RowsIn wr wr.heap.size (vs j).1 (vs j).2 (xs.getD j bx.noB).ms (xs.getD j bx.noB).ks) := ⟨hcl, hrw⟩
    clear hbag hcl hrw
    by_cases hlt : k < n
    · have hkL : k < L.length := by rw [← HN.out]; exact hlt
      obtain ⟨p, hp⟩ : ∃ p, L[k]? = some p := ⟨_, List.getElem?_eq_getElem hkL⟩
      obtain ⟨hr, hm⟩ := HR.out k p hp
      rcases HL.out with e | ⟨b, rfl, hcells⟩
      · rw [e] at hkL; simp at hkL
      obtain ⟨c0, c1, c2, c3, c4, c5⟩ := hcells k p hp
      have hbl : b < w1.heap.size := World.block_lt_of_cell? _ _ c0
      have hlt' : (k : Int) < (n : Int) := by omega
      have hk0 : (0 : Int) ≤ (k : Int) := by omega
      obtain ⟨x, iv⟩ := p
      simp only at hr hm c0 c1 c2 c3 c4 c5
      obtain ⟨ia, ic, hie, _⟩ := id hr
      subst hie
      have HC : Hid (∀ W, Below w1.heap.size w1 W → W.cell? ⟨b, k * 6, none⟩ = some (.int .i64 x.k) ∧ W.cell? ⟨b, k * 6 + 1, none⟩ = some (.int .i64 x.u) ∧ W.cell? ⟨b, k * 6 + 2, none⟩ = some (.int .i64 x.m) ∧ W.cell? ⟨b, k * 6 + 3, none⟩ = some (.int .i64 x.f) ∧ W.cell? ⟨b, k * 6 + 4, none⟩ = some (.string x.b) ∧ W.cell? ⟨b, k * 6 + 5, none⟩ = some (.slice ia x.ps.length ic)) := fun W hW =>
        ⟨(hW.cell (p := ⟨b, k * 6, none⟩) hbl).trans c0, (hW.cell (p := ⟨b, k * 6 + 1, none⟩) hbl).trans c1, (hW.cell (p := ⟨b, k * 6 + 2, none⟩) hbl).trans c2, (hW.cell (p := ⟨b, k * 6 + 3, none⟩) hbl).trans c3, (hW.cell (p := ⟨b, k * 6 + 4, none⟩) hbl).trans c4, (hW.cell (p := ⟨b, k * 6 + 5, none⟩) hbl).trans c5⟩
      have HX : Hid ((∀ W, Below w1.heap.size w1 W → it.AttrsAt W (.slice ia x.ps.length ic) x.ps) ∧ mu.mok x = true) := ⟨fun W hW => it.at_below hr hW, hm⟩
      clear hcells hkL hp hr hm c0 c1 c2 c3 c4 c5 HL HR
      obtain ⟨c0, c1, c2, c3, c4, c5⟩ := HC.out wr hbw
      go_wp2_with fail
      clear c0 c1 c2 c3 c4 c5
      refine (sa.impl_am (.slice ba xs.length bc) xs vs x (.slice ia x.ps.length ic) wr HBag.out.at_ HBag.out.fv HBag.out.fs HBag.out.sml (HX.out.1 wr hbw) (mu_small HX.out.2)).mono ?_
      rintro e w2 ⟨⟨v1, ys, us, c, rfl, hap, hown⟩, hb2⟩
      obtain ⟨hok, hsm, hkp, hne⟩ := ap_all HBag.out.ok HBag.out.sml HX.out.2 hap
      have hy := bag_of hown hsm hok
      have HAP : Hid (sa.Ap xs x ys c ∧ KP xs ys ∧ (c ≠ 0 → ys = xs)) := ⟨hap, hkp, hne⟩
      obtain ⟨⟨ya, yc, hye, _⟩, _⟩ := hy.at_
      subst hye
      have HY : Hid (Bag w2 (.slice ya ys.length yc) ys us) := hy
      have HB2 : Hid (Bag w2 (.slice ba xs.length bc) xs vs) := HBag.out.below hb2
      have b2 := hbw.trans (hb2.mono hbw.size)
      clear hap hown hok hsm hkp hne hy hb2 HBag hbw
      obtain ⟨c0, c1, c2, c3, c4, c5⟩ := HC.out w2 b2
      go_wp2_with fail
      clear c0 c1 c2 c3 c4 c5
      refine (sa.spec_am (.slice ba xs.length bc) xs vs x (.slice ia x.ps.length ic) w2 HB2.out.at_ HB2.out.fs HB2.out.sml HB2.out.cp (HX.out.1 w2 b2) (mu_small HX.out.2)).mono ?_
      rintro e w3 ⟨⟨v2, ys', us', c', rfl, hap, hown⟩, hb3⟩
      obtain ⟨e1, e2⟩ := sa.ap_one HAP.out.1 hap
      subst e1 e2
      have hz := bag_of hown HY.out.sml HY.out.ok
      obtain ⟨⟨za, zc, hze, _⟩, _⟩ := hz.at_
      subst hze
      have HZ : Hid (bx.BoxesAt w3 (.slice za ys.length zc) ys us') := hz.at_
      have HY3 : Hid (Bag w3 (.slice ya ys.length yc) ys us) := HY.out.below hb3
      have HB3 : Hid (Bag w3 (.slice ba xs.length bc) xs vs) := HB2.out.below hb3
      have b3 := b2.trans (hb3.mono b2.size)
      clear hap hown hz hb3 HB2 HY b2 HC HX
      go_wp2_with fail
      refine (sm.impl_ss (.slice ya ys.length yc) (.slice za ys.length zc) ys ys us us' w3 HY3.out.at_ HZ.out HY3.out.sml HY3.out.sml).mono ?_
      rintro e w4 ⟨rfl, hb4⟩
      obtain ⟨q1, q2⟩ := same_self HY3.out.ok
      rw [q1, q2]
      have HY4 : Hid (Bag w4 (.slice ya ys.length yc) ys us) := HY3.out.below hb4
      have HB4 : Hid (Bag w4 (.slice ba xs.length bc) xs vs) := HB3.out.below hb4
      have b4 := b3.trans (hb4.mono b3.size)
      have hcc : (c != c) = false := by simp
      clear q1 q2 HY3 HB3 HZ hb4 b3
      go_wp2_with fail
      refine (bx.impl_sok (.slice ya ys.length yc) ys us w4 HY4.out.at_ HY4.out.sml).mono ?_
      rintro e w5 ⟨rfl, hb5⟩
      rw [HY4.out.ok]
      have HY5 : Hid (Bag w5 (.slice ya ys.length yc) ys us) := HY4.out.below hb5
      have HB5 : Hid (Bag w5 (.slice ba xs.length bc) xs vs) := HB4.out.below hb5
      have b5 := b4.trans (hb5.mono b4.size)
      clear HY4 HB4 hb5 b4
      go_wp2_with fail
      refine (keeps_any (.slice ba xs.length bc) (.slice ya ys.length yc) xs ys vs us w5 HB5.out.at_ HY5.out.at_ HB5.out.sml HY5.out.sml HAP.out.2.1 HY5.out.cp.2).mono ?_
      rintro e w6 ⟨rfl, hb6⟩
      have HY6 : Hid (Bag w6 (.slice ya ys.length yc) ys us) := HY5.out.below hb6
      have HB6 : Hid (Bag w6 (.slice ba xs.length bc) xs vs) := HB5.out.below hb6
      have b6 := b5.trans (hb6.mono b5.size)
      clear HY5 HB5 hb6 b5
      by_cases hc0 : c = 0
      · subst hc0
        go_wp2
        go_roundw
        case rel => exact ⟨k + 1, ys, us, by omega, by go_num, HY6.out, b6⟩
        case measure => simp [intOf]; omega
      · have hcn : (c != 0) = true := by rw [bne_iff_ne]; exact hc0
        obtain rfl := HAP.out.2.2 hc0
        clear hc0
        go_wp2_with fail
        refine (sameBoxes_any (.slice ya ys.length yc) (.slice ba ys.length bc) ys us vs w6 HY6.out.at_ HB6.out.at_ HY6.out.sml).mono ?_
        rintro e w7 ⟨rfl, hb7⟩
        have HY7 : Hid (Bag w7 (.slice ya ys.length yc) ys us) := HY6.out.below hb7
        have b7 := b6.trans (hb7.mono b6.size)
        clear HY6 HB6 hb7 b6
        go_wp2
        go_roundw
        case rel => exact ⟨k + 1, ys, us, by omega, by go_num, HY7.out, b7⟩
        case measure => simp [intOf]; omega
    · have hkn : k = n := by omega
      subst hkn
      clear HL HR HN hlt hk hn2
      obtain ⟨W0, hW0⟩ : ∃ W0, W0 = wr := ⟨_, rfl⟩
      subst hW0
      have b0 : Below w.heap.size w W0 := b1.trans (hbw.mono b1.size)
      obtain ⟨m, hm⟩ : ∃ m, m = xs.length := ⟨_, rfl⟩
      have HM : Hid (m = xs.length) := hm
      have hm2 : m ≤ 4 := by rw [hm]; exact (bx.sok_of HBag.out.ok).1
      rw [← hm] at HBag HCL ⊢
      clear hm hbw b1
      go_wp2
      go_loopw [12] (fun i wr => ∃ j : Nat, j ≤ m ∧ i = .int .i64 j ∧ Below W0.heap.size W0 wr) (fun i _ => m - (intOf i).toNat)
      case atStart => exact ⟨0, Nat.zero_le _, rfl, Below.refl _ _⟩
      case round =>
        obtain ⟨j, hj, rfl, hbw⟩ := hrel
        by_cases hlt : j < m
        · have hjx : j < xs.length := by rw [← HM.out]; exact hlt
          have hlt' : (j : Int) < (m : Int) := by omega
          have hj0 : (0 : Int) ≤ (j : Int) := by omega
          rcases HCL.out.1 with e | ⟨b, off, rfl, hb1, hcells⟩
          · rw [e] at hjx; simp at hjx
          have ha := hcells j hlt
          have hr := HCL.out.2 j hlt
          have hok := ((bx.sok_of HBag.out.ok).2 j hjx).1
          have hsm := HBag.out.sml.2 j hjx
          have hcp := HBag.out.cp.2 j hjx
          have hba := fun (y : bx.Bx) (c : Int) => ba_self (y := y) (c := c) HBag.out.ok hjx
          have hnm := name_le hok
          clear hcells hjx
          generalize xs.getD j bx.noB = x at ha hr hok hsm hba hnm
          generalize vs j = q at ha hr hcp
          obtain ⟨q1, q2⟩ := q
          have HF : Hid (∀ W, Below W0.heap.size W0 W → bx.At5 W b (off + j * 5) x (q1, q2) ∧ bx.RowsAt W q1 q2 x.ms x.ks ∧ Bag W (.slice (some ⟨b, off, none⟩) m bc) xs vs) := fun W hW => ⟨ha.keep hW hb1, bx.rows_below hr hW, HBag.out.below hW⟩
          have HXX : Hid (bx.bok x = true ∧ bx.Small x ∧ (∀ a n c, q2 = .slice a n c → n ≤ c) ∧ (∀ y c, bx.Ba xs x.nm y c → y = x ∧ c = 0) ∧ x.nm.size ≤ 65536) := ⟨hok, hsm, hcp, hba, hnm⟩
          obtain ⟨⟨a2, cap2, e2, _⟩, ⟨a3, cap3, e3, _⟩⟩ := hr
          simp only at e2 e3
          subst e2 e3
          obtain ⟨nm, vd, nx, ms, ks⟩ := x
          simp only at HF HXX ⊢
          clear ha hok hsm hcp hba hnm HCL HBag
          obtain ⟨c0, c1, c2, c3, c4⟩ := (HF.out wr hbw).1
          simp only at c0 c1 c2 c3 c4
          go_wp2_with fail
          clear c0 c1 c2 c3 c4
          refine (bx.impl_ba (.slice (some ⟨b, off, none⟩) m bc) xs vs nm wr (HF.out wr hbw).2.2.at_ (HF.out wr hbw).2.2.sml (HF.out wr hbw).2.2.fs (by have := HXX.out.2.2.2.2; omega)).mono ?_
          rintro e w2 ⟨⟨y, c, v2, u2, rfl, hba, hom, hok⟩, hb2⟩
          obtain ⟨rfl, rfl⟩ := HXX.out.2.2.2.1 y c hba
          have hR2 : bx.RowsAt w2 v2 u2 ms ks := ⟨bx.ownM_in hom (Nat.le_refl _), bx.ownK_in hok (Nat.le_refl _)⟩
          obtain ⟨⟨a4, cap4, rfl, _⟩, ⟨a5, cap5, rfl, _⟩⟩ := id hR2
          have L3 := bx.lies_new w2 38 ⟨nm, vd, nx, ms, ks⟩ (.slice a4 ms.length cap4) (.slice a5 ks.length cap5)
          have k3 := bx.new_below w2 38 #[.string nm, .int .i64 vd, .int .i64 nx, .slice a4 ms.length cap4, .slice a5 ks.length cap5]
          have b2 := hbw.trans (hb2.mono hbw.size)
          have b3 := b2.trans (k3.mono b2.size)
          have HR3 : Hid (bx.RowsAt (w2.alloc (.cells #[.string nm, .int .i64 vd, .int .i64 nx, .slice a4 ms.length cap4, .slice a5 ks.length cap5] 38)) (.slice a4 ms.length cap4) (.slice a5 ks.length cap5) ms ks) := bx.rows_below hR2 k3
          have c0 := L3.c0
          have c1 := L3.c1
          have c2 := L3.c2
          have c3 := L3.c3
          have c4 := L3.c4
          unfold bx.BV
          simp only at c0 c1 c2 c3 c4 ⊢
          clear hba hom hok hR2 k3 b2 hb2 hbw
          go_wp2_with fail
          clear c0 c1 c2 c3 c4
          generalize w2.alloc _ = w3 at L3 b3 HR3 ⊢
          generalize w2.heap.size = G at L3 ⊢
          refine (bx.impl_cf ⟨nm, vd, nx, ms, ks⟩ (.slice a4 ms.length cap4) (.slice a5 ks.length cap5) 1 w3 HR3.out HXX.out.2.1 ⟨by omega, by omega⟩).mono ?_
          rintro e w4 ⟨rfl, hb4⟩
          rw [cf_ok HXX.out.1]
          obtain ⟨N, hN⟩ : ∃ N, N = bx.FnExactCountFlag_a ⟨nm, vd, nx, ms, ks⟩ 1 := ⟨_, rfl⟩
          rw [← hN]
          have HN : Hid (N = bx.FnExactCountFlag_a ⟨nm, vd, nx, ms, ks⟩ 1) := hN
          have L4 := L3.keep hb4
          have HR4 : Hid (bx.RowsAt w4 (.slice a4 ms.length cap4) (.slice a5 ks.length cap5) ms ks) := bx.rows_below HR3.out hb4
          have b4 := b3.trans (hb4.mono b3.size)
          clear hN hb4 L3 HR3 b3
          obtain ⟨c0, c1, c2, c3, c4⟩ := (HF.out w4 b4).1
          simp only at c0 c1 c2 c3 c4
          go_wp2_with fail
          clear c0 c1 c2 c3 c4
          refine (bx.spec_cf ⟨nm, vd, nx, ms, ks⟩ (.slice a2 ms.length cap2) (.slice a3 ks.length cap3) 1 w4 (HF.out w4 b4).2.1 HXX.out.2.1 HXX.out.2.2.1 ⟨by omega, by omega⟩).mono ?_
          rintro e w5 ⟨rfl, hb5⟩
          rw [cf_ok HXX.out.1, ← HN.out]
          have L5 := L4.keep hb5
          have HR5 : Hid (bx.RowsAt w5 (.slice a4 ms.length cap4) (.slice a5 ks.length cap5) ms ks) := bx.rows_below HR4.out hb5
          have b5 := b4.trans (hb5.mono b4.size)
          clear hb5 L4 HR4 b4 HN
          obtain ⟨c0, c1, c2, c3, c4⟩ := (HF.out w5 b5).1
          simp only at c0 c1 c2 c3 c4
          go_upto_region 20 with fail
          have d0 := fun y : Ext w5 => gw_cell y L5.c0
          have d1 := fun y : Ext w5 => gw_cell y L5.c1
          have d2 := fun y : Ext w5 => gw_cell y L5.c2
          have d3 := fun y : Ext w5 => gw_cell y L5.c3
          have d4 := fun y : Ext w5 => gw_cell y L5.c4
          have c0 := fun y : Ext w5 => gw_cell y c0
          have c1 := fun y : Ext w5 => gw_cell y c1
          have c2 := fun y : Ext w5 => gw_cell y c2
          have c3 := fun y : Ext w5 => gw_cell y c3
          have c4 := fun y : Ext w5 => gw_cell y c4
          simp only at c0 c1 c2 c3 c4 d0 d1 d2 d3 d4
          have ne := ext_some w5
          have e0 : (N != N) = false := by simp
          have HS : Hid (∀ y : Ext w5, Calls Tryz.prog 14 #[.agg #[.string nm, .int .i64 vd, .int .i64 nx, .slice a4 ms.length cap4, .slice a5 ks.length cap5], .agg #[.string nm, .int .i64 vd, .int .i64 nx, .slice a2 ms.length cap2, .slice a3 ks.length cap3]] (gw y) fun e w' => e = .returned (.bool true) ∧ Below (gw y).heap.size (gw y) w') := fun y =>
            sameBox_any ⟨nm, vd, nx, ms, ks⟩ _ _ _ _ (gw y) (bx.rows_below HR5.out (gw_below y)) (bx.rows_below (HF.out w5 b5).2.1 (gw_below y)) HXX.out.2.1
          have HO : Hid (∀ y : Ext w5, Calls Tryz.prog 15 #[.agg #[.string nm, .int .i64 vd, .int .i64 nx, .slice a4 ms.length cap4, .slice a5 ks.length cap5]] (gw y) fun e w' => e = .returned (.bool true) ∧ Below (gw y).heap.size (gw y) w') := fun y => by
            have h := bx.impl_bok ⟨nm, vd, nx, ms, ks⟩ _ _ (gw y) (bx.rows_below HR5.out (gw_below y)) HXX.out.2.1
            rw [HXX.out.1] at h
            exact h
          refine region_lit (by kernel_rfl) (by kernel_rfl) ?_
          repeat (go_big_quiet_step (first | (go_at_call 14; exact grow_of (HS.out _)) | (go_at_call 15; exact grow_of (HO.out _))))
          refine wpQuiet_nil ?_
          rintro W' ⟨yy, rfl⟩
          have b6 := gw_below yy
          generalize gw yy = W' at b6 ⊢
          clear c0 c1 c2 c3 c4 d0 d1 d2 d3 d4 HS HO e0 ne
          have HG : Hid (∀ W, Below w5.heap.size w5 W → bx.Lies W G 38 ⟨nm, vd, nx, ms, ks⟩ (.slice a4 ms.length cap4) (.slice a5 ks.length cap5) ∧ bx.RowsAt W (.slice a4 ms.length cap4) (.slice a5 ks.length cap5) ms ks) := fun W hW => ⟨L5.keep hW, bx.rows_below HR5.out hW⟩
          have HB6 : Hid (Below w5.heap.size w5 W') := b6
          have HB5 : Hid (Below W0.heap.size W0 w5) := b5
          clear b6 b5 L5 HF
          go_wp2
          go_loopw [19] (fun i wr => ∃ r : Nat, r ≤ ms.length ∧ i = .int .i64 r ∧ Below w5.heap.size w5 wr) (fun i _ => ms.length - (intOf i).toNat)
          case atStart => exact ⟨0, Nat.zero_le _, rfl, HB6.out⟩
          case round =>
            clear HB6
            obtain ⟨r, hr, rfl, hbw⟩ := hrel
            have lg := (HG.out wr hbw).1.c3
            by_cases hlt2 : r < ms.length
            · have hlt2' : (r : Int) < (ms.length : Int) := by omega
              have hml : ms.length ≤ 1048576 := HXX.out.2.1.2.2.1.1
              have hr0 : (0 : Int) ≤ (r : Int) := by omega
              obtain ⟨⟨ax, cpx, ex, hXm⟩, _⟩ := HR5.out
              injection ex with ex1 ex2 ex3
              subst ex1 ex3
              rcases hXm with e | ⟨bx_, ox, rfl, _, hcx⟩
              · rw [e] at hlt2; simp at hlt2
              obtain ⟨x0, x1, x2⟩ := hcx r hlt2
              have hsat := fun (s : st.St) (c : Int) => sat_self (s := s) (c := c) HXX.out.1 hlt2
              have hss := HXX.out.2.1.2.2.1.2 r hlt2
              simp only at hsat hss
              clear hcx
              generalize ms.getD r st.noS = s at x0 x1 x2 hsat hss
              have HS3 : Hid (∀ W, Below w5.heap.size w5 W → W.cell? ⟨bx_, ox + r * 3, none⟩ = some (.int .i64 s.u) ∧ W.cell? ⟨bx_, ox + r * 3 + 1, none⟩ = some (.int .i64 s.f) ∧ W.cell? ⟨bx_, ox + r * 3 + 2, none⟩ = some (.string s.t)) := fun W hW =>
                ⟨(hW.cell (p := ⟨bx_, ox + r * 3, none⟩) (World.block_lt_of_cell? w5 _ x0)).trans x0, (hW.cell (p := ⟨bx_, ox + r * 3 + 1, none⟩) (World.block_lt_of_cell? w5 _ x1)).trans x1, (hW.cell (p := ⟨bx_, ox + r * 3 + 2, none⟩) (World.block_lt_of_cell? w5 _ x2)).trans x2⟩
              clear x0 x1 x2
              obtain ⟨x0, x1, x2⟩ := HS3.out wr hbw
              have HSS : Hid (st.Small s) := hss
              have HCALL : Hid (∀ W, Below w5.heap.size w5 W → Calls Tryz.prog 16 #[.agg #[.string nm, .int .i64 vd, .int .i64 nx, .slice (some ⟨bx_, ox, none⟩) ms.length cap4, .slice a5 ks.length cap5], .int .i64 s.u] W fun e w' => e = .returned (.tuple #[.agg #[.int .i64 s.u, .int .i64 s.f, .string s.t], .int .i64 0]) ∧ Below W.heap.size W w' ∧ (W.heap[wr.heap.size]? = some (.cells #[.int .i64 0, .int .i64 0, .string ⟨#[]⟩] 46 (0, 0)) → Z3 w' wr.heap.size)) := fun W hW => by
                refine (bx.impl_sa ⟨nm, vd, nx, ms, ks⟩ _ _ s.u W (HG.out W hW).2 HXX.out.2.1 hss.1).mono ?_
                rintro e w' ⟨⟨s', c, rfl, hs'⟩, hb'⟩
                obtain ⟨rfl, rfl⟩ := hsat s' c hs'
                exact ⟨rfl, hb', fun h => z3_of ((hb'.block _ (Array.getElem?_eq_some_iff.1 h).1).trans h)⟩
              have g0 := (HG.out wr hbw).1.c0
              have g1 := (HG.out wr hbw).1.c1
              have g2 := (HG.out wr hbw).1.c2
              have g3 := (HG.out wr hbw).1.c3
              have g4 := (HG.out wr hbw).1.c4
              simp only at g0 g1 g2 g3 g4
              have hgl : G < wr.heap.size := World.block_lt_of_cell? wr _ g0
              have hxl : bx_ < wr.heap.size := World.block_lt_of_cell? wr _ x0
              have HBW : Hid (Below w5.heap.size w5 wr) := hbw
              have HAL : Hid (∀ o, Below w5.heap.size w5 (wr.alloc o)) := fun o => hbw.alloc hbw.size o
              clear hsat hss lg hbw
              go_upto_region 25 with fail
              go_cut [20, 21] (fun p c wx => ∃ G2, p = .pointer (some ⟨G2, 0, none⟩) ∧ c = .int .i64 0 ∧ wx.heap[G2]? = some (.cells #[.int .i64 s.u, .int .i64 s.f, .string s.t] 46 (0, 0)) ∧ Below w5.heap.size w5 wx)
              case first =>
                go_region_with (go_at_call 16; refine (HCALL.out _ (by first | exact HBW.out.drew | exact (HAL.out _).drew | exact HBW.out | exact HAL.out _)).mono ?_; rintro e w' ⟨rfl, hb', hz⟩; first | (have hq := hz (MapKept.heap_alloc wr _).1; have z0 := hq.c0; have z1 := hq.c1; have z2 := hq.c2; have y0 := hq.f 0; have y1 := hq.f 1; have y2 := hq.f 2; have y1' := hq.f (0 + 1); have y2' := hq.f (0 + 2)) | skip)
                all_goals (try go_wp2_with fail)
                all_goals go_meet
                all_goals first | exact ⟨wr.heap.size, rfl, rfl, end_store (HAL.out _).drew (HAL.out _).size hb' HBW.out.size hq _ _ _⟩ | exact ⟨_, rfl, rfl, (MapKept.heap_alloc _ _).1, end_alloc HBW.out.drew HBW.out.size hb' _⟩
              case rest =>
                obtain ⟨G2, rfl, rfl, hG2, hb7⟩ := hcut
                go_at_K
                clear HCALL g0 g1 g2 g3 g4 x0 x1 x2 hgl hxl HAL HBW
                have g3 := (HG.out wc hb7).1.c3
                obtain ⟨x0, x1, x2⟩ := HS3.out wc hb7
                have m0 : wc.cell? ⟨G2, 0, none⟩ = some (.int .i64 s.u) := by rw [cell_of_row _ _ _ _ _ _ hG2]; rfl
                have m1 : wc.cell? ⟨G2, 0 + 1, none⟩ = some (.int .i64 s.f) := by rw [cell_of_row _ _ _ _ _ _ hG2]; rfl
                have m2 : wc.cell? ⟨G2, 0 + 2, none⟩ = some (.string s.t) := by rw [cell_of_row _ _ _ _ _ _ hG2]; rfl
                have hr2 := ne_same s HSS.out
                have hg2 := sm.guard_run
                have HWR : Hid (∀ z, Below w5.heap.size w5 (wc.drewN z)) := fun z => bel_drewN hb7 z
                clear hG2 hb7
                go_wp2_with fail
                go_quiet (fail)
                clear hr2 hg2
                go_wp2
                go_roundw
                case rel => exact ⟨r + 1, by omega, by go_num, HWR.out _⟩
                case measure => simp [intOf]; omega
            · have hrm : r = ms.length := by omega
              subst hrm
              go_wp2
              go_roundw
              case rel => exact ⟨j + 1, by omega, by go_num, HB5.out.trans (hbw.mono HB5.out.size)⟩
              case measure => simp [intOf]; omega
        · have hjm : j = m := by omega
          subst hjm
          go_wp2
          go_ret
          exact ⟨rfl, b0.trans (hbw.mono b0.size)⟩
end Go.Proofs.YtinnnfkhiigjpaaGreat.kp
