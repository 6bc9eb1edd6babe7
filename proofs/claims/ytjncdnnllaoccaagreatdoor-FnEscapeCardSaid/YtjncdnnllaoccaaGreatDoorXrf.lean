/-
  The program's reader of XML: a value between two signs, and an attribute.
-/
import Derived.Test.YtjncdnnllaoccaaGreatDoorXre
namespace Go.Proofs.YtjncdnnllaoccaaGreatDoor.xd
open Go.RowKit
set_option linter.unusedVariables false

theorem hp1 (c d : UInt8) (l : List UInt8) : Lib.hasPrefix (c :: l) [d] = (d == c) := by simp [Lib.hasPrefix, List.isPrefixOf]

set_option maxHeartbeats 2000000 in
set_option maxRecDepth 100000 in
theorem value_yes (b p : Nat) (s : ByteArray) (vT vO : Value) (w : World) (h : Rb w b s p vT vO) (hp : p ≤ s.size) (hs : s.size ≤ 65536) (hG : Gl w) (q : UInt8) (us : List U) (tail : List UInt8)
    (hok : ∀ u ∈ us, U.ok q u) (hq : q = 34 ∨ q = 39) (hrest : s.data.toList.drop p = q :: (inps us ++ q :: tail)) :
    Calls Tryz.prog 133 #[.pointer (some ⟨b, 0, none⟩)] w fun e w' => e = .returned (.tuple #[.string ⟨(outs us).toArray⟩, .nilIface]) ∧ Mv b s (p + (inps us).length + 2) vT vO w w' := by
  obtain ⟨hlt, hc, hnext⟩ := at_cons hrest
  have hend := drop_more (s := s) (k := p + 1) (a := inps us) (r := q :: tail) hnext
  have hle := drop_len (s := s) (k := p + 1) (a := inps us) (r := q :: tail) hnext (by omega)
  have S1 : Hid (∀ w', Rb w' b s p vT vO → Calls Tryz.prog 80 #[.pointer (some ⟨b, 0, none⟩), .string ⟨#[39]⟩] w' fun e w'' => e = .returned (.bool (39 == q)) ∧ ∃ n, w'' = w'.drewN n) := fun w' hr => by
    have := stands_any b p s ⟨#[39]⟩ vT vO w' hr hp hs
    rwa [hrest, show ((⟨#[39]⟩ : ByteArray).data.toList) = [39] from rfl, hp1] at this
  have S2 : Hid (∀ w', Rb w' b s p vT vO → Calls Tryz.prog 102 #[.pointer (some ⟨b, 0, none⟩), .string ⟨#[q]⟩] w' fun e w'' => e = .returned (.bool true) ∧ Mv b s (p + 1) vT vO w' w'') := fun w' hr =>
    take_yes b p s ⟨#[q]⟩ vT vO w' hr hp hs (by show 1 ≤ 65536; omega) (by rw [hrest, show ((⟨#[q]⟩ : ByteArray).data.toList) = [q] from rfl, hp1]; simp)
  have S3 : Hid (∀ w', Rb w' b s (p + 1) vT vO → Gl w' → Calls Tryz.prog 107 #[.pointer (some ⟨b, 0, none⟩), .int .u8 (q.toNat : Int)] w' fun e w'' => e = .returned (.tuple #[.string ⟨(outs us).toArray⟩, .nilIface]) ∧ Mv b s (p + 1 + (inps us).length) vT vO w' w'') := fun w' hr hg =>
    upto_yes b (p + 1) s vT vO w' hr (by omega) hs hg q us (q :: tail) hok (by rcases hq with rfl | rfl <;> decide) hnext (.inr ⟨tail, rfl⟩)
  have hp3 : p + 1 + (inps us).length ≤ s.size := hle
  have S4 : Hid (∀ w', Rb w' b s (p + 1 + (inps us).length) vT vO → Calls Tryz.prog 102 #[.pointer (some ⟨b, 0, none⟩), .string ⟨#[q]⟩] w' fun e w'' => e = .returned (.bool true) ∧ Mv b s (p + (inps us).length + 2) vT vO w' w'') := fun w' hr => by
    have := take_yes b (p + 1 + (inps us).length) s ⟨#[q]⟩ vT vO w' hr hp3 hs (by show 1 ≤ 65536; omega) (by rw [hend, show ((⟨#[q]⟩ : ByteArray).data.toList) = [q] from rfl, hp1]; simp)
    rw [show p + 1 + (inps us).length + (⟨#[q]⟩ : ByteArray).size = p + (inps us).length + 2 by show p + 1 + (inps us).length + 1 = _; omega] at this
    exact this
  have HR : Hid (Rb w b s p vT vO) := h
  have HG : Hid (Gl w) := hG
  clear h hG hrest hnext hend hc hok
  generalize hT : (⟨(outs us).toArray⟩ : ByteArray) = T at S3 ⊢
  clear hT
  rcases hq with rfl | rfl
  all_goals
    go_enter Tryz.func133, Tryz.ntmps133
    go_wp2_with fail
    refine (S1.out _ HR.out).mono ?_
    rintro e w1 ⟨rfl, n, rfl⟩
    have M1 : Mv b s p vT vO w (w.drewN n) := (Mv.refl HR.out).drew n
    generalize w.drewN n = w1 at M1 ⊢
    have HM1 : Hid (Mv b s p vT vO w w1) := M1
    clear M1
    go_wp2_with fail
    refine (S2.out _ HM1.out.1).mono ?_
    rintro e w2 ⟨rfl, m2⟩
    have HM2 : Hid (Mv b s (p + 1) vT vO w w2) := HM1.out.trans m2
    clear m2 HM1
    go_wp2_with fail
    refine (S3.out _ HM2.out.1 (HG.out.mv HR.out HM2.out.2)).mono ?_
    rintro e w3 ⟨rfl, m3⟩
    have HM3 : Hid (Mv b s (p + 1 + (inps us).length) vT vO w w3) := HM2.out.trans m3
    clear m3 HM2
    go_wp2_with fail
    refine (S4.out _ HM3.out.1).mono ?_
    rintro e w4 ⟨rfl, m4⟩
    have HM4 : Hid (Mv b s (p + (inps us).length + 2) vT vO w w4) := HM3.out.trans m4
    clear m4 HM3
    go_wp2
    go_ret2
    exact ⟨rfl, HM4.out⟩

set_option maxHeartbeats 2000000 in
set_option maxRecDepth 100000 in
theorem attr_yes (b p p1 p2 p3 : Nat) (s : ByteArray) (vT vO : Value) (w : World) (h : Rb w b s p vT vO) (hp : p ≤ s.size) (hs : s.size ≤ 65536) (hG : Gl w) (q : UInt8) (us : List U) (tail rest : List UInt8)
    (hnm : xm.okName ((s.data.toList.drop p).takeWhile xm.gon) = true) (h1 : run xm.gon s.data.toList p = p1) (h2 : run blank s.data.toList p1 = p2) (he : s.data.toList.drop p2 = 61 :: rest) (h3 : run blank s.data.toList (p2 + 1) = p3)
    (hok : ∀ u ∈ us, U.ok q u) (hq : q = 34 ∨ q = 39) (hrest : s.data.toList.drop p3 = q :: (inps us ++ q :: tail)) :
    Calls Tryz.prog 119 #[.pointer (some ⟨b, 0, none⟩)] w fun e w' => e = .returned (.tuple #[.agg #[.string (s.extract p p1), .string ⟨(outs us).toArray⟩], .nilIface]) ∧ Mv b s (p3 + (inps us).length + 2) vT vO w w' := by
  have l1 := run_le xm.gon s p hp
  rw [h1] at l1
  have l2 := run_le blank s p1 l1.1
  rw [h2] at l2
  obtain ⟨e2, _, _⟩ := at_cons he
  have l3 := run_le blank s (p2 + 1) (by omega)
  rw [h3] at l3
  have HR : Hid (Rb w b s p vT vO) := h
  have HG : Hid (Gl w) := hG
  have S1 : Hid (∀ w', Rb w' b s p vT vO → Calls Tryz.prog 103 #[.pointer (some ⟨b, 0, none⟩)] w' fun e w'' => e = .returned (.tuple #[.string (s.extract p p1), .nilIface]) ∧ Mv b s p1 vT vO w' w'') := fun w' hr => by
    have := name_yes b p s vT vO w' hr hp hs hnm
    rwa [h1] at this
  have S2 : Hid (∀ w', Rb w' b s p1 vT vO → Calls Tryz.prog 104 #[.pointer (some ⟨b, 0, none⟩)] w' fun e w'' => e = .returned (.bool (decide (p1 < p2))) ∧ Mv b s p2 vT vO w' w'') := fun w' hr => by
    have := skip_any b p1 s vT vO w' hr l1.1 hs
    rw [h2] at this
    exact this.mono fun e w'' ⟨x, _, y⟩ => ⟨x, y⟩
  have S3 : Hid (∀ w', Rb w' b s p2 vT vO → Calls Tryz.prog 102 #[.pointer (some ⟨b, 0, none⟩), .string ⟨#[61]⟩] w' fun e w'' => e = .returned (.bool true) ∧ Mv b s (p2 + 1) vT vO w' w'') := fun w' hr =>
    take_yes b p2 s ⟨#[61]⟩ vT vO w' hr l2.1 hs (by show 1 ≤ 65536; omega) (by rw [he, show ((⟨#[61]⟩ : ByteArray).data.toList) = [61] from rfl, hp1]; simp)
  have S4 : Hid (∀ w', Rb w' b s (p2 + 1) vT vO → Calls Tryz.prog 104 #[.pointer (some ⟨b, 0, none⟩)] w' fun e w'' => e = .returned (.bool (decide (p2 + 1 < p3))) ∧ Mv b s p3 vT vO w' w'') := fun w' hr => by
    have := skip_any b (p2 + 1) s vT vO w' hr (by omega) hs
    rw [h3] at this
    exact this.mono fun e w'' ⟨x, _, y⟩ => ⟨x, y⟩
  have S5 : Hid (∀ w', Rb w' b s p3 vT vO → Gl w' → Calls Tryz.prog 133 #[.pointer (some ⟨b, 0, none⟩)] w' fun e w'' => e = .returned (.tuple #[.string ⟨(outs us).toArray⟩, .nilIface]) ∧ Mv b s (p3 + (inps us).length + 2) vT vO w' w'') := fun w' hr hg =>
    value_yes b p3 s vT vO w' hr l3.1 hs hg q us tail hok hq hrest
  clear h hG hnm h1 h2 he h3 hok hq hrest
  generalize hT : (⟨(outs us).toArray⟩ : ByteArray) = T at S5 ⊢
  clear hT
  generalize hN : s.extract p p1 = N at S1 ⊢
  clear hN
  have M0 : Mv b s p vT vO w (w.alloc (.cells #[.string ⟨#[]⟩, .string ⟨#[]⟩] 59)) := (Mv.refl HR.out).below ((Below.refl _ _).alloc (Nat.le_refl _) _)
  have K0 : Hid ((w.alloc (.cells #[.string ⟨#[]⟩, .string ⟨#[]⟩] 59)).heap[w.heap.size]? = some (.cells #[.string ⟨#[]⟩, .string ⟨#[]⟩] 59 (0, 0))) := (MapKept.heap_alloc w _).1
  have hbl := HR.out.lt
  go_enter Tryz.func119, Tryz.ntmps119
  go_wp2_with fail
  generalize w.alloc _ = w0 at M0 K0 ⊢
  have sz0 : w.heap.size < w0.heap.size := (Array.getElem?_eq_some_iff.1 K0.out).1
  have HM0 : Hid (Mv b s p vT vO w w0) := M0
  clear M0
  refine (S1.out _ HM0.out.1).mono ?_
  rintro e w1 ⟨rfl, m1⟩
  have HM1 : Hid (Mv b s p1 vT vO w0 w1) := m1
  clear m1
  go_wp2_with fail
  refine (S2.out _ HM1.out.1).mono ?_
  rintro e w2 ⟨rfl, m2⟩
  have HM2 : Hid (Mv b s p2 vT vO w0 w2) := HM1.out.trans m2
  clear m2 HM1
  go_wp2_with fail
  refine (S3.out _ HM2.out.1).mono ?_
  rintro e w3 ⟨rfl, m3⟩
  have HM3 : Hid (Mv b s (p2 + 1) vT vO w0 w3) := HM2.out.trans m3
  clear m3 HM2
  go_wp2_with fail
  refine (S4.out _ HM3.out.1).mono ?_
  rintro e w4 ⟨rfl, m4⟩
  have HM4 : Hid (Mv b s p3 vT vO w0 w4) := HM3.out.trans m4
  clear m4 HM3
  go_wp2_with fail
  refine (S5.out _ HM4.out.1 (HG.out.mv HR.out (ow.grown_trans HM0.out.2 HM4.out.2))).mono ?_
  rintro e w5 ⟨rfl, m5⟩
  have HM5 : Hid (Mv b s (p3 + (inps us).length + 2) vT vO w0 w5) := HM4.out.trans m5
  clear m5 HM4
  have K5 : Hid (w5.heap[w.heap.size]? = some (.cells #[.string ⟨#[]⟩, .string ⟨#[]⟩] 59 (0, 0))) := (HM5.out.2.block _ sz0 (by simp; omega)).trans K0.out
  have q0 : w5.cell? ⟨w.heap.size, 0, none⟩ = some (.string ⟨#[]⟩) := by rw [cell_of_row w5 _ _ _ _ _ K5.out]; rfl
  have q1 : w5.cell? ⟨w.heap.size, 0 + 1, none⟩ = some (.string ⟨#[]⟩) := by rw [cell_of_row w5 _ _ _ _ _ K5.out]; rfl
  have f0 : ∀ j, w5.frozen? ⟨w.heap.size, j, none⟩ = false := fun j => frozen_of_row w5 _ j _ _ K5.out
  go_wp2
  have Z1 := heap_setCell_same w5 w.heap.size 0 _ _ (.string N) K5.out
  have Z2 := heap_setCell_same _ w.heap.size 1 _ _ (.string T) Z1
  have G2 : w.grownBy ((w5.setCell ⟨w.heap.size, 0, none⟩ (.string N)).setCell ⟨w.heap.size, 1, none⟩ (.string T)) (some b) := by
    have g := ow.grown_trans HM0.out.2 HM5.out.2
    refine ⟨g.os, g.tape, g.output, by simpa using g.size, fun k hk hr => ?_⟩
    rw [heap_setCell_other _ _ _ _ (by simp; omega), heap_setCell_other _ _ _ _ (by simp; omega)]
    exact g.block k hk hr
  have R2 : Rb ((w5.setCell ⟨w.heap.size, 0, none⟩ (.string N)).setCell ⟨w.heap.size, 1, none⟩ (.string T)) b s (p3 + (inps us).length + 2) vT vO := by
    unfold Rb
    rw [heap_setCell_other _ _ _ _ (by simp; omega), heap_setCell_other _ _ _ _ (by simp; omega)]
    exact HM5.out.1
  clear q0 q1 f0
  generalize hX : (w5.setCell ⟨w.heap.size, 0, none⟩ (.string N)).setCell ⟨w.heap.size, 1, none⟩ (.string T) = X at Z2 G2 R2 ⊢
  clear hX Z1
  have x0 : X.cell? ⟨w.heap.size, 0, none⟩ = some (.string N) := by rw [cell_of_row X _ _ _ _ _ Z2]; rfl
  have x1 : X.cell? ⟨w.heap.size, 1, none⟩ = some (.string T) := by rw [cell_of_row X _ _ _ _ _ Z2]; rfl
  exact bodyPost_ret (v := .tuple #[.agg #[.string N, .string T], .nilIface]) (by simp [results, Tryz.results119, go_sem, x0, x1]) rfl ⟨rfl, R2, G2⟩
end Go.Proofs.YtjncdnnllaoccaaGreatDoor.xd
