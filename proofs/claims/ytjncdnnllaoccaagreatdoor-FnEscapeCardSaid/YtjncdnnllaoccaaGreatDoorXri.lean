/-
  The program's reader of XML: an element's end.
-/
import Derived.Test.YtjncdnnllaoccaaGreatDoorXrh
namespace Go.Proofs.YtjncdnnllaoccaaGreatDoor.xd
open Go.RowKit
set_option linter.unusedVariables false

theorem own_cut {w : World} {B e g cap m : Nat} {xs : List Value} {x : Value} (h : w.ownsRow B e 1 (.slice (some ⟨g, 0, none⟩) (m + 1) cap) (m + 1) (xs ++ [x])) : w.ownsRow B e 1 (.slice (some ⟨g, 0, none⟩) m cap) m xs ∧ m + 1 ≤ cap := by
  obtain ⟨hl, h⟩ := h
  simp at hl
  rcases h with ⟨hv, _⟩ | ⟨g', cap', cur, hv, hB, hc, hle, hm, hs, ht⟩
  · cases hv
  · cases hv
    refine ⟨⟨by omega, .inr ⟨g, cap, cur, rfl, hB, hc, by omega, hm, hs, ?_⟩⟩, hle⟩
    have e : List.take m (xs ++ [x]) = xs := by rw [← hl]; simp
    have := congrArg (List.take m) ht
    rw [e, List.take_take, show min m ((m + 1) * 1) = m by omega] at this
    rw [Nat.mul_one]
    exact this

set_option maxHeartbeats 4000000 in
set_option maxRecDepth 100000 in
theorem end_yes (B b p n m p1 p2 : Nat) (s nm : ByteArray) (vT vO : Value) (tk ok : List Value) (w : World) (h : Rb w b s p vT vO) (hT : w.ownsRow B 34 4 vT n tk) (hO : w.ownsRow B 9 1 vO (m + 1) (ok ++ [.string nm])) (hn : n < 600) (hm12 : m ≤ 12) (hbB : b < B) (hB : B ≤ w.heap.size)
    (hp : p ≤ s.size) (hs : s.size ≤ 65536) (rest tail : List UInt8) (hrest : s.data.toList.drop p = 60 :: 47 :: rest) (hnm : xm.okName ((s.data.toList.drop (p + 2)).takeWhile xm.gon) = true) (h1 : run xm.gon s.data.toList (p + 2) = p1) (hN : s.extract (p + 2) p1 = nm) (h2 : run blank s.data.toList p1 = p2) (he : s.data.toList.drop p2 = 62 :: tail) :
    Calls Tryz.prog 83 #[.pointer (some ⟨b, 0, none⟩)] w fun e w' => e = .returned .nilIface ∧ ∃ vT' vO', Rb w' b s (p2 + 1) vT' vO' ∧ w'.ownsRow B 34 4 vT' (n + 1) (tk ++ [.int .i64 2, .string nm, .slice none 0 0, .string ⟨#[]⟩]) ∧ w'.ownsRow B 9 1 vO' m ok ∧ Fr B b w w' := by
  obtain ⟨e0, _, hr1⟩ := at_cons hrest
  obtain ⟨e1, _, _⟩ := at_cons hr1
  have l1 := run_le xm.gon s (p + 2) (by omega)
  rw [h1] at l1
  have l2 := run_le blank s p1 l1.1
  rw [h2] at l2
  obtain ⟨e2, _, _⟩ := at_cons he
  have S0 : Hid (Calls Tryz.prog 102 #[.pointer (some ⟨b, 0, none⟩), .string ⟨#[60, 47]⟩] w fun e w'' => e = .returned (.bool true) ∧ Mv b s (p + 2) vT vO w w'') :=
    take_yes b p s ⟨#[60, 47]⟩ vT vO w h hp hs (by show 2 ≤ 65536; omega) (by rw [hrest]; rfl)
  have S1 : Hid (∀ w', Rb w' b s (p + 2) vT vO → Calls Tryz.prog 103 #[.pointer (some ⟨b, 0, none⟩)] w' fun e w'' => e = .returned (.tuple #[.string nm, .nilIface]) ∧ Mv b s p1 vT vO w' w'') := fun w' hr => by
    have := name_yes b (p + 2) s vT vO w' hr (by omega) hs hnm
    rwa [h1, hN] at this
  have S2 : Hid (∀ w', Rb w' b s p1 vT vO → Calls Tryz.prog 104 #[.pointer (some ⟨b, 0, none⟩)] w' fun e w'' => e = .returned (.bool (decide (p1 < p2))) ∧ Mv b s p2 vT vO w' w'') := fun w' hr => by
    have := skip_any b p1 s vT vO w' hr l1.1 hs
    rw [h2] at this
    exact this.mono fun e w'' ⟨x, _, y⟩ => ⟨x, y⟩
  have S3 : Hid (∀ w', Rb w' b s p2 vT vO → Calls Tryz.prog 102 #[.pointer (some ⟨b, 0, none⟩), .string ⟨#[62]⟩] w' fun e w'' => e = .returned (.bool true) ∧ Mv b s (p2 + 1) vT vO w' w'') := fun w' hr =>
    take_yes b p2 s ⟨#[62]⟩ vT vO w' hr l2.1 hs (by show 1 ≤ 65536; omega) (by rw [he, show ((⟨#[62]⟩ : ByteArray).data.toList) = [62] from rfl, hp1]; simp)
  obtain ⟨g, cap, rfl⟩ := row_some hO
  have hlk : ok.length = m := by have := hO.1; simp at this; omega
  obtain ⟨hO2, hcap⟩ := own_cut hO
  have HT : Hid (w.ownsRow B 34 4 vT n tk) := hT
  have HO : Hid (w.ownsRow B 9 1 (.slice (some ⟨g, 0, none⟩) (m + 1) cap) (m + 1) (ok ++ [.string nm])) := hO
  have HO2 : Hid (w.ownsRow B 9 1 (.slice (some ⟨g, 0, none⟩) m cap) m ok) := hO2
  have HLK : Hid (ok.length = m) := hlk
  have c1 := h.c1
  clear h hT hO hO2 hrest hnm h1 hN h2 he hr1 hlk
  go_enter Tryz.func83, Tryz.ntmps83
  go_wp2_with fail
  refine S0.out.mono ?_
  rintro e w0 ⟨rfl, m0⟩
  have HM0 : Hid (Mv b s (p + 2) vT (.slice (some ⟨g, 0, none⟩) (m + 1) cap) w w0) := m0
  clear m0 S0 c1
  go_wp2_with fail
  refine (S1.out _ HM0.out.1).mono ?_
  rintro e w1 ⟨rfl, m1⟩
  have HM1 : Hid (Mv b s p1 vT (.slice (some ⟨g, 0, none⟩) (m + 1) cap) w w1) := HM0.out.trans m1
  clear m1 S1 HM0
  go_wp2_with fail
  refine (S2.out _ HM1.out.1).mono ?_
  rintro e w2 ⟨rfl, m2⟩
  have HM2 : Hid (Mv b s p2 vT (.slice (some ⟨g, 0, none⟩) (m + 1) cap) w w2) := HM1.out.trans m2
  clear m2 S2 HM1
  go_wp2_with fail
  refine (S3.out _ HM2.out.1).mono ?_
  rintro e w3 ⟨rfl, m3⟩
  have HM3 : Hid (Mv b s (p2 + 1) vT (.slice (some ⟨g, 0, none⟩) (m + 1) cap) w w3) := HM2.out.trans m3
  clear m3 S3 HM2
  have c3 := HM3.out.1.c3
  have f3 := HM3.out.1.f 3
  have O3 := own_mv HO.out HM3.out hbB
  have k3 := O3.cellAt m (by omega)
  rw [List.getElem?_append_right (by rw [HLK.out]; exact Nat.le_refl _), HLK.out, Nat.sub_self] at k3
  have k3' : w3.cell? ⟨g, m, none⟩ = some (.string nm) := k3
  clear k3 O3
  have hmi : (m : Int) ≤ 12 := by omega
  have hnn : (nm.toList != nm.toList) = false := by simp
  have hm0 : (0 : Int) ≤ (m : Int) := by omega
  have hm1 : (m : Int) < ((m + 1 : Nat) : Int) := by omega
  have hm2 : ((m : Int) < 0) = False := by simp
  have hmd : decide ((m : Int) < 0) = false := by simp
  have hmc : (m : Int) ≤ (cap : Int) := by omega
  go_wp2_with fail
  have R4 : Rb (w3.setCell ⟨b, 3, none⟩ (.slice (some ⟨g, 0, none⟩) m cap)) b s (p2 + 1) vT (.slice (some ⟨g, 0, none⟩) m cap) := heap_setCell_same w3 b 3 _ _ _ HM3.out.1
  have g4 := grown_at w3 b 3 (.slice (some ⟨g, 0, none⟩) m cap)
  have T4 := (own_mv HT.out HM3.out hbB).kept g4 (.inr (fun x => row_ne (own_mv HT.out HM3.out hbB) hbB x.symm))
  have O4 := (own_mv HO2.out HM3.out hbB).kept g4 (.inr (fun x => row_ne (own_mv HO2.out HM3.out hbB) hbB x.symm))
  have F4 : Fr B b w (w3.setCell ⟨b, 3, none⟩ (.slice (some ⟨g, 0, none⟩) m cap)) := (Fr.mv HM3.out).trans (Fr.grown g4)
  have hB4 : B ≤ (w3.setCell ⟨b, 3, none⟩ (.slice (some ⟨g, 0, none⟩) m cap)).heap.size := Nat.le_trans hB F4.2.2.2.1
  clear c3 f3 k3' HM3 g4
  generalize w3.setCell ⟨b, 3, none⟩ (.slice (some ⟨g, 0, none⟩) m cap) = W at R4 T4 O4 F4 hB4 ⊢
  refine (add_yes B b (p2 + 1) n s vT _ tk ok m W R4 T4 O4 hn hbB hB4 2 nm ⟨#[]⟩ none 0 0).mono ?_
  rintro e w5 ⟨rfl, vT', r5, t5, o5, f5⟩
  have FIN : Hid (∃ vT' vO', Rb w5 b s (p2 + 1) vT' vO' ∧ w5.ownsRow B 34 4 vT' (n + 1) (tk ++ [.int .i64 2, .string nm, .slice none 0 0, .string ⟨#[]⟩]) ∧ w5.ownsRow B 9 1 vO' m ok ∧ Fr B b w w5) := ⟨vT', _, r5, t5, o5, F4.trans f5⟩
  clear r5 t5 o5 f5 R4 T4 O4 F4
  go_wp2
  go_ret
  exact ⟨rfl, FIN.out⟩
end Go.Proofs.YtjncdnnllaoccaaGreatDoor.xd
