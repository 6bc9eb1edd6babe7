/-
  The program's reader of XML: the first element's beginning, with one attribute.
-/
import Derived.Test.YtjncdnnllaoccaaGreatDoorXrj
namespace Go.Proofs.YtjncdnnllaoccaaGreatDoor.xd
open Go.RowKit
set_option linter.unusedVariables false

theorem one_fr {B B' b : Nat} {w w' : World} {a : Option Addr} {len cap : Nat} {nm v : ByteArray} (h : OneAt B' w a len cap nm v) (hf : Fr B b w w') (hb : b < B') : OneAt B' w' a len cap nm v := by
  obtain ⟨hl, h⟩ := h
  refine ⟨hl, ?_⟩
  rcases h with h | ⟨g, cap', cur, hv, hB, hc, h1, h2, h3, h4⟩
  · exact .inl h
  · refine .inr ⟨g, cap', cur, hv, hB, ?_, h1, h2, h3, h4⟩
    have hg : g < w.heap.size := (Array.getElem?_eq_some_iff.1 hc).1
    rw [hf.2.2.2.2 g hg (by omega) (.inr (fun cs t fr hx => by rw [hc] at hx; cases hx; exact ⟨by decide, by decide⟩))]
    exact hc
theorem one_base {B B' : Nat} {w : World} {a : Option Addr} {len cap : Nat} {nm v : ByteArray} (h : OneAt B' w a len cap nm v) (hb : B ≤ B') : OneAt B w a len cap nm v := ow.own_base h hb

set_option maxHeartbeats 1000000 in
theorem had_no (b p : Nat) (s : ByteArray) (a : Option Addr) (cap : Nat) (vO : Value) (w : World) (h : Rb w b s p (.slice a 0 cap) vO) :
    Calls Tryz.prog 59 #[.pointer (some ⟨b, 0, none⟩)] w fun e w' => e = .returned (.bool false) ∧ w' = w := by
  have c2 := h.c2
  go_enter Tryz.func59, Tryz.ntmps59
  go_wp2
  go_ret
  exact ⟨rfl, rfl⟩

set_option maxHeartbeats 4000000 in
set_option maxRecDepth 100000 in
theorem start_one (B b p q1 p4 : Nat) (s nm1 nm : ByteArray) (T : ByteArray) (vT vO : Value) (w : World) (h : Rb w b s p vT vO) (hT : w.ownsRow B 34 4 vT 0 []) (hO : w.ownsRow B 9 1 vO 0 []) (hbB : b < B) (hB : B ≤ w.heap.size)
    (hp : p ≤ s.size) (hs : s.size ≤ 65536) (hG : Gl w) (rest tail : List UInt8) (hrest : s.data.toList.drop p = 60 :: rest) (hnm : xm.okName ((s.data.toList.drop (p + 1)).takeWhile xm.gon) = true) (h1 : run xm.gon s.data.toList (p + 1) = q1) (hN : s.extract (p + 1) q1 = nm1)
    (HAT : ∀ w', Rb w' b s q1 vT vO → Gl w' → Calls Tryz.prog 106 #[.pointer (some ⟨b, 0, none⟩)] w' fun e w'' => ∃ a len cap, e = .returned (.tuple #[.slice a len cap, .nilIface]) ∧ OneAt w'.heap.size w'' a len cap nm T ∧ Mv b s p4 vT vO w' w'')
    (h4 : p4 ≤ s.size) (he : s.data.toList.drop p4 = 62 :: tail) :
    Calls Tryz.prog 84 #[.pointer (some ⟨b, 0, none⟩)] w fun e w' => e = .returned .nilIface ∧ ∃ vT' vO' a len cap, Rb w' b s (p4 + 1) vT' vO' ∧ w'.ownsRow B 34 4 vT' 1 [.int .i64 1, .string nm1, .slice a len cap, .string ⟨#[]⟩] ∧ w'.ownsRow B 9 1 vO' 1 [.string nm1] ∧ OneAt B w' a len cap nm T ∧ Fr B b w w' := by
  obtain ⟨i0, hi, hz0, hz1, hz2⟩ := info_parts infoStr
  obtain ⟨e0, _, _⟩ := at_cons hrest
  have l1 := run_le xm.gon s (p + 1) (by omega)
  rw [h1] at l1
  obtain ⟨e4, _, _⟩ := at_cons he
  have S0 : Hid (Calls Tryz.prog 102 #[.pointer (some ⟨b, 0, none⟩), .string ⟨#[60]⟩] w fun e w'' => e = .returned (.bool true) ∧ Mv b s (p + 1) vT vO w w'') :=
    take_yes b p s ⟨#[60]⟩ vT vO w h hp hs (by show 1 ≤ 65536; omega) (by rw [hrest, show ((⟨#[60]⟩ : ByteArray).data.toList) = [60] from rfl, hp1]; simp)
  have S1 : Hid (∀ w', Rb w' b s (p + 1) vT vO → Calls Tryz.prog 103 #[.pointer (some ⟨b, 0, none⟩)] w' fun e w'' => e = .returned (.tuple #[.string nm1, .nilIface]) ∧ Mv b s q1 vT vO w' w'') := fun w' hr => by
    have := name_yes b (p + 1) s vT vO w' hr (by omega) hs hnm
    rwa [h1, hN] at this
  have S3 : Hid (∀ w', Rb w' b s p4 vT vO → Calls Tryz.prog 102 #[.pointer (some ⟨b, 0, none⟩), .string ⟨#[47]⟩] w' fun e w'' => e = .returned (.bool false) ∧ Mv b s p4 vT vO w' w'') := fun w' hr =>
    take_no b p4 s ⟨#[47]⟩ vT vO w' hr h4 hs (by rw [he, show ((⟨#[47]⟩ : ByteArray).data.toList) = [47] from rfl, hp1]; rfl)
  have S4 : Hid (∀ w', Rb w' b s p4 vT vO → Calls Tryz.prog 102 #[.pointer (some ⟨b, 0, none⟩), .string ⟨#[62]⟩] w' fun e w'' => e = .returned (.bool true) ∧ Mv b s (p4 + 1) vT vO w' w'') := fun w' hr =>
    take_yes b p4 s ⟨#[62]⟩ vT vO w' hr h4 hs (by show 1 ≤ 65536; omega) (by rw [he, show ((⟨#[62]⟩ : ByteArray).data.toList) = [62] from rfl, hp1]; simp)
  have HATT : Hid _ := HAT
  have HR : Hid (Rb w b s p vT vO) := h
  have HG : Hid (Gl w) := hG
  have HT : Hid (w.ownsRow B 34 4 vT 0 []) := hT
  have HO : Hid (w.ownsRow B 9 1 vO 0 []) := hO
  obtain ⟨aT, cT, rfl⟩ := row_form hT
  obtain ⟨aO, cO, rfl⟩ := row_form hO
  have c1 := h.c1
  clear h hG hT hO hrest hnm h1 hN he HAT
  go_enter Tryz.func84, Tryz.ntmps84
  go_wp2_with fail
  refine S0.out.mono ?_
  rintro e w0 ⟨rfl, m0⟩
  have HM0 : Hid (Mv b s (p + 1) (.slice aT 0 cT) (.slice aO 0 cO) w w0) := m0
  clear m0 S0 c1
  go_wp2_with fail
  refine (S1.out _ HM0.out.1).mono ?_
  rintro e w1 ⟨rfl, m1⟩
  have HM1 : Hid (Mv b s q1 (.slice aT 0 cT) (.slice aO 0 cO) w w1) := HM0.out.trans m1
  have c3 := HM1.out.1.c3
  clear m1 S1 HM0
  go_wp2_with fail
  refine (had_no b q1 s aT cT _ _ HM1.out.1).mono ?_
  rintro e w1' ⟨rfl, rfl⟩
  go_wp2_with fail
  refine (HATT.out _ HM1.out.1 (HG.out.mv HR.out HM1.out.2)).mono ?_
  rintro e w2 ⟨a, len, cap, rfl, h2, m2⟩
  have HM2 : Hid (Mv b s p4 (.slice aT 0 cT) (.slice aO 0 cO) w w2) := HM1.out.trans m2
  have H2 : Hid (OneAt w.heap.size w2 a len cap nm T) := one_base h2 HM1.out.2.size
  clear m2 h2 HM1 c3 HATT
  go_wp2_with fail
  refine (S3.out _ HM2.out.1).mono ?_
  rintro e w3 ⟨rfl, m3⟩
  have HM3 : Hid (Mv b s p4 (.slice aT 0 cT) (.slice aO 0 cO) w w3) := HM2.out.trans m3
  have H3 : Hid (OneAt w.heap.size w3 a len cap nm T) := own_mv H2.out m3 HR.out.lt
  clear m3 H2 HM2 S3
  go_wp2_with fail
  refine (S4.out _ HM3.out.1).mono ?_
  rintro e w4 ⟨rfl, m4⟩
  have HM4 : Hid (Mv b s (p4 + 1) (.slice aT 0 cT) (.slice aO 0 cO) w w4) := HM3.out.trans m4
  have H4 : Hid (OneAt w.heap.size w4 a len cap nm T) := own_mv H3.out m4 HR.out.lt
  clear m4 H3 HM3 S4
  have hB4 : B ≤ w4.heap.size := Nat.le_trans hB HM4.out.2.size
  go_wp2_with fail
  refine (add_yes B b (p4 + 1) 0 s _ _ [] [] 0 w4 HM4.out.1 (own_mv HT.out HM4.out hbB) (own_mv HO.out HM4.out hbB) (by omega) hbB hB4 1 nm1 ⟨#[]⟩ a len cap).mono ?_
  rintro e w5 ⟨rfl, vT', r5, t5, o5, f5⟩
  have HR5 : Hid (Rb w5 b s (p4 + 1) vT' (.slice aO 0 cO)) := r5
  have HT5 : Hid (w5.ownsRow B 34 4 vT' 1 [.int .i64 1, .string nm1, .slice a len cap, .string ⟨#[]⟩]) := t5
  have HO5 : Hid (w5.ownsRow B 9 1 (.slice aO 0 cO) 0 []) := o5
  have F5 : Hid (Fr B b w w5) := (Fr.mv HM4.out).trans f5
  have H5 : Hid (OneAt w.heap.size w5 a len cap nm T) := one_fr H4.out f5 HR.out.lt
  have c3 := r5.c3
  have hbl5 : b < w5.heap.size := r5.lt
  have hbne5 : ¬ b = w5.heap.size := by omega
  have hB5 : B ≤ w5.heap.size := Nat.le_trans hB F5.out.2.2.2.1
  have K6 : Hid (∀ (o : Obj) (w6 : World), (w5.alloc o).grownBy w6 (Value.slice aO 0 cO).ownBlock → Rb w6 b s (p4 + 1) vT' (.slice aO 0 cO)) := fun o w6 hgrow => by
    have r := HR5.out.keep ((Below.refl _ w5).alloc (Nat.le_refl _) o)
    exact (hgrow.block b r.lt (row_ne (HO5.out.alloc o) hbB)).trans r
  clear r5 t5 o5 f5 HM4 H4
  go_wp2_with (at_builtin; go_loud (refine wpList_append_own _ rfl _ _ 42 rfl B 9 i0 (.string ⟨#[]⟩) 1 16 Tryz.underlying42 hi hz0 hz1 hz2 rfl (by decide) (.slice aO 0 cO) 0 [] rfl (HO5.out.alloc _) ⟨w5.heap.size, 0, none⟩ 1 1 [Value.string nm1] rfl rfl (ow.cells_new w5 _ 9) (by simp [Value.oneCell']) (by unfold maxLen; omega) (by omega) (by simp; omega) ?_); intro v' w6 hown' hgrow _; obtain ⟨g6, c6, rfl⟩ := row_some (m := 0) hown'; have r6 := K6.out _ _ hgrow; have d3 := r6.c3; have f3 := r6.f 3)
  have T6 : Hid (w6.ownsRow B 34 4 vT' 1 [.int .i64 1, .string nm1, .slice a len cap, .string ⟨#[]⟩]) := row_apart (HT5.out.alloc _) (HO5.out.alloc _) (by decide) hgrow
  have F6 : Hid (Fr B b w5 w6) := (Fr.below ((Below.refl _ _).alloc (Nat.le_refl _) _)).trans (Fr.row (HO5.out.alloc _) (.inr rfl) hgrow)
  have HR6 : Hid (Rb w6 b s (p4 + 1) vT' (.slice aO 0 cO)) := r6
  have HO6 : Hid (w6.ownsRow B 9 1 (.slice (some ⟨g6, 0, none⟩) (0 + 1) c6) (0 + 1) ([] ++ [.string nm1])) := hown'
  have FIN : Hid (∃ vT' vO' a len cap, Rb (w6.setCell ⟨b, 3, none⟩ (.slice (some ⟨g6, 0, none⟩) (0 + 1) c6)) b s (p4 + 1) vT' vO' ∧ (w6.setCell ⟨b, 3, none⟩ (.slice (some ⟨g6, 0, none⟩) (0 + 1) c6)).ownsRow B 34 4 vT' 1 [.int .i64 1, .string nm1, .slice a len cap, .string ⟨#[]⟩] ∧ (w6.setCell ⟨b, 3, none⟩ (.slice (some ⟨g6, 0, none⟩) (0 + 1) c6)).ownsRow B 9 1 vO' 1 [.string nm1] ∧ OneAt B (w6.setCell ⟨b, 3, none⟩ (.slice (some ⟨g6, 0, none⟩) (0 + 1) c6)) a len cap nm T ∧ Fr B b w (w6.setCell ⟨b, 3, none⟩ (.slice (some ⟨g6, 0, none⟩) (0 + 1) c6))) := by
    have g7 := grown_at w6 b 3 (.slice (some ⟨g6, 0, none⟩) (0 + 1) c6)
    refine ⟨vT', .slice (some ⟨g6, 0, none⟩) (0 + 1) c6, a, len, cap, heap_setCell_same w6 b 3 _ _ _ HR6.out, T6.out.kept g7 (.inr (fun x => row_ne T6.out hbB x.symm)), HO6.out.kept g7 (.inr (fun x => row_ne HO6.out hbB x.symm)), ?_, (F5.out.trans F6.out).trans (Fr.grown g7)⟩
    have hb6 : b < w.heap.size := HR.out.lt
    exact one_base (one_fr (one_fr H5.out F6.out hb6) (Fr.grown (B := B) g7) hb6) hB
  clear hgrow hown' r6 T6 F6 HR6 HO6
  go_wp2
  go_ret
  exact ⟨rfl, FIN.out⟩
end Go.Proofs.YtjncdnnllaoccaaGreatDoor.xd
