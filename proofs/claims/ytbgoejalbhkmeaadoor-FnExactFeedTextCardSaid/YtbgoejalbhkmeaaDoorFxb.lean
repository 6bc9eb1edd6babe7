/-
  The text of an item in the specification, the text of an entry in both.
-/
import Derived.Test.YtbgoejalbhkmeaaDoorFxa
namespace Go.Proofs.YtbgoejalbhkmeaaDoor.fx
open Go.RowKit
open en gr
set_option linter.unusedVariables false

theorem bytes_eq {a b : ByteArray} (h : a.data.toList = b.data.toList) : a = b := WideShapes.bytes_inj h
theorem data_app (a b : ByteArray) : (a ++ b).data.toList = a.data.toList ++ b.data.toList := by rw [ByteArray.data_append, Array.toList_append]
theorem rss_same (i t l a c : ByteArray) (d : Int) : (⟨#[60, 105, 116, 101, 109, 62]⟩ : ByteArray) ++ tag (⟨#[103, 117, 105, 100]⟩ : ByteArray) (E i) ++ tag (⟨#[116, 105, 116, 108, 101]⟩ : ByteArray) (E t) ++ tag (⟨#[108, 105, 110, 107]⟩ : ByteArray) (E l) ++ tag (⟨#[97, 117, 116, 104, 111, 114]⟩ : ByteArray) (E a) ++ tag (⟨#[112, 117, 98, 68, 97, 116, 101]⟩ : ByteArray) (E (D82 d)) ++ tag (⟨#[100, 101, 115, 99, 114, 105, 112, 116, 105, 111, 110]⟩ : ByteArray) (E c) ++ (⟨#[60, 47, 105, 116, 101, 109, 62]⟩ : ByteArray) = rssT ⟨i, t, l, a, d, c⟩ := by
  apply bytes_eq
  unfold rssT rssHead tag
  simp only [data_app, List.append_assoc, List.cons_append, List.nil_append]
set_option maxHeartbeats 4000000 in
set_option maxRecDepth 100000 in
theorem spec_rss (e : En) (w : World) (hs : Short e) :
    Calls Tryd.prog 24 #[EV e] w fun r w' => r = .returned (.string (rssT e)) ∧ Below w.heap.size w w' := by
  obtain ⟨i, t, l, a, d, c⟩ := e
  obtain ⟨s0, s1, s2, s3, s5, s6, s7⟩ := hs
  simp only at s0 s1 s2 s3 s5 s6 s7
  have K := lies_new w 40 ⟨i, t, l, a, d, c⟩
  have bw : Below w.heap.size w (w.alloc (.cells (cl ⟨i, t, l, a, d, c⟩) 40)) := (Below.refl _ _).alloc (Nat.le_refl _) _
  have HD : Hid (∀ w, Calls Tryd.prog 37 #[.int .i64 d] w fun e w' => e = .returned (.string (D82 d)) ∧ Below w.heap.size w w') := fun w => dx.spec_f82 d s6 s7 w
  have hD := D82_size d
  have HS := rss_same i t l a c d
  generalize D82 d = dt at hD HS HD
  have HSH : Hid ((⟨#[60, 105, 116, 101, 109, 62]⟩ : ByteArray) ++ tag (⟨#[103, 117, 105, 100]⟩ : ByteArray) (E i) ++ tag (⟨#[116, 105, 116, 108, 101]⟩ : ByteArray) (E t) ++ tag (⟨#[108, 105, 110, 107]⟩ : ByteArray) (E l) ++ tag (⟨#[97, 117, 116, 104, 111, 114]⟩ : ByteArray) (E a) ++ tag (⟨#[112, 117, 98, 68, 97, 116, 101]⟩ : ByteArray) (E dt) ++ tag (⟨#[100, 101, 115, 99, 114, 105, 112, 116, 105, 111, 110]⟩ : ByteArray) (E c) ++ (⟨#[60, 47, 105, 116, 101, 109, 62]⟩ : ByteArray) = rssT ⟨i, t, l, a, d, c⟩) := HS
  clear HS
  unfold EV cl
  unfold cl at K bw
  simp only at K bw ⊢
  go_enter Tryd.func24, Tryd.ntmps24
  go_wp2_with fail
  generalize w.alloc _ = w1 at K bw ⊢
  have ne := ext_some w1
  have c0 := fun x : Ext w1 => gw_cell x K.c0
  have c1 := fun x : Ext w1 => gw_cell x K.c1
  have c2 := fun x : Ext w1 => gw_cell x K.c2
  have c3 := fun x : Ext w1 => gw_cell x K.c3
  have c4 := fun x : Ext w1 => gw_cell x K.c4
  have c5 := fun x : Ext w1 => gw_cell x K.c5
  simp only at c0 c1 c2 c3 c4 c5
  have z0 : (tag (⟨#[103, 117, 105, 100]⟩ : ByteArray) (E i)).size ≤ 1213 := Nat.le_trans (esc_size _ _) (by show 5 + 2 * 4 + 6 * (i).size ≤ 1213; omega)
  have z1 : (tag (⟨#[116, 105, 116, 108, 101]⟩ : ByteArray) (E t)).size ≤ 1215 := Nat.le_trans (esc_size _ _) (by show 5 + 2 * 5 + 6 * (t).size ≤ 1215; omega)
  have z2 : (tag (⟨#[108, 105, 110, 107]⟩ : ByteArray) (E l)).size ≤ 1213 := Nat.le_trans (esc_size _ _) (by show 5 + 2 * 4 + 6 * (l).size ≤ 1213; omega)
  have z3 : (tag (⟨#[97, 117, 116, 104, 111, 114]⟩ : ByteArray) (E a)).size ≤ 1217 := Nat.le_trans (esc_size _ _) (by show 5 + 2 * 6 + 6 * (a).size ≤ 1217; omega)
  have z4 : (tag (⟨#[112, 117, 98, 68, 97, 116, 101]⟩ : ByteArray) (E dt)).size ≤ 379 := Nat.le_trans (esc_size _ _) (by show 5 + 2 * 7 + 6 * (dt).size ≤ 379; omega)
  have z5 : (tag (⟨#[100, 101, 115, 99, 114, 105, 112, 116, 105, 111, 110]⟩ : ByteArray) (E c)).size ≤ 6027 := Nat.le_trans (esc_size _ _) (by show 5 + 2 * 11 + 6 * (c).size ≤ 6027; omega)
  have l0 : i.size ≤ 1048576 := by omega
  have l1 : t.size ≤ 1048576 := by omega
  have l2 : l.size ≤ 1048576 := by omega
  have l3 : a.size ≤ 1048576 := by omega
  have l5 : c.size ≤ 1048576 := by omega
  have l6 : dt.size ≤ 1048576 := by omega
  refine region_lit (by kernel_rfl) (by kernel_rfl) ?_
  repeat (go_big_quiet_step ((first | (go_at_call 22; exact grow_of (spec_tag _ _ _ (by decide) (by assumption))) | (go_at_call 37; exact grow_of (HD.out _)))))
  refine wpQuiet_nil ?_
  rintro W2 ⟨x, rfl⟩
  have b3 := bw.trans ((gw_below x).mono bw.size)
  generalize gw x = W2 at b3 ⊢
  clear c0 c1 c2 c3 c4 c5 ne K bw z0 z1 z2 z3 z4 z5
  go_wp2
  go_ret
  exact ⟨by rw [← HSH.out]; rfl, b3⟩

set_option maxHeartbeats 4000000 in
set_option maxRecDepth 100000 in
theorem impl_atom (e : En) (w : World) (hs : Short e) (hT : tb.TP w) :
    Calls Tryd.prog 15 #[EV e] w fun r w' => r = .returned (.string (atomT e)) ∧ Below w.heap.size w w' := by
  obtain ⟨i, t, l, a, d, c⟩ := e
  obtain ⟨s0, s1, s2, s3, s5, s6, s7⟩ := hs
  simp only at s0 s1 s2 s3 s5 s6 s7
  have K := lies_new w 40 ⟨i, t, l, a, d, c⟩
  have bw : Below w.heap.size w (w.alloc (.cells (cl ⟨i, t, l, a, d, c⟩) 40)) := (Below.refl _ _).alloc (Nat.le_refl _) _
  have HD : Hid (∀ w, tb.TP w → Calls Tryd.prog 29 #[.int .i64 d] w fun e w' => e = .returned (.tuple #[.string (D39 d), .int .i64 0]) ∧ Below w.heap.size w w') := fun w h1 => by
    have := dx.impl_39 d w h1
    rwa [dx.r39_in (in_yes s6 s7)] at this
  have HT : Hid (tb.TP (w.alloc (.cells (cl ⟨i, t, l, a, d, c⟩) 40))) := tb.keep' hT bw
  clear hT
  have hD := D39_size d
  unfold atomT atomHead lnk
  simp only
  unfold EV cl
  unfold cl at K bw HT
  simp only at K bw HT ⊢
  go_enter Tryd.func15, Tryd.ntmps15
  go_wp2_with fail
  generalize w.alloc _ = W at K bw HT ⊢
  refine (HD.out W HT.out).mono ?_
  rintro e w1 ⟨rfl, b1⟩
  have K1 := K.keep b1
  have b2 := bw.trans (b1.mono bw.size)
  generalize hdt : D39 d = dt at hD ⊢
  have HDT : Hid (D39 d = dt) := hdt
  clear hdt K bw HT HD b1
  have c2 := K1.c2
  simp only at c2
  have HE : Hid (∀ w, Calls Tryd.prog 28 #[.string l] w fun e w' => e = .returned (.string (E l)) ∧ Below w.heap.size w w') := fun w => xm.impl_esc l w (by omega)
  have hE := E_size l
  generalize hel : E l = el at hE HE
  have HEL : Hid (E l = el) := hel
  clear hel
  go_wp2_with fail
  refine (HE.out _).mono ?_
  rintro e w2 ⟨rfl, b3'⟩
  have K2 := K1.keep b3'
  have b3 := b2.trans (b3'.mono b2.size)
  clear K1 b2 b3' c2 HE
  go_wp2_with fail
  generalize hlk : (⟨#[60, 108, 105, 110, 107, 32, 104, 114, 101, 102, 61, 34]⟩ : ByteArray) ++ el ++ (⟨#[34, 47, 62]⟩ : ByteArray) = lk
  have hL : lk.size ≤ 1300 := by
    rw [← hlk, ByteArray.size_append, ByteArray.size_append]
    show 12 + el.size + 3 ≤ 1300
    omega
  have HLK : Hid ((⟨#[60, 108, 105, 110, 107, 32, 104, 114, 101, 102, 61, 34]⟩ : ByteArray) ++ el ++ (⟨#[34, 47, 62]⟩ : ByteArray) = lk) := hlk
  clear hlk
  have ne := ext_some w2
  have c0 := fun x : Ext w2 => gw_cell x K2.c0
  have c1 := fun x : Ext w2 => gw_cell x K2.c1
  have c2 := fun x : Ext w2 => gw_cell x K2.c2
  have c3 := fun x : Ext w2 => gw_cell x K2.c3
  have c4 := fun x : Ext w2 => gw_cell x K2.c4
  have c5 := fun x : Ext w2 => gw_cell x K2.c5
  simp only at c0 c1 c2 c3 c4 c5
  have z0 : (tag (⟨#[105, 100]⟩ : ByteArray) (E i)).size ≤ 1209 := Nat.le_trans (esc_size _ _) (by show 5 + 2 * 2 + 6 * (i).size ≤ 1209; omega)
  have z1 : (tag (⟨#[116, 105, 116, 108, 101]⟩ : ByteArray) (E t)).size ≤ 1215 := Nat.le_trans (esc_size _ _) (by show 5 + 2 * 5 + 6 * (t).size ≤ 1215; omega)
  have z2 : (tag (⟨#[110, 97, 109, 101]⟩ : ByteArray) (E a)).size ≤ 1213 := Nat.le_trans (esc_size _ _) (by show 5 + 2 * 4 + 6 * (a).size ≤ 1213; omega)
  have l0 : i.size ≤ 1048576 := by omega
  have l1 : t.size ≤ 1048576 := by omega
  have l2 : l.size ≤ 1048576 := by omega
  have l3 : a.size ≤ 1048576 := by omega
  have l5 : c.size ≤ 1048576 := by omega
  have z3 : (tag (⟨#[110, 97, 109, 101]⟩ : ByteArray) (E a)).size ≤ 10000000 := by omega
  have z4 : (tag (⟨#[97, 117, 116, 104, 111, 114]⟩ : ByteArray) (tag (⟨#[110, 97, 109, 101]⟩ : ByteArray) (E a))).size ≤ 1400 := by rw [tag_size]; show 5 + 2 * 6 + _ ≤ 1400; omega
  refine region_lit (by kernel_rfl) (by kernel_rfl) ?_
  repeat (go_big_quiet_step ((first | (go_at_call 14; exact grow_of (impl_lone _ _ _ (by decide) (by assumption))) | (go_at_call 17; exact grow_of (around_grow _ _ _ (by decide) (by assumption))))))
  refine wpQuiet_nil ?_
  rintro W3 ⟨x, rfl⟩
  have b4 := b3.trans ((gw_below x).mono b3.size)
  have K3 := K2.keep (gw_below x)
  generalize gw x = W3 at b4 K3 ⊢
  clear c0 c1 c2 c3 c4 c5 ne b3 K2
  have hH : (tag (⟨#[105, 100]⟩ : ByteArray) (E i) ++ tag (⟨#[116, 105, 116, 108, 101]⟩ : ByteArray) (E t) ++ lk ++ tag (⟨#[97, 117, 116, 104, 111, 114]⟩ : ByteArray) (tag (⟨#[110, 97, 109, 101]⟩ : ByteArray) (E a))).size ≤ 6000 := by
    rw [ByteArray.size_append, ByteArray.size_append, ByteArray.size_append]
    omega
  clear z0 z1 z2 z3 z4
  generalize hhd : tag (⟨#[105, 100]⟩ : ByteArray) (E i) ++ tag (⟨#[116, 105, 116, 108, 101]⟩ : ByteArray) (E t) ++ lk ++ tag (⟨#[97, 117, 116, 104, 111, 114]⟩ : ByteArray) (tag (⟨#[110, 97, 109, 101]⟩ : ByteArray) (E a)) = hd at hH ⊢
  have HHD : Hid (tag (⟨#[105, 100]⟩ : ByteArray) (E i) ++ tag (⟨#[116, 105, 116, 108, 101]⟩ : ByteArray) (E t) ++ lk ++ tag (⟨#[97, 117, 116, 104, 111, 114]⟩ : ByteArray) (tag (⟨#[110, 97, 109, 101]⟩ : ByteArray) (E a)) = hd) := hhd
  clear hhd
  go_wp2_with fail
  have ne := ext_some W3
  have c0 := fun x : Ext W3 => gw_cell x K3.c0
  have c1 := fun x : Ext W3 => gw_cell x K3.c1
  have c2 := fun x : Ext W3 => gw_cell x K3.c2
  have c3 := fun x : Ext W3 => gw_cell x K3.c3
  have c4 := fun x : Ext W3 => gw_cell x K3.c4
  have c5 := fun x : Ext W3 => gw_cell x K3.c5
  simp only at c0 c1 c2 c3 c4 c5
  have l6 : dt.size ≤ 1048576 := by omega
  have z0 : (tag (⟨#[117, 112, 100, 97, 116, 101, 100]⟩ : ByteArray) (E dt)).size ≤ 400 := Nat.le_trans (esc_size _ _) (by show 5 + 2 * 7 + 6 * dt.size ≤ 400; omega)
  have z1 : (tag (⟨#[99, 111, 110, 116, 101, 110, 116]⟩ : ByteArray) (E c)).size ≤ 6100 := Nat.le_trans (esc_size _ _) (by show 5 + 2 * 7 + 6 * c.size ≤ 6100; omega)
  have z2 : (hd ++ tag (⟨#[117, 112, 100, 97, 116, 101, 100]⟩ : ByteArray) (E dt) ++ tag (⟨#[99, 111, 110, 116, 101, 110, 116]⟩ : ByteArray) (E c)).size ≤ 10000000 := by
    rw [ByteArray.size_append, ByteArray.size_append]
    omega
  refine region_lit (by kernel_rfl) (by kernel_rfl) ?_
  repeat (go_big_quiet_step ((first | (go_at_call 14; exact grow_of (impl_lone _ _ _ (by decide) (by assumption))) | (go_at_call 17; exact grow_of (around_grow _ _ _ (by decide) (by assumption))))))
  refine wpQuiet_nil ?_
  rintro W4 ⟨x, rfl⟩
  have b5 := b4.trans ((gw_below x).mono b4.size)
  generalize gw x = W4 at b5 ⊢
  clear c0 c1 c2 c3 c4 c5 ne b4 K3
  go_wp2
  go_ret
  exact ⟨by rw [HDT.out, HEL.out, HLK.out, HHD.out]; rfl, b5⟩

theorem atom_same (i t l a c : ByteArray) (d : Int) : (⟨#[60, 101, 110, 116, 114, 121, 62]⟩ : ByteArray) ++ tag (⟨#[105, 100]⟩ : ByteArray) (E i) ++ tag (⟨#[116, 105, 116, 108, 101]⟩ : ByteArray) (E t) ++ (⟨#[60, 108, 105, 110, 107, 32, 104, 114, 101, 102, 61, 34]⟩ : ByteArray) ++ E l ++ (⟨#[34, 47, 62, 60, 97, 117, 116, 104, 111, 114, 62]⟩ : ByteArray) ++ tag (⟨#[110, 97, 109, 101]⟩ : ByteArray) (E a) ++ (⟨#[60, 47, 97, 117, 116, 104, 111, 114, 62]⟩ : ByteArray) ++ tag (⟨#[117, 112, 100, 97, 116, 101, 100]⟩ : ByteArray) (E (D39 d)) ++ tag (⟨#[99, 111, 110, 116, 101, 110, 116]⟩ : ByteArray) (E c) ++ (⟨#[60, 47, 101, 110, 116, 114, 121, 62]⟩ : ByteArray) = atomT ⟨i, t, l, a, d, c⟩ := by
  apply bytes_eq
  unfold atomT atomHead lnk tag
  simp only [data_app, List.append_assoc, List.cons_append, List.nil_append]
set_option maxHeartbeats 4000000 in
set_option maxRecDepth 100000 in
theorem spec_atom (e : En) (w : World) (hs : Short e) :
    Calls Tryd.prog 23 #[EV e] w fun r w' => r = .returned (.string (atomT e)) ∧ Below w.heap.size w w' := by
  obtain ⟨i, t, l, a, d, c⟩ := e
  obtain ⟨s0, s1, s2, s3, s5, s6, s7⟩ := hs
  simp only at s0 s1 s2 s3 s5 s6 s7
  have K := lies_new w 40 ⟨i, t, l, a, d, c⟩
  have bw : Below w.heap.size w (w.alloc (.cells (cl ⟨i, t, l, a, d, c⟩) 40)) := (Below.refl _ _).alloc (Nat.le_refl _) _
  have HD : Hid (∀ w, Calls Tryd.prog 36 #[.int .i64 d] w fun e w' => e = .returned (.tuple #[.string (D39 d), .int .i64 0]) ∧ Below w.heap.size w w') := fun w => by
    have := dx.spec_39 d w
    rwa [dx.r39_in (in_yes s6 s7)] at this
  have hD := D39_size d
  have HS := atom_same i t l a c d
  have HE : Hid (∀ w, Calls Tryd.prog 35 #[.string l] w fun e w' => e = .returned (.string (E l)) ∧ Below w.heap.size w w') := fun w => xm.spec_esc l w (by omega)
  have hE := E_size l
  generalize E l = el at hE HE HS
  generalize D39 d = dt at hD HS HD
  have HSH : Hid ((⟨#[60, 101, 110, 116, 114, 121, 62]⟩ : ByteArray) ++ tag (⟨#[105, 100]⟩ : ByteArray) (E i) ++ tag (⟨#[116, 105, 116, 108, 101]⟩ : ByteArray) (E t) ++ (⟨#[60, 108, 105, 110, 107, 32, 104, 114, 101, 102, 61, 34]⟩ : ByteArray) ++ el ++ (⟨#[34, 47, 62, 60, 97, 117, 116, 104, 111, 114, 62]⟩ : ByteArray) ++ tag (⟨#[110, 97, 109, 101]⟩ : ByteArray) (E a) ++ (⟨#[60, 47, 97, 117, 116, 104, 111, 114, 62]⟩ : ByteArray) ++ tag (⟨#[117, 112, 100, 97, 116, 101, 100]⟩ : ByteArray) (E dt) ++ tag (⟨#[99, 111, 110, 116, 101, 110, 116]⟩ : ByteArray) (E c) ++ (⟨#[60, 47, 101, 110, 116, 114, 121, 62]⟩ : ByteArray) = atomT ⟨i, t, l, a, d, c⟩) := HS
  clear HS
  unfold EV cl
  unfold cl at K bw
  simp only at K bw ⊢
  go_enter Tryd.func23, Tryd.ntmps23
  go_wp2_with fail
  generalize w.alloc _ = W at K bw ⊢
  refine (HD.out W).mono ?_
  rintro e w1 ⟨rfl, b1⟩
  have K1 := K.keep b1
  have b2 := bw.trans (b1.mono bw.size)
  clear K bw b1 HD
  go_wp2_with fail
  have ne := ext_some w1
  have c0 := fun x : Ext w1 => gw_cell x K1.c0
  have c1 := fun x : Ext w1 => gw_cell x K1.c1
  have c2 := fun x : Ext w1 => gw_cell x K1.c2
  have c3 := fun x : Ext w1 => gw_cell x K1.c3
  have c4 := fun x : Ext w1 => gw_cell x K1.c4
  have c5 := fun x : Ext w1 => gw_cell x K1.c5
  simp only at c0 c1 c2 c3 c4 c5
  have z0 : (tag (⟨#[105, 100]⟩ : ByteArray) (E i)).size ≤ 1209 := Nat.le_trans (esc_size _ _) (by show 5 + 2 * 2 + 6 * (i).size ≤ 1209; omega)
  have z1 : (tag (⟨#[116, 105, 116, 108, 101]⟩ : ByteArray) (E t)).size ≤ 1215 := Nat.le_trans (esc_size _ _) (by show 5 + 2 * 5 + 6 * (t).size ≤ 1215; omega)
  have z2 : (tag (⟨#[110, 97, 109, 101]⟩ : ByteArray) (E a)).size ≤ 1213 := Nat.le_trans (esc_size _ _) (by show 5 + 2 * 4 + 6 * (a).size ≤ 1213; omega)
  have z3 : (tag (⟨#[117, 112, 100, 97, 116, 101, 100]⟩ : ByteArray) (E dt)).size ≤ 379 := Nat.le_trans (esc_size _ _) (by show 5 + 2 * 7 + 6 * (dt).size ≤ 379; omega)
  have z4 : (tag (⟨#[99, 111, 110, 116, 101, 110, 116]⟩ : ByteArray) (E c)).size ≤ 6019 := Nat.le_trans (esc_size _ _) (by show 5 + 2 * 7 + 6 * (c).size ≤ 6019; omega)
  have l0 : i.size ≤ 1048576 := by omega
  have l1 : t.size ≤ 1048576 := by omega
  have l2 : l.size ≤ 1048576 := by omega
  have l3 : a.size ≤ 1048576 := by omega
  have l5 : c.size ≤ 1048576 := by omega
  have l6 : dt.size ≤ 1048576 := by omega
  refine region_lit (by kernel_rfl) (by kernel_rfl) ?_
  repeat (go_big_quiet_step ((first | (go_at_call 22; exact grow_of (spec_tag _ _ _ (by decide) (by assumption))) | (go_at_call 35; exact grow_of (HE.out _)))))
  refine wpQuiet_nil ?_
  rintro W2 ⟨x, rfl⟩
  have b3 := b2.trans ((gw_below x).mono b2.size)
  generalize gw x = W2 at b3 ⊢
  clear c0 c1 c2 c3 c4 c5 ne K1 b2 z0 z1 z2 z3 z4
  go_wp2
  go_ret
  exact ⟨by rw [← HSH.out]; rfl, b3⟩
end Go.Proofs.YtbgoejalbhkmeaaDoor.fx
