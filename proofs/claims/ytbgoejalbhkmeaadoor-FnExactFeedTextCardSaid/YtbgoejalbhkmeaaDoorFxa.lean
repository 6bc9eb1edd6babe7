/-
  The text of a feed: elements, an entry's text in both forms; of the program and of the specification.
-/
import Derived.Test.YtbgoejalbhkmeaaDoorXmd
import Derived.Test.YtbgoejalbhkmeaaDoorEnf
import Derived.Test.YtbgoejalbhkmeaaDoorDxf
namespace Go.Proofs.YtbgoejalbhkmeaaDoor.fx
open Go.RowKit
open en gr
set_option linter.unusedVariables false

/-- A text escaped. -/
def E (v : ByteArray) : ByteArray := ⟨(xm.esc v.data.toList).toArray⟩
/-- An element. -/
def tag (nm x : ByteArray) : ByteArray := ⟨#[60]⟩ ++ nm ++ ⟨#[62]⟩ ++ x ++ ⟨#[60, 47]⟩ ++ nm ++ ⟨#[62]⟩
theorem E_size (v : ByteArray) : (E v).size ≤ 6 * v.size := by
  have := xm.esc_len v.data.toList
  rw [← Lib.size_eq] at this
  show (xm.esc v.data.toList).toArray.size ≤ _
  simpa using this
theorem one_size (c : UInt8) : (⟨#[c]⟩ : ByteArray).size = 1 := rfl
theorem two_size (c d : UInt8) : (⟨#[c, d]⟩ : ByteArray).size = 2 := rfl
theorem tag_size (nm x : ByteArray) : (tag nm x).size = 5 + 2 * nm.size + x.size := by
  unfold tag
  simp only [ByteArray.size_append, one_size, two_size]
  omega
theorem esc_size (nm v : ByteArray) : (tag nm (E v)).size ≤ 5 + 2 * nm.size + 6 * v.size := by
  have := E_size v
  rw [tag_size]
  omega
def D82 (n : Int) : ByteArray := ⟨(dx.t82 n).toArray⟩
def D39 (n : Int) : ByteArray := ⟨(dx.t39 n).toArray⟩
theorem wk_all : ∀ a : Fin 7, (dx.wkn a.val).length ≤ 3 := by decide
theorem mt_all : ∀ a : Fin 13, (dx.mtn a.val).length ≤ 3 := by decide
theorem wk_le (a : Nat) : (dx.wkn a).length ≤ 3 := by
  by_cases h : a < 7
  · exact wk_all ⟨a, h⟩
  · have : dx.wkn a = [] := by unfold dx.wkn; rw [List.getD_eq_getElem?_getD, List.getElem?_eq_none (show tb.wks.length ≤ a from Nat.not_lt.1 h)]; rfl
    rw [this]; simp
theorem mt_le (a : Nat) : (dx.mtn a).length ≤ 3 := by
  by_cases h : a < 13
  · exact mt_all ⟨a, h⟩
  · have : dx.mtn a = [] := by unfold dx.mtn; rw [List.getD_eq_getElem?_getD, List.getElem?_eq_none (show tb.mts.length ≤ a from Nat.not_lt.1 h)]; rfl
    rw [this]; simp
theorem D82_size (n : Int) : (D82 n).size ≤ 60 := by
  show (dx.t82 n).toArray.size ≤ 60
  have h1 := wk_le (dx.wkd n)
  have h2 := mt_le (dt.mn n).toNat
  simp only [dx.t82, dx.f82, List.size_toArray, List.length_append, dx.two_len, dx.four_len, dx.clk_len, List.length_cons, List.length_nil]
  omega
theorem D39_size (n : Int) : (D39 n).size ≤ 60 := by
  show (dx.t39 n).toArray.size ≤ 60
  simp only [dx.t39, dx.m39, List.size_toArray, List.length_append, dx.two_len, dx.four_len, dx.clk_len, List.length_cons, List.length_nil]
  omega

set_option maxHeartbeats 1000000 in
theorem impl_around (nm x : ByteArray) (w : World) (hn : nm.size ≤ 100) (hx : x.size ≤ 10000000) :
    Calls Tryd.prog 17 #[.string nm, .string x] w fun e w' => e = .returned (.string (tag nm x)) ∧ w' = w := by
  go_enter Tryd.func17, Tryd.ntmps17
  go_wp2
  go_ret
  exact ⟨rfl, rfl⟩
theorem around_grow (nm x : ByteArray) (w : World) (hn : nm.size ≤ 100) (hx : x.size ≤ 10000000) :
    Calls Tryd.prog 17 #[.string nm, .string x] w fun e w' => e = .returned (.string (tag nm x)) ∧ Below w.heap.size w w' :=
  (impl_around nm x w hn hx).mono fun e w' ⟨he, hw⟩ => ⟨he, hw ▸ Below.refl _ _⟩
set_option maxHeartbeats 1000000 in
theorem impl_lone (nm v : ByteArray) (w : World) (hn : nm.size ≤ 100) (hv : v.size ≤ 1048576) :
    Calls Tryd.prog 14 #[.string nm, .string v] w fun e w' => e = .returned (.string (tag nm (E v))) ∧ Below w.heap.size w w' := by
  have hE := E_size v
  have HE : Hid (∀ w, Calls Tryd.prog 28 #[.string v] w fun e w' => e = .returned (.string (E v)) ∧ Below w.heap.size w w') := fun w => xm.impl_esc v w hv
  generalize E v = x at hE HE ⊢
  go_enter Tryd.func14, Tryd.ntmps14
  go_wp2_with fail
  refine (HE.out _).mono ?_
  rintro e w1 ⟨rfl, hb⟩
  go_wp2_with fail
  refine (impl_around nm x _ hn (by omega)).mono ?_
  rintro e w2 ⟨rfl, rfl⟩
  go_wp2
  go_ret
  exact ⟨rfl, hb⟩
set_option maxHeartbeats 1000000 in
theorem spec_tag (nm v : ByteArray) (w : World) (hn : nm.size ≤ 100) (hv : v.size ≤ 1048576) :
    Calls Tryd.prog 22 #[.string nm, .string v] w fun e w' => e = .returned (.string (tag nm (E v))) ∧ Below w.heap.size w w' := by
  have hE := E_size v
  have HE : Hid (∀ w, Calls Tryd.prog 35 #[.string v] w fun e w' => e = .returned (.string (E v)) ∧ Below w.heap.size w w') := fun w => xm.spec_esc v w hv
  generalize E v = x at hE HE ⊢
  go_enter Tryd.func22, Tryd.ntmps22
  go_wp2_with fail
  refine (HE.out _).mono ?_
  rintro e w1 ⟨rfl, hb⟩
  go_wp2
  go_ret
  exact ⟨rfl, hb⟩

/-- An entry whose texts are short, and whose date is a stamp. -/
def Short (e : En) : Prop := e.i.size ≤ 200 ∧ e.t.size ≤ 200 ∧ e.l.size ≤ 200 ∧ e.a.size ≤ 200 ∧ e.c.size ≤ 1000 ∧ 0 ≤ e.d ∧ e.d ≤ 4102444799
theorem short_of {e : En} (h : eok e = true) : Short e := by
  simp only [eok, Bool.and_eq_true] at h
  obtain ⟨⟨⟨⟨⟨⟨_, h1⟩, h2⟩, h3⟩, h4⟩, h5⟩, h6⟩ := h
  have := of_decide_eq_true h6
  exact ⟨(fld_cases h1).1, (fld_cases h2).1, (fld_cases h3).1, (fld_cases h4).1, (ofx_cases h5).1, this.1, this.2⟩
def rssHead (e : En) : ByteArray := tag (⟨#[103, 117, 105, 100]⟩ : ByteArray) (E e.i) ++ tag (⟨#[116, 105, 116, 108, 101]⟩ : ByteArray) (E e.t) ++ tag (⟨#[108, 105, 110, 107]⟩ : ByteArray) (E e.l) ++ tag (⟨#[97, 117, 116, 104, 111, 114]⟩ : ByteArray) (E e.a)
/-- The text of an item. -/
def rssT (e : En) : ByteArray := tag (⟨#[105, 116, 101, 109]⟩ : ByteArray) (rssHead e ++ tag (⟨#[112, 117, 98, 68, 97, 116, 101]⟩ : ByteArray) (E (D82 e.d)) ++ tag (⟨#[100, 101, 115, 99, 114, 105, 112, 116, 105, 111, 110]⟩ : ByteArray) (E e.c))
def lnk (e : En) : ByteArray := (⟨#[60, 108, 105, 110, 107, 32, 104, 114, 101, 102, 61, 34]⟩ : ByteArray) ++ E e.l ++ (⟨#[34, 47, 62]⟩ : ByteArray)
def atomHead (e : En) : ByteArray := tag (⟨#[105, 100]⟩ : ByteArray) (E e.i) ++ tag (⟨#[116, 105, 116, 108, 101]⟩ : ByteArray) (E e.t) ++ lnk e ++ tag (⟨#[97, 117, 116, 104, 111, 114]⟩ : ByteArray) (tag (⟨#[110, 97, 109, 101]⟩ : ByteArray) (E e.a))
/-- The text of an entry. -/
def atomT (e : En) : ByteArray := tag (⟨#[101, 110, 116, 114, 121]⟩ : ByteArray) (atomHead e ++ tag (⟨#[117, 112, 100, 97, 116, 101, 100]⟩ : ByteArray) (E (D39 e.d)) ++ tag (⟨#[99, 111, 110, 116, 101, 110, 116]⟩ : ByteArray) (E e.c))

theorem in_yes {d : Int} (h0 : 0 ≤ d) (h1 : d ≤ 4102444799) : dw.inB d 0 4102444799 = true := dw.in_yes h0 h1
set_option maxHeartbeats 4000000 in
set_option maxRecDepth 100000 in
theorem impl_rss (e : En) (w : World) (hs : Short e) (hT : tb.TP w) (hTW : tb.TW w) (hTN : tb.TN w) :
    Calls Tryd.prog 16 #[EV e] w fun r w' => r = .returned (.string (rssT e)) ∧ Below w.heap.size w w' := by
  obtain ⟨i, t, l, a, d, c⟩ := e
  obtain ⟨s0, s1, s2, s3, s5, s6, s7⟩ := hs
  simp only at s0 s1 s2 s3 s5 s6 s7
  have K := lies_new w 40 ⟨i, t, l, a, d, c⟩
  have bw : Below w.heap.size w (w.alloc (.cells (cl ⟨i, t, l, a, d, c⟩) 40)) := (Below.refl _ _).alloc (Nat.le_refl _) _
  have HD : Hid (∀ w, tb.TP w → tb.TW w → tb.TN w → Calls Tryd.prog 30 #[.int .i64 d] w fun e w' => e = .returned (.tuple #[.string (D82 d), .int .i64 0]) ∧ Below w.heap.size w w') := fun w h1 h2 h3 => by
    have := dx.impl_82 d w h1 h2 h3
    rwa [dx.r82_in (in_yes s6 s7)] at this
  have HT : Hid (tb.TP (w.alloc (.cells (cl ⟨i, t, l, a, d, c⟩) 40)) ∧ tb.TW (w.alloc (.cells (cl ⟨i, t, l, a, d, c⟩) 40)) ∧ tb.TN (w.alloc (.cells (cl ⟨i, t, l, a, d, c⟩) 40))) := ⟨tb.keep' hT bw, tb.keepS hTW bw, tb.keepS hTN bw⟩
  clear hT hTW hTN
  have hD := D82_size d
  unfold rssT rssHead
  simp only
  unfold EV cl
  unfold cl at K bw HT
  simp only at K bw HT ⊢
  go_enter Tryd.func16, Tryd.ntmps16
  go_wp2_with fail
  generalize w.alloc _ = W at K bw HT ⊢
  refine (HD.out W HT.out.1 HT.out.2.1 HT.out.2.2).mono ?_
  rintro e w1 ⟨rfl, b1⟩
  have K1 := K.keep b1
  have b2 := bw.trans (b1.mono bw.size)
  generalize hdt : D82 d = dt at hD ⊢
  have HDT : Hid (D82 d = dt) := hdt
  clear hdt
  clear K bw HT HD b1
  go_wp2_with fail
  have ne := ext_some w1
  have c0 := fun x : Ext w1 => gw_cell x K1.c0
  have c1 := fun x : Ext w1 => gw_cell x K1.c1
  have c2 := fun x : Ext w1 => gw_cell x K1.c2
  have c3 := fun x : Ext w1 => gw_cell x K1.c3
  have c4 := fun x : Ext w1 => gw_cell x K1.c4
  have c5 := fun x : Ext w1 => gw_cell x K1.c5
  simp only at c0 c1 c2 c3 c4 c5
  have z0 : (tag (⟨#[103, 117, 105, 100]⟩ : ByteArray) (E i)).size ≤ 1213 := Nat.le_trans (esc_size _ _) (by show 5 + 2 * 4 + 6 * (i).size ≤ 1213; omega)
  have z1 : (tag (⟨#[116, 105, 116, 108, 101]⟩ : ByteArray) (E t)).size ≤ 1215 := Nat.le_trans (esc_size _ _) (by show 5 + 2 * 5 + 6 * (t).size ≤ 1215; omega)
  have z2 : (tag (⟨#[108, 105, 110, 107]⟩ : ByteArray) (E l)).size ≤ 1213 := Nat.le_trans (esc_size _ _) (by show 5 + 2 * 4 + 6 * (l).size ≤ 1213; omega)
  have z3 : (tag (⟨#[97, 117, 116, 104, 111, 114]⟩ : ByteArray) (E a)).size ≤ 1217 := Nat.le_trans (esc_size _ _) (by show 5 + 2 * 6 + 6 * (a).size ≤ 1217; omega)
  have l0 : i.size ≤ 1048576 := by omega
  have l1 : t.size ≤ 1048576 := by omega
  have l2 : l.size ≤ 1048576 := by omega
  have l3 : a.size ≤ 1048576 := by omega
  have l5 : c.size ≤ 1048576 := by omega
  refine region_lit (by kernel_rfl) (by kernel_rfl) ?_
  repeat (go_big_quiet_step ((go_at_call 14; exact grow_of (impl_lone _ _ _ (by decide) (by assumption)))))
  refine wpQuiet_nil ?_
  rintro W2 ⟨x, rfl⟩
  have b3 := b2.trans ((gw_below x).mono b2.size)
  have K2 := K1.keep (gw_below x)
  generalize gw x = W2 at b3 K2 ⊢
  clear c0 c1 c2 c3 c4 c5 ne b2 K1
  have hH : (tag (⟨#[103, 117, 105, 100]⟩ : ByteArray) (E i) ++ tag (⟨#[116, 105, 116, 108, 101]⟩ : ByteArray) (E t) ++ tag (⟨#[108, 105, 110, 107]⟩ : ByteArray) (E l) ++ tag (⟨#[97, 117, 116, 104, 111, 114]⟩ : ByteArray) (E a)).size ≤ 6000 := by
    rw [ByteArray.size_append, ByteArray.size_append, ByteArray.size_append]
    omega
  clear z0 z1 z2 z3
  generalize hhd : tag (⟨#[103, 117, 105, 100]⟩ : ByteArray) (E i) ++ tag (⟨#[116, 105, 116, 108, 101]⟩ : ByteArray) (E t) ++ tag (⟨#[108, 105, 110, 107]⟩ : ByteArray) (E l) ++ tag (⟨#[97, 117, 116, 104, 111, 114]⟩ : ByteArray) (E a) = hd at hH ⊢
  have HHD : Hid (tag (⟨#[103, 117, 105, 100]⟩ : ByteArray) (E i) ++ tag (⟨#[116, 105, 116, 108, 101]⟩ : ByteArray) (E t) ++ tag (⟨#[108, 105, 110, 107]⟩ : ByteArray) (E l) ++ tag (⟨#[97, 117, 116, 104, 111, 114]⟩ : ByteArray) (E a) = hd) := hhd
  clear hhd
  go_wp2_with fail
  have ne := ext_some W2
  have c0 := fun x : Ext W2 => gw_cell x K2.c0
  have c1 := fun x : Ext W2 => gw_cell x K2.c1
  have c2 := fun x : Ext W2 => gw_cell x K2.c2
  have c3 := fun x : Ext W2 => gw_cell x K2.c3
  have c4 := fun x : Ext W2 => gw_cell x K2.c4
  have c5 := fun x : Ext W2 => gw_cell x K2.c5
  simp only at c0 c1 c2 c3 c4 c5
  have l6 : dt.size ≤ 1048576 := by omega
  have z0 : (tag (⟨#[112, 117, 98, 68, 97, 116, 101]⟩ : ByteArray) (E dt)).size ≤ 400 := Nat.le_trans (esc_size _ _) (by show 5 + 2 * 7 + 6 * dt.size ≤ 400; omega)
  have z1 : (tag (⟨#[100, 101, 115, 99, 114, 105, 112, 116, 105, 111, 110]⟩ : ByteArray) (E c)).size ≤ 6100 := Nat.le_trans (esc_size _ _) (by show 5 + 2 * 11 + 6 * c.size ≤ 6100; omega)
  have z2 : (hd ++ tag (⟨#[112, 117, 98, 68, 97, 116, 101]⟩ : ByteArray) (E dt) ++ tag (⟨#[100, 101, 115, 99, 114, 105, 112, 116, 105, 111, 110]⟩ : ByteArray) (E c)).size ≤ 10000000 := by
    rw [ByteArray.size_append, ByteArray.size_append]
    omega
  refine region_lit (by kernel_rfl) (by kernel_rfl) ?_
  repeat (go_big_quiet_step ((first | (go_at_call 14; exact grow_of (impl_lone _ _ _ (by decide) (by assumption))) | (go_at_call 17; exact grow_of (around_grow _ _ _ (by decide) (by assumption))))))
  refine wpQuiet_nil ?_
  rintro W3 ⟨x, rfl⟩
  have b4 := b3.trans ((gw_below x).mono b3.size)
  generalize gw x = W3 at b4 ⊢
  clear c0 c1 c2 c3 c4 c5 ne b3 K2
  go_wp2
  go_ret
  exact ⟨by rw [HDT.out, HHD.out]; rfl, b4⟩
end Go.Proofs.YtbgoejalbhkmeaaDoor.fx
