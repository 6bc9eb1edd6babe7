/-
  Boxes as rows: copied and compared by the law's own functions.
  A book of keys: cleared, filled with a box's keys, counted.
-/
import Derived.Test.YtncnbhekgkemfaaGreatDoorPkag
import Derived.Test.YtncnbhekgkemfaaGreatDoorPkaf
import Derived.Maps.Own
import Derived.Maps.OwnOps
import Derived.Maps.OwnSet
import Derived.Maps.Views

namespace Go.Proofs.YtncnbhekgkemfaaGreatDoor.bx
open Go.ChangeShapes Go.WideShapes Go.ChangeAt Go.RowKit Go.Deep Go.Joins
open st gr
set_option linter.unusedVariables false

theorem infoB : (Tryz.prog.info? 99).map (fun i => (i.zero, i.size, i.bytes)) = some (some (.agg #[.string ⟨#[]⟩, .int .i64 0, .int .i64 0, .slice none 0 0, .slice none 0 0]), 5, 80) := by kernel_rfl
def put5 (cs : List Value) (o : Nat) (x : Bx) (p : Value × Value) : List Value := ((((cs.set o (.string x.nm)).set (o + 1) (.int .i64 x.vd)).set (o + 2) (.int .i64 x.nx)).set (o + 3) p.1).set (o + 4) p.2
theorem put5_len (cs : List Value) (o : Nat) (x : Bx) (p : Value × Value) : (put5 cs o x p).length = cs.length := by simp [put5]
theorem put5_other {cs : List Value} {o j : Nat} {x : Bx} {p : Value × Value} (h : j < o ∨ o + 4 < j) : (put5 cs o x p)[j]? = cs[j]? := by
  unfold put5
  rw [List.getElem?_set_ne (by omega), List.getElem?_set_ne (by omega), List.getElem?_set_ne (by omega), List.getElem?_set_ne (by omega), List.getElem?_set_ne (by omega)]
def In5 (cs : List Value) (o : Nat) (x : Bx) (p : Value × Value) : Prop := cs[o]? = some (.string x.nm) ∧ cs[o + 1]? = some (.int .i64 x.vd) ∧ cs[o + 2]? = some (.int .i64 x.nx) ∧ cs[o + 3]? = some p.1 ∧ cs[o + 4]? = some p.2
theorem put5_same {cs : List Value} {o : Nat} {x : Bx} {p : Value × Value} (h : o + 4 < cs.length) : In5 (put5 cs o x p) o x p := by
  unfold put5 In5
  refine ⟨?_, ?_, ?_, ?_, ?_⟩
  · rw [List.getElem?_set_ne (by omega), List.getElem?_set_ne (by omega), List.getElem?_set_ne (by omega), List.getElem?_set_ne (by omega), List.getElem?_set_self (by omega)]
  · rw [List.getElem?_set_ne (by omega), List.getElem?_set_ne (by omega), List.getElem?_set_ne (by omega), List.getElem?_set_self (by simp; omega)]
  · rw [List.getElem?_set_ne (by omega), List.getElem?_set_ne (by omega), List.getElem?_set_self (by simp; omega)]
  · rw [List.getElem?_set_ne (by omega), List.getElem?_set_self (by simp; omega)]
  · rw [List.getElem?_set_self (by simp; omega)]
theorem in5_other {cs : List Value} {o q : Nat} {x y : Bx} {p r : Value × Value} (h : In5 cs q y r) (hp : q + 4 < o ∨ o + 4 < q) : In5 (put5 cs o x p) q y r := by
  obtain ⟨h0, h1, h2, h3, h4⟩ := h
  refine ⟨?_, ?_, ?_, ?_, ?_⟩ <;> (rw [put5_other (by omega)]; assumption)
def LayB (xs : List Bx) (vs : Nat → Value × Value) (k : Nat) (cs : List Value) : Prop := ∀ j, j < k → In5 cs (j * 5) (xs.getD j noB) (vs j)
def upd (vs : Nat → Value × Value) (k : Nat) (p : Value × Value) : Nat → Value × Value := fun j => if j = k then p else vs j
theorem layB_step {xs : List Bx} {vs : Nat → Value × Value} {k : Nat} {cs : List Value} (h : LayB xs vs k cs) (hl : k * 5 + 4 < cs.length) {x : Bx} (hx : xs.getD k noB = x) (p : Value × Value) : LayB xs (upd vs k p) (k + 1) (put5 cs (k * 5) x p) := by
  intro j hj
  by_cases e : j = k
  · subst e
    rw [hx]
    simp only [upd, if_true]
    exact put5_same hl
  · simp only [upd, if_neg e]
    exact in5_other (h j (by omega)) (by omega)
/-- The k copies that are made, in blocks behind B. -/
def Made (w : World) (B : Nat) (xs : List Bx) (vs : Nat → Value × Value) (k : Nat) : Prop :=
  ∀ j, j < k → ∃ g g', vs j = (.slice (some ⟨g, 0, none⟩) (xs.getD j noB).ms.length (xs.getD j noB).ms.length, .slice (some ⟨g', 0, none⟩) (xs.getD j noB).ks.length (xs.getD j noB).ks.length) ∧ B < g ∧ B < g' ∧ RowsAt w (vs j).1 (vs j).2 (xs.getD j noB).ms (xs.getD j noB).ks
theorem made_below {w w' : World} {B : Nat} {xs : List Bx} {vs : Nat → Value × Value} {k : Nat} (h : Made w B xs vs k) (hb : Below w.heap.size w w') : Made w' B xs vs k := fun j hj => by
  obtain ⟨g, g', e, h1, h2, h3⟩ := h j hj
  exact ⟨g, g', e, h1, h2, rows_below h3 hb⟩
theorem rows_set {w w' : World} {B g g' n m c d : Nat} {ms : List St} {ks : List ByteArray} (h : RowsAt w (.slice (some ⟨g, 0, none⟩) n c) (.slice (some ⟨g', 0, none⟩) m d) ms ks) (hg : B < g) (hg' : B < g') (hw : ∀ q, q ≠ B → w'.heap[q]? = w.heap[q]?) (hs : w'.heap.size = w.heap.size) : RowsAt w' (.slice (some ⟨g, 0, none⟩) n c) (.slice (some ⟨g', 0, none⟩) m d) ms ks :=
  ⟨mails_other h.1 (hw g (by omega)) (fun h => by rw [hs]; exact h), texts_other h.2 (hw g' (by omega)) (fun h => by rw [hs]; exact h)⟩
theorem made_set {w w' : World} {B : Nat} {xs : List Bx} {vs : Nat → Value × Value} {k : Nat} (h : Made w B xs vs k) (hw : ∀ q, q ≠ B → w'.heap[q]? = w.heap[q]?) (hs : w'.heap.size = w.heap.size) : Made w' B xs vs k := fun j hj => by
  obtain ⟨g, g', e, h1, h2, h3⟩ := h j hj
  refine ⟨g, g', e, h1, h2, ?_⟩
  rw [e] at h3 ⊢
  exact rows_set h3 h1 h2 hw hs
theorem made_step {w : World} {B : Nat} {xs : List Bx} {vs : Nat → Value × Value} {k : Nat} (h : Made w B xs vs k) {x : Bx} (hx : xs.getD k noB = x) {g g' : Nat} (hg : B < g) (hg' : B < g') (hr : RowsAt w (.slice (some ⟨g, 0, none⟩) x.ms.length x.ms.length) (.slice (some ⟨g', 0, none⟩) x.ks.length x.ks.length) x.ms x.ks) :
    Made w B xs (upd vs k (.slice (some ⟨g, 0, none⟩) x.ms.length x.ms.length, .slice (some ⟨g', 0, none⟩) x.ks.length x.ks.length)) (k + 1) := by
  intro j hj
  by_cases e : j = k
  · subst e
    simp only [upd, if_true]
    rw [hx]
    exact ⟨g, g', rfl, hg, hg', hr⟩
  · simp only [upd, if_neg e]
    exact h j (by omega)
theorem set5_other (w : World) (B : Nat) (o0 o1 o2 o3 o4 : Nat) (a b c d e : Value) (q : Nat) (hq : q ≠ B) : (((((w.setCell ⟨B, o0, none⟩ a).setCell ⟨B, o1, none⟩ b).setCell ⟨B, o2, none⟩ c).setCell ⟨B, o3, none⟩ d).setCell ⟨B, o4, none⟩ e).heap[q]? = w.heap[q]? := by
  rw [heap_setCell_other _ _ _ _ hq, heap_setCell_other _ _ _ _ hq, heap_setCell_other _ _ _ _ hq, heap_setCell_other _ _ _ _ hq, heap_setCell_other _ _ _ _ hq]
theorem set5_size (w : World) (B : Nat) (o0 o1 o2 o3 o4 : Nat) (a b c d e : Value) : (((((w.setCell ⟨B, o0, none⟩ a).setCell ⟨B, o1, none⟩ b).setCell ⟨B, o2, none⟩ c).setCell ⟨B, o3, none⟩ d).setCell ⟨B, o4, none⟩ e).heap.size = w.heap.size := by simp

set_option maxHeartbeats 4000000 in
set_option maxRecDepth 100000 in
theorem toBoxS_any (v : Value) (xs : List Bx) (vs : Nat → Value × Value) (w : World) (h : BoxesAt w v xs vs) (hs : Smalls xs) :
    Calls Tryz.prog 33 #[v] w fun e w' => e = .returned (.slice (some ⟨w.heap.size, 0, none⟩) xs.length xs.length) ∧ (∃ vs', BoxesAt w' (.slice (some ⟨w.heap.size, 0, none⟩) xs.length xs.length) xs vs' ∧ ∀ j, j < xs.length → ∀ a n c, (vs' j).2 = .slice a n c → n ≤ c) ∧ Below w.heap.size w w' := by
  have HALL : Hid (BoxesAt w v xs vs) := h
  obtain ⟨⟨a, cap, rfl, hc⟩, _⟩ := h
  obtain ⟨i0, hi, hz0, hz1, hz2⟩ := info_parts infoB
  obtain ⟨n, hn⟩ : ∃ n, n = xs.length := ⟨_, rfl⟩
  have HN : Hid (n = xs.length) := hn
  have HH : Hid (xs = [] ∨ ∃ b off, a = some ⟨b, off, none⟩ ∧ b < w.heap.size ∧ ∀ j, j < xs.length → At5 w b (off + j * 5) (xs.getD j noB) (vs j)) := hc
  have HS : Hid (Smalls xs) := hs
  have hl : n ≤ 1048576 := by rw [hn]; exact hs.1
  rw [← hn] at HALL ⊢
  clear hc hs hn
  go_enter Tryz.func33, Tryz.ntmps33
  go_wp2_with (at_make; refine wpList_make_full _ rfl _ _ 33 rfl w.heap.size 99 i0 _ 5 Tryz.underlying33 hi hz0 hz1 _ _ _ _ n rfl rfl rfl rfl (by rw [hz2]; omega) (by unfold maxLen; omega) (Nat.le_refl _) ?_; intro w1 hown1 hg1)
  have hb1 : Below w.heap.size w w1 := (Below.refl _ _).grown hg1 (Nat.le_refl _) (fun k hk => by cases hk)
  have hgl1 : w.heap.size < w1.heap.size := by
    rcases hown1.2 with ⟨hv, _⟩ | ⟨g', cap', cur, hv, _, hb', _⟩
    · cases hv
    · cases hv
      exact (Array.getElem?_eq_some_iff.1 hb').1
  clear hg1
  go_loopw [4] (fun i wr => ∃ (k : Nat) (cs : List Value) (vs' : Nat → Value × Value), k ≤ n ∧ i = .int .i64 k ∧ cs.length = n * 5 ∧ LayB xs vs' k cs ∧ Made wr w.heap.size xs vs' k ∧ wr.ownsRow w.heap.size 99 5 (.slice (some ⟨w.heap.size, 0, none⟩) n n) n cs ∧ Below w.heap.size w wr ∧ w.heap.size < wr.heap.size) (fun i _ => n - (intOf i).toNat)
  case atStart => exact ⟨0, _, vs, Nat.zero_le _, rfl, hown1.1.symm ▸ rfl, fun j hj => absurd hj (Nat.not_lt_zero _), fun j hj => absurd hj (Nat.not_lt_zero _), hown1, hb1, hgl1⟩
  case round =>
    clear hown1 hb1 hgl1
    obtain ⟨k, cs, vs', hk, rfl, hxl, hm, hmd, hown, hbw, hgl⟩ := hrel
    have HM : Hid (LayB xs vs' k cs) := hm
    have HL : Hid (cs.length = n * 5) := hxl
    have HMD : Hid (Made wr w.heap.size xs vs' k) := hmd
    clear hm hxl hmd
    by_cases hlt : k < n
    · have hka : k < xs.length := by rw [← HN.out]; exact hlt
      rcases HH.out with e | ⟨b, off, rfl, hbl, hcells⟩
      · rw [e] at hka; simp at hka
      have hat := (hcells k hka).keep hbw hbl
      have hrw := rows_more ((boxes_in_below HALL.out hbw (Nat.le_refl _)).2 k hka) hbw.size
      have hsk := HS.out.2 k hka
      clear hcells hka
      generalize hx : xs.getD k noB = x at hat hsk hrw
      have HX : Hid (xs.getD k noB = x) := hx
      generalize vs k = q at hat hrw
      obtain ⟨q1, q2⟩ := q
      obtain ⟨c0, c1, c2, c3, c4⟩ := hat
      simp only at c0 c1 c2 c3 c4 hrw
      clear hx
      have hpl : x.ms.length ≤ 1048576 ∧ x.ks.length ≤ 1048576 := ⟨hsk.2.2.1.1, hsk.2.2.2.1⟩
      have HRW : Hid (RowsAt wr q1 q2 x.ms x.ks) := hrw
      obtain ⟨⟨a2, cap2, rfl, _⟩, ⟨a3, cap3, rfl, _⟩⟩ := hrw
      clear hsk
      go_wp2_with fail
      refine (toBox_far x _ _ wr HRW.out hpl).mono ?_
      rintro e w2 ⟨g, g', rfl, hr2, hb2, hg, hg'⟩
      have HR2 : Hid (RowsAt w2 (.slice (some ⟨g, 0, none⟩) x.ms.length x.ms.length) (.slice (some ⟨g', 0, none⟩) x.ks.length x.ks.length) x.ms x.ks) := hr2
      have HMD2 : Hid (Made w2 w.heap.size xs vs' k) := made_below HMD.out hb2
      have hown2 := ow.own_below hown hb2
      have hbw2 := hbw.trans (hb2.mono hbw.size)
      have hgl2 : w.heap.size < w2.heap.size := Nat.lt_of_lt_of_le hgl hb2.size
      have hgB : w.heap.size < g := by omega
      have hgB' : w.heap.size < g' := by omega
      clear hb2 hbw hown c0 c1 c2 c3 c4 HRW HMD hr2 hg hg'
      have HO : Hid (w2.ownsRow w.heap.size 99 5 (.slice (some ⟨w.heap.size, 0, none⟩) n n) n cs) := hown2
      have q0 := hown2.cellAt (k * 5) (by omega)
      have q1 := hown2.cellAt (k * 5 + 1) (by omega)
      have q2 := hown2.cellAt (k * 5 + 2) (by omega)
      have q3 := hown2.cellAt (k * 5 + 3) (by omega)
      have q4 := hown2.cellAt (k * 5 + 4) (by omega)
      rw [List.getElem?_eq_getElem (by rw [HL.out]; omega)] at q0 q1 q2 q3 q4
      have f0 := hown2.frozenAt (k * 5)
      have f1 := hown2.frozenAt (k * 5 + 1)
      have f2 := hown2.frozenAt (k * 5 + 2)
      have f3 := hown2.frozenAt (k * 5 + 3)
      have f4 := hown2.frozenAt (k * 5 + 4)
      clear hown2
      generalize cs[k * 5]'(by rw [HL.out]; omega) = u0 at q0
      generalize cs[k * 5 + 1]'(by rw [HL.out]; omega) = u1 at q1
      generalize cs[k * 5 + 2]'(by rw [HL.out]; omega) = u2 at q2
      generalize cs[k * 5 + 3]'(by rw [HL.out]; omega) = u3 at q3
      generalize cs[k * 5 + 4]'(by rw [HL.out]; omega) = u4 at q4
      have hlt' : (k : Int) < (n : Int) := by omega
      unfold BV
      go_wp2
      go_roundw
      case rel =>
        refine ⟨k + 1, put5 cs (k * 5) x (.slice (some ⟨g, 0, none⟩) x.ms.length x.ms.length, .slice (some ⟨g', 0, none⟩) x.ks.length x.ks.length), upd vs' k (.slice (some ⟨g, 0, none⟩) x.ms.length x.ms.length, .slice (some ⟨g', 0, none⟩) x.ks.length x.ks.length), by omega, by go_num, by rw [put5_len]; exact HL.out, layB_step HM.out (by rw [HL.out]; omega) HX.out _, ?_, (((((HO.out.stored _ _).1.stored _ _).1.stored _ _).1.stored _ _).1.stored _ _).1, ((((hbw2.setCell (Nat.le_refl _) _).setCell (Nat.le_refl _) _).setCell (Nat.le_refl _) _).setCell (Nat.le_refl _) _).setCell (Nat.le_refl _) _, by rw [set5_size]; exact hgl2⟩
        exact made_set (made_step HMD2.out HX.out hgB hgB' HR2.out) (fun q hq => set5_other _ _ _ _ _ _ _ _ _ _ _ _ _ hq) (set5_size _ _ _ _ _ _ _ _ _ _ _ _)
      case measure => simp [intOf]; omega
    · have hkn : k = n := by omega
      subst hkn
      have HQ : Hid (∃ vs', BoxesAt wr (.slice (some ⟨w.heap.size, 0, none⟩) k k) xs vs' ∧ ∀ j, j < k → ∀ a n c, (vs' j).2 = .slice a n c → n ≤ c) := by
        refine ⟨vs', ⟨⟨_, k, by rw [← HN.out], .inr ⟨w.heap.size, 0, rfl, hgl, fun j hj => ?_⟩⟩, fun j hj => ?_⟩, fun j hj a n c e => ?_⟩
        · obtain ⟨h0, h1, h2, h3, h4⟩ := HM.out j (by have := HN.out; omega)
          have hjl : j < k := by have := HN.out; omega
          refine ⟨?_, ?_, ?_, ?_, ?_⟩
          · rw [Nat.zero_add, hown.cellAt _ (by omega), h0]
          · rw [Nat.zero_add, hown.cellAt _ (by omega), h1]
          · rw [Nat.zero_add, hown.cellAt _ (by omega), h2]
          · rw [Nat.zero_add, hown.cellAt _ (by omega), h3]
          · rw [Nat.zero_add, hown.cellAt _ (by omega), h4]
        · obtain ⟨g, g', e, _, _, hr⟩ := HMD.out j (by have := HN.out; omega)
          exact hr
        · obtain ⟨g, g', e', _, _, hr⟩ := HMD.out j hj
          rw [e'] at e
          cases e
          exact Nat.le_refl _
      go_wp2
      go_ret
      exact ⟨rfl, HQ.out, hbw⟩

set_option maxHeartbeats 4000000 in
set_option maxRecDepth 100000 in
theorem eqBoxS_any (v u : Value) (xs : List Bx) (vs us : Nat → Value × Value) (w : World) (h1 : BoxesAt w v xs vs) (h2 : BoxesAt w u xs us) (hs : Smalls xs) :
    Calls Tryz.prog 43 #[v, u] w fun e w' => e = .returned (.bool true) ∧ Below w.heap.size w w' := by
  have HALL : Hid (BoxesAt w v xs vs ∧ BoxesAt w u xs us) := ⟨h1, h2⟩
  obtain ⟨⟨a, cap, rfl, hc1⟩, _⟩ := h1
  obtain ⟨⟨c, cap2, rfl, hc2⟩, _⟩ := h2
  obtain ⟨n, hn⟩ : ∃ n, n = xs.length := ⟨_, rfl⟩
  have HN : Hid (n = xs.length) := hn
  have H1 : Hid (xs = [] ∨ ∃ b off, a = some ⟨b, off, none⟩ ∧ b < w.heap.size ∧ ∀ j, j < xs.length → At5 w b (off + j * 5) (xs.getD j noB) (vs j)) := hc1
  have H2 : Hid (xs = [] ∨ ∃ b off, c = some ⟨b, off, none⟩ ∧ b < w.heap.size ∧ ∀ j, j < xs.length → At5 w b (off + j * 5) (xs.getD j noB) (us j)) := hc2
  have HS : Hid (Smalls xs) := hs
  have hl : n ≤ 1048576 := by rw [hn]; exact hs.1
  rw [← hn] at HALL ⊢
  clear hc1 hc2 hs hn
  have hnn : ((n : Int) != (n : Int)) = false := by simp
  go_enter Tryz.func43, Tryz.ntmps43
  go_wp2
  go_loopw [5] (fun i wr => ∃ k : Nat, k ≤ n ∧ i = .int .i64 k ∧ Below w.heap.size w wr) (fun i _ => n - (intOf i).toNat)
  case atStart => exact ⟨0, Nat.zero_le _, rfl, Below.refl _ _⟩
  case round =>
    obtain ⟨k, hk, rfl, hbw⟩ := hrel
    by_cases hlt : k < n
    · have hka : k < xs.length := by rw [← HN.out]; exact hlt
      rcases H1.out with e | ⟨b, off, rfl, hb1, hcells⟩
      · rw [e] at hka; simp at hka
      rcases H2.out with e | ⟨b2, off2, rfl, hb2, hcells2⟩
      · rw [e] at hka; simp at hka
      have ha := (hcells k hka).keep hbw hb1
      have hb := (hcells2 k hka).keep hbw hb2
      have hr1 := rows_more ((boxes_in_below HALL.out.1 hbw (Nat.le_refl _)).2 k hka) hbw.size
      have hr2 := rows_more ((boxes_in_below HALL.out.2 hbw (Nat.le_refl _)).2 k hka) hbw.size
      have hsk := HS.out.2 k hka
      clear hcells hka hcells2
      generalize xs.getD k noB = x at ha hb hr1 hr2 hsk
      generalize vs k = q at ha hr1
      generalize us k = r at hb hr2
      obtain ⟨q1, q2⟩ := q
      obtain ⟨r1, r2⟩ := r
      obtain ⟨c0, c1, c2, c3, c4⟩ := ha
      obtain ⟨d0, d1, d2, d3, d4⟩ := hb
      simp only at c0 c1 c2 c3 c4 d0 d1 d2 d3 d4 hr1 hr2
      have hpl : x.ms.length ≤ 1048576 ∧ x.ks.length ≤ 1048576 := ⟨hsk.2.2.1.1, hsk.2.2.2.1⟩
      have HE : Hid (∀ y : Ext wr, Calls Tryz.prog 71 #[.agg #[.string x.nm, .int .i64 x.vd, .int .i64 x.nx, q1, q2], .agg #[.string x.nm, .int .i64 x.vd, .int .i64 x.nx, r1, r2]] (gw y) fun e w' => e = .returned (.bool true) ∧ Below (gw y).heap.size (gw y) w') := fun y => eqBox_any x q1 q2 r1 r2 (gw y) (rows_below hr1 (gw_below y)) (rows_below hr2 (gw_below y)) hpl
      obtain ⟨⟨a2, cap2, rfl, _⟩, ⟨a3, cap3, rfl, _⟩⟩ := hr1
      obtain ⟨⟨a4, cap4, rfl, _⟩, ⟨a5, cap5, rfl, _⟩⟩ := hr2
      clear hsk hpl
      have hlt' : (k : Int) < (n : Int) := by omega
      have hk0 : (0 : Int) ≤ (k : Int) := by omega
      go_wp2_with fail
      have ne := ext_some wr
      have c0 := fun y : Ext wr => gw_cell y c0
      have c1 := fun y : Ext wr => gw_cell y c1
      have c2 := fun y : Ext wr => gw_cell y c2
      have c3 := fun y : Ext wr => gw_cell y c3
      have c4 := fun y : Ext wr => gw_cell y c4
      have d0 := fun y : Ext wr => gw_cell y d0
      have d1 := fun y : Ext wr => gw_cell y d1
      have d2 := fun y : Ext wr => gw_cell y d2
      have d3 := fun y : Ext wr => gw_cell y d3
      have d4 := fun y : Ext wr => gw_cell y d4
      refine region_lit (by kernel_rfl) (by kernel_rfl) ?_
      repeat (go_big_quiet_step ((go_at_call 71; exact grow_of (HE.out _))))
      refine wpQuiet_nil ?_
      rintro W' ⟨y, rfl⟩
      have b3 := hbw.trans ((gw_below y).mono hbw.size)
      generalize gw y = W' at b3 ⊢
      clear c0 c1 c2 c3 c4 d0 d1 d2 d3 d4 hbw HE
      go_wp2
      go_roundw
      case rel => exact ⟨k + 1, by omega, by go_num, b3⟩
      case measure => simp [intOf]; omega
    · go_wp2
      go_ret
      exact ⟨rfl, hbw⟩
end Go.Proofs.YtncnbhekgkemfaaGreatDoor.bx

namespace Go.Proofs.YtncnbhekgkemfaaGreatDoor.bk
open Go.RowKit Go.Maps Go.ChangeMaps Go.WideMaps
open ky tx
set_option linter.unusedVariables false

theorem law : Keyed Tryz.prog 9 := string_keyed Tryz.underlying9
abbrev Own (w : World) (B n : Nat) (D : DataW Unit) : Prop := w.ownsMap Tryz.prog 9 (plainElem Tryz.prog 3) B n D
theorem own_keep {w w' : World} {B n k : Nat} {D : DataW Unit} (h : Own w B n D) (hb : Below k w w') (hk : B < k) : Own w' B n D := by
  obtain ⟨es, clock, hb', F, hs, hD⟩ := h
  exact ⟨es, clock, (hb.block B hk).trans hb', F, hs, hD⟩
theorem clear_own {w : World} {B n : Nat} {D : DataW Unit} (h : Own w B n D) (ty : TypeId) :
    ∃ w', (Builtin.clear_ #[159] ty #[.map (some B)]).run Tryz.prog w = .ok (.tuple #[]) w' ∧ Own w' B 0 (.map []) ∧ w.mapTurned w' B := by
  obtain ⟨es, clock, hb, F, hs, rfl⟩ := h
  refine ⟨setBlock w B (.map #[] clock), ?_, ⟨#[], clock, heap_setBlock_same hb _, ⟨by simp, MapKept.stamped_empty clock, by simp⟩, Nat.le_refl _, rfl⟩, ⟨es, clock, #[], clock, hb, rfl⟩⟩
  simp [Builtin.clear_, run_underlying Tryz.underlying159, MapKept.run_getObj_map hb, MapKept.run_setObj_map _ hb, Result.andThen, setBlock]
theorem wpList_clear_own {w : World} {ops : Array Oper} {rest : List Oper} {o : Oper} {a : Act} {Q : Exit → Act → World → Prop}
    (hg : o.guard = none) (m : Operand) (hop : o.op = Op.call { callee := Callee.builtin Builtin.clear, args := #[m], argTypes := #[159] }) (B n : Nat) (D : DataW Unit)
    (hm : a.eval m = .map (some B)) (hown : Own w B n D)
    (hK : ∀ w', Own w' B 0 (.map []) → w.mapTurned w' B → wpList Tryz.prog ops Q rest (a.put o.dst (.tuple #[])) w') :
    wpList Tryz.prog ops Q (o :: rest) a w := by
  refine wpList_plain hg fun K' hK' => ?_
  obtain ⟨w', hrun, r1, r2⟩ := clear_own hown o.type
  unfold Oper.wp
  simp [execOp, hop, resolve, invoke, builtin, hm, hrun, Result.andThen]
  exact hK' _ _ (hK w' r1 r2)

/-- The first k are all different. -/
def Dist (ks : List ByteArray) (k : Nat) : Prop := ∀ i j, i < j → j < k → ks.getD i nt ≠ ks.getD j nt
def dDist (ks : List ByteArray) (k : Nat) : Decidable (Dist ks k) :=
  @decidable_of_iff _ (∀ j, j < k → ∀ i, i < j → (ks.getD i nt).data ≠ (ks.getD j nt).data) ⟨fun h i j hij hj e => h j hj i hij (by rw [e]), fun h j hj i hij e => h i j hij hj (ByteArray.ext e)⟩ inferInstance
def dist (ks : List ByteArray) : Bool := @decide (Dist ks ks.length) (dDist ks ks.length)
def lit (s : ByteArray) : Lit := .string s.data.toList
theorem lit_inj {a b : ByteArray} (h : lit a = lit b) : a = b := by
  unfold lit at h
  injection h with h
  exact WideShapes.bytes_inj h
/-- The book has the first k keys. -/
def Inv (D : DataW Unit) (ks : List ByteArray) (k : Nat) : Prop :=
  (∀ s, Maps.has D (lit s) = true ↔ ∃ j, j < k ∧ ks.getD j nt = s) ∧ Maps.size D ≤ k ∧ (Maps.size D = k ↔ Dist ks k)
theorem inv_start (ks : List ByteArray) : Inv (.map []) ks 0 := by
  refine ⟨fun s => ⟨fun h => by simp [Maps.has] at h, fun ⟨j, h, _⟩ => absurd h (Nat.not_lt_zero _)⟩, by simp [Maps.size], ⟨fun _ i j _ h => absurd h (Nat.not_lt_zero _), fun _ => by simp [Maps.size]⟩⟩
theorem inv_step {D : DataW Unit} {ks : List ByteArray} {k : Nat} (hD : Tidy D) (h : Inv D ks k) {s : ByteArray} (hs : ks.getD k nt = s) (d : DataW Unit) : Inv (D.put (lit s) d) ks (k + 1) := by
  obtain ⟨h1, h2, h3⟩ := h
  have hkl : WideAt.IsKeyLit (lit s) := by unfold lit; simp [WideAt.IsKeyLit]
  have hsz := size_put (k := lit s) hD d
  refine ⟨fun t => ?_, ?_, ?_⟩
  · by_cases e : t = s
    · subst e
      rw [has_put_same hD.isMap hkl]
      simp
      exact ⟨k, by omega, hs⟩
    · rw [has_put_other (fun x => e (lit_inj x)), h1]
      constructor
      · rintro ⟨j, hj, ej⟩
        exact ⟨j, by omega, ej⟩
      · rintro ⟨j, hj, ej⟩
        by_cases ejk : j = k
        · subst ejk
          exact absurd (ej.symm.trans hs) e
        · exact ⟨j, by omega, ej⟩
  · rw [hsz]
    split <;> omega
  · rw [hsz]
    by_cases hh : Maps.has D (lit s) = true
    · rw [if_pos hh]
      obtain ⟨j, hj, ej⟩ := (h1 s).1 hh
      constructor
      · intro x; omega
      · intro x
        exact absurd (ej.trans hs.symm) (x j k hj (by omega))
    · rw [if_neg hh]
      constructor
      · intro x i j hij hj
        by_cases ejk : j = k
        · subst ejk
          intro y
          exact hh ((h1 s).2 ⟨i, hij, y.trans hs⟩)
        · exact h3.1 (by omega) i j hij (by omega)
      · intro x
        have := h3.2 (fun i j hij hj => x i j hij (by omega))
        omega
theorem dist_eq {D : DataW Unit} {ks : List ByteArray} {k : Nat} (hk : k = ks.length) (h : Inv D ks k) : ((Maps.size D : Int) == (k : Int)) = dist ks := by
  subst hk
  unfold dist
  by_cases e : Maps.size D = ks.length
  · rw [ow.dt (h.2.2.1 e)]
    simp [e]
  · rw [ow.df (fun x => e (h.2.2.2 x))]
    simp
    omega

set_option maxHeartbeats 2000000 in
set_option maxRecDepth 100000 in
theorem learn_any (B n0 N : Nat) (D0 : DataW Unit) (v : Value) (ks : List ByteArray) (w : World) (hown : Own w B n0 D0) (h : TextsIn w N v ks) (hN : N ≤ B) (hs : Smalls ks) :
    Calls Tryz.prog 127 #[.map (some B), v] w fun e w' => e = .returned (.bool (dist ks)) ∧ (∃ n D, Own w' B n D ∧ Inv D ks ks.length) ∧ Below B w w' := by
  obtain ⟨a, cap, rfl, h⟩ := h
  obtain ⟨n, hn⟩ : ∃ n, n = ks.length := ⟨_, rfl⟩
  have HN : Hid (n = ks.length) := hn
  have HH : Hid (ks = [] ∨ ∃ b off, a = some ⟨b, off, none⟩ ∧ b < N ∧ ∀ j, j < ks.length → w.cell? ⟨b, off + j, none⟩ = some (.string (ks.getD j nt))) := h
  have HS : Hid (Smalls ks) := hs
  have hl : n ≤ 1048576 := by rw [hn]; exact hs.1
  rw [← hn]
  clear h hs hn
  go_enter Tryz.func127, Tryz.ntmps127
  go_wp2_with (refine wpList_clear_own rfl _ rfl B n0 D0 rfl hown ?_; intro w1 hown1 hturn1)
  have hb1 : Below B w w1 := (Below.refl _ _).grown hturn1.grown (Nat.le_of_lt hown.lt) (fun j hj => by cases hj; exact Nat.le_refl _)
  clear hturn1 hown
  go_loopw [10] (fun i wr => ∃ (k : Nat) (D : DataW Unit), k ≤ n ∧ i = .int .i64 k ∧ Own wr B k D ∧ Inv D ks k ∧ Below B w wr) (fun i _ => n - (intOf i).toNat)
  case atStart => exact ⟨0, _, Nat.zero_le _, rfl, hown1, inv_start ks, hb1⟩
  case round =>
    clear hown1 hb1
    obtain ⟨k, D, hk, rfl, hown, hinv, hbw⟩ := hrel
    have HI : Hid (Inv D ks k) := hinv
    clear hinv
    by_cases hlt : k < n
    · have hka : k < ks.length := by rw [← HN.out]; exact hlt
      rcases HH.out with e | ⟨b, off, rfl, hbN, hcells⟩
      · rw [e] at hka; simp at hka
      have c0 := (hbw.cell (p := ⟨b, off + k, none⟩) (Nat.lt_of_lt_of_le hbN hN)).trans (hcells k hka)
      have hsz := HS.out.2 k hka
      clear hcells hka
      generalize hx : ks.getD k nt = x at c0 hsz
      have HX : Hid (ks.getD k nt = x) := hx
      clear hx
      have hkey : keyOf Tryz.prog 9 (.string x) = some (lit x) := keyOf_string_mk Tryz.underlying9 (by unfold maxLen; omega)
      have HO : Hid (Own wr B k D) := hown
      have htd := hown.tidy law
      have HT : Hid (Tidy D) := htd
      have HWS : Hid (B ≤ wr.heap.size) := Nat.le_of_lt hown.lt
      clear htd hown
      have hlt' : (k : Int) < (n : Int) := by omega
      go_wp2_with (at_mapUpdate; refine wpList_mapUpdate_own _ rfl _ _ _ 159 rfl 9 3 law Tryz.underlying159 _ B k _ rfl HO.out (by unfold maxLen; omega) _ _ _ rfl rfl hkey _ [] (plainElem_int Tryz.underlying3 (WalkArith.wf_i64 (by omega))) ?_; intro w2 hown2 hgrow2)
      have hbw2 : Below B w w2 := hbw.grown hgrow2 HWS.out (fun j hj => by cases hj; exact Nat.le_refl _)
      clear hgrow2 c0
      go_wp2
      go_roundw
      case rel => exact ⟨k + 1, _, by omega, by go_num, hown2, inv_step HT.out HI.out HX.out _, hbw2⟩
      case measure => simp [intOf]; omega
    · have hkn : k = n := by omega
      subst hkn
      have HD : Hid (((Maps.size D : Int) == (k : Int)) = dist ks) := dist_eq HN.out HI.out
      have HF : Hid (∃ n D, Own wr B n D ∧ Inv D ks k) := ⟨k, D, hown, HI.out⟩
      go_wp2_with (at_len; refine wpList_len_own _ rfl _ 159 rfl 9 3 Tryz.underlying159 _ B k D rfl hown ?_)
      go_wp2
      go_ret
      exact ⟨by rw [← HD.out]; first | rfl | (congr 2; rw [Bool.eq_iff_iff]; simp), HF.out, hbw⟩
end Go.Proofs.YtncnbhekgkemfaaGreatDoor.bk
