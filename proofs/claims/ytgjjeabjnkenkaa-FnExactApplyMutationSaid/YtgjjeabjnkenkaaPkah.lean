/-
  Boxes as rows: copied and compared by the law's own functions.
  Items as rows of pairs of texts: read by the law's own measure, copy and comparison.
-/
import Derived.Test.YtgjjeabjnkenkaaPkaf
import Derived.Test.YtgjjeabjnkenkaaRows
import Derived.Test.YtgjjeabjnkenkaaPkaa
import Derived.WalkKit
import Derived.WalkLawsBesides
import Derived.Below

namespace Go.Proofs.Ytgjjeabjnkenkaa.bx
open Go.ChangeShapes Go.WideShapes Go.ChangeAt Go.RowKit Go.Deep Go.Joins
open st gr
set_option linter.unusedVariables false

theorem infoB : (Try.prog.info? 62).map (fun i => (i.zero, i.size, i.bytes)) = some (some (.agg #[.string ⟨#[]⟩, .int .i64 0, .int .i64 0, .slice none 0 0, .slice none 0 0]), 5, 80) := by kernel_rfl
def put5 (cs : List Value) (o : Nat) (x : Bx) (p : Value × Value) : List Value := ((((cs.set o (.string x.nm)).set (o + 1) (.int .i64 x.vd)).set (o + 2) (.int .i64 x.nx)).set (o + 3) p.1).set (o + 4) p.2
theorem put5_len (cs : List Value) (o : Nat) (x : Bx) (p : Value × Value) : (put5 cs o x p).length = cs.length := by simp [put5]
theorem put5_other {cs : List Value} {o j : Nat} {x : Bx} {p : Value × Value} (h : j < o ∨ o + 4 < j) : (put5 cs o x p)[j]? = cs[j]? := by
  unfold put5
  rw [List.getElem?_set_ne (by omega), List.getElem?_set_ne (by omega), List.getElem?_set_ne (by omega), List.getElem?_set_ne (by omega), List.getElem?_set_ne (by omega)]
def In5 (cs : List Value) (o : Nat) (x : Bx) (p : Value × Value) : Prop := cs[o]? = some (.string x.nm) ∧ cs[o + 1]? = some (.int .i64 x.vd) ∧ cs[o + 2]? = some (.int .i64 x.nx) ∧ cs[o + 3]? = some p.1 ∧ cs[o + 4]? = some p.2
theorem put5_same {cs : List Value} {o : Nat} {x : Bx} {p : Value × Value} (h : o + 4 < cs.length) : In5 (put5 cs o x p) o x p := by
  unfold put5 In5
  refine ⟨?_, ?_, ?_, ?_, ?_⟩
  · rw [List.getElem?_set_ne (by omega), List.getElem?_set_ne (by omega), List.getElem?_set_ne (by omega), List.getElem?_set_ne (by omega), List.getElem?_set_self (by omega)]
  · rw [List.getElem?_set_ne (by omega), List.getElem?_set_ne (by omega), List.getElem?_set_ne (by omega), List.getElem?_set_self (by simp; omega)]
  · rw [List.getElem?_set_ne (by omega), List.getElem?_set_ne (by omega), List.getElem?_set_self (by simp; omega)]
  · rw [List.getElem?_set_ne (by omega), List.getElem?_set_self (by simp; omega)]
  · rw [List.getElem?_set_self (by simp; omega)]
theorem in5_other {cs : List Value} {o q : Nat} {x y : Bx} {p r : Value × Value} (h : In5 cs q y r) (hp : q + 4 < o ∨ o + 4 < q) : In5 (put5 cs o x p) q y r := by
  obtain ⟨h0, h1, h2, h3, h4⟩ := h
  refine ⟨?_, ?_, ?_, ?_, ?_⟩ <;> (rw [put5_other (by omega)]; assumption)
def LayB (xs : List Bx) (vs : Nat → Value × Value) (k : Nat) (cs : List Value) : Prop := ∀ j, j < k → In5 cs (j * 5) (xs.getD j noB) (vs j)
def upd (vs : Nat → Value × Value) (k : Nat) (p : Value × Value) : Nat → Value × Value := fun j => if j = k then p else vs j
theorem layB_step {xs : List Bx} {vs : Nat → Value × Value} {k : Nat} {cs : List Value} (h : LayB xs vs k cs) (hl : k * 5 + 4 < cs.length) {x : Bx} (hx : xs.getD k noB = x) (p : Value × Value) : LayB xs (upd vs k p) (k + 1) (put5 cs (k * 5) x p) := by
  intro j hj
  by_cases e : j = k
  · subst e
    rw [hx]
    simp only [upd, if_true]
    exact put5_same hl
  · simp only [upd, if_neg e]
    exact in5_other (h j (by omega)) (by omega)
/-- The k copies that are made, in blocks behind B. -/
def Made (w : World) (B : Nat) (xs : List Bx) (vs : Nat → Value × Value) (k : Nat) : Prop :=
  ∀ j, j < k → ∃ g g', vs j = (.slice (some ⟨g, 0, none⟩) (xs.getD j noB).ms.length (xs.getD j noB).ms.length, .slice (some ⟨g', 0, none⟩) (xs.getD j noB).ks.length (xs.getD j noB).ks.length) ∧ B < g ∧ B < g' ∧ RowsAt w (vs j).1 (vs j).2 (xs.getD j noB).ms (xs.getD j noB).ks
theorem made_below {w w' : World} {B : Nat} {xs : List Bx} {vs : Nat → Value × Value} {k : Nat} (h : Made w B xs vs k) (hb : Below w.heap.size w w') : Made w' B xs vs k := fun j hj => by
  obtain ⟨g, g', e, h1, h2, h3⟩ := h j hj
  exact ⟨g, g', e, h1, h2, rows_below h3 hb⟩
theorem rows_set {w w' : World} {B g g' n m c d : Nat} {ms : List St} {ks : List ByteArray} (h : RowsAt w (.slice (some ⟨g, 0, none⟩) n c) (.slice (some ⟨g', 0, none⟩) m d) ms ks) (hg : B < g) (hg' : B < g') (hw : ∀ q, q ≠ B → w'.heap[q]? = w.heap[q]?) (hs : w'.heap.size = w.heap.size) : RowsAt w' (.slice (some ⟨g, 0, none⟩) n c) (.slice (some ⟨g', 0, none⟩) m d) ms ks :=
  ⟨mails_other h.1 (hw g (by omega)) (fun h => by rw [hs]; exact h), texts_other h.2 (hw g' (by omega)) (fun h => by rw [hs]; exact h)⟩
theorem made_set {w w' : World} {B : Nat} {xs : List Bx} {vs : Nat → Value × Value} {k : Nat} (h : Made w B xs vs k) (hw : ∀ q, q ≠ B → w'.heap[q]? = w.heap[q]?) (hs : w'.heap.size = w.heap.size) : Made w' B xs vs k := fun j hj => by
  obtain ⟨g, g', e, h1, h2, h3⟩ := h j hj
  refine ⟨g, g', e, h1, h2, ?_⟩
  rw [e] at h3 ⊢
  exact rows_set h3 h1 h2 hw hs
theorem made_step {w : World} {B : Nat} {xs : List Bx} {vs : Nat → Value × Value} {k : Nat} (h : Made w B xs vs k) {x : Bx} (hx : xs.getD k noB = x) {g g' : Nat} (hg : B < g) (hg' : B < g') (hr : RowsAt w (.slice (some ⟨g, 0, none⟩) x.ms.length x.ms.length) (.slice (some ⟨g', 0, none⟩) x.ks.length x.ks.length) x.ms x.ks) :
    Made w B xs (upd vs k (.slice (some ⟨g, 0, none⟩) x.ms.length x.ms.length, .slice (some ⟨g', 0, none⟩) x.ks.length x.ks.length)) (k + 1) := by
  intro j hj
  by_cases e : j = k
  · subst e
    simp only [upd, if_true]
    rw [hx]
    exact ⟨g, g', rfl, hg, hg', hr⟩
  · simp only [upd, if_neg e]
    exact h j (by omega)
theorem set5_other (w : World) (B : Nat) (o0 o1 o2 o3 o4 : Nat) (a b c d e : Value) (q : Nat) (hq : q ≠ B) : (((((w.setCell ⟨B, o0, none⟩ a).setCell ⟨B, o1, none⟩ b).setCell ⟨B, o2, none⟩ c).setCell ⟨B, o3, none⟩ d).setCell ⟨B, o4, none⟩ e).heap[q]? = w.heap[q]? := by
  rw [heap_setCell_other _ _ _ _ hq, heap_setCell_other _ _ _ _ hq, heap_setCell_other _ _ _ _ hq, heap_setCell_other _ _ _ _ hq, heap_setCell_other _ _ _ _ hq]
theorem set5_size (w : World) (B : Nat) (o0 o1 o2 o3 o4 : Nat) (a b c d e : Value) : (((((w.setCell ⟨B, o0, none⟩ a).setCell ⟨B, o1, none⟩ b).setCell ⟨B, o2, none⟩ c).setCell ⟨B, o3, none⟩ d).setCell ⟨B, o4, none⟩ e).heap.size = w.heap.size := by simp

set_option maxHeartbeats 4000000 in
set_option maxRecDepth 100000 in
theorem toBoxS_any (v : Value) (xs : List Bx) (vs : Nat → Value × Value) (w : World) (h : BoxesAt w v xs vs) (hs : Smalls xs) :
    Calls Try.prog 10 #[v] w fun e w' => e = .returned (.slice (some ⟨w.heap.size, 0, none⟩) xs.length xs.length) ∧ (∃ vs', BoxesAt w' (.slice (some ⟨w.heap.size, 0, none⟩) xs.length xs.length) xs vs' ∧ ∀ j, j < xs.length → ∀ a n c, (vs' j).2 = .slice a n c → n ≤ c) ∧ Below w.heap.size w w' := by
  have HALL : Hid (BoxesAt w v xs vs) := h
  obtain ⟨⟨a, cap, rfl, hc⟩, _⟩ := h
  obtain ⟨i0, hi, hz0, hz1, hz2⟩ := info_parts infoB
  obtain ⟨n, hn⟩ : ∃ n, n = xs.length := ⟨_, rfl⟩
  have HN : Hid (n = xs.length) := hn
  have HH : Hid (xs = [] ∨ ∃ b off, a = some ⟨b, off, none⟩ ∧ b < w.heap.size ∧ ∀ j, j < xs.length → At5 w b (off + j * 5) (xs.getD j noB) (vs j)) := hc
  have HS : Hid (Smalls xs) := hs
  have hl : n ≤ 1048576 := by rw [hn]; exact hs.1
  rw [← hn] at HALL ⊢
  clear hc hs hn
  go_enter Try.func10, Try.ntmps10
  go_wp2_with (at_make; refine wpList_make_full _ rfl _ _ 28 rfl w.heap.size 62 i0 _ 5 Try.underlying28 hi hz0 hz1 _ _ _ _ n rfl rfl rfl rfl (by rw [hz2]; omega) (by unfold maxLen; omega) (Nat.le_refl _) ?_; intro w1 hown1 hg1)
  have hb1 : Below w.heap.size w w1 := (Below.refl _ _).grown hg1 (Nat.le_refl _) (fun k hk => by cases hk)
  have hgl1 : w.heap.size < w1.heap.size := by
    rcases hown1.2 with ⟨hv, _⟩ | ⟨g', cap', cur, hv, _, hb', _⟩
    · cases hv
    · cases hv
      exact (Array.getElem?_eq_some_iff.1 hb').1
  clear hg1
  go_loopw [4] (fun i wr => ∃ (k : Nat) (cs : List Value) (vs' : Nat → Value × Value), k ≤ n ∧ i = .int .i64 k ∧ cs.length = n * 5 ∧ LayB xs vs' k cs ∧ Made wr w.heap.size xs vs' k ∧ wr.ownsRow w.heap.size 62 5 (.slice (some ⟨w.heap.size, 0, none⟩) n n) n cs ∧ Below w.heap.size w wr ∧ w.heap.size < wr.heap.size) (fun i _ => n - (intOf i).toNat)
  case atStart => exact ⟨0, _, vs, Nat.zero_le _, rfl, hown1.1.symm ▸ rfl, fun j hj => absurd hj (Nat.not_lt_zero _), fun j hj => absurd hj (Nat.not_lt_zero _), hown1, hb1, hgl1⟩
  case round =>
    clear hown1 hb1 hgl1
    obtain ⟨k, cs, vs', hk, rfl, hxl, hm, hmd, hown, hbw, hgl⟩ := hrel
    have HM : Hid (LayB xs vs' k cs) := hm
    have HL : Hid (cs.length = n * 5) := hxl
    have HMD : Hid (Made wr w.heap.size xs vs' k) := hmd
    clear hm hxl hmd
    by_cases hlt : k < n
    · have hka : k < xs.length := by rw [← HN.out]; exact hlt
      rcases HH.out with e | ⟨b, off, rfl, hbl, hcells⟩
      · rw [e] at hka; simp at hka
      have hat := (hcells k hka).keep hbw hbl
      have hrw := rows_more ((boxes_in_below HALL.out hbw (Nat.le_refl _)).2 k hka) hbw.size
      have hsk := HS.out.2 k hka
      clear hcells hka
      generalize hx : xs.getD k noB = x at hat hsk hrw
      have HX : Hid (xs.getD k noB = x) := hx
      generalize vs k = q at hat hrw
      obtain ⟨q1, q2⟩ := q
      obtain ⟨c0, c1, c2, c3, c4⟩ := hat
      simp only at c0 c1 c2 c3 c4 hrw
      clear hx
      have hpl : x.ms.length ≤ 1048576 ∧ x.ks.length ≤ 1048576 := ⟨hsk.2.2.1.1, hsk.2.2.2.1⟩
      have HRW : Hid (RowsAt wr q1 q2 x.ms x.ks) := hrw
      obtain ⟨⟨a2, cap2, rfl, _⟩, ⟨a3, cap3, rfl, _⟩⟩ := hrw
      clear hsk
      go_wp2_with fail
      refine (toBox_far x _ _ wr HRW.out hpl).mono ?_
      rintro e w2 ⟨g, g', rfl, hr2, hb2, hg, hg'⟩
      have HR2 : Hid (RowsAt w2 (.slice (some ⟨g, 0, none⟩) x.ms.length x.ms.length) (.slice (some ⟨g', 0, none⟩) x.ks.length x.ks.length) x.ms x.ks) := hr2
      have HMD2 : Hid (Made w2 w.heap.size xs vs' k) := made_below HMD.out hb2
      have hown2 := ow.own_below hown hb2
      have hbw2 := hbw.trans (hb2.mono hbw.size)
      have hgl2 : w.heap.size < w2.heap.size := Nat.lt_of_lt_of_le hgl hb2.size
      have hgB : w.heap.size < g := by omega
      have hgB' : w.heap.size < g' := by omega
      clear hb2 hbw hown c0 c1 c2 c3 c4 HRW HMD hr2 hg hg'
      have HO : Hid (w2.ownsRow w.heap.size 62 5 (.slice (some ⟨w.heap.size, 0, none⟩) n n) n cs) := hown2
      have q0 := hown2.cellAt (k * 5) (by omega)
      have q1 := hown2.cellAt (k * 5 + 1) (by omega)
      have q2 := hown2.cellAt (k * 5 + 2) (by omega)
      have q3 := hown2.cellAt (k * 5 + 3) (by omega)
      have q4 := hown2.cellAt (k * 5 + 4) (by omega)
      rw [List.getElem?_eq_getElem (by rw [HL.out]; omega)] at q0 q1 q2 q3 q4
      have f0 := hown2.frozenAt (k * 5)
      have f1 := hown2.frozenAt (k * 5 + 1)
      have f2 := hown2.frozenAt (k * 5 + 2)
      have f3 := hown2.frozenAt (k * 5 + 3)
      have f4 := hown2.frozenAt (k * 5 + 4)
      clear hown2
      generalize cs[k * 5]'(by rw [HL.out]; omega) = u0 at q0
      generalize cs[k * 5 + 1]'(by rw [HL.out]; omega) = u1 at q1
      generalize cs[k * 5 + 2]'(by rw [HL.out]; omega) = u2 at q2
      generalize cs[k * 5 + 3]'(by rw [HL.out]; omega) = u3 at q3
      generalize cs[k * 5 + 4]'(by rw [HL.out]; omega) = u4 at q4
      have hlt' : (k : Int) < (n : Int) := by omega
      unfold BV
      go_wp2
      go_roundw
      case rel =>
        refine ⟨k + 1, put5 cs (k * 5) x (.slice (some ⟨g, 0, none⟩) x.ms.length x.ms.length, .slice (some ⟨g', 0, none⟩) x.ks.length x.ks.length), upd vs' k (.slice (some ⟨g, 0, none⟩) x.ms.length x.ms.length, .slice (some ⟨g', 0, none⟩) x.ks.length x.ks.length), by omega, by go_num, by rw [put5_len]; exact HL.out, layB_step HM.out (by rw [HL.out]; omega) HX.out _, ?_, (((((HO.out.stored _ _).1.stored _ _).1.stored _ _).1.stored _ _).1.stored _ _).1, ((((hbw2.setCell (Nat.le_refl _) _).setCell (Nat.le_refl _) _).setCell (Nat.le_refl _) _).setCell (Nat.le_refl _) _).setCell (Nat.le_refl _) _, by rw [set5_size]; exact hgl2⟩
        exact made_set (made_step HMD2.out HX.out hgB hgB' HR2.out) (fun q hq => set5_other _ _ _ _ _ _ _ _ _ _ _ _ _ hq) (set5_size _ _ _ _ _ _ _ _ _ _ _ _)
      case measure => simp [intOf]; omega
    · have hkn : k = n := by omega
      subst hkn
      have HQ : Hid (∃ vs', BoxesAt wr (.slice (some ⟨w.heap.size, 0, none⟩) k k) xs vs' ∧ ∀ j, j < k → ∀ a n c, (vs' j).2 = .slice a n c → n ≤ c) := by
        refine ⟨vs', ⟨⟨_, k, by rw [← HN.out], .inr ⟨w.heap.size, 0, rfl, hgl, fun j hj => ?_⟩⟩, fun j hj => ?_⟩, fun j hj a n c e => ?_⟩
        · obtain ⟨h0, h1, h2, h3, h4⟩ := HM.out j (by have := HN.out; omega)
          have hjl : j < k := by have := HN.out; omega
          refine ⟨?_, ?_, ?_, ?_, ?_⟩
          · rw [Nat.zero_add, hown.cellAt _ (by omega), h0]
          · rw [Nat.zero_add, hown.cellAt _ (by omega), h1]
          · rw [Nat.zero_add, hown.cellAt _ (by omega), h2]
          · rw [Nat.zero_add, hown.cellAt _ (by omega), h3]
          · rw [Nat.zero_add, hown.cellAt _ (by omega), h4]
        · obtain ⟨g, g', e, _, _, hr⟩ := HMD.out j (by have := HN.out; omega)
          exact hr
        · obtain ⟨g, g', e', _, _, hr⟩ := HMD.out j hj
          rw [e'] at e
          cases e
          exact Nat.le_refl _
      go_wp2
      go_ret
      exact ⟨rfl, HQ.out, hbw⟩

set_option maxHeartbeats 4000000 in
set_option maxRecDepth 100000 in
theorem eqBoxS_any (v u : Value) (xs : List Bx) (vs us : Nat → Value × Value) (w : World) (h1 : BoxesAt w v xs vs) (h2 : BoxesAt w u xs us) (hs : Smalls xs) :
    Calls Try.prog 13 #[v, u] w fun e w' => e = .returned (.bool true) ∧ Below w.heap.size w w' := by
  have HALL : Hid (BoxesAt w v xs vs ∧ BoxesAt w u xs us) := ⟨h1, h2⟩
  obtain ⟨⟨a, cap, rfl, hc1⟩, _⟩ := h1
  obtain ⟨⟨c, cap2, rfl, hc2⟩, _⟩ := h2
  obtain ⟨n, hn⟩ : ∃ n, n = xs.length := ⟨_, rfl⟩
  have HN : Hid (n = xs.length) := hn
  have H1 : Hid (xs = [] ∨ ∃ b off, a = some ⟨b, off, none⟩ ∧ b < w.heap.size ∧ ∀ j, j < xs.length → At5 w b (off + j * 5) (xs.getD j noB) (vs j)) := hc1
  have H2 : Hid (xs = [] ∨ ∃ b off, c = some ⟨b, off, none⟩ ∧ b < w.heap.size ∧ ∀ j, j < xs.length → At5 w b (off + j * 5) (xs.getD j noB) (us j)) := hc2
  have HS : Hid (Smalls xs) := hs
  have hl : n ≤ 1048576 := by rw [hn]; exact hs.1
  rw [← hn] at HALL ⊢
  clear hc1 hc2 hs hn
  have hnn : ((n : Int) != (n : Int)) = false := by simp
  go_enter Try.func13, Try.ntmps13
  go_wp2
  go_loopw [5] (fun i wr => ∃ k : Nat, k ≤ n ∧ i = .int .i64 k ∧ Below w.heap.size w wr) (fun i _ => n - (intOf i).toNat)
  case atStart => exact ⟨0, Nat.zero_le _, rfl, Below.refl _ _⟩
  case round =>
    obtain ⟨k, hk, rfl, hbw⟩ := hrel
    by_cases hlt : k < n
    · have hka : k < xs.length := by rw [← HN.out]; exact hlt
      rcases H1.out with e | ⟨b, off, rfl, hb1, hcells⟩
      · rw [e] at hka; simp at hka
      rcases H2.out with e | ⟨b2, off2, rfl, hb2, hcells2⟩
      · rw [e] at hka; simp at hka
      have ha := (hcells k hka).keep hbw hb1
      have hb := (hcells2 k hka).keep hbw hb2
      have hr1 := rows_more ((boxes_in_below HALL.out.1 hbw (Nat.le_refl _)).2 k hka) hbw.size
      have hr2 := rows_more ((boxes_in_below HALL.out.2 hbw (Nat.le_refl _)).2 k hka) hbw.size
      have hsk := HS.out.2 k hka
      clear hcells hka hcells2
      generalize xs.getD k noB = x at ha hb hr1 hr2 hsk
      generalize vs k = q at ha hr1
      generalize us k = r at hb hr2
      obtain ⟨q1, q2⟩ := q
      obtain ⟨r1, r2⟩ := r
      obtain ⟨c0, c1, c2, c3, c4⟩ := ha
      obtain ⟨d0, d1, d2, d3, d4⟩ := hb
      simp only at c0 c1 c2 c3 c4 d0 d1 d2 d3 d4 hr1 hr2
      have hpl : x.ms.length ≤ 1048576 ∧ x.ks.length ≤ 1048576 := ⟨hsk.2.2.1.1, hsk.2.2.2.1⟩
      have HE : Hid (∀ y : Ext wr, Calls Try.prog 39 #[.agg #[.string x.nm, .int .i64 x.vd, .int .i64 x.nx, q1, q2], .agg #[.string x.nm, .int .i64 x.vd, .int .i64 x.nx, r1, r2]] (gw y) fun e w' => e = .returned (.bool true) ∧ Below (gw y).heap.size (gw y) w') := fun y => eqBox_any x q1 q2 r1 r2 (gw y) (rows_below hr1 (gw_below y)) (rows_below hr2 (gw_below y)) hpl
      obtain ⟨⟨a2, cap2, rfl, _⟩, ⟨a3, cap3, rfl, _⟩⟩ := hr1
      obtain ⟨⟨a4, cap4, rfl, _⟩, ⟨a5, cap5, rfl, _⟩⟩ := hr2
      clear hsk hpl
      have hlt' : (k : Int) < (n : Int) := by omega
      have hk0 : (0 : Int) ≤ (k : Int) := by omega
      go_wp2_with fail
      have ne := ext_some wr
      have c0 := fun y : Ext wr => gw_cell y c0
      have c1 := fun y : Ext wr => gw_cell y c1
      have c2 := fun y : Ext wr => gw_cell y c2
      have c3 := fun y : Ext wr => gw_cell y c3
      have c4 := fun y : Ext wr => gw_cell y c4
      have d0 := fun y : Ext wr => gw_cell y d0
      have d1 := fun y : Ext wr => gw_cell y d1
      have d2 := fun y : Ext wr => gw_cell y d2
      have d3 := fun y : Ext wr => gw_cell y d3
      have d4 := fun y : Ext wr => gw_cell y d4
      refine region_lit (by kernel_rfl) (by kernel_rfl) ?_
      repeat (go_big_quiet_step ((go_at_call 39; exact grow_of (HE.out _))))
      refine wpQuiet_nil ?_
      rintro W' ⟨y, rfl⟩
      have b3 := hbw.trans ((gw_below y).mono hbw.size)
      generalize gw y = W' at b3 ⊢
      clear c0 c1 c2 c3 c4 d0 d1 d2 d3 d4 hbw HE
      go_wp2
      go_roundw
      case rel => exact ⟨k + 1, by omega, by go_num, b3⟩
      case measure => simp [intOf]; omega
    · go_wp2
      go_ret
      exact ⟨rfl, hbw⟩
end Go.Proofs.Ytgjjeabjnkenkaa.bx

namespace Go.Proofs.Ytgjjeabjnkenkaa.it
open Go.RowKit
set_option linter.unusedVariables false

abbrev Pr := ByteArray × ByteArray
def no : Pr := (⟨#[]⟩, ⟨#[]⟩)
/-- A slice of attributes. -/
def AttrsAt (w : World) (v : Value) (ps : List Pr) : Prop :=
  ∃ a cap, v = .slice a ps.length cap ∧ (ps = [] ∨ ∃ b off, a = some ⟨b, off, none⟩ ∧ ∀ j, j < ps.length → w.cell? ⟨b, off + j * 2, none⟩ = some (.string (ps.getD j no).1) ∧ w.cell? ⟨b, off + j * 2 + 1, none⟩ = some (.string (ps.getD j no).2))
theorem at_below {w w' : World} {v : Value} {ps : List Pr} (h : AttrsAt w v ps) (hb : Below w.heap.size w w') : AttrsAt w' v ps := by
  obtain ⟨a, cap, rfl, h⟩ := h
  refine ⟨a, cap, rfl, ?_⟩
  rcases h with h | ⟨b, off, rfl, h⟩
  · exact .inl h
  · refine .inr ⟨b, off, rfl, fun j hj => ?_⟩
    obtain ⟨h0, h1⟩ := h j hj
    have hl := World.block_lt_of_cell? w _ h0
    exact ⟨(hb.cell (p := ⟨b, off + j * 2, none⟩) hl).trans h0, (hb.cell (p := ⟨b, off + j * 2 + 1, none⟩) hl).trans h1⟩

/-- Attributes of a size that a law takes. -/
def Small (ps : List Pr) : Prop := ps.length ≤ 1048576 ∧ ∀ j, j < ps.length → (ps.getD j no).1.size ≤ 1048576 ∧ (ps.getD j no).2.size ≤ 1048576
def SmallTo (ps : List Pr) (k : Nat) : Prop := ps.length ≤ 1048576 ∧ ∀ j, j < k → (ps.getD j no).1.size ≤ 1048576 ∧ (ps.getD j no).2.size ≤ 1048576

set_option maxHeartbeats 1000000 in
theorem szAttr_any (n v : ByteArray) (left : Int) (w : World) (h0 : 0 ≤ left) (h1 : left ≤ 1048576) (hn : n.size ≤ maxLen) (hv : v.size ≤ maxLen) :
    Calls Try.prog 60 #[.agg #[.string n, .string v], .int .i64 left] w fun e w' => (∃ z : Int, e = .returned (.int .i64 z) ∧ z ≤ left ∧ -1 ≤ z ∧ (0 ≤ z → n.size ≤ 1048576 ∧ v.size ≤ 1048576)) ∧ Below w.heap.size w w' := by
  unfold maxLen at hn hv
  have hbw : Below w.heap.size w (w.alloc (.cells #[.string n, .string v] 87)) := (Below.refl _ _).alloc (Nat.le_refl _) _
  by_cases g0 : left - (n.size : Int) < 0
  · go_enter Try.func60, Try.ntmps60
    go_wp2
    go_ret
    exact ⟨⟨-1, rfl, by omega, by omega, by omega⟩, hbw⟩
  by_cases g1 : left - (n.size : Int) - (v.size : Int) < 0
  · go_enter Try.func60, Try.ntmps60
    go_wp2
    go_ret
    exact ⟨⟨-1, rfl, by omega, by omega, by omega⟩, hbw⟩
  · go_enter Try.func60, Try.ntmps60
    go_wp2
    go_ret
    exact ⟨⟨_, rfl, by omega, by omega, by omega⟩, hbw⟩

set_option maxHeartbeats 1000000 in
theorem szAttrS_any (v : Value) (ps : List Pr) (left : Int) (w : World) (h : AttrsAt w v ps) (h0 : 0 ≤ left) (h1 : left ≤ 1048576) (hl : ps.length ≤ maxLen) (hs : ∀ j, j < ps.length → (ps.getD j no).1.size ≤ maxLen ∧ (ps.getD j no).2.size ≤ maxLen) :
    Calls Try.prog 30 #[v, .int .i64 left] w fun e w' => (∃ z : Int, e = .returned (.int .i64 z) ∧ z ≤ left ∧ -1 ≤ z ∧ (0 ≤ z → Small ps)) ∧ Below w.heap.size w w' := by
  obtain ⟨a, cap, rfl, h⟩ := h
  obtain ⟨n, hn⟩ : ∃ n, n = ps.length := ⟨_, rfl⟩
  have HN : Hid (n = ps.length) := hn
  have HH : Hid (ps = [] ∨ ∃ b off, a = some ⟨b, off, none⟩ ∧ ∀ j, j < ps.length → w.cell? ⟨b, off + j * 2, none⟩ = some (.string (ps.getD j no).1) ∧ w.cell? ⟨b, off + j * 2 + 1, none⟩ = some (.string (ps.getD j no).2)) := h
  have HS : Hid (∀ j, j < ps.length → (ps.getD j no).1.size ≤ maxLen ∧ (ps.getD j no).2.size ≤ maxLen) := hs
  rw [← hn] at hl ⊢
  clear h hs hn
  unfold maxLen at hl
  by_cases g0 : left - (n : Int) < 0
  · go_enter Try.func30, Try.ntmps30
    go_wp2
    go_ret
    exact ⟨⟨-1, rfl, by omega, by omega, by omega⟩, Below.refl _ _⟩
  go_enter Try.func30, Try.ntmps30
  go_wp2
  go_loopw [1, 5] (fun z i wr => ∃ (k : Nat) (y : Int), k ≤ n ∧ 0 ≤ y ∧ y ≤ left ∧ z = .int .i64 y ∧ i = .int .i64 k ∧ SmallTo ps k ∧ Below w.heap.size w wr) (fun _ i _ => n - (intOf i).toNat)
  case atStart => exact ⟨0, left - (n : Int), Nat.zero_le _, by omega, by omega, rfl, rfl, ⟨by rw [← HN.out]; omega, fun j hj => absurd hj (Nat.not_lt_zero _)⟩, Below.refl _ _⟩
  case round =>
    obtain ⟨k, y, hk, hy0, hy1, rfl, rfl, hsm, hbw⟩ := hrel
    have HSM : Hid (SmallTo ps k) := hsm
    clear hsm
    by_cases hlt : k < n
    · have hka : k < ps.length := by rw [← HN.out]; exact hlt
      rcases HH.out with e | ⟨b, off, rfl, hcells⟩
      · rw [e] at hka; simp at hka
      obtain ⟨v0, v1⟩ := hcells k hka
      obtain ⟨s0, s1⟩ := HS.out k hka
      have hblt : b < w.heap.size := World.block_lt_of_cell? w _ v0
      have c0 := (hbw.cell (p := ⟨b, off + k * 2, none⟩) hblt).trans v0
      have c1 := (hbw.cell (p := ⟨b, off + k * 2 + 1, none⟩) hblt).trans v1
      clear hcells v0 v1 hka
      have HE : Hid (ps.getD k no = ((ps.getD k no).1, (ps.getD k no).2)) := rfl
      generalize hn1 : (ps.getD k no).1 = nm at c0 s0 HE
      generalize hv1 : (ps.getD k no).2 = vl at c1 s1 HE
      have HN1 : Hid ((ps.getD k no).1 = nm) := hn1
      have HV1 : Hid ((ps.getD k no).2 = vl) := hv1
      clear hn1 hv1
      go_wp2_with fail
      refine (szAttr_any nm vl y _ hy0 (by omega) s0 s1).mono ?_
      rintro e w2 ⟨⟨z, rfl, hz0, hz1, hz2⟩, hb2⟩
      have HZ : Hid (0 ≤ z → nm.size ≤ 1048576 ∧ vl.size ≤ 1048576) := hz2
      clear hz2
      by_cases hz : z < 0
      · go_wp2
        go_ret
        exact ⟨⟨-1, rfl, by omega, by omega, by omega⟩, hbw.trans (hb2.mono hbw.size)⟩
      · go_wp2
        go_roundw
        case rel => exact ⟨k + 1, z, by omega, by omega, by omega, rfl, by go_num, ⟨HSM.out.1, fun j hj => by by_cases hjk : j = k; subst hjk; rw [HN1.out, HV1.out]; exact HZ.out (by omega); exact HSM.out.2 j (by omega)⟩, hbw.trans (hb2.mono hbw.size)⟩
        case measure => simp [intOf]; omega
    · go_wp2
      go_ret
      exact ⟨⟨y, rfl, by omega, by omega, fun _ => ⟨HSM.out.1, fun j hj => HSM.out.2 j (by have := HN.out; omega)⟩⟩, hbw⟩
end Go.Proofs.Ytgjjeabjnkenkaa.it
