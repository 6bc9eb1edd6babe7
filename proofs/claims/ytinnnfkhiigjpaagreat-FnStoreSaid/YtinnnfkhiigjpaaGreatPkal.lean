/-
  A list of boxes that is one's own memory, all of it; slices.Clone of a list of boxes.
  copiedBoxes: a list of boxes, copied all of it.
  l09Own: a list of boxes, copied all of it.
  withBox: a box more, at the end of a list that is one's own.
-/
import Derived.Test.YtinnnfkhiigjpaaGreatPkak

namespace Go.Proofs.YtinnnfkhiigjpaaGreat.bl
open Go.ChangeShapes Go.WideShapes Go.ChangeAt Go.RowKit Go.Deep Go.Joins
open st gr bx mx
set_option linter.unusedVariables false

/-- The cells of the first n boxes. -/
def bcells (xs : List Bx) (vs : Nat → Value × Value) : Nat → List Value
  | 0 => []
  | n + 1 => bcells xs vs n ++ [.string (xs.getD n noB).nm, .int .i64 (xs.getD n noB).vd, .int .i64 (xs.getD n noB).nx, (vs n).1, (vs n).2]
theorem bcells_len (xs : List Bx) (vs : Nat → Value × Value) : ∀ n, (bcells xs vs n).length = n * 5
  | 0 => rfl
  | n + 1 => by simp [bcells, bcells_len xs vs n]; omega
theorem bcells_at (xs : List Bx) (vs : Nat → Value × Value) : ∀ n j, j < n → In5 (bcells xs vs n) (j * 5) (xs.getD j noB) (vs j)
  | 0, j, hj => absurd hj (Nat.not_lt_zero _)
  | n + 1, j, hj => by
    have hl := bcells_len xs vs n
    unfold In5
    by_cases e : j < n
    · obtain ⟨h0, h1, h2, h3, h4⟩ := bcells_at xs vs n j e
      rw [bcells, List.getElem?_append_left (by omega), List.getElem?_append_left (by omega), List.getElem?_append_left (by omega), List.getElem?_append_left (by omega), List.getElem?_append_left (by omega)]
      exact ⟨h0, h1, h2, h3, h4⟩
    · obtain rfl : j = n := by omega
      rw [bcells, List.getElem?_append_right (by omega), List.getElem?_append_right (by omega), List.getElem?_append_right (by omega), List.getElem?_append_right (by omega), List.getElem?_append_right (by omega), hl]
      rw [show j * 5 - j * 5 = 0 by omega, show j * 5 + 1 - j * 5 = 1 by omega, show j * 5 + 2 - j * 5 = 2 by omega, show j * 5 + 3 - j * 5 = 3 by omega, show j * 5 + 4 - j * 5 = 4 by omega]
      exact ⟨rfl, rfl, rfl, rfl, rfl⟩
theorem bcells_ext {xs : List Bx} {vs : Nat → Value × Value} {n : Nat} {cs : List Value} (hl : cs.length = n * 5) (h : LayB xs vs n cs) : cs = bcells xs vs n := by
  refine List.ext_getElem? fun i => ?_
  by_cases hi : i < n * 5
  · have hq : i / 5 < n := by omega
    obtain ⟨a0, a1, a2, a3, a4⟩ := h (i / 5) hq
    obtain ⟨b0, b1, b2, b3, b4⟩ := bcells_at xs vs n (i / 5) hq
    have hr : i % 5 = 0 ∨ i % 5 = 1 ∨ i % 5 = 2 ∨ i % 5 = 3 ∨ i % 5 = 4 := by omega
    rcases hr with hr | hr | hr | hr | hr
    · rw [show i = i / 5 * 5 by omega, a0, b0]
    · rw [show i = i / 5 * 5 + 1 by omega, a1, b1]
    · rw [show i = i / 5 * 5 + 2 by omega, a2, b2]
    · rw [show i = i / 5 * 5 + 3 by omega, a3, b3]
    · rw [show i = i / 5 * 5 + 4 by omega, a4, b4]
  · rw [List.getElem?_eq_none (by omega), List.getElem?_eq_none (by rw [bcells_len]; omega)]
theorem bcells_one {xs : List Bx} {vs : Nat → Value × Value} : ∀ {n : Nat}, (∀ j, j < n → (vs j).1.oneCell' = true ∧ (vs j).2.oneCell' = true) → ∀ u ∈ bcells xs vs n, u.oneCell' = true
  | 0, _, u, hu => by simp [bcells] at hu
  | n + 1, h, u, hu => by
    rw [bcells, List.mem_append] at hu
    rcases hu with hu | hu
    · exact bcells_one (fun j hj => h j (by omega)) u hu
    · have hn := h n (by omega)
      simp only [List.mem_cons, List.not_mem_nil, or_false] at hu
      rcases hu with rfl | rfl | rfl | rfl | rfl
      · rfl
      · rfl
      · rfl
      · exact hn.1
      · exact hn.2
theorem fine_one {v : Value} (h : Fine v) : v.oneCell' = true := by
  rcases h with rfl | ⟨ad, n, c, rfl⟩
  · rfl
  · rfl
/-- The list's row alone. -/
def OwnB (w : World) (base : Nat) (v : Value) (xs : List Bx) (vs : Nat → Value × Value) : Prop := w.ownsRow base 38 5 v xs.length (bcells xs vs xs.length)
/-- No two rows lie in one block. -/
def Dis (vs : Nat → Value × Value) (n : Nat) : Prop := ∀ i j, i < j → j < n → ((vs i).1.ownBlock = none ∨ (vs i).1.ownBlock ≠ (vs j).1.ownBlock) ∧ ((vs i).2.ownBlock = none ∨ (vs i).2.ownBlock ≠ (vs j).2.ownBlock)
/-- The rows of the first n boxes are owned. -/
def OwnR (w : World) (base : Nat) (xs : List Bx) (vs : Nat → Value × Value) (n : Nat) : Prop := ∀ j, j < n → OwnM w base (vs j).1 (xs.getD j noB).ms ∧ OwnK w base (vs j).2 (xs.getD j noB).ks
/-- A list of boxes that is one's own, all of it. -/
def OwnL (w : World) (base : Nat) (v : Value) (xs : List Bx) (vs : Nat → Value × Value) : Prop := OwnB w base v xs vs ∧ OwnR w base xs vs xs.length ∧ Dis vs xs.length
theorem ownR_below {w w' : World} {base : Nat} {xs : List Bx} {vs : Nat → Value × Value} {n : Nat} (h : OwnR w base xs vs n) (hb : Below w.heap.size w w') : OwnR w' base xs vs n := fun j hj => ⟨ow.own_below (h j hj).1 hb, ow.own_below (h j hj).2 hb⟩
theorem ownL_below {w w' : World} {base : Nat} {v : Value} {xs : List Bx} {vs : Nat → Value × Value} (h : OwnL w base v xs vs) (hb : Below w.heap.size w w') : OwnL w' base v xs vs := ⟨ow.own_below h.1 hb, ownR_below h.2.1 hb, h.2.2⟩
theorem ownL_boxes {w : World} {base : Nat} {v : Value} {xs : List Bx} {vs : Nat → Value × Value} (h : OwnL w base v xs vs) : BoxesAt w v xs vs := by
  refine ⟨?_, fun j hj => ⟨ownM_in (h.2.1 j hj).1 (Nat.le_refl _), ownK_in (h.2.1 j hj).2 (Nat.le_refl _)⟩⟩
  have ho : w.ownsRow base 38 5 v xs.length (bcells xs vs xs.length) := h.1
  rcases ho.2 with ⟨rfl, hz⟩ | ⟨g, cap, cur, rfl, _, hh, _⟩
  · exact ⟨none, 0, by rw [hz], .inl (List.eq_nil_of_length_eq_zero hz)⟩
  · refine ⟨_, cap, rfl, .inr ⟨g, 0, rfl, (Array.getElem?_eq_some_iff.1 hh).1, fun j hj => ?_⟩⟩
    obtain ⟨h0, h1, h2, h3, h4⟩ := bcells_at xs vs xs.length j hj
    refine ⟨?_, ?_, ?_, ?_, ?_⟩
    · rw [Nat.zero_add, ho.cellAt _ (by omega), h0]
    · rw [Nat.zero_add, ho.cellAt _ (by omega), h1]
    · rw [Nat.zero_add, ho.cellAt _ (by omega), h2]
    · rw [Nat.zero_add, ho.cellAt _ (by omega), h3]
    · rw [Nat.zero_add, ho.cellAt _ (by omega), h4]
theorem ownL_fines {w : World} {base : Nat} {v : Value} {xs : List Bx} {vs : Nat → Value × Value} (h : OwnL w base v xs vs) : Fine v ∧ Fines xs vs := ⟨own_fine h.1, fun j hj => ⟨own_fine (h.2.1 j hj).1, own_fine (h.2.1 j hj).2⟩⟩
theorem src_boxes {w : World} {ad : Addr} {n c : Nat} {xs : List Bx} {vs : Nat → Value × Value} (h : BoxesAt w (.slice (some ad) n c) xs vs) : n = xs.length ∧ ∀ j u, (bcells xs vs xs.length)[j]? = some u → w.cell? (ad.add j) = some u := by
  obtain ⟨⟨a, cap, e, h⟩, _⟩ := h
  cases e
  refine ⟨rfl, fun i u hu => ?_⟩
  have hi : i < xs.length * 5 := by
    have := (List.getElem?_eq_some_iff.1 hu).1
    rwa [bcells_len] at this
  rcases h with h | ⟨b, off, e, _, h⟩
  · rw [h] at hi; simp at hi
  · cases e
    rw [show ((⟨b, off, none⟩ : Addr).add i) = ⟨b, off + i, none⟩ from by simp [Addr.add]]
    have hq : i / 5 < xs.length := by omega
    obtain ⟨a0, a1, a2, a3, a4⟩ := h (i / 5) hq
    obtain ⟨b0, b1, b2, b3, b4⟩ := bcells_at xs vs xs.length (i / 5) hq
    have hr : i % 5 = 0 ∨ i % 5 = 1 ∨ i % 5 = 2 ∨ i % 5 = 3 ∨ i % 5 = 4 := by omega
    rcases hr with hr | hr | hr | hr | hr
    · rw [show i = i / 5 * 5 by omega, b0] at hu; cases hu
      rw [show off + i = off + i / 5 * 5 by omega, a0]
    · rw [show i = i / 5 * 5 + 1 by omega, b1] at hu; cases hu
      rw [show off + i = off + i / 5 * 5 + 1 by omega, a1]
    · rw [show i = i / 5 * 5 + 2 by omega, b2] at hu; cases hu
      rw [show off + i = off + i / 5 * 5 + 2 by omega, a2]
    · rw [show i = i / 5 * 5 + 3 by omega, b3] at hu; cases hu
      rw [show off + i = off + i / 5 * 5 + 3 by omega, a3]
    · rw [show i = i / 5 * 5 + 4 by omega, b4] at hu; cases hu
      rw [show off + i = off + i / 5 * 5 + 4 by omega, a4]

set_option maxHeartbeats 2000000 in
set_option maxRecDepth 100000 in
theorem cloneB_any (v : Value) (xs : List Bx) (vs : Nat → Value × Value) (w : World) (h : BoxesAt w v xs vs) (hv : Fine v) (hf : Fines xs vs) (hn : xs.length ≤ 1048576) :
    Calls Tryz.prog 48 #[v] w fun e w' => (∃ v', e = .returned v' ∧ OwnB w' w.heap.size v' xs vs) ∧ Below w.heap.size w w' := by
  obtain ⟨i0, hi, hz0, hz1, hz2⟩ := info_parts infoB
  have hq : ∀ (w : World) (a : Option Addr) (n c n' c' : Nat), (binOp .eql 25 (.slice a n c) (.slice none n' c')).run Tryz.prog w = .ok (.bool a.isNone) w := fun w a n c n' c' => Lib.run_eql_slice_nil w _ _ a n c n' c' Tryz.underlying25
  have h1c : ∀ u ∈ bcells xs vs xs.length, u.oneCell' = true := bcells_one fun j hj => ⟨fine_one (hf j hj).1, fine_one (hf j hj).2⟩
  have H1C : Hid (∀ u ∈ bcells xs vs xs.length, u.oneCell' = true) := h1c
  clear h1c hf
  rcases hv with rfl | ⟨ad, n, c, rfl⟩
  · have hms : xs = [] := by
      obtain ⟨⟨a, cap, e, _⟩, _⟩ := h
      simp only [Value.slice.injEq] at e
      exact List.eq_nil_of_length_eq_zero e.2.1.symm
    have HM : Hid (OwnB w w.heap.size (.slice none 0 0) xs vs) := by rw [hms]; exact World.ownsRow_nil _ _ _ _
    clear h hms hn H1C
    go_enter Tryz.func48, Tryz.ntmps48
    go_wp2
    go_ret
    exact ⟨⟨_, rfl, HM.out⟩, Below.refl _ _⟩
  obtain ⟨rfl, hs⟩ := src_boxes h
  have hb : Below w.heap.size w (w.alloc (.cells #[] 38)) := (Below.refl _ _).alloc (Nat.le_refl _) _
  have HS : Hid (∀ j u, (bcells xs vs xs.length)[j]? = some u → (w.alloc (.cells #[] 38)).cell? (ad.add j) = some u) := fun j u hu => (hb.cell (World.block_lt_of_cell? w _ (hs j u hu))).trans (hs j u hu)
  have HO : Hid ((w.alloc (.cells #[] 38)).ownsRow w.heap.size 38 5 (.slice (some ⟨w.heap.size, 0, none⟩) 0 0) 0 []) := World.ownsRow_made w #[] 0 (Nat.le_refl _) (Nat.zero_le _) rfl
  clear h hs
  go_enter Tryz.func48, Tryz.ntmps48
  go_wp2_with (at_builtin; refine wpList_append_own _ rfl _ _ 25 rfl w.heap.size 38 i0 _ 5 80 Tryz.underlying25 hi hz0 hz1 hz2 rfl (by decide) _ _ _ rfl HO.out ad xs.length c (bcells xs vs xs.length) rfl (bcells_len xs vs _) HS.out H1C.out (by unfold maxLen; omega) (by omega) (by simp) ?_; intro v' w1 hown hgrow hnil)
  have HE : Hid (OwnB w1 w.heap.size v' xs vs ∧ Below w.heap.size w w1) := by
    refine ⟨?_, hb.grown hgrow (by simp) (fun k hk => (HO.out.lt k hk).1)⟩
    unfold OwnB
    simpa using hown
  clear hown hgrow hnil
  go_wp2
  go_ret
  exact ⟨⟨_, rfl, HE.out.1⟩, HE.out.2⟩
end Go.Proofs.YtinnnfkhiigjpaaGreat.bl

namespace Go.Proofs.YtinnnfkhiigjpaaGreat.bl
open Go.ChangeShapes Go.WideShapes Go.ChangeAt Go.RowKit Go.Deep Go.Joins
open st gr bx mx
set_option linter.unusedVariables false

theorem bcells_put {xs : List Bx} {us : Nat → Value × Value} {n k : Nat} (hk : k < n) {x : Bx} (hx : xs.getD k noB = x) (p : Value × Value) : put5 (bcells xs us n) (k * 5) x p = bcells xs (upd us k p) n := by
  refine bcells_ext (by rw [put5_len, bcells_len]) fun j hj => ?_
  by_cases e : j = k
  · subst e
    simp only [upd, if_true]
    rw [hx]
    exact put5_same (by rw [bcells_len]; omega)
  · simp only [upd, if_neg e]
    exact in5_other (bcells_at xs us n j hj) (by omega)
theorem ownR_row {w w' : World} {base b e s n m : Nat} {v : Value} {cs : List Value} {xs : List Bx} {us : Nat → Value × Value} (h : OwnR w base xs us n) (ho : w.ownsRow b e s v m cs) (hg : w.grownBy w' v.ownBlock) (h1 : 46 ≠ e) (h2 : 9 ≠ e) : OwnR w' base xs us n := fun j hj =>
  ⟨row_other (h j hj).1 hg (rowkinds (h j hj).1 ho h1), row_other (h j hj).2 hg (rowkinds (h j hj).2 ho h2)⟩
theorem ownR_step {w : World} {base : Nat} {xs : List Bx} {us : Nat → Value × Value} {k : Nat} {x : Bx} {p q : Value} (h : OwnR w base xs us k) (hx : xs.getD k noB = x) (h1 : OwnM w base p x.ms) (h2 : OwnK w base q x.ks) : OwnR w base xs (upd us k (p, q)) (k + 1) := by
  intro j hj
  by_cases e : j = k
  · subst e
    simp only [upd, if_true]
    rw [hx]
    exact ⟨h1, h2⟩
  · simp only [upd, if_neg e]
    exact h j (by omega)
theorem dis_step {w w2 : World} {base : Nat} {xs : List Bx} {us : Nat → Value × Value} {k : Nat} {x : Bx} {p q : Value} (hd : Dis us k) (h : OwnR w base xs us k) (h1 : OwnM w2 w.heap.size p x.ms) (h2 : OwnK w2 w.heap.size q x.ks) : Dis (upd us k (p, q)) (k + 1) := by
  intro i j hij hj
  have hi : i ≠ k := by omega
  by_cases e : j = k
  · subst e
    simp only [upd, if_true, if_neg hi]
    exact ⟨ow.apart (h i hij).1 h1, ow.apart (h i hij).2 h2⟩
  · simp only [upd, if_neg e, if_neg hi]
    exact hd i j hij (by omega)

set_option maxHeartbeats 4000000 in
set_option maxRecDepth 100000 in
theorem copied_all (v : Value) (xs : List Bx) (vs : Nat → Value × Value) (w : World) (h : BoxesAt w v xs vs) (hv : Fine v) (hf : Fines xs vs) (hs : bx.Smalls xs) :
    Calls Tryz.prog 21 #[v] w fun e w' => (∃ L us, e = .returned L ∧ OwnL w' w.heap.size L xs us) ∧ Below w.heap.size w w' := by
  have HALL : Hid (BoxesIn w w.heap.size v xs vs) := h
  have HV : Hid (Fine v ∧ Fines xs vs) := ⟨hv, hf⟩
  have HS : Hid (bx.Smalls xs) := hs
  have hl := hs.1
  clear h hv hf hs
  go_enter Tryz.func21, Tryz.ntmps21
  go_wp2_with fail
  refine (cloneB_any v xs vs w HALL.out HV.out.1 HV.out.2 HS.out.1).mono ?_
  rintro e w1 ⟨⟨L, rfl, ho⟩, hb1⟩
  obtain ⟨n, hn⟩ : ∃ n, n = xs.length := ⟨_, rfl⟩
  have HN : Hid (n = xs.length) := hn
  rw [← hn] at hl
  unfold OwnB at ho
  rw [← hn] at ho
  have HO1 : Hid (w1.ownsRow w.heap.size 38 5 L n (bcells xs vs n)) := ho
  obtain ⟨La, Lc, rfl, hLa⟩ : ∃ a c, L = .slice a n c ∧ (n = 0 ∨ ∃ g, a = some ⟨g, 0, none⟩) := by
    rcases ho.2 with ⟨rfl, hz⟩ | ⟨g, cap, cur, rfl, _⟩
    · exact ⟨none, 0, by rw [hz], .inl hz⟩
    · exact ⟨_, _, rfl, .inr ⟨g, rfl⟩⟩
  clear ho hn
  go_wp2
  go_loopw [9] (fun i wr => ∃ (k : Nat) (us : Nat → Value × Value), k ≤ n ∧ i = .int .i64 k ∧ wr.ownsRow w.heap.size 38 5 (.slice La n Lc) n (bcells xs us n) ∧ (∀ j, k ≤ j → us j = vs j) ∧ OwnR wr w.heap.size xs us k ∧ Dis us k ∧ Below w.heap.size w wr) (fun i _ => n - (intOf i).toNat)
  case atStart => exact ⟨0, vs, Nat.zero_le _, rfl, HO1.out, fun _ _ => rfl, fun j hj => absurd hj (Nat.not_lt_zero _), fun i j hij hj => absurd hj (Nat.not_lt_zero _), hb1⟩
  case round =>
    clear HO1 hb1
    obtain ⟨k, us, hk, rfl, hown, hrest, hor, hd, hbw⟩ := hrel
    have HR : Hid (OwnR wr w.heap.size xs us k ∧ Dis us k) := ⟨hor, hd⟩
    have HE : Hid (∀ j, k ≤ j → us j = vs j) := hrest
    clear hor hd hrest
    by_cases hlt : k < n
    · have hka : k < xs.length := by rw [← HN.out]; exact hlt
      obtain ⟨g, rfl⟩ : ∃ g, La = some ⟨g, 0, none⟩ := by
        rcases hLa with h | h
        · omega
        · exact h
      have hcl := bcells_len xs us n
      obtain ⟨e0, e1, e2, e3, e4⟩ := bcells_at xs us n k hlt
      rw [HE.out k (Nat.le_refl _)] at e3 e4
      have hrw := (boxes_in_below HALL.out hbw (Nat.le_refl _)).2 k hka
      have hsk := HS.out.2 k hka
      have hfk := HV.out.2 k hka
      generalize hx : xs.getD k noB = x at e0 e1 e2 hrw hsk
      have HX : Hid (xs.getD k noB = x) := hx
      generalize vs k = q at e3 e4 hrw hfk
      obtain ⟨p1, p2⟩ := q
      simp only at e3 e4 hrw hfk
      have HRW : Hid (bx.RowsIn wr w.heap.size p1 p2 x.ms x.ks ∧ Fine p1 ∧ Fine p2 ∧ Small x) := ⟨hrw, hfk.1, hfk.2, hsk⟩
      obtain ⟨⟨a2, cap2, rfl, _⟩, ⟨a3, cap3, rfl, _⟩⟩ := hrw
      have c0 := (hown.cellAt (k * 5) (by omega)).trans e0
      have c1 := (hown.cellAt (k * 5 + 1) (by omega)).trans e1
      have c2 := (hown.cellAt (k * 5 + 2) (by omega)).trans e2
      have c3 := (hown.cellAt (k * 5 + 3) (by omega)).trans e3
      have c4 := (hown.cellAt (k * 5 + 4) (by omega)).trans e4
      have hlt' : (k : Int) < (n : Int) := by omega
      clear hx hsk hfk hka e0 e1 e2 e3 e4
      have hba := bx.new_below wr 38 #[.string x.nm, .int .i64 x.vd, .int .i64 x.nx, .slice a2 x.ms.length cap2, .slice a3 x.ks.length cap3]
      have hownW := ow.own_below hown hba
      have hbwW := hbw.trans (hba.mono hbw.size)
      have HRW : Hid (bx.RowsIn (wr.alloc (.cells #[.string x.nm, .int .i64 x.vd, .int .i64 x.nx, .slice a2 x.ms.length cap2, .slice a3 x.ks.length cap3] 38)) w.heap.size (.slice a2 x.ms.length cap2) (.slice a3 x.ks.length cap3) x.ms x.ks ∧ Fine (.slice a2 x.ms.length cap2) ∧ Fine (.slice a3 x.ks.length cap3) ∧ Small x) := ⟨rows_in_below HRW.out.1 hba hbw.size, HRW.out.2⟩
      have HR : Hid (OwnR (wr.alloc (.cells #[.string x.nm, .int .i64 x.vd, .int .i64 x.nx, .slice a2 x.ms.length cap2, .slice a3 x.ks.length cap3] 38)) w.heap.size xs us k ∧ Dis us k) := ⟨ownR_below HR.out.1 hba, HR.out.2⟩
      have d0 := (lies_new wr 38 x (.slice a2 x.ms.length cap2) (.slice a3 x.ks.length cap3))
      clear hba
      go_wp2_with fail
      clear hown hbw d0 c0 c1 c2 c3 c4
      generalize wr.alloc _ = W at hownW hbwW HRW HR ⊢
      have hown := hownW
      have hbw := hbwW
      clear hownW hbwW
      refine (copiedB_any x _ _ w.heap.size W HRW.out.1 hbw.size HRW.out.2.1 HRW.out.2.2.1 HRW.out.2.2.2).mono ?_
      rintro e w2 ⟨⟨v', u', rfl, hm2, hk2⟩, hb2⟩
      have hown2 := ow.own_below hown hb2
      have hbw2 := hbw.trans (hb2.mono hbw.size)
      have HO2 : Hid (w2.ownsRow w.heap.size 38 5 (.slice (some ⟨g, 0, none⟩) n Lc) n (bcells xs us n)) := hown2
      have HR2 : Hid (OwnR w2 w.heap.size xs (upd us k (v', u')) (k + 1) ∧ Dis (upd us k (v', u')) (k + 1)) := ⟨ownR_step (ownR_below HR.out.1 hb2) HX.out (mu.own_lower hm2 hbw.size) (mu.own_lower hk2 hbw.size), dis_step HR.out.2 HR.out.1 hm2 hk2⟩
      have hfv : Fine v' ∧ Fine u' := ⟨own_fine hm2, own_fine hk2⟩
      obtain ⟨va, vn, vc, rfl⟩ : ∃ a n c, v' = .slice a n c := by
        rcases hfv.1 with rfl | ⟨ad, n, c, rfl⟩
        · exact ⟨_, _, _, rfl⟩
        · exact ⟨_, _, _, rfl⟩
      obtain ⟨ua, un, uc, rfl⟩ : ∃ a n c, u' = .slice a n c := by
        rcases hfv.2 with rfl | ⟨ad, n, c, rfl⟩
        · exact ⟨_, _, _, rfl⟩
        · exact ⟨_, _, _, rfl⟩
      have hgb : w.heap.size ≤ g := (hown2.lt g rfl).1
      clear hb2 hbw hown HRW HR hm2 hk2 hfv
      have HL : Hid ((bcells xs us n).length = n * 5) := hcl
      have q0 := hown2.cellAt (k * 5) (by omega)
      have q1 := hown2.cellAt (k * 5 + 1) (by omega)
      have q2 := hown2.cellAt (k * 5 + 2) (by omega)
      have q3 := hown2.cellAt (k * 5 + 3) (by omega)
      have q4 := hown2.cellAt (k * 5 + 4) (by omega)
      rw [List.getElem?_eq_getElem (by rw [HL.out]; omega)] at q0 q1 q2 q3 q4
      have f0 := hown2.frozenAt (k * 5)
      have f1 := hown2.frozenAt (k * 5 + 1)
      have f2 := hown2.frozenAt (k * 5 + 2)
      have f3 := hown2.frozenAt (k * 5 + 3)
      have f4 := hown2.frozenAt (k * 5 + 4)
      clear hown2 hcl
      generalize (bcells xs us n)[k * 5]'(by rw [HL.out]; omega) = u0 at q0
      generalize (bcells xs us n)[k * 5 + 1]'(by rw [HL.out]; omega) = u1 at q1
      generalize (bcells xs us n)[k * 5 + 2]'(by rw [HL.out]; omega) = u2 at q2
      generalize (bcells xs us n)[k * 5 + 3]'(by rw [HL.out]; omega) = u3 at q3
      generalize (bcells xs us n)[k * 5 + 4]'(by rw [HL.out]; omega) = u4 at q4
      unfold BV
      go_wp2
      go_roundw
      case rel =>
        refine ⟨k + 1, upd us k (.slice va vn vc, .slice ua un uc), by omega, by go_num, ?_, fun j hj => ?_, ?_, HR2.out.2, ((((hbw2.setCell hgb _).setCell hgb _).setCell hgb _).setCell hgb _).setCell hgb _⟩
        · rw [← bcells_put hlt HX.out]
          exact (((((HO2.out.stored _ _).1.stored _ _).1.stored _ _).1.stored _ _).1.stored _ _).1
        · simp only [upd, if_neg (show j ≠ k by omega)]
          exact HE.out j (by omega)
        · exact ownR_row HR2.out.1 HO2.out (ow.grown_trans (ow.grown_trans (ow.grown_trans (ow.grown_trans (mk.grown_set _ _ _ _) (mk.grown_set _ _ _ _)) (mk.grown_set _ _ _ _)) (mk.grown_set _ _ _ _)) (mk.grown_set _ _ _ _)) (by decide) (by decide)
      case measure => simp [intOf]; omega
    · obtain rfl : k = n := by omega
      have HQ : Hid (OwnL wr w.heap.size (.slice La k Lc) xs us) := by
        refine ⟨?_, ?_, ?_⟩
        · unfold OwnB; rw [← HN.out]; exact hown
        · rw [← HN.out]; exact HR.out.1
        · rw [← HN.out]; exact HR.out.2
      go_wp2
      go_ret
      exact ⟨⟨_, _, rfl, HQ.out⟩, hbw⟩
end Go.Proofs.YtinnnfkhiigjpaaGreat.bl

namespace Go.Proofs.YtinnnfkhiigjpaaGreat.bl
open Go.ChangeShapes Go.WideShapes Go.ChangeAt Go.RowKit Go.Deep Go.Joins
open st gr bx mx
set_option linter.unusedVariables false

theorem bcells_congr {xs : List Bx} {us vs : Nat → Value × Value} : ∀ {n : Nat}, (∀ j, j < n → us j = vs j) → bcells xs us n = bcells xs vs n
  | 0, _ => rfl
  | n + 1, h => by rw [bcells, bcells, bcells_congr (fun j hj => h j (by omega)), h n (by omega)]
theorem bcells_snoc {xs : List Bx} {us : Nat → Value × Value} {k : Nat} {x : Bx} (hx : xs.getD k noB = x) (p q : Value) : bcells xs us k ++ [.string x.nm, .int .i64 x.vd, .int .i64 x.nx, p, q] = bcells xs (upd us k (p, q)) (k + 1) := by
  rw [bcells, hx]
  rw [bcells_congr (us := upd us k (p, q)) (vs := us) (fun j hj => by simp only [upd, if_neg (show j ≠ k by omega)])]
  simp only [upd, if_true]
theorem slice_fine {v : Value} (h : Fine v) : ∃ a n c, v = .slice a n c := by
  rcases h with rfl | ⟨ad, n, c, rfl⟩
  · exact ⟨_, _, _, rfl⟩
  · exact ⟨_, _, _, rfl⟩

set_option maxHeartbeats 4000000 in
set_option maxRecDepth 100000 in
theorem spec_own (v : Value) (xs : List Bx) (vs : Nat → Value × Value) (w : World) (h : BoxesAt w v xs vs) (hf : Fines xs vs) (hs : bx.Smalls xs) :
    Calls Tryz.prog 25 #[v] w fun e w' => (∃ L us, e = .returned L ∧ OwnL w' w.heap.size L xs us) ∧ Below w.heap.size w w' := by
  have HALL : Hid (BoxesIn w w.heap.size v xs vs) := h
  obtain ⟨⟨a, cap, rfl, hc⟩, _⟩ := h
  obtain ⟨i0, hi, hz0, hz1, hz2⟩ := info_parts infoB
  obtain ⟨n, hn⟩ : ∃ n, n = xs.length := ⟨_, rfl⟩
  have HN : Hid (n = xs.length) := hn
  have HH : Hid (xs = [] ∨ ∃ b off, a = some ⟨b, off, none⟩ ∧ b < w.heap.size ∧ ∀ j, j < xs.length → At5 w b (off + j * 5) (xs.getD j noB) (vs j)) := hc
  have HS : Hid (bx.Smalls xs) := hs
  have HF : Hid (Fines xs vs) := hf
  have hl : n ≤ 1048576 := by rw [hn]; exact hs.1
  rw [← hn] at HALL ⊢
  have hb0 := bx.new_below w 38 #[]
  have HO0 : Hid ((w.alloc (.cells #[] 38)).ownsRow w.heap.size 38 5 (.slice (some ⟨w.heap.size, 0, none⟩) 0 0) 0 []) := World.ownsRow_made w #[] 0 (Nat.le_refl _) (Nat.zero_le _) rfl
  clear hc hs hn hf
  go_enter Tryz.func25, Tryz.ntmps25
  go_wp2
  go_loopw [3, 4] (fun o i wr => ∃ (k : Nat) (us : Nat → Value × Value), k ≤ n ∧ i = .int .i64 k ∧ wr.ownsRow w.heap.size 38 5 o k (bcells xs us k) ∧ OwnR wr w.heap.size xs us k ∧ Dis us k ∧ Below w.heap.size w wr) (fun _ i _ => n - (intOf i).toNat)
  case atStart => exact ⟨0, vs, Nat.zero_le _, rfl, HO0.out, fun j hj => absurd hj (Nat.not_lt_zero _), fun i j hij hj => absurd hj (Nat.not_lt_zero _), hb0⟩
  case round =>
    clear HO0 hb0
    obtain ⟨k, us, hk, rfl, hown, hor, hd, hbw⟩ := hrel
    have HR : Hid (OwnR wr w.heap.size xs us k ∧ Dis us k) := ⟨hor, hd⟩
    clear hor hd
    by_cases hlt : k < n
    · have hka : k < xs.length := by rw [← HN.out]; exact hlt
      rcases HH.out with e | ⟨b, off, rfl, hbl, hcells⟩
      · rw [e] at hka; simp at hka
      have hat := (hcells k hka).keep hbw hbl
      have hrw := (boxes_in_below HALL.out hbw (Nat.le_refl _)).2 k hka
      have hsk := HS.out.2 k hka
      have hfk := HF.out k hka
      clear hcells hka
      generalize hx : xs.getD k noB = x at hat hrw hsk
      have HX : Hid (xs.getD k noB = x) := hx
      generalize vs k = q at hat hrw hfk
      obtain ⟨p1, p2⟩ := q
      obtain ⟨c0, c1, c2, c3, c4⟩ := hat
      simp only at c0 c1 c2 c3 c4 hrw hfk
      have HRW : Hid (bx.RowsIn wr w.heap.size p1 p2 x.ms x.ks ∧ Fine p1 ∧ Fine p2 ∧ x.ms.length ≤ 1048576 ∧ x.ks.length ≤ 1048576) := ⟨hrw, hfk.1, hfk.2, hsk.2.2.1.1, hsk.2.2.2.1⟩
      obtain ⟨⟨a2, cap2, rfl, _⟩, ⟨a3, cap3, rfl, _⟩⟩ := hrw
      obtain ⟨oa, on, oc, ho⟩ := slice_fine (own_fine hown)
      subst ho
      have hlt' : (k : Int) < (n : Int) := by omega
      clear hx hsk hfk
      go_wp2_with fail
      refine (l09Box_any x _ _ w.heap.size wr HRW.out.1 hbw.size HRW.out.2.1 HRW.out.2.2.1 HRW.out.2.2.2.1 HRW.out.2.2.2.2).mono ?_
      rintro e w2 ⟨⟨v', u', rfl, hm2, hk2⟩, hb2⟩
      have hown2 := ow.own_below hown hb2
      have hbw2 := hbw.trans (hb2.mono hbw.size)
      have HR2 : Hid (OwnR w2 w.heap.size xs (upd us k (v', u')) (k + 1) ∧ Dis (upd us k (v', u')) (k + 1)) := ⟨ownR_step (ownR_below HR.out.1 hb2) HX.out (mu.own_lower hm2 hbw.size) (mu.own_lower hk2 hbw.size), dis_step HR.out.2 HR.out.1 hm2 hk2⟩
      obtain ⟨va, vn, vc, rfl⟩ := slice_fine (own_fine hm2)
      obtain ⟨ua, un, uc, rfl⟩ := slice_fine (own_fine hk2)
      clear hb2 hbw hown c0 c1 c2 c3 c4 HRW HR hm2 hk2
      have HO2 : Hid ((w2.alloc (.cells #[.string x.nm, .int .i64 x.vd, .int .i64 x.nx, .slice va vn vc, .slice ua un uc] 38)).ownsRow w.heap.size 38 5 (.slice oa on oc) k (bcells xs us k)) := hown2.alloc _
      have HR3 : Hid (OwnR (w2.alloc (.cells #[.string x.nm, .int .i64 x.vd, .int .i64 x.nx, .slice va vn vc, .slice ua un uc] 38)) w.heap.size xs (upd us k (.slice va vn vc, .slice ua un uc)) (k + 1)) := ownR_below HR2.out.1 (bx.new_below _ _ _)
      have HB3 : Hid (Below w.heap.size w (w2.alloc (.cells #[.string x.nm, .int .i64 x.vd, .int .i64 x.nx, .slice va vn vc, .slice ua un uc] 38)) ∧ w.heap.size ≤ (w2.alloc (.cells #[.string x.nm, .int .i64 x.vd, .int .i64 x.nx, .slice va vn vc, .slice ua un uc] 38)).heap.size) := ⟨hbw2.alloc hbw2.size _, (hbw2.alloc hbw2.size _).size⟩
      clear hown2 hbw2
      unfold BV
      go_wp2_with (at_builtin; refine wpList_append_own _ rfl _ _ 25 rfl w.heap.size 38 i0 _ 5 80 Tryz.underlying25 hi hz0 hz1 hz2 rfl (by decide) _ _ _ rfl HO2.out ⟨w2.heap.size, 0, none⟩ 1 1 [.string x.nm, .int .i64 x.vd, .int .i64 x.nx, .slice va vn vc, .slice ua un uc] rfl rfl (ow.cells_new _ [.string x.nm, .int .i64 x.vd, .int .i64 x.nx, .slice va vn vc, .slice ua un uc] _) (by intro u hu; simp at hu; rcases hu with rfl | rfl | rfl | rfl | rfl <;> rfl) (by unfold maxLen; omega) (by omega) HB3.out.2 ?_; intro v3 w3 hown hgrow hnil)
      have HE : Hid (w3.ownsRow w.heap.size 38 5 v3 (k + 1) (bcells xs (upd us k (.slice va vn vc, .slice ua un uc)) (k + 1)) ∧ OwnR w3 w.heap.size xs (upd us k (.slice va vn vc, .slice ua un uc)) (k + 1) ∧ Below w.heap.size w w3) := by
        refine ⟨?_, ownR_row HR3.out HO2.out hgrow (by decide) (by decide), HB3.out.1.grown hgrow HB3.out.2 (fun j hj => (HO2.out.lt j hj).1)⟩
        rw [← bcells_snoc HX.out]
        exact hown
      clear hown hgrow hnil HO2 HR3 HB3
      go_wp2
      go_roundw
      case rel => exact ⟨k + 1, _, by omega, by go_num, HE.out.1, HE.out.2.1, HR2.out.2, HE.out.2.2⟩
      case measure => simp [intOf]; omega
    · obtain rfl : k = n := by omega
      obtain ⟨oa, on, oc, ho⟩ := slice_fine (own_fine hown)
      subst ho
      have HQ : Hid (OwnL wr w.heap.size (.slice oa on oc) xs us) := by
        refine ⟨?_, ?_, ?_⟩
        · unfold OwnB; rw [← HN.out]; exact hown
        · rw [← HN.out]; exact HR.out.1
        · rw [← HN.out]; exact HR.out.2
      go_wp2
      go_ret
      exact ⟨⟨_, _, rfl, HQ.out⟩, hbw⟩
end Go.Proofs.YtinnnfkhiigjpaaGreat.bl

namespace Go.Proofs.YtinnnfkhiigjpaaGreat.bl
open Go.ChangeShapes Go.WideShapes Go.ChangeAt Go.RowKit Go.Deep Go.Joins
open st gr bx mx
set_option linter.unusedVariables false

theorem getD_app {xs : List Bx} {x : Bx} {j : Nat} (h : j < xs.length) : (xs ++ [x]).getD j noB = xs.getD j noB := by
  simp only [List.getD_eq_getElem?_getD]
  rw [List.getElem?_append_left h]
theorem getD_last {xs : List Bx} {x : Bx} : (xs ++ [x]).getD xs.length noB = x := by simp
theorem bcells_app {xs : List Bx} {us : Nat → Value × Value} {x : Bx} : ∀ {n : Nat}, n ≤ xs.length → bcells (xs ++ [x]) us n = bcells xs us n
  | 0, _ => rfl
  | n + 1, h => by rw [bcells, bcells, bcells_app (by omega), getD_app (by omega)]
/-- What a box more makes of a list. -/
def Wb (xs : List Bx) (s : ByteArray) (ys : List Bx) (c : Int) : Prop :=
  ((∃ r : Int, 0 ≤ r ∧ Plc xs s r) ∧ ys = xs ∧ c = 9) ∨ (Plc xs s (-1) ∧ xs.length = 4 ∧ ys = xs ∧ c = 7) ∨ (Plc xs s (-1) ∧ xs.length ≠ 4 ∧ ys = xs ++ [⟨s, (xs.length : Int) + 1, 1, [], []⟩] ∧ c = 0)
theorem wb_one {xs ys ys' : List Bx} {s : ByteArray} {c c' : Int} (h : Wb xs s ys c) (h' : Wb xs s ys' c') : ys = ys' ∧ c = c' := by
  rcases h with ⟨⟨r, hr, hp⟩, rfl, rfl⟩ | ⟨hp, hl, rfl, rfl⟩ | ⟨hp, hl, rfl, rfl⟩
  · rcases h' with ⟨_, rfl, rfl⟩ | ⟨hp', _⟩ | ⟨hp', _⟩
    · exact ⟨rfl, rfl⟩
    · have := plc_one hp hp'; omega
    · have := plc_one hp hp'; omega
  · rcases h' with ⟨⟨r, hr, hp'⟩, _⟩ | ⟨_, _, rfl, rfl⟩ | ⟨_, hl', _⟩
    · have := plc_one hp hp'; omega
    · exact ⟨rfl, rfl⟩
    · exact absurd hl hl'
  · rcases h' with ⟨⟨r, hr, hp'⟩, _⟩ | ⟨_, hl', _⟩ | ⟨_, _, rfl, rfl⟩
    · have := plc_one hp hp'; omega
    · exact absurd hl' hl
    · exact ⟨rfl, rfl⟩
def noV : Value × Value := (.slice none 0 0, .slice none 0 0)
theorem ownR_app {w : World} {base : Nat} {xs : List Bx} {us : Nat → Value × Value} {x : Bx} (hx : x.ms = [] ∧ x.ks = []) (h : OwnR w base xs us xs.length) : OwnR w base (xs ++ [x]) (upd us xs.length noV) (xs.length + 1) := by
  intro j hj
  by_cases e : j = xs.length
  · subst e
    simp only [upd, if_true]
    rw [getD_last, hx.1, hx.2]
    exact ⟨World.ownsRow_nil _ _ _ _, World.ownsRow_nil _ _ _ _⟩
  · simp only [upd, if_neg e]
    rw [getD_app (by omega)]
    exact h j (by omega)
theorem dis_app {us : Nat → Value × Value} {n : Nat} (h : Dis us n) : Dis (upd us n noV) (n + 1) := by
  intro i j hij hj
  by_cases e : j = n
  · subst e
    simp only [upd, if_true, if_neg (show i ≠ j by omega), noV]
    refine ⟨?_, ?_⟩
    · rcases (us i).1.ownBlock with _ | b
      · exact .inl rfl
      · exact .inr (by simp [Value.ownBlock])
    · rcases (us i).2.ownBlock with _ | b
      · exact .inl rfl
      · exact .inr (by simp [Value.ownBlock])
  · simp only [upd, if_neg e, if_neg (show i ≠ n by omega)]
    exact h i j hij (by omega)

set_option maxHeartbeats 4000000 in
set_option maxRecDepth 100000 in
theorem withBox_any (L : Value) (base : Nat) (xs : List Bx) (us : Nat → Value × Value) (s : ByteArray) (w : World) (h : OwnL w base L xs us) (hb : base ≤ w.heap.size) (hn : xs.length ≤ 1048576) (hs : s.size ≤ 1048576) :
    Calls Tryz.prog 46 #[L, .string s] w fun e w' => (∃ L' ys us' c, e = .returned (.tuple #[L', .int .i64 c]) ∧ Wb xs s ys c ∧ OwnL w' base L' ys us') ∧ Below base w w' := by
  have HO : Hid (OwnL w base L xs us) := h
  obtain ⟨i0, hi, hz0, hz1, hz2⟩ := info_parts infoB
  obtain ⟨La, n, Lc, rfl, hln⟩ : ∃ a n c, L = .slice a n c ∧ n = xs.length := by
    rcases h.1.2 with ⟨rfl, hz⟩ | ⟨g, cap, cur, rfl, _⟩
    · exact ⟨_, _, _, rfl, hz.symm⟩
    · exact ⟨_, _, _, rfl, rfl⟩
  have HN : Hid (n = xs.length) := hln
  rw [← hln] at hn
  clear h hln
  go_enter Tryz.func46, Tryz.ntmps46
  go_wp2_with fail
  refine (place_any w.heap.size _ xs us s w (ownL_boxes HO.out) (Nat.le_refl _) (by rw [← HN.out]; exact hn)).mono ?_
  rintro e w1 ⟨⟨r, rfl, hp⟩, hb1⟩
  have HP : Hid (Plc xs s r) := hp
  have HO1 : Hid (OwnL w1 base (.slice La n Lc) xs us) := ownL_below HO.out hb1
  have HB1 : Hid (Below base w w1) := hb1.mono hb
  have hb2 : base ≤ w1.heap.size := Nat.le_trans hb hb1.size
  clear HO hb1 hp
  by_cases hr : 0 ≤ r
  · have HQ : Hid (∃ L' ys us' c, (Ending.returned (.tuple #[.slice La n Lc, .int .i64 9]) = .returned (.tuple #[L', .int .i64 c])) ∧ Wb xs s ys c ∧ OwnL w1 base L' ys us') := ⟨_, xs, us, 9, rfl, .inl ⟨⟨r, hr, HP.out⟩, rfl, rfl⟩, HO1.out⟩
    go_wp2
    go_ret2
    exact ⟨HQ.out, HB1.out⟩
  have hr1 : r = -1 := by
    rcases plc_nat HP.out with h | ⟨k, h, _⟩
    · exact h
    · omega
  subst hr1
  clear hr
  by_cases h4 : n = 4
  · have HQ : Hid (∃ L' ys us' c, (Ending.returned (.tuple #[.slice La n Lc, .int .i64 7]) = .returned (.tuple #[L', .int .i64 c])) ∧ Wb xs s ys c ∧ OwnL w1 base L' ys us') := ⟨_, xs, us, 7, rfl, .inr (.inl ⟨HP.out, by rw [← HN.out]; exact h4, rfl, rfl⟩), HO1.out⟩
    have h4' : ((n : Int) == 4) = true := by rw [h4]; rfl
    clear h4
    go_wp2
    go_ret2
    exact ⟨HQ.out, HB1.out⟩
  have h4' : ((n : Int) == 4) = false := by
    rw [beq_eq_false_iff_ne]; omega
  have H4 : Hid (n ≠ 4) := h4
  clear h4
  go_wp2_with fail
  refine (clone_any s w1 hs).mono ?_
  rintro e w2 ⟨rfl, hb3⟩
  have HO2 : Hid (OwnL (w2.alloc (.cells #[.string s, .int .i64 ((n : Int) + 1), .int .i64 1, .slice none 0 0, .slice none 0 0] 38)) base (.slice La n Lc) xs us) := ownL_below (ownL_below HO1.out hb3) (bx.new_below _ _ _)
  have HB2 : Hid (Below base w (w2.alloc (.cells #[.string s, .int .i64 ((n : Int) + 1), .int .i64 1, .slice none 0 0, .slice none 0 0] 38)) ∧ base ≤ (w2.alloc (.cells #[.string s, .int .i64 ((n : Int) + 1), .int .i64 1, .slice none 0 0, .slice none 0 0] 38)).heap.size) := by
    have h1 : Below base w w2 := HB1.out.trans (hb3.mono hb2)
    have h2 : base ≤ w2.heap.size := Nat.le_trans hb2 hb3.size
    exact ⟨h1.alloc h2 _, by simp; omega⟩
  clear HO1 HB1 hb3 hb2
  have HW : Hid ((w2.alloc (.cells #[.string s, .int .i64 ((n : Int) + 1), .int .i64 1, .slice none 0 0, .slice none 0 0] 38)).ownsRow base 38 5 (.slice La n Lc) n (bcells xs us n)) := by
    have := HO2.out.1
    unfold OwnB at this
    rw [← HN.out] at this
    exact this
  go_wp2_with (at_builtin; refine wpList_append_own _ rfl _ _ 25 rfl base 38 i0 _ 5 80 Tryz.underlying25 hi hz0 hz1 hz2 rfl (by decide) _ _ _ rfl HW.out ⟨w2.heap.size, 0, none⟩ 1 1 [.string s, .int .i64 ((n : Int) + 1), .int .i64 1, .slice none 0 0, .slice none 0 0] rfl rfl (ow.cells_new _ [.string s, .int .i64 ((n : Int) + 1), .int .i64 1, .slice none 0 0, .slice none 0 0] _) (by intro u hu; simp at hu; rcases hu with rfl | rfl | rfl | rfl | rfl <;> rfl) (by unfold maxLen; omega) (by omega) HB2.out.2 ?_; intro v3 w3 hown hgrow hnil)
  have HE : Hid ((∃ ys us', Wb xs s ys 0 ∧ OwnL w3 base v3 ys us') ∧ Below base w w3) := by
    refine ⟨⟨xs ++ [⟨s, (xs.length : Int) + 1, 1, [], []⟩], upd us xs.length noV, .inr (.inr ⟨HP.out, by rw [← HN.out]; exact H4.out, rfl, rfl⟩), ?_, ?_, ?_⟩, HB2.out.1.grown hgrow HB2.out.2 (fun j hj => (HW.out.lt j hj).1)⟩
    · unfold OwnB
      rw [show (xs ++ [(⟨s, (xs.length : Int) + 1, 1, [], []⟩ : Bx)]).length = n + 1 by simp [← HN.out]]
      rw [bcells, HN.out, getD_last, bcells_app (Nat.le_refl _), bcells_congr (us := upd us xs.length noV) (vs := us) (fun j hj => by simp only [upd, if_neg (show j ≠ xs.length by omega)])]
      simp only [upd, if_true, noV]
      rw [HN.out] at hown
      exact hown
    · rw [show (xs ++ [(⟨s, (xs.length : Int) + 1, 1, [], []⟩ : Bx)]).length = xs.length + 1 by simp]
      exact ownR_app ⟨rfl, rfl⟩ (ownR_row HO2.out.2.1 HW.out hgrow (by decide) (by decide))
    · rw [show (xs ++ [(⟨s, (xs.length : Int) + 1, 1, [], []⟩ : Bx)]).length = xs.length + 1 by simp]
      exact dis_app HO2.out.2.2
  clear hown hgrow hnil HO2 HB2 HW
  obtain ⟨ra, rn, rc, rfl⟩ : ∃ a n c, v3 = .slice a n c := by
    obtain ⟨⟨ys, us', _, ho⟩, _⟩ := HE.out
    exact slice_fine (own_fine ho.1)
  have HQ : Hid (∃ L' ys us' c, (Ending.returned (.tuple #[.slice ra rn rc, .int .i64 0]) = .returned (.tuple #[L', .int .i64 c])) ∧ Wb xs s ys c ∧ OwnL w3 base L' ys us') := by
    obtain ⟨⟨ys, us', hw, ho⟩, _⟩ := HE.out
    exact ⟨_, ys, us', 0, rfl, hw, ho⟩
  go_wp2
  go_ret2
  exact ⟨HQ.out, HE.out.2⟩
end Go.Proofs.YtinnnfkhiigjpaaGreat.bl
