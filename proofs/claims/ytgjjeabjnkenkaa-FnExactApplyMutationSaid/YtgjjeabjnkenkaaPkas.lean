/-
  A list of boxes, marked by the law's own function, as to its shape; a box, marked and held against its marks.
  A list of boxes that is one's own memory, all of it; slices.Clone of a list of boxes.
-/
import Derived.Test.YtgjjeabjnkenkaaPkal
import Derived.Test.YtgjjeabjnkenkaaPkar
import Derived.Test.YtgjjeabjnkenkaaPkak

namespace Go.Proofs.Ytgjjeabjnkenkaa.mx
open Go.RowKit
open gr mk st bx mm
open ky (TextsAt OwnT own_texts)
set_option linter.unusedVariables false

theorem mine_below {w w' : World} {A : Nat} {xs : List Bx} {vs : Nat → Value × Value} (h : Mine w A xs vs) (hb : Below w.heap.size w w') : Mine w' A xs vs := by
  obtain ⟨⟨cs, h1, h2⟩, h3⟩ := h
  exact ⟨⟨cs, ow.own_below h1 hb, h2⟩, rws_below h3 hb⟩
/-- The rows lie ahead of B. -/
def Ahead (A B : Nat) (xs : List Bx) (vs : Nat → Value × Value) : Prop := A < B ∧ ∀ j, j < xs.length → (∀ b, (vs j).1.ownBlock = some b → b < B) ∧ (∀ b, (vs j).2.ownBlock = some b → b < B)
theorem mine_ahead {w : World} {A : Nat} {xs : List Bx} {vs : Nat → Value × Value} (h : Mine w A xs vs) : Ahead A w.heap.size xs vs := by
  obtain ⟨⟨cs, h1, h2⟩, h3⟩ := h
  refine ⟨own_lt h1 A rfl, fun j hj => ?_⟩
  obtain ⟨g, g', e, _, _, ⟨c1, o1⟩, ⟨c2, o2⟩⟩ := h3 j hj
  rw [e]
  exact ⟨fun b hb => own_lt o1 b hb, fun b hb => own_lt o2 b hb⟩
theorem mine_fines {w : World} {A : Nat} {xs : List Bx} {vs : Nat → Value × Value} (h : Mine w A xs vs) : Fines xs vs := fun j hj => by
  obtain ⟨g, g', e, _⟩ := h.2 j hj
  rw [e]
  exact ⟨.inr ⟨_, _, _, rfl⟩, .inr ⟨_, _, _, rfl⟩⟩

def Kept (cs : List Value) (n : Nat) (vs : Nat → Value × Value) : Prop := ∀ j, j < n → cs[j * 5 + 3]? = some (vs j).1 ∧ cs[j * 5 + 4]? = some (vs j).2
theorem kept_set {cs : List Value} {n j : Nat} {vs : Nat → Value × Value} (h : Kept cs n vs) (a b c : Value) : Kept (((cs.set (j * 5) a).set (j * 5 + 1) b).set (j * 5 + 2) c) n vs := fun i hi => by
  obtain ⟨h3, h4⟩ := h i hi
  refine ⟨?_, ?_⟩
  · rw [List.getElem?_set_ne (by omega), List.getElem?_set_ne (by omega), List.getElem?_set_ne (by omega), h3]
  · rw [List.getElem?_set_ne (by omega), List.getElem?_set_ne (by omega), List.getElem?_set_ne (by omega), h4]

set_option maxHeartbeats 4000000 in
set_option maxRecDepth 100000 in
theorem markBoxS_any (A B : Nat) (xs : List Bx) (vs : Nat → Value × Value) (w : World) (h : Mine w A xs vs) (ha : Ahead A B xs vs) (hs : bx.Smalls xs) :
    Calls Try.prog 15 #[.slice (some ⟨A, 0, none⟩) xs.length xs.length, .int .i64 1] w fun e w' => (∃ z : Int, (0 < z ∧ z ≤ 10000000000000) ∧ e = .returned (.int .i64 z)) ∧ Mk A B w w' := by
  obtain ⟨n, hn⟩ : ∃ n, n = xs.length := ⟨_, rfl⟩
  have HR : Hid (Rws w A xs vs n) := by rw [hn]; exact h.2
  have HA : Hid (Ahead A B xs vs) := ha
  have HS : Hid (bx.Smalls xs) := hs
  have HN : Hid (n = xs.length) := hn
  have hl : n ≤ 1048576 := by rw [hn]; exact hs.1
  obtain ⟨⟨cs0, ho, hk0⟩, _⟩ := h
  rw [← hn] at ho hk0 ⊢
  have HO : Hid (w.ownsRow A 62 5 (.slice (some ⟨A, 0, none⟩) n n) n cs0 ∧ Kept cs0 n vs) := ⟨ho, hk0⟩
  have hAB := ha.1
  clear ho hk0 hs ha hn
  go_enter Try.func15, Try.ntmps15
  go_wp2
  go_loopw [1, 5] (fun z i wr => ∃ (j : Nat) (K : Int) (cs : List Value), j ≤ n ∧ z = .int .i64 K ∧ i = .int .i64 j ∧ 0 < K ∧ K ≤ 1 + 5000000 * (j : Int) ∧ wr.ownsRow A 62 5 (.slice (some ⟨A, 0, none⟩) n n) n cs ∧ Kept cs n vs ∧ Mk A B w wr) (fun _ i _ => n - (intOf i).toNat)
  case atStart => exact ⟨0, 1, cs0, Nat.zero_le _, rfl, rfl, by omega, by omega, HO.out.1, HO.out.2, Mk.refl _ _ _⟩
  case round =>
    clear HO
    obtain ⟨j, K, cs, hj, rfl, rfl, hK0, hK1, hown, hkp, hmk⟩ := hrel
    by_cases hlt : j < n
    · have hlt' : (j : Int) < (n : Int) := by omega
      have hj0 : (0 : Int) ≤ (j : Int) := by omega
      have hlen : cs.length = n * 5 := hown.1
      have HL : Hid (cs.length = n * 5) := hlen
      clear hlen
      obtain ⟨g, g', evs, hg, hg', r1, r2⟩ := HR.out j hlt
      have HR1 : Hid (∃ cs, wr.ownsRow A 92 3 (.slice (some ⟨g, 0, none⟩) (xs.getD j noB).ms.length (xs.getD j noB).ms.length) (xs.getD j noB).ms.length cs) := own_like hmk r1
      have HR2 : Hid (∃ cs, wr.ownsRow A 9 1 (.slice (some ⟨g', 0, none⟩) (xs.getD j noB).ks.length (xs.getD j noB).ks.length) (xs.getD j noB).ks.length cs) := own_like hmk r2
      have hgB : g < B := (HA.out.2 j (by rw [← HN.out]; exact hlt)).1 g (by rw [evs]; rfl)
      have hgB' : g' < B := (HA.out.2 j (by rw [← HN.out]; exact hlt)).2 g' (by rw [evs]; rfl)
      have hsk := HS.out.2 j (by rw [← HN.out]; exact hlt)
      have hml : (xs.getD j noB).ms.length ≤ 1048576 := hsk.2.2.1.1
      have hkl : (xs.getD j noB).ks.length ≤ 1048576 := hsk.2.2.2.1
      obtain ⟨e3, e4⟩ := hkp j hlt
      rw [evs] at e3 e4
      simp only at e3 e4
      clear r1 r2 evs hsk
      generalize (xs.getD j noB).ms.length = m1 at *
      generalize (xs.getD j noB).ks.length = m2 at *
      have HE : Hid (cs[j * 5 + 3]? = some (.slice (some ⟨g, 0, none⟩) m1 m1) ∧ cs[j * 5 + 4]? = some (.slice (some ⟨g', 0, none⟩) m2 m2)) := ⟨e3, e4⟩
      have HKP : Hid (Kept cs n vs) := hkp
      have HMK : Hid (Mk A B w wr) := hmk
      clear e3 e4 hkp hmk
      go_wp2_with fail
      refine (mark_some K _ (by omega) (by omega)).mono ?_
      rintro e w1 ⟨⟨s, rfl⟩, hb⟩
      have o1 := ow.own_below hown hb
      have HO1 : Hid (w1.ownsRow A 62 5 (.slice (some ⟨A, 0, none⟩) n n) n cs) := o1
      have HMK1 : Hid (Mk A B w w1) := HMK.out.trans (mk_below hb)
      have HR1 : Hid (∃ cs, w1.ownsRow A 92 3 (.slice (some ⟨g, 0, none⟩) m1 m1) m1 cs) := own_like (mk_below (A := A) (B := B) hb) HR1.out
      have HR2 : Hid (∃ cs, w1.ownsRow A 9 1 (.slice (some ⟨g', 0, none⟩) m2 m2) m2 cs) := own_like (mk_below (A := A) (B := B) hb) HR2.out
      have q0 := o1.cellAt (j * 5) (by omega)
      have q1 := o1.cellAt (j * 5 + 1) (by omega)
      have q2 := o1.cellAt (j * 5 + 2) (by omega)
      have q3 := o1.cellAt (j * 5 + 3) (by omega)
      rw [List.getElem?_eq_getElem (by rw [HL.out]; omega)] at q0 q1 q2
      rw [HE.out.1] at q3
      have f0 := o1.frozenAt (j * 5)
      have f1 := o1.frozenAt (j * 5 + 1)
      have f2 := o1.frozenAt (j * 5 + 2)
      generalize cs[j * 5]'(by rw [HL.out]; omega) = u0 at q0
      generalize cs[j * 5 + 1]'(by rw [HL.out]; omega) = u1 at q1
      generalize cs[j * 5 + 2]'(by rw [HL.out]; omega) = u2 at q2
      clear o1 hown hb HMK
      go_wp2_with fail
      have HX : Hid ((((w1.setCell ⟨A, j * 5, none⟩ (.string s)).setCell ⟨A, j * 5 + 1, none⟩ (.int .i64 (K + 1))).setCell ⟨A, j * 5 + 2, none⟩ (.int .i64 (K + 1 + 1))).ownsRow A 62 5 (.slice (some ⟨A, 0, none⟩) n n) n (((cs.set (j * 5) (.string s)).set (j * 5 + 1) (.int .i64 (K + 1))).set (j * 5 + 2) (.int .i64 (K + 1 + 1))) ∧ w1.grownBy (((w1.setCell ⟨A, j * 5, none⟩ (.string s)).setCell ⟨A, j * 5 + 1, none⟩ (.int .i64 (K + 1))).setCell ⟨A, j * 5 + 2, none⟩ (.int .i64 (K + 1 + 1))) (some A)) := ⟨(((HO1.out.stored _ _).1.stored _ _).1.stored _ _).1, ow.grown_trans (ow.grown_trans (grown_set _ _ _ _) (grown_set _ _ _ _)) (grown_set _ _ _ _)⟩
      clear q0 q1 q2 q3 f0 f1 f2
      generalize hX : World.setCell _ _ _ = X at HX ⊢
      clear hX
      have HKP1 : Hid (Kept (((cs.set (j * 5) (.string s)).set (j * 5 + 1) (.int .i64 (K + 1))).set (j * 5 + 2) (.int .i64 (K + 1 + 1))) n vs) := kept_set HKP.out _ _ _
      have HE1 : Hid ((((cs.set (j * 5) (.string s)).set (j * 5 + 1) (.int .i64 (K + 1))).set (j * 5 + 2) (.int .i64 (K + 1 + 1)))[j * 5 + 4]? = some (.slice (some ⟨g', 0, none⟩) m2 m2)) := by rw [List.getElem?_set_ne (by omega), List.getElem?_set_ne (by omega), List.getElem?_set_ne (by omega)]; exact HE.out.2
      generalize (((cs.set (j * 5) (Value.string s)).set (j * 5 + 1) (.int .i64 (K + 1))).set (j * 5 + 2) (.int .i64 (K + 1 + 1))) = cs1 at HX HKP1 HE1
      have hm1 : Mk A B w1 X := mk_grown HX.out.2 HO1.out HX.out.1 (Nat.le_refl _) hAB
      have HMK2 : Hid (Mk A B w X) := HMK1.out.trans hm1
      obtain ⟨y1, HY1⟩ := own_like hm1 HR1.out
      have HR2 : Hid (∃ cs, X.ownsRow A 9 1 (.slice (some ⟨g', 0, none⟩) m2 m2) m2 cs) := own_like hm1 HR2.out
      clear hm1 HMK1 HO1 HE HKP HR1
      refine (markM_some A m1 g m1 y1 (K + 1 + 1 + 1) X HY1 hml (by omega) (by omega)).mono ?_
      rintro e w2 ⟨rfl, ⟨y2, HY2⟩, hgr⟩
      have hAlt : A < X.heap.size := own_lt HX.out.1 A rfl
      have hm2 : Mk A B X w2 := mk_grown hgr HY1 HY2 (by omega) hgB
      have o2 := mu.own_block HX.out.1 (hgr.block A hAlt (by intro e; cases e; omega))
      have HO2 : Hid (w2.ownsRow A 62 5 (.slice (some ⟨A, 0, none⟩) n n) n cs1) := o2
      have HMK3 : Hid (Mk A B w w2) := HMK2.out.trans hm2
      obtain ⟨z1, HZ1⟩ := own_like hm2 HR2.out
      have q4 := o2.cellAt (j * 5 + 4) (by omega)
      rw [HE1.out] at q4
      clear hm2 HMK2 hgr HY1 HY2 HX HR2 o2 hAlt
      have hmI : (m1 : Int) ≤ 1048576 := by omega
      have hmI0 : (0 : Int) ≤ (m1 : Int) := by omega
      have hkI : (m2 : Int) ≤ 1048576 := by omega
      have hkI0 : (0 : Int) ≤ (m2 : Int) := by omega
      go_wp2_with fail
      refine (markT_some A m2 g' m2 z1 (K + 1 + 1 + 1 + 3 * (m1 : Int)) w2 HZ1 hkl (by omega) (by omega)).mono ?_
      rintro e w3 ⟨rfl, ⟨z2, HZ2⟩, hgr⟩
      have hAlt : A < w2.heap.size := own_lt HO2.out A rfl
      have hm3 : Mk A B w2 w3 := mk_grown hgr HZ1 HZ2 (by omega) hgB'
      have HO3 : Hid (w3.ownsRow A 62 5 (.slice (some ⟨A, 0, none⟩) n n) n cs1) := mu.own_block HO2.out (hgr.block A hAlt (by intro e; cases e; omega))
      have HMK4 : Hid (Mk A B w w3) := HMK3.out.trans hm3
      clear hm3 HMK3 hgr HZ1 HZ2 HO2 hAlt q4
      go_wp2
      go_roundw
      case rel => exact ⟨j + 1, K + 1 + 1 + 1 + 3 * (m1 : Int) + (m2 : Int), cs1, by omega, rfl, by go_num, by omega, by omega, HO3.out, HKP1.out, HMK4.out⟩
      case measure => simp [intOf]; omega
    · have HMK : Hid (Mk A B w wr) := hmk
      clear hmk hkp hown
      go_wp2
      go_ret
      exact ⟨⟨_, ⟨hK0, by omega⟩, rfl⟩, HMK.out⟩
theorem row_other {w w' : World} {b e s n : Nat} {v u : Value} {xs : List Value} (h : w.ownsRow b e s v n xs) (hg : w.grownBy w' u.ownBlock) (hd : v.ownBlock = none ∨ v.ownBlock ≠ u.ownBlock) : w'.ownsRow b e s v n xs := by
  rcases h.2 with ⟨rfl, hz⟩ | ⟨g, cap, cur, rfl, hB, hh, r⟩
  · exact ⟨h.1, .inl ⟨rfl, hz⟩⟩
  · refine mu.own_block h (hg.block g (Array.getElem?_eq_some_iff.1 hh).1 ?_)
    rcases hd with e | e
    · cases e
    · exact e

end Go.Proofs.Ytgjjeabjnkenkaa.mx

namespace Go.Proofs.Ytgjjeabjnkenkaa.bl
open Go.ChangeShapes Go.WideShapes Go.ChangeAt Go.RowKit Go.Deep Go.Joins
open st gr bx mx
set_option linter.unusedVariables false

/-- The cells of the first n boxes. -/
def bcells (xs : List Bx) (vs : Nat → Value × Value) : Nat → List Value
  | 0 => []
  | n + 1 => bcells xs vs n ++ [.string (xs.getD n noB).nm, .int .i64 (xs.getD n noB).vd, .int .i64 (xs.getD n noB).nx, (vs n).1, (vs n).2]
theorem bcells_len (xs : List Bx) (vs : Nat → Value × Value) : ∀ n, (bcells xs vs n).length = n * 5
  | 0 => rfl
  | n + 1 => by simp [bcells, bcells_len xs vs n]; omega
theorem bcells_at (xs : List Bx) (vs : Nat → Value × Value) : ∀ n j, j < n → In5 (bcells xs vs n) (j * 5) (xs.getD j noB) (vs j)
  | 0, j, hj => absurd hj (Nat.not_lt_zero _)
  | n + 1, j, hj => by
    have hl := bcells_len xs vs n
    unfold In5
    by_cases e : j < n
    · obtain ⟨h0, h1, h2, h3, h4⟩ := bcells_at xs vs n j e
      rw [bcells, List.getElem?_append_left (by omega), List.getElem?_append_left (by omega), List.getElem?_append_left (by omega), List.getElem?_append_left (by omega), List.getElem?_append_left (by omega)]
      exact ⟨h0, h1, h2, h3, h4⟩
    · obtain rfl : j = n := by omega
      rw [bcells, List.getElem?_append_right (by omega), List.getElem?_append_right (by omega), List.getElem?_append_right (by omega), List.getElem?_append_right (by omega), List.getElem?_append_right (by omega), hl]
      rw [show j * 5 - j * 5 = 0 by omega, show j * 5 + 1 - j * 5 = 1 by omega, show j * 5 + 2 - j * 5 = 2 by omega, show j * 5 + 3 - j * 5 = 3 by omega, show j * 5 + 4 - j * 5 = 4 by omega]
      exact ⟨rfl, rfl, rfl, rfl, rfl⟩
theorem bcells_ext {xs : List Bx} {vs : Nat → Value × Value} {n : Nat} {cs : List Value} (hl : cs.length = n * 5) (h : LayB xs vs n cs) : cs = bcells xs vs n := by
  refine List.ext_getElem? fun i => ?_
  by_cases hi : i < n * 5
  · have hq : i / 5 < n := by omega
    obtain ⟨a0, a1, a2, a3, a4⟩ := h (i / 5) hq
    obtain ⟨b0, b1, b2, b3, b4⟩ := bcells_at xs vs n (i / 5) hq
    have hr : i % 5 = 0 ∨ i % 5 = 1 ∨ i % 5 = 2 ∨ i % 5 = 3 ∨ i % 5 = 4 := by omega
    rcases hr with hr | hr | hr | hr | hr
    · rw [show i = i / 5 * 5 by omega, a0, b0]
    · rw [show i = i / 5 * 5 + 1 by omega, a1, b1]
    · rw [show i = i / 5 * 5 + 2 by omega, a2, b2]
    · rw [show i = i / 5 * 5 + 3 by omega, a3, b3]
    · rw [show i = i / 5 * 5 + 4 by omega, a4, b4]
  · rw [List.getElem?_eq_none (by omega), List.getElem?_eq_none (by rw [bcells_len]; omega)]
theorem bcells_one {xs : List Bx} {vs : Nat → Value × Value} : ∀ {n : Nat}, (∀ j, j < n → (vs j).1.oneCell' = true ∧ (vs j).2.oneCell' = true) → ∀ u ∈ bcells xs vs n, u.oneCell' = true
  | 0, _, u, hu => by simp [bcells] at hu
  | n + 1, h, u, hu => by
    rw [bcells, List.mem_append] at hu
    rcases hu with hu | hu
    · exact bcells_one (fun j hj => h j (by omega)) u hu
    · have hn := h n (by omega)
      simp only [List.mem_cons, List.not_mem_nil, or_false] at hu
      rcases hu with rfl | rfl | rfl | rfl | rfl
      · rfl
      · rfl
      · rfl
      · exact hn.1
      · exact hn.2
theorem fine_one {v : Value} (h : Fine v) : v.oneCell' = true := by
  rcases h with rfl | ⟨ad, n, c, rfl⟩
  · rfl
  · rfl
/-- The list's row alone. -/
def OwnB (w : World) (base : Nat) (v : Value) (xs : List Bx) (vs : Nat → Value × Value) : Prop := w.ownsRow base 62 5 v xs.length (bcells xs vs xs.length)
/-- No two rows lie in one block. -/
def Dis (vs : Nat → Value × Value) (n : Nat) : Prop := ∀ i j, i < j → j < n → ((vs i).1.ownBlock = none ∨ (vs i).1.ownBlock ≠ (vs j).1.ownBlock) ∧ ((vs i).2.ownBlock = none ∨ (vs i).2.ownBlock ≠ (vs j).2.ownBlock)
/-- The rows of the first n boxes are owned. -/
def OwnR (w : World) (base : Nat) (xs : List Bx) (vs : Nat → Value × Value) (n : Nat) : Prop := ∀ j, j < n → OwnM w base (vs j).1 (xs.getD j noB).ms ∧ OwnK w base (vs j).2 (xs.getD j noB).ks
/-- A list of boxes that is one's own, all of it. -/
def OwnL (w : World) (base : Nat) (v : Value) (xs : List Bx) (vs : Nat → Value × Value) : Prop := OwnB w base v xs vs ∧ OwnR w base xs vs xs.length ∧ Dis vs xs.length
theorem ownR_below {w w' : World} {base : Nat} {xs : List Bx} {vs : Nat → Value × Value} {n : Nat} (h : OwnR w base xs vs n) (hb : Below w.heap.size w w') : OwnR w' base xs vs n := fun j hj => ⟨ow.own_below (h j hj).1 hb, ow.own_below (h j hj).2 hb⟩
theorem ownL_below {w w' : World} {base : Nat} {v : Value} {xs : List Bx} {vs : Nat → Value × Value} (h : OwnL w base v xs vs) (hb : Below w.heap.size w w') : OwnL w' base v xs vs := ⟨ow.own_below h.1 hb, ownR_below h.2.1 hb, h.2.2⟩
theorem ownL_boxes {w : World} {base : Nat} {v : Value} {xs : List Bx} {vs : Nat → Value × Value} (h : OwnL w base v xs vs) : BoxesAt w v xs vs := by
  refine ⟨?_, fun j hj => ⟨ownM_in (h.2.1 j hj).1 (Nat.le_refl _), ownK_in (h.2.1 j hj).2 (Nat.le_refl _)⟩⟩
  have ho : w.ownsRow base 62 5 v xs.length (bcells xs vs xs.length) := h.1
  rcases ho.2 with ⟨rfl, hz⟩ | ⟨g, cap, cur, rfl, _, hh, _⟩
  · exact ⟨none, 0, by rw [hz], .inl (List.eq_nil_of_length_eq_zero hz)⟩
  · refine ⟨_, cap, rfl, .inr ⟨g, 0, rfl, (Array.getElem?_eq_some_iff.1 hh).1, fun j hj => ?_⟩⟩
    obtain ⟨h0, h1, h2, h3, h4⟩ := bcells_at xs vs xs.length j hj
    refine ⟨?_, ?_, ?_, ?_, ?_⟩
    · rw [Nat.zero_add, ho.cellAt _ (by omega), h0]
    · rw [Nat.zero_add, ho.cellAt _ (by omega), h1]
    · rw [Nat.zero_add, ho.cellAt _ (by omega), h2]
    · rw [Nat.zero_add, ho.cellAt _ (by omega), h3]
    · rw [Nat.zero_add, ho.cellAt _ (by omega), h4]
theorem ownL_fines {w : World} {base : Nat} {v : Value} {xs : List Bx} {vs : Nat → Value × Value} (h : OwnL w base v xs vs) : Fine v ∧ Fines xs vs := ⟨own_fine h.1, fun j hj => ⟨own_fine (h.2.1 j hj).1, own_fine (h.2.1 j hj).2⟩⟩
theorem src_boxes {w : World} {ad : Addr} {n c : Nat} {xs : List Bx} {vs : Nat → Value × Value} (h : BoxesAt w (.slice (some ad) n c) xs vs) : n = xs.length ∧ ∀ j u, (bcells xs vs xs.length)[j]? = some u → w.cell? (ad.add j) = some u := by
  obtain ⟨⟨a, cap, e, h⟩, _⟩ := h
  cases e
  refine ⟨rfl, fun i u hu => ?_⟩
  have hi : i < xs.length * 5 := by
    have := (List.getElem?_eq_some_iff.1 hu).1
    rwa [bcells_len] at this
  rcases h with h | ⟨b, off, e, _, h⟩
  · rw [h] at hi; simp at hi
  · cases e
    rw [show ((⟨b, off, none⟩ : Addr).add i) = ⟨b, off + i, none⟩ from by simp [Addr.add]]
    have hq : i / 5 < xs.length := by omega
    obtain ⟨a0, a1, a2, a3, a4⟩ := h (i / 5) hq
    obtain ⟨b0, b1, b2, b3, b4⟩ := bcells_at xs vs xs.length (i / 5) hq
    have hr : i % 5 = 0 ∨ i % 5 = 1 ∨ i % 5 = 2 ∨ i % 5 = 3 ∨ i % 5 = 4 := by omega
    rcases hr with hr | hr | hr | hr | hr
    · rw [show i = i / 5 * 5 by omega, b0] at hu; cases hu
      rw [show off + i = off + i / 5 * 5 by omega, a0]
    · rw [show i = i / 5 * 5 + 1 by omega, b1] at hu; cases hu
      rw [show off + i = off + i / 5 * 5 + 1 by omega, a1]
    · rw [show i = i / 5 * 5 + 2 by omega, b2] at hu; cases hu
      rw [show off + i = off + i / 5 * 5 + 2 by omega, a2]
    · rw [show i = i / 5 * 5 + 3 by omega, b3] at hu; cases hu
      rw [show off + i = off + i / 5 * 5 + 3 by omega, a3]
    · rw [show i = i / 5 * 5 + 4 by omega, b4] at hu; cases hu
      rw [show off + i = off + i / 5 * 5 + 4 by omega, a4]

set_option maxHeartbeats 2000000 in
set_option maxRecDepth 100000 in
theorem cloneB_any (v : Value) (xs : List Bx) (vs : Nat → Value × Value) (w : World) (h : BoxesAt w v xs vs) (hv : Fine v) (hf : Fines xs vs) (hn : xs.length ≤ 1048576) :
    Calls Try.prog 74 #[v] w fun e w' => (∃ v', e = .returned v' ∧ OwnB w' w.heap.size v' xs vs) ∧ Below w.heap.size w w' := by
  obtain ⟨i0, hi, hz0, hz1, hz2⟩ := info_parts infoB
  have hq : ∀ (w : World) (a : Option Addr) (n c n' c' : Nat), (binOp .eql 28 (.slice a n c) (.slice none n' c')).run Try.prog w = .ok (.bool a.isNone) w := fun w a n c n' c' => Lib.run_eql_slice_nil w _ _ a n c n' c' Try.underlying28
  have h1c : ∀ u ∈ bcells xs vs xs.length, u.oneCell' = true := bcells_one fun j hj => ⟨fine_one (hf j hj).1, fine_one (hf j hj).2⟩
  have H1C : Hid (∀ u ∈ bcells xs vs xs.length, u.oneCell' = true) := h1c
  clear h1c hf
  rcases hv with rfl | ⟨ad, n, c, rfl⟩
  · have hms : xs = [] := by
      obtain ⟨⟨a, cap, e, _⟩, _⟩ := h
      simp only [Value.slice.injEq] at e
      exact List.eq_nil_of_length_eq_zero e.2.1.symm
    have HM : Hid (OwnB w w.heap.size (.slice none 0 0) xs vs) := by rw [hms]; exact World.ownsRow_nil _ _ _ _
    clear h hms hn H1C
    go_enter Try.func74, Try.ntmps74
    go_wp2
    go_ret
    exact ⟨⟨_, rfl, HM.out⟩, Below.refl _ _⟩
  obtain ⟨rfl, hs⟩ := src_boxes h
  have hb : Below w.heap.size w (w.alloc (.cells #[] 62)) := (Below.refl _ _).alloc (Nat.le_refl _) _
  have HS : Hid (∀ j u, (bcells xs vs xs.length)[j]? = some u → (w.alloc (.cells #[] 62)).cell? (ad.add j) = some u) := fun j u hu => (hb.cell (World.block_lt_of_cell? w _ (hs j u hu))).trans (hs j u hu)
  have HO : Hid ((w.alloc (.cells #[] 62)).ownsRow w.heap.size 62 5 (.slice (some ⟨w.heap.size, 0, none⟩) 0 0) 0 []) := World.ownsRow_made w #[] 0 (Nat.le_refl _) (Nat.zero_le _) rfl
  clear h hs
  go_enter Try.func74, Try.ntmps74
  go_wp2_with (at_builtin; refine wpList_append_own _ rfl _ _ 28 rfl w.heap.size 62 i0 _ 5 80 Try.underlying28 hi hz0 hz1 hz2 rfl (by decide) _ _ _ rfl HO.out ad xs.length c (bcells xs vs xs.length) rfl (bcells_len xs vs _) HS.out H1C.out (by unfold maxLen; omega) (by omega) (by simp) ?_; intro v' w1 hown hgrow hnil)
  have HE : Hid (OwnB w1 w.heap.size v' xs vs ∧ Below w.heap.size w w1) := by
    refine ⟨?_, hb.grown hgrow (by simp) (fun k hk => (HO.out.lt k hk).1)⟩
    unfold OwnB
    simpa using hown
  clear hown hgrow hnil
  go_wp2
  go_ret
  exact ⟨⟨_, rfl, HE.out.1⟩, HE.out.2⟩
end Go.Proofs.Ytgjjeabjnkenkaa.bl
