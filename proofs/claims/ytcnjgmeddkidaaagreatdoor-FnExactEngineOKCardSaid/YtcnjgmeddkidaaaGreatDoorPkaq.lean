/-
  A list of boxes, marked by the law's own function, as to its shape; a box, marked and held against its marks.
  A list of boxes that is one's own memory, all of it; slices.Clone of a list of boxes.
  copiedBoxes: a list of boxes, copied all of it.
  l09Own: a list of boxes, copied all of it.
-/
import Derived.Test.YtcnjgmeddkidaaaGreatDoorPkaj
import Derived.Test.YtcnjgmeddkidaaaGreatDoorPkap
import Derived.Test.YtcnjgmeddkidaaaGreatDoorPkai

namespace Go.Proofs.YtcnjgmeddkidaaaGreatDoor.mx
open Go.RowKit
open gr mk st bx mm
open ky (TextsAt OwnT own_texts)
set_option linter.unusedVariables false

theorem mine_below {w w' : World} {A : Nat} {xs : List Bx} {vs : Nat → Value × Value} (h : Mine w A xs vs) (hb : Below w.heap.size w w') : Mine w' A xs vs := by
  obtain ⟨⟨cs, h1, h2⟩, h3⟩ := h
  exact ⟨⟨cs, ow.own_below h1 hb, h2⟩, rws_below h3 hb⟩
/-- The rows lie ahead of B. -/
def Ahead (A B : Nat) (xs : List Bx) (vs : Nat → Value × Value) : Prop := A < B ∧ ∀ j, j < xs.length → (∀ b, (vs j).1.ownBlock = some b → b < B) ∧ (∀ b, (vs j).2.ownBlock = some b → b < B)
theorem mine_ahead {w : World} {A : Nat} {xs : List Bx} {vs : Nat → Value × Value} (h : Mine w A xs vs) : Ahead A w.heap.size xs vs := by
  obtain ⟨⟨cs, h1, h2⟩, h3⟩ := h
  refine ⟨own_lt h1 A rfl, fun j hj => ?_⟩
  obtain ⟨g, g', e, _, _, ⟨c1, o1⟩, ⟨c2, o2⟩⟩ := h3 j hj
  rw [e]
  exact ⟨fun b hb => own_lt o1 b hb, fun b hb => own_lt o2 b hb⟩
theorem mine_fines {w : World} {A : Nat} {xs : List Bx} {vs : Nat → Value × Value} (h : Mine w A xs vs) : Fines xs vs := fun j hj => by
  obtain ⟨g, g', e, _⟩ := h.2 j hj
  rw [e]
  exact ⟨.inr ⟨_, _, _, rfl⟩, .inr ⟨_, _, _, rfl⟩⟩

def Kept (cs : List Value) (n : Nat) (vs : Nat → Value × Value) : Prop := ∀ j, j < n → cs[j * 5 + 3]? = some (vs j).1 ∧ cs[j * 5 + 4]? = some (vs j).2
theorem kept_set {cs : List Value} {n j : Nat} {vs : Nat → Value × Value} (h : Kept cs n vs) (a b c : Value) : Kept (((cs.set (j * 5) a).set (j * 5 + 1) b).set (j * 5 + 2) c) n vs := fun i hi => by
  obtain ⟨h3, h4⟩ := h i hi
  refine ⟨?_, ?_⟩
  · rw [List.getElem?_set_ne (by omega), List.getElem?_set_ne (by omega), List.getElem?_set_ne (by omega), h3]
  · rw [List.getElem?_set_ne (by omega), List.getElem?_set_ne (by omega), List.getElem?_set_ne (by omega), h4]

set_option maxHeartbeats 4000000 in
set_option maxRecDepth 100000 in
theorem markBoxS_any (A B : Nat) (xs : List Bx) (vs : Nat → Value × Value) (w : World) (h : Mine w A xs vs) (ha : Ahead A B xs vs) (hs : bx.Smalls xs) :
    Calls Tryz.prog 10 #[.slice (some ⟨A, 0, none⟩) xs.length xs.length, .int .i64 1] w fun e w' => (∃ z : Int, (0 < z ∧ z ≤ 10000000000000) ∧ e = .returned (.int .i64 z)) ∧ Mk A B w w' := by
  obtain ⟨n, hn⟩ : ∃ n, n = xs.length := ⟨_, rfl⟩
  have HR : Hid (Rws w A xs vs n) := by rw [hn]; exact h.2
  have HA : Hid (Ahead A B xs vs) := ha
  have HS : Hid (bx.Smalls xs) := hs
  have HN : Hid (n = xs.length) := hn
  have hl : n ≤ 1048576 := by rw [hn]; exact hs.1
  obtain ⟨⟨cs0, ho, hk0⟩, _⟩ := h
  rw [← hn] at ho hk0 ⊢
  have HO : Hid (w.ownsRow A 54 5 (.slice (some ⟨A, 0, none⟩) n n) n cs0 ∧ Kept cs0 n vs) := ⟨ho, hk0⟩
  have hAB := ha.1
  clear ho hk0 hs ha hn
  go_enter Tryz.func10, Tryz.ntmps10
  go_wp2
  go_loopw [1, 5] (fun z i wr => ∃ (j : Nat) (K : Int) (cs : List Value), j ≤ n ∧ z = .int .i64 K ∧ i = .int .i64 j ∧ 0 < K ∧ K ≤ 1 + 5000000 * (j : Int) ∧ wr.ownsRow A 54 5 (.slice (some ⟨A, 0, none⟩) n n) n cs ∧ Kept cs n vs ∧ Mk A B w wr) (fun _ i _ => n - (intOf i).toNat)
  case atStart => exact ⟨0, 1, cs0, Nat.zero_le _, rfl, rfl, by omega, by omega, HO.out.1, HO.out.2, Mk.refl _ _ _⟩
  case round =>
    clear HO
    obtain ⟨j, K, cs, hj, rfl, rfl, hK0, hK1, hown, hkp, hmk⟩ := hrel
    by_cases hlt : j < n
    · have hlt' : (j : Int) < (n : Int) := by omega
      have hj0 : (0 : Int) ≤ (j : Int) := by omega
      have hlen : cs.length = n * 5 := hown.1
      have HL : Hid (cs.length = n * 5) := hlen
      clear hlen
      obtain ⟨g, g', evs, hg, hg', r1, r2⟩ := HR.out j hlt
      have HR1 : Hid (∃ cs, wr.ownsRow A 85 3 (.slice (some ⟨g, 0, none⟩) (xs.getD j noB).ms.length (xs.getD j noB).ms.length) (xs.getD j noB).ms.length cs) := own_like hmk r1
      have HR2 : Hid (∃ cs, wr.ownsRow A 9 1 (.slice (some ⟨g', 0, none⟩) (xs.getD j noB).ks.length (xs.getD j noB).ks.length) (xs.getD j noB).ks.length cs) := own_like hmk r2
      have hgB : g < B := (HA.out.2 j (by rw [← HN.out]; exact hlt)).1 g (by rw [evs]; rfl)
      have hgB' : g' < B := (HA.out.2 j (by rw [← HN.out]; exact hlt)).2 g' (by rw [evs]; rfl)
      have hsk := HS.out.2 j (by rw [← HN.out]; exact hlt)
      have hml : (xs.getD j noB).ms.length ≤ 1048576 := hsk.2.2.1.1
      have hkl : (xs.getD j noB).ks.length ≤ 1048576 := hsk.2.2.2.1
      obtain ⟨e3, e4⟩ := hkp j hlt
      rw [evs] at e3 e4
      simp only at e3 e4
      clear r1 r2 evs hsk
      generalize (xs.getD j noB).ms.length = m1 at *
      generalize (xs.getD j noB).ks.length = m2 at *
      have HE : Hid (cs[j * 5 + 3]? = some (.slice (some ⟨g, 0, none⟩) m1 m1) ∧ cs[j * 5 + 4]? = some (.slice (some ⟨g', 0, none⟩) m2 m2)) := ⟨e3, e4⟩
      have HKP : Hid (Kept cs n vs) := hkp
      have HMK : Hid (Mk A B w wr) := hmk
      clear e3 e4 hkp hmk
      go_wp2_with fail
      refine (mark_some K _ (by omega) (by omega)).mono ?_
      rintro e w1 ⟨⟨s, rfl⟩, hb⟩
      have o1 := ow.own_below hown hb
      have HO1 : Hid (w1.ownsRow A 54 5 (.slice (some ⟨A, 0, none⟩) n n) n cs) := o1
      have HMK1 : Hid (Mk A B w w1) := HMK.out.trans (mk_below hb)
      have HR1 : Hid (∃ cs, w1.ownsRow A 85 3 (.slice (some ⟨g, 0, none⟩) m1 m1) m1 cs) := own_like (mk_below (A := A) (B := B) hb) HR1.out
      have HR2 : Hid (∃ cs, w1.ownsRow A 9 1 (.slice (some ⟨g', 0, none⟩) m2 m2) m2 cs) := own_like (mk_below (A := A) (B := B) hb) HR2.out
      have q0 := o1.cellAt (j * 5) (by omega)
      have q1 := o1.cellAt (j * 5 + 1) (by omega)
      have q2 := o1.cellAt (j * 5 + 2) (by omega)
      have q3 := o1.cellAt (j * 5 + 3) (by omega)
      rw [List.getElem?_eq_getElem (by rw [HL.out]; omega)] at q0 q1 q2
      rw [HE.out.1] at q3
      have f0 := o1.frozenAt (j * 5)
      have f1 := o1.frozenAt (j * 5 + 1)
      have f2 := o1.frozenAt (j * 5 + 2)
      generalize cs[j * 5]'(by rw [HL.out]; omega) = u0 at q0
      generalize cs[j * 5 + 1]'(by rw [HL.out]; omega) = u1 at q1
      generalize cs[j * 5 + 2]'(by rw [HL.out]; omega) = u2 at q2
      clear o1 hown hb HMK
      go_wp2_with fail
      have HX : Hid ((((w1.setCell ⟨A, j * 5, none⟩ (.string s)).setCell ⟨A, j * 5 + 1, none⟩ (.int .i64 (K + 1))).setCell ⟨A, j * 5 + 2, none⟩ (.int .i64 (K + 1 + 1))).ownsRow A 54 5 (.slice (some ⟨A, 0, none⟩) n n) n (((cs.set (j * 5) (.string s)).set (j * 5 + 1) (.int .i64 (K + 1))).set (j * 5 + 2) (.int .i64 (K + 1 + 1))) ∧ w1.grownBy (((w1.setCell ⟨A, j * 5, none⟩ (.string s)).setCell ⟨A, j * 5 + 1, none⟩ (.int .i64 (K + 1))).setCell ⟨A, j * 5 + 2, none⟩ (.int .i64 (K + 1 + 1))) (some A)) := ⟨(((HO1.out.stored _ _).1.stored _ _).1.stored _ _).1, ow.grown_trans (ow.grown_trans (grown_set _ _ _ _) (grown_set _ _ _ _)) (grown_set _ _ _ _)⟩
      clear q0 q1 q2 q3 f0 f1 f2
      generalize hX : World.setCell _ _ _ = X at HX ⊢
      clear hX
      have HKP1 : Hid (Kept (((cs.set (j * 5) (.string s)).set (j * 5 + 1) (.int .i64 (K + 1))).set (j * 5 + 2) (.int .i64 (K + 1 + 1))) n vs) := kept_set HKP.out _ _ _
      have HE1 : Hid ((((cs.set (j * 5) (.string s)).set (j * 5 + 1) (.int .i64 (K + 1))).set (j * 5 + 2) (.int .i64 (K + 1 + 1)))[j * 5 + 4]? = some (.slice (some ⟨g', 0, none⟩) m2 m2)) := by rw [List.getElem?_set_ne (by omega), List.getElem?_set_ne (by omega), List.getElem?_set_ne (by omega)]; exact HE.out.2
      generalize (((cs.set (j * 5) (Value.string s)).set (j * 5 + 1) (.int .i64 (K + 1))).set (j * 5 + 2) (.int .i64 (K + 1 + 1))) = cs1 at HX HKP1 HE1
      have hm1 : Mk A B w1 X := mk_grown HX.out.2 HO1.out HX.out.1 (Nat.le_refl _) hAB
      have HMK2 : Hid (Mk A B w X) := HMK1.out.trans hm1
      obtain ⟨y1, HY1⟩ := own_like hm1 HR1.out
      have HR2 : Hid (∃ cs, X.ownsRow A 9 1 (.slice (some ⟨g', 0, none⟩) m2 m2) m2 cs) := own_like hm1 HR2.out
      clear hm1 HMK1 HO1 HE HKP HR1
      refine (markM_some A m1 g m1 y1 (K + 1 + 1 + 1) X HY1 hml (by omega) (by omega)).mono ?_
      rintro e w2 ⟨rfl, ⟨y2, HY2⟩, hgr⟩
      have hAlt : A < X.heap.size := own_lt HX.out.1 A rfl
      have hm2 : Mk A B X w2 := mk_grown hgr HY1 HY2 (by omega) hgB
      have o2 := mu.own_block HX.out.1 (hgr.block A hAlt (by intro e; cases e; omega))
      have HO2 : Hid (w2.ownsRow A 54 5 (.slice (some ⟨A, 0, none⟩) n n) n cs1) := o2
      have HMK3 : Hid (Mk A B w w2) := HMK2.out.trans hm2
      obtain ⟨z1, HZ1⟩ := own_like hm2 HR2.out
      have q4 := o2.cellAt (j * 5 + 4) (by omega)
      rw [HE1.out] at q4
      clear hm2 HMK2 hgr HY1 HY2 HX HR2 o2 hAlt
      have hmI : (m1 : Int) ≤ 1048576 := by omega
      have hmI0 : (0 : Int) ≤ (m1 : Int) := by omega
      have hkI : (m2 : Int) ≤ 1048576 := by omega
      have hkI0 : (0 : Int) ≤ (m2 : Int) := by omega
      go_wp2_with fail
      refine (markT_some A m2 g' m2 z1 (K + 1 + 1 + 1 + 3 * (m1 : Int)) w2 HZ1 hkl (by omega) (by omega)).mono ?_
      rintro e w3 ⟨rfl, ⟨z2, HZ2⟩, hgr⟩
      have hAlt : A < w2.heap.size := own_lt HO2.out A rfl
      have hm3 : Mk A B w2 w3 := mk_grown hgr HZ1 HZ2 (by omega) hgB'
      have HO3 : Hid (w3.ownsRow A 54 5 (.slice (some ⟨A, 0, none⟩) n n) n cs1) := mu.own_block HO2.out (hgr.block A hAlt (by intro e; cases e; omega))
      have HMK4 : Hid (Mk A B w w3) := HMK3.out.trans hm3
      clear hm3 HMK3 hgr HZ1 HZ2 HO2 hAlt q4
      go_wp2
      go_roundw
      case rel => exact ⟨j + 1, K + 1 + 1 + 1 + 3 * (m1 : Int) + (m2 : Int), cs1, by omega, rfl, by go_num, by omega, by omega, HO3.out, HKP1.out, HMK4.out⟩
      case measure => simp [intOf]; omega
    · have HMK : Hid (Mk A B w wr) := hmk
      clear hmk hkp hown
      go_wp2
      go_ret
      exact ⟨⟨_, ⟨hK0, by omega⟩, rfl⟩, HMK.out⟩
theorem row_other {w w' : World} {b e s n : Nat} {v u : Value} {xs : List Value} (h : w.ownsRow b e s v n xs) (hg : w.grownBy w' u.ownBlock) (hd : v.ownBlock = none ∨ v.ownBlock ≠ u.ownBlock) : w'.ownsRow b e s v n xs := by
  rcases h.2 with ⟨rfl, hz⟩ | ⟨g, cap, cur, rfl, hB, hh, r⟩
  · exact ⟨h.1, .inl ⟨rfl, hz⟩⟩
  · refine mu.own_block h (hg.block g (Array.getElem?_eq_some_iff.1 hh).1 ?_)
    rcases hd with e | e
    · cases e
    · exact e

end Go.Proofs.YtcnjgmeddkidaaaGreatDoor.mx

namespace Go.Proofs.YtcnjgmeddkidaaaGreatDoor.bl
open Go.ChangeShapes Go.WideShapes Go.ChangeAt Go.RowKit Go.Deep Go.Joins
open st gr bx mx
set_option linter.unusedVariables false

/-- The cells of the first n boxes. -/
def bcells (xs : List Bx) (vs : Nat → Value × Value) : Nat → List Value
  | 0 => []
  | n + 1 => bcells xs vs n ++ [.string (xs.getD n noB).nm, .int .i64 (xs.getD n noB).vd, .int .i64 (xs.getD n noB).nx, (vs n).1, (vs n).2]
theorem bcells_len (xs : List Bx) (vs : Nat → Value × Value) : ∀ n, (bcells xs vs n).length = n * 5
  | 0 => rfl
  | n + 1 => by simp [bcells, bcells_len xs vs n]; omega
theorem bcells_at (xs : List Bx) (vs : Nat → Value × Value) : ∀ n j, j < n → In5 (bcells xs vs n) (j * 5) (xs.getD j noB) (vs j)
  | 0, j, hj => absurd hj (Nat.not_lt_zero _)
  | n + 1, j, hj => by
    have hl := bcells_len xs vs n
    unfold In5
    by_cases e : j < n
    · obtain ⟨h0, h1, h2, h3, h4⟩ := bcells_at xs vs n j e
      rw [bcells, List.getElem?_append_left (by omega), List.getElem?_append_left (by omega), List.getElem?_append_left (by omega), List.getElem?_append_left (by omega), List.getElem?_append_left (by omega)]
      exact ⟨h0, h1, h2, h3, h4⟩
    · obtain rfl : j = n := by omega
      rw [bcells, List.getElem?_append_right (by omega), List.getElem?_append_right (by omega), List.getElem?_append_right (by omega), List.getElem?_append_right (by omega), List.getElem?_append_right (by omega), hl]
      rw [show j * 5 - j * 5 = 0 by omega, show j * 5 + 1 - j * 5 = 1 by omega, show j * 5 + 2 - j * 5 = 2 by omega, show j * 5 + 3 - j * 5 = 3 by omega, show j * 5 + 4 - j * 5 = 4 by omega]
      exact ⟨rfl, rfl, rfl, rfl, rfl⟩
theorem bcells_ext {xs : List Bx} {vs : Nat → Value × Value} {n : Nat} {cs : List Value} (hl : cs.length = n * 5) (h : LayB xs vs n cs) : cs = bcells xs vs n := by
  refine List.ext_getElem? fun i => ?_
  by_cases hi : i < n * 5
  · have hq : i / 5 < n := by omega
    obtain ⟨a0, a1, a2, a3, a4⟩ := h (i / 5) hq
    obtain ⟨b0, b1, b2, b3, b4⟩ := bcells_at xs vs n (i / 5) hq
    have hr : i % 5 = 0 ∨ i % 5 = 1 ∨ i % 5 = 2 ∨ i % 5 = 3 ∨ i % 5 = 4 := by omega
    rcases hr with hr | hr | hr | hr | hr
    · rw [show i = i / 5 * 5 by omega, a0, b0]
    · rw [show i = i / 5 * 5 + 1 by omega, a1, b1]
    · rw [show i = i / 5 * 5 + 2 by omega, a2, b2]
    · rw [show i = i / 5 * 5 + 3 by omega, a3, b3]
    · rw [show i = i / 5 * 5 + 4 by omega, a4, b4]
  · rw [List.getElem?_eq_none (by omega), List.getElem?_eq_none (by rw [bcells_len]; omega)]
theorem bcells_one {xs : List Bx} {vs : Nat → Value × Value} : ∀ {n : Nat}, (∀ j, j < n → (vs j).1.oneCell' = true ∧ (vs j).2.oneCell' = true) → ∀ u ∈ bcells xs vs n, u.oneCell' = true
  | 0, _, u, hu => by simp [bcells] at hu
  | n + 1, h, u, hu => by
    rw [bcells, List.mem_append] at hu
    rcases hu with hu | hu
    · exact bcells_one (fun j hj => h j (by omega)) u hu
    · have hn := h n (by omega)
      simp only [List.mem_cons, List.not_mem_nil, or_false] at hu
      rcases hu with rfl | rfl | rfl | rfl | rfl
      · rfl
      · rfl
      · rfl
      · exact hn.1
      · exact hn.2
theorem fine_one {v : Value} (h : Fine v) : v.oneCell' = true := by
  rcases h with rfl | ⟨ad, n, c, rfl⟩
  · rfl
  · rfl
/-- The list's row alone. -/
def OwnB (w : World) (base : Nat) (v : Value) (xs : List Bx) (vs : Nat → Value × Value) : Prop := w.ownsRow base 54 5 v xs.length (bcells xs vs xs.length)
/-- No two rows lie in one block. -/
def Dis (vs : Nat → Value × Value) (n : Nat) : Prop := ∀ i j, i < j → j < n → ((vs i).1.ownBlock = none ∨ (vs i).1.ownBlock ≠ (vs j).1.ownBlock) ∧ ((vs i).2.ownBlock = none ∨ (vs i).2.ownBlock ≠ (vs j).2.ownBlock)
/-- The rows of the first n boxes are owned. -/
def OwnR (w : World) (base : Nat) (xs : List Bx) (vs : Nat → Value × Value) (n : Nat) : Prop := ∀ j, j < n → OwnM w base (vs j).1 (xs.getD j noB).ms ∧ OwnK w base (vs j).2 (xs.getD j noB).ks
/-- A list of boxes that is one's own, all of it. -/
def OwnL (w : World) (base : Nat) (v : Value) (xs : List Bx) (vs : Nat → Value × Value) : Prop := OwnB w base v xs vs ∧ OwnR w base xs vs xs.length ∧ Dis vs xs.length
theorem ownR_below {w w' : World} {base : Nat} {xs : List Bx} {vs : Nat → Value × Value} {n : Nat} (h : OwnR w base xs vs n) (hb : Below w.heap.size w w') : OwnR w' base xs vs n := fun j hj => ⟨ow.own_below (h j hj).1 hb, ow.own_below (h j hj).2 hb⟩
theorem ownL_below {w w' : World} {base : Nat} {v : Value} {xs : List Bx} {vs : Nat → Value × Value} (h : OwnL w base v xs vs) (hb : Below w.heap.size w w') : OwnL w' base v xs vs := ⟨ow.own_below h.1 hb, ownR_below h.2.1 hb, h.2.2⟩
theorem ownL_boxes {w : World} {base : Nat} {v : Value} {xs : List Bx} {vs : Nat → Value × Value} (h : OwnL w base v xs vs) : BoxesAt w v xs vs := by
  refine ⟨?_, fun j hj => ⟨ownM_in (h.2.1 j hj).1 (Nat.le_refl _), ownK_in (h.2.1 j hj).2 (Nat.le_refl _)⟩⟩
  have ho : w.ownsRow base 54 5 v xs.length (bcells xs vs xs.length) := h.1
  rcases ho.2 with ⟨rfl, hz⟩ | ⟨g, cap, cur, rfl, _, hh, _⟩
  · exact ⟨none, 0, by rw [hz], .inl (List.eq_nil_of_length_eq_zero hz)⟩
  · refine ⟨_, cap, rfl, .inr ⟨g, 0, rfl, (Array.getElem?_eq_some_iff.1 hh).1, fun j hj => ?_⟩⟩
    obtain ⟨h0, h1, h2, h3, h4⟩ := bcells_at xs vs xs.length j hj
    refine ⟨?_, ?_, ?_, ?_, ?_⟩
    · rw [Nat.zero_add, ho.cellAt _ (by omega), h0]
    · rw [Nat.zero_add, ho.cellAt _ (by omega), h1]
    · rw [Nat.zero_add, ho.cellAt _ (by omega), h2]
    · rw [Nat.zero_add, ho.cellAt _ (by omega), h3]
    · rw [Nat.zero_add, ho.cellAt _ (by omega), h4]
theorem ownL_fines {w : World} {base : Nat} {v : Value} {xs : List Bx} {vs : Nat → Value × Value} (h : OwnL w base v xs vs) : Fine v ∧ Fines xs vs := ⟨own_fine h.1, fun j hj => ⟨own_fine (h.2.1 j hj).1, own_fine (h.2.1 j hj).2⟩⟩
theorem src_boxes {w : World} {ad : Addr} {n c : Nat} {xs : List Bx} {vs : Nat → Value × Value} (h : BoxesAt w (.slice (some ad) n c) xs vs) : n = xs.length ∧ ∀ j u, (bcells xs vs xs.length)[j]? = some u → w.cell? (ad.add j) = some u := by
  obtain ⟨⟨a, cap, e, h⟩, _⟩ := h
  cases e
  refine ⟨rfl, fun i u hu => ?_⟩
  have hi : i < xs.length * 5 := by
    have := (List.getElem?_eq_some_iff.1 hu).1
    rwa [bcells_len] at this
  rcases h with h | ⟨b, off, e, _, h⟩
  · rw [h] at hi; simp at hi
  · cases e
    rw [show ((⟨b, off, none⟩ : Addr).add i) = ⟨b, off + i, none⟩ from by simp [Addr.add]]
    have hq : i / 5 < xs.length := by omega
    obtain ⟨a0, a1, a2, a3, a4⟩ := h (i / 5) hq
    obtain ⟨b0, b1, b2, b3, b4⟩ := bcells_at xs vs xs.length (i / 5) hq
    have hr : i % 5 = 0 ∨ i % 5 = 1 ∨ i % 5 = 2 ∨ i % 5 = 3 ∨ i % 5 = 4 := by omega
    rcases hr with hr | hr | hr | hr | hr
    · rw [show i = i / 5 * 5 by omega, b0] at hu; cases hu
      rw [show off + i = off + i / 5 * 5 by omega, a0]
    · rw [show i = i / 5 * 5 + 1 by omega, b1] at hu; cases hu
      rw [show off + i = off + i / 5 * 5 + 1 by omega, a1]
    · rw [show i = i / 5 * 5 + 2 by omega, b2] at hu; cases hu
      rw [show off + i = off + i / 5 * 5 + 2 by omega, a2]
    · rw [show i = i / 5 * 5 + 3 by omega, b3] at hu; cases hu
      rw [show off + i = off + i / 5 * 5 + 3 by omega, a3]
    · rw [show i = i / 5 * 5 + 4 by omega, b4] at hu; cases hu
      rw [show off + i = off + i / 5 * 5 + 4 by omega, a4]

end Go.Proofs.YtcnjgmeddkidaaaGreatDoor.bl

namespace Go.Proofs.YtcnjgmeddkidaaaGreatDoor.bl
open Go.ChangeShapes Go.WideShapes Go.ChangeAt Go.RowKit Go.Deep Go.Joins
open st gr bx mx
set_option linter.unusedVariables false

theorem bcells_put {xs : List Bx} {us : Nat → Value × Value} {n k : Nat} (hk : k < n) {x : Bx} (hx : xs.getD k noB = x) (p : Value × Value) : put5 (bcells xs us n) (k * 5) x p = bcells xs (upd us k p) n := by
  refine bcells_ext (by rw [put5_len, bcells_len]) fun j hj => ?_
  by_cases e : j = k
  · subst e
    simp only [upd, if_true]
    rw [hx]
    exact put5_same (by rw [bcells_len]; omega)
  · simp only [upd, if_neg e]
    exact in5_other (bcells_at xs us n j hj) (by omega)
theorem ownR_row {w w' : World} {base b e s n m : Nat} {v : Value} {cs : List Value} {xs : List Bx} {us : Nat → Value × Value} (h : OwnR w base xs us n) (ho : w.ownsRow b e s v m cs) (hg : w.grownBy w' v.ownBlock) (h1 : 85 ≠ e) (h2 : 9 ≠ e) : OwnR w' base xs us n := fun j hj =>
  ⟨row_other (h j hj).1 hg (rowkinds (h j hj).1 ho h1), row_other (h j hj).2 hg (rowkinds (h j hj).2 ho h2)⟩
theorem ownR_step {w : World} {base : Nat} {xs : List Bx} {us : Nat → Value × Value} {k : Nat} {x : Bx} {p q : Value} (h : OwnR w base xs us k) (hx : xs.getD k noB = x) (h1 : OwnM w base p x.ms) (h2 : OwnK w base q x.ks) : OwnR w base xs (upd us k (p, q)) (k + 1) := by
  intro j hj
  by_cases e : j = k
  · subst e
    simp only [upd, if_true]
    rw [hx]
    exact ⟨h1, h2⟩
  · simp only [upd, if_neg e]
    exact h j (by omega)
theorem dis_step {w w2 : World} {base : Nat} {xs : List Bx} {us : Nat → Value × Value} {k : Nat} {x : Bx} {p q : Value} (hd : Dis us k) (h : OwnR w base xs us k) (h1 : OwnM w2 w.heap.size p x.ms) (h2 : OwnK w2 w.heap.size q x.ks) : Dis (upd us k (p, q)) (k + 1) := by
  intro i j hij hj
  have hi : i ≠ k := by omega
  by_cases e : j = k
  · subst e
    simp only [upd, if_true, if_neg hi]
    exact ⟨ow.apart (h i hij).1 h1, ow.apart (h i hij).2 h2⟩
  · simp only [upd, if_neg e, if_neg hi]
    exact hd i j hij (by omega)

end Go.Proofs.YtcnjgmeddkidaaaGreatDoor.bl

namespace Go.Proofs.YtcnjgmeddkidaaaGreatDoor.bl
open Go.ChangeShapes Go.WideShapes Go.ChangeAt Go.RowKit Go.Deep Go.Joins
open st gr bx mx
set_option linter.unusedVariables false

theorem bcells_congr {xs : List Bx} {us vs : Nat → Value × Value} : ∀ {n : Nat}, (∀ j, j < n → us j = vs j) → bcells xs us n = bcells xs vs n
  | 0, _ => rfl
  | n + 1, h => by rw [bcells, bcells, bcells_congr (fun j hj => h j (by omega)), h n (by omega)]
theorem bcells_snoc {xs : List Bx} {us : Nat → Value × Value} {k : Nat} {x : Bx} (hx : xs.getD k noB = x) (p q : Value) : bcells xs us k ++ [.string x.nm, .int .i64 x.vd, .int .i64 x.nx, p, q] = bcells xs (upd us k (p, q)) (k + 1) := by
  rw [bcells, hx]
  rw [bcells_congr (us := upd us k (p, q)) (vs := us) (fun j hj => by simp only [upd, if_neg (show j ≠ k by omega)])]
  simp only [upd, if_true]
theorem slice_fine {v : Value} (h : Fine v) : ∃ a n c, v = .slice a n c := by
  rcases h with rfl | ⟨ad, n, c, rfl⟩
  · exact ⟨_, _, _, rfl⟩
  · exact ⟨_, _, _, rfl⟩

set_option maxHeartbeats 4000000 in
set_option maxRecDepth 100000 in
theorem spec_own (v : Value) (xs : List Bx) (vs : Nat → Value × Value) (w : World) (h : BoxesAt w v xs vs) (hf : Fines xs vs) (hs : bx.Smalls xs) :
    Calls Tryz.prog 19 #[v] w fun e w' => (∃ L us, e = .returned L ∧ OwnL w' w.heap.size L xs us) ∧ Below w.heap.size w w' := by
  have HALL : Hid (BoxesIn w w.heap.size v xs vs) := h
  obtain ⟨⟨a, cap, rfl, hc⟩, _⟩ := h
  obtain ⟨i0, hi, hz0, hz1, hz2⟩ := info_parts infoB
  obtain ⟨n, hn⟩ : ∃ n, n = xs.length := ⟨_, rfl⟩
  have HN : Hid (n = xs.length) := hn
  have HH : Hid (xs = [] ∨ ∃ b off, a = some ⟨b, off, none⟩ ∧ b < w.heap.size ∧ ∀ j, j < xs.length → At5 w b (off + j * 5) (xs.getD j noB) (vs j)) := hc
  have HS : Hid (bx.Smalls xs) := hs
  have HF : Hid (Fines xs vs) := hf
  have hl : n ≤ 1048576 := by rw [hn]; exact hs.1
  rw [← hn] at HALL ⊢
  have hb0 := bx.new_below w 54 #[]
  have HO0 : Hid ((w.alloc (.cells #[] 54)).ownsRow w.heap.size 54 5 (.slice (some ⟨w.heap.size, 0, none⟩) 0 0) 0 []) := World.ownsRow_made w #[] 0 (Nat.le_refl _) (Nat.zero_le _) rfl
  clear hc hs hn hf
  go_enter Tryz.func19, Tryz.ntmps19
  go_wp2
  go_loopw [3, 4] (fun o i wr => ∃ (k : Nat) (us : Nat → Value × Value), k ≤ n ∧ i = .int .i64 k ∧ wr.ownsRow w.heap.size 54 5 o k (bcells xs us k) ∧ OwnR wr w.heap.size xs us k ∧ Dis us k ∧ Below w.heap.size w wr) (fun _ i _ => n - (intOf i).toNat)
  case atStart => exact ⟨0, vs, Nat.zero_le _, rfl, HO0.out, fun j hj => absurd hj (Nat.not_lt_zero _), fun i j hij hj => absurd hj (Nat.not_lt_zero _), hb0⟩
  case round =>
    clear HO0 hb0
    obtain ⟨k, us, hk, rfl, hown, hor, hd, hbw⟩ := hrel
    have HR : Hid (OwnR wr w.heap.size xs us k ∧ Dis us k) := ⟨hor, hd⟩
    clear hor hd
    by_cases hlt : k < n
    · have hka : k < xs.length := by rw [← HN.out]; exact hlt
      rcases HH.out with e | ⟨b, off, rfl, hbl, hcells⟩
      · rw [e] at hka; simp at hka
      have hat := (hcells k hka).keep hbw hbl
      have hrw := (boxes_in_below HALL.out hbw (Nat.le_refl _)).2 k hka
      have hsk := HS.out.2 k hka
      have hfk := HF.out k hka
      clear hcells hka
      generalize hx : xs.getD k noB = x at hat hrw hsk
      have HX : Hid (xs.getD k noB = x) := hx
      generalize vs k = q at hat hrw hfk
      obtain ⟨p1, p2⟩ := q
      obtain ⟨c0, c1, c2, c3, c4⟩ := hat
      simp only at c0 c1 c2 c3 c4 hrw hfk
      have HRW : Hid (bx.RowsIn wr w.heap.size p1 p2 x.ms x.ks ∧ Fine p1 ∧ Fine p2 ∧ x.ms.length ≤ 1048576 ∧ x.ks.length ≤ 1048576) := ⟨hrw, hfk.1, hfk.2, hsk.2.2.1.1, hsk.2.2.2.1⟩
      obtain ⟨⟨a2, cap2, rfl, _⟩, ⟨a3, cap3, rfl, _⟩⟩ := hrw
      obtain ⟨oa, on, oc, ho⟩ := slice_fine (own_fine hown)
      subst ho
      have hlt' : (k : Int) < (n : Int) := by omega
      clear hx hsk hfk
      go_wp2_with fail
      refine (l09Box_any x _ _ w.heap.size wr HRW.out.1 hbw.size HRW.out.2.1 HRW.out.2.2.1 HRW.out.2.2.2.1 HRW.out.2.2.2.2).mono ?_
      rintro e w2 ⟨⟨v', u', rfl, hm2, hk2⟩, hb2⟩
      have hown2 := ow.own_below hown hb2
      have hbw2 := hbw.trans (hb2.mono hbw.size)
      have HR2 : Hid (OwnR w2 w.heap.size xs (upd us k (v', u')) (k + 1) ∧ Dis (upd us k (v', u')) (k + 1)) := ⟨ownR_step (ownR_below HR.out.1 hb2) HX.out (mu.own_lower hm2 hbw.size) (mu.own_lower hk2 hbw.size), dis_step HR.out.2 HR.out.1 hm2 hk2⟩
      obtain ⟨va, vn, vc, rfl⟩ := slice_fine (own_fine hm2)
      obtain ⟨ua, un, uc, rfl⟩ := slice_fine (own_fine hk2)
      clear hb2 hbw hown c0 c1 c2 c3 c4 HRW HR hm2 hk2
      have HO2 : Hid ((w2.alloc (.cells #[.string x.nm, .int .i64 x.vd, .int .i64 x.nx, .slice va vn vc, .slice ua un uc] 54)).ownsRow w.heap.size 54 5 (.slice oa on oc) k (bcells xs us k)) := hown2.alloc _
      have HR3 : Hid (OwnR (w2.alloc (.cells #[.string x.nm, .int .i64 x.vd, .int .i64 x.nx, .slice va vn vc, .slice ua un uc] 54)) w.heap.size xs (upd us k (.slice va vn vc, .slice ua un uc)) (k + 1)) := ownR_below HR2.out.1 (bx.new_below _ _ _)
      have HB3 : Hid (Below w.heap.size w (w2.alloc (.cells #[.string x.nm, .int .i64 x.vd, .int .i64 x.nx, .slice va vn vc, .slice ua un uc] 54)) ∧ w.heap.size ≤ (w2.alloc (.cells #[.string x.nm, .int .i64 x.vd, .int .i64 x.nx, .slice va vn vc, .slice ua un uc] 54)).heap.size) := ⟨hbw2.alloc hbw2.size _, (hbw2.alloc hbw2.size _).size⟩
      clear hown2 hbw2
      unfold BV
      go_wp2_with (at_builtin; refine wpList_append_own _ rfl _ _ 25 rfl w.heap.size 54 i0 _ 5 80 Tryz.underlying25 hi hz0 hz1 hz2 rfl (by decide) _ _ _ rfl HO2.out ⟨w2.heap.size, 0, none⟩ 1 1 [.string x.nm, .int .i64 x.vd, .int .i64 x.nx, .slice va vn vc, .slice ua un uc] rfl rfl (ow.cells_new _ [.string x.nm, .int .i64 x.vd, .int .i64 x.nx, .slice va vn vc, .slice ua un uc] _) (by intro u hu; simp at hu; rcases hu with rfl | rfl | rfl | rfl | rfl <;> rfl) (by unfold maxLen; omega) (by omega) HB3.out.2 ?_; intro v3 w3 hown hgrow hnil)
      have HE : Hid (w3.ownsRow w.heap.size 54 5 v3 (k + 1) (bcells xs (upd us k (.slice va vn vc, .slice ua un uc)) (k + 1)) ∧ OwnR w3 w.heap.size xs (upd us k (.slice va vn vc, .slice ua un uc)) (k + 1) ∧ Below w.heap.size w w3) := by
        refine ⟨?_, ownR_row HR3.out HO2.out hgrow (by decide) (by decide), HB3.out.1.grown hgrow HB3.out.2 (fun j hj => (HO2.out.lt j hj).1)⟩
        rw [← bcells_snoc HX.out]
        exact hown
      clear hown hgrow hnil HO2 HR3 HB3
      go_wp2
      go_roundw
      case rel => exact ⟨k + 1, _, by omega, by go_num, HE.out.1, HE.out.2.1, HR2.out.2, HE.out.2.2⟩
      case measure => simp [intOf]; omega
    · obtain rfl : k = n := by omega
      obtain ⟨oa, on, oc, ho⟩ := slice_fine (own_fine hown)
      subst ho
      have HQ : Hid (OwnL wr w.heap.size (.slice oa on oc) xs us) := by
        refine ⟨?_, ?_, ?_⟩
        · unfold OwnB; rw [← HN.out]; exact hown
        · rw [← HN.out]; exact HR.out.1
        · rw [← HN.out]; exact HR.out.2
      go_wp2
      go_ret
      exact ⟨⟨_, _, rfl, HQ.out⟩, hbw⟩
end Go.Proofs.YtcnjgmeddkidaaaGreatDoor.bl
