/-
  A list of boxes that is one's own, marked by the law's own function: what stands in it then.
  A list of boxes that is one's own, marked by the law's own function.
  A list of boxes, held against its marks by the law's own function.
-/
import Derived.Test.YtcnjgmeddkidaaaGreatDoorPkaq

namespace Go.Proofs.YtcnjgmeddkidaaaGreatDoor.ml
open Go.RowKit
open gr mk st bx mm mx bl
open ky (TextsAt OwnT own_texts)
set_option linter.unusedVariables false

/-- The number at which the marks of box j begin. -/
def kAt (xs : List Bx) : Nat → Int
  | 0 => 1
  | j + 1 => kAt xs j + 3 + 3 * ((xs.getD j noB).ms.length : Int) + ((xs.getD j noB).ks.length : Int)
/-- Few boxes, with few mails and keys. -/
def Few (xs : List Bx) : Prop := xs.length ≤ 10 ∧ ∀ j, j < xs.length → (xs.getD j noB).ms.length ≤ 1000 ∧ (xs.getD j noB).ks.length ≤ 1000
theorem kAt_in {xs : List Bx} (h : Few xs) : ∀ {j : Nat}, j ≤ xs.length → 0 < kAt xs j ∧ kAt xs j ≤ 1 + 5000 * (j : Int)
  | 0, _ => by simp [kAt]
  | j + 1, hj => by
    have hi := kAt_in h (j := j) (by omega)
    have hb := h.2 j (by omega)
    rw [kAt]
    omega
/-- The rows of box i carry its marks. -/
def RowMk (w : World) (base : Nat) (xs : List Bx) (us : Nat → Value × Value) (i : Nat) : Prop :=
  w.ownsRow base 85 3 (us i).1 (xs.getD i noB).ms.length (marksM (kAt xs i + 3) (xs.getD i noB).ms.length) ∧ w.ownsRow base 9 1 (us i).2 (xs.getD i noB).ks.length ((marks (kAt xs i + 3 + 3 * ((xs.getD i noB).ms.length : Int)) (xs.getD i noB).ks.length).map Value.string)
def CellMk (xs : List Bx) (cs : List Value) (i : Nat) : Prop := cs[i * 5]? = some (.string (mt (kAt xs i))) ∧ cs[i * 5 + 1]? = some (.int .i64 (kAt xs i + 1)) ∧ cs[i * 5 + 2]? = some (.int .i64 (kAt xs i + 2))
/-- The first j boxes are marked, the others as they were. -/
def MB (w : World) (base : Nat) (L : Value) (xs : List Bx) (us : Nat → Value × Value) (j : Nat) (cs : List Value) : Prop :=
  w.ownsRow base 54 5 L xs.length cs ∧ Kept cs xs.length us ∧ (∀ i, i < j → CellMk xs cs i) ∧ (∀ i, i < j → RowMk w base xs us i) ∧ ∀ i, j ≤ i → i < xs.length → OwnM w base (us i).1 (xs.getD i noB).ms ∧ OwnK w base (us i).2 (xs.getD i noB).ks
theorem mb_start {w : World} {base : Nat} {L : Value} {xs : List Bx} {us : Nat → Value × Value} (h : OwnL w base L xs us) : MB w base L xs us 0 (bcells xs us xs.length) :=
  ⟨h.1, fun j hj => ⟨(bcells_at xs us _ j hj).2.2.2.1, (bcells_at xs us _ j hj).2.2.2.2⟩, fun i hi => absurd hi (Nat.not_lt_zero _), fun i hi => absurd hi (Nat.not_lt_zero _), fun i _ hi => h.2.1 i hi⟩
theorem cellMk_set {xs : List Bx} {cs : List Value} {i j : Nat} (h : CellMk xs cs i) (hij : i < j) (a b c : Value) : CellMk xs (((cs.set (j * 5) a).set (j * 5 + 1) b).set (j * 5 + 2) c) i := by
  obtain ⟨h0, h1, h2⟩ := h
  refine ⟨?_, ?_, ?_⟩
  · rw [List.getElem?_set_ne (by omega), List.getElem?_set_ne (by omega), List.getElem?_set_ne (by omega), h0]
  · rw [List.getElem?_set_ne (by omega), List.getElem?_set_ne (by omega), List.getElem?_set_ne (by omega), h1]
  · rw [List.getElem?_set_ne (by omega), List.getElem?_set_ne (by omega), List.getElem?_set_ne (by omega), h2]
theorem cellMk_new {xs : List Bx} {cs : List Value} {j : Nat} (hl : j * 5 + 4 < cs.length) : CellMk xs (((cs.set (j * 5) (.string (mt (kAt xs j)))).set (j * 5 + 1) (.int .i64 (kAt xs j + 1))).set (j * 5 + 2) (.int .i64 (kAt xs j + 2))) j := by
  refine ⟨?_, ?_, ?_⟩
  · rw [List.getElem?_set_ne (by omega), List.getElem?_set_ne (by omega), List.getElem?_set_self (by omega)]
  · rw [List.getElem?_set_ne (by omega), List.getElem?_set_self (by simp; omega)]
  · rw [List.getElem?_set_self (by simp; omega)]
/-- Rows that lie apart from a block that is written stay. -/
theorem rowMk_grown {w w' : World} {base : Nat} {xs : List Bx} {us : Nat → Value × Value} {i : Nat} {v : Value} (h : RowMk w base xs us i) (hg : w.grownBy w' v.ownBlock) (h1 : (us i).1.ownBlock = none ∨ (us i).1.ownBlock ≠ v.ownBlock) (h2 : (us i).2.ownBlock = none ∨ (us i).2.ownBlock ≠ v.ownBlock) : RowMk w' base xs us i := ⟨row_other h.1 hg h1, row_other h.2 hg h2⟩
theorem own_grown2 {w w' : World} {base : Nat} {x : Bx} {p : Value × Value} {v : Value} (h : OwnM w base p.1 x.ms ∧ OwnK w base p.2 x.ks) (hg : w.grownBy w' v.ownBlock) (h1 : p.1.ownBlock = none ∨ p.1.ownBlock ≠ v.ownBlock) (h2 : p.2.ownBlock = none ∨ p.2.ownBlock ≠ v.ownBlock) : OwnM w' base p.1 x.ms ∧ OwnK w' base p.2 x.ks := ⟨row_other h.1 hg h1, row_other h.2 hg h2⟩
theorem apart_comm {a b : Option Nat} (h : a = none ∨ a ≠ b) : b = none ∨ b ≠ a := by
  rcases h with rfl | h
  · rcases b with _ | b
    · exact .inl rfl
    · exact .inr (by simp)
  · exact .inr (Ne.symm h)
theorem dis_any {us : Nat → Value × Value} {n i j : Nat} (h : Dis us n) (hi : i < n) (hj : j < n) (hne : i ≠ j) : ((us i).1.ownBlock = none ∨ (us i).1.ownBlock ≠ (us j).1.ownBlock) ∧ ((us i).2.ownBlock = none ∨ (us i).2.ownBlock ≠ (us j).2.ownBlock) := by
  by_cases e : i < j
  · exact h i j e hj
  · have := h j i (by omega) hi
    exact ⟨apart_comm this.1, apart_comm this.2⟩
end Go.Proofs.YtcnjgmeddkidaaaGreatDoor.ml

namespace Go.Proofs.YtcnjgmeddkidaaaGreatDoor.ml
open Go.RowKit
open gr mk st bx mm mx bl
open ky (TextsAt OwnT own_texts)
set_option linter.unusedVariables false

/-- The rows of the boxes other than j. -/
def Oth (w : World) (base : Nat) (xs : List Bx) (us : Nat → Value × Value) (j : Nat) : Prop :=
  (∀ i, i < j → RowMk w base xs us i) ∧ ∀ i, j < i → i < xs.length → OwnM w base (us i).1 (xs.getD i noB).ms ∧ OwnK w base (us i).2 (xs.getD i noB).ks
theorem oth_below {w w' : World} {base : Nat} {xs : List Bx} {us : Nat → Value × Value} {j : Nat} (h : Oth w base xs us j) (hb : Below w.heap.size w w') : Oth w' base xs us j :=
  ⟨fun i hi => ⟨ow.own_below (h.1 i hi).1 hb, ow.own_below (h.1 i hi).2 hb⟩, fun i h1 h2 => ⟨ow.own_below (h.2 i h1 h2).1 hb, ow.own_below (h.2 i h1 h2).2 hb⟩⟩
theorem oth_row {w w' : World} {base b e s n : Nat} {v : Value} {cs : List Value} {xs : List Bx} {us : Nat → Value × Value} {j : Nat} (h : Oth w base xs us j) (ho : w.ownsRow b e s v n cs) (hg : w.grownBy w' v.ownBlock) (h1 : 85 ≠ e) (h2 : 9 ≠ e) : Oth w' base xs us j :=
  ⟨fun i hi => rowMk_grown (h.1 i hi) hg (rowkinds (h.1 i hi).1 ho h1) (rowkinds (h.1 i hi).2 ho h2), fun i hi hl => own_grown2 (h.2 i hi hl) hg (rowkinds (h.2 i hi hl).1 ho h1) (rowkinds (h.2 i hi hl).2 ho h2)⟩
theorem oth_mails {w w' : World} {base b n : Nat} {cs : List Value} {xs : List Bx} {us : Nat → Value × Value} {j : Nat} (h : Oth w base xs us j) (ho : w.ownsRow b 85 3 (us j).1 n cs) (hg : w.grownBy w' (us j).1.ownBlock) (hd : Dis us xs.length) (hj : j < xs.length) : Oth w' base xs us j :=
  ⟨fun i hi => rowMk_grown (h.1 i hi) hg (dis_any hd (by omega) hj (by omega)).1 (rowkinds (h.1 i hi).2 ho (by decide)), fun i hi hl => own_grown2 (h.2 i hi hl) hg (dis_any hd hl hj (by omega)).1 (rowkinds (h.2 i hi hl).2 ho (by decide))⟩
theorem oth_keys {w w' : World} {base b n : Nat} {cs : List Value} {xs : List Bx} {us : Nat → Value × Value} {j : Nat} (h : Oth w base xs us j) (ho : w.ownsRow b 9 1 (us j).2 n cs) (hg : w.grownBy w' (us j).2.ownBlock) (hd : Dis us xs.length) (hj : j < xs.length) : Oth w' base xs us j :=
  ⟨fun i hi => rowMk_grown (h.1 i hi) hg (rowkinds (h.1 i hi).1 ho (by decide)) (dis_any hd (by omega) hj (by omega)).2, fun i hi hl => own_grown2 (h.2 i hi hl) hg (rowkinds (h.2 i hi hl).1 ho (by decide)) (dis_any hd hl hj (by omega)).2⟩

set_option maxHeartbeats 4000000 in
set_option maxRecDepth 100000 in
theorem markBoxS_own (L : Value) (base : Nat) (xs : List Bx) (us : Nat → Value × Value) (w : World) (h : OwnL w base L xs us) (hf : Few xs) (hb : base ≤ w.heap.size) :
    Calls Tryz.prog 10 #[L, .int .i64 1] w fun e w' => e = .returned (.int .i64 (kAt xs xs.length)) ∧ (∃ cs, MB w' base L xs us xs.length cs) ∧ Below base w w' := by
  have HD : Hid (Dis us xs.length) := h.2.2
  have HF : Hid (Few xs) := hf
  have HM0 : Hid (MB w base L xs us 0 (bcells xs us xs.length)) := mb_start h
  obtain ⟨n, hn⟩ : ∃ n, n = xs.length := ⟨_, rfl⟩
  have HN : Hid (n = xs.length) := hn
  have hl : n ≤ 10 := by rw [hn]; exact hf.1
  obtain ⟨La, Lc, rfl, hLa⟩ : ∃ a c, L = .slice a n c ∧ (n = 0 ∨ ∃ g, a = some ⟨g, 0, none⟩) := by
    rcases h.1.2 with ⟨rfl, hz⟩ | ⟨g, cap, cur, rfl, _⟩
    · exact ⟨none, 0, by rw [hn, hz], .inl (by rw [hn, hz])⟩
    · exact ⟨_, _, by rw [hn], .inr ⟨g, rfl⟩⟩
  clear h hf hn
  go_enter Tryz.func10, Tryz.ntmps10
  go_wp2
  go_loopw [1, 5] (fun z i wr => ∃ (j : Nat) (cs : List Value), j ≤ n ∧ z = .int .i64 (kAt xs j) ∧ i = .int .i64 j ∧ MB wr base (.slice La n Lc) xs us j cs ∧ Below base w wr) (fun _ i _ => n - (intOf i).toNat)
  case atStart => exact ⟨0, _, Nat.zero_le _, rfl, rfl, HM0.out, Below.refl _ _⟩
  case round =>
    clear HM0
    obtain ⟨j, cs, hj, rfl, rfl, hmb, hbw⟩ := hrel
    by_cases hlt : j < n
    · have hjx : j < xs.length := by rw [← HN.out]; exact hlt
      obtain ⟨g, rfl⟩ : ∃ g, La = some ⟨g, 0, none⟩ := by
        rcases hLa with h | h
        · omega
        · exact h
      have hlt' : (j : Int) < (n : Int) := by omega
      have hj0 : (0 : Int) ≤ (j : Int) := by omega
      have hki := kAt_in HF.out (j := j) (by omega)
      have hfe := HF.out.2 j hjx
      have HKN : Hid (kAt xs (j + 1) = kAt xs j + 1 + 1 + 1 + 3 * ((xs.getD j noB).ms.length : Int) + ((xs.getD j noB).ks.length : Int)) := by
        show kAt xs j + 3 + _ + _ = _
        omega
      obtain ⟨hown, hkp, hcm, hrm, hre⟩ := hmb
      rw [← HN.out] at hown
      have HL : Hid (cs.length = n * 5) := hown.1
      have HKP : Hid (Kept cs xs.length us) := hkp
      have HCM : Hid (∀ i, i < j → CellMk xs cs i) := hcm
      have HO : Hid (Oth wr base xs us j) := ⟨hrm, fun i h1 h2 => hre i (by omega) h2⟩
      have HR : Hid (OwnM wr base (us j).1 (xs.getD j noB).ms ∧ OwnK wr base (us j).2 (xs.getD j noB).ks) := hre j (Nat.le_refl _) hjx
      clear hkp hcm hrm hre
      have HK1 : Hid (kAt xs j + 3 = kAt xs j + 1 + 1 + 1 ∧ kAt xs j + 2 = kAt xs j + 1 + 1) := ⟨by omega, by omega⟩
      have HCN : Hid (CellMk xs (((cs.set (j * 5) (.string (mt (kAt xs j)))).set (j * 5 + 1) (.int .i64 (kAt xs j + 1))).set (j * 5 + 2) (.int .i64 (kAt xs j + 1 + 1))) j) := by
        have := cellMk_new (xs := xs) (cs := cs) (j := j) (by rw [HL.out]; omega)
        rwa [HK1.out.2] at this
      have HMM : Hid (∀ w1, (w1.ownsRow base 85 3 (us j).1 (xs.getD j noB).ms.length (marksM (kAt xs j + 1 + 1 + 1) (xs.getD j noB).ms.length) ∧ w1.ownsRow base 9 1 (us j).2 (xs.getD j noB).ks.length ((marks (kAt xs j + 1 + 1 + 1 + 3 * ((xs.getD j noB).ms.length : Int)) (xs.getD j noB).ks.length).map Value.string)) → RowMk w1 base xs us j) := fun w1 h => by
        unfold RowMk
        rw [HK1.out.1]
        exact h
      clear HK1
      generalize kAt xs j = K at hki HKN HCN HMM ⊢
      generalize hm1 : (xs.getD j noB).ms.length = m1 at hfe HKN HMM
      generalize hm2 : (xs.getD j noB).ks.length = m2 at hfe HKN HMM
      have HM1 : Hid ((xs.getD j noB).ms.length = m1 ∧ (xs.getD j noB).ks.length = m2) := ⟨hm1, hm2⟩
      clear hm1 hm2
      go_wp2_with fail
      refine (mark_any K _ (by omega) (by omega)).mono ?_
      rintro e w1 ⟨rfl, hb1⟩
      have o1 := ow.own_below hown hb1
      have HO1 : Hid (Oth w1 base xs us j ∧ OwnM w1 base (us j).1 (xs.getD j noB).ms ∧ OwnK w1 base (us j).2 (xs.getD j noB).ks) := ⟨oth_below HO.out hb1, ow.own_below HR.out.1 hb1, ow.own_below HR.out.2 hb1⟩
      have HB1 : Hid (Below base w w1 ∧ base ≤ w1.heap.size) := ⟨hbw.trans (hb1.mono (Nat.le_trans hb hbw.size)), Nat.le_trans (Nat.le_trans hb hbw.size) hb1.size⟩
      have HOW : Hid (w1.ownsRow base 54 5 (.slice (some ⟨g, 0, none⟩) n Lc) n cs) := o1
      have q0 := o1.cellAt (j * 5) (by omega)
      have q1 := o1.cellAt (j * 5 + 1) (by omega)
      have q2 := o1.cellAt (j * 5 + 2) (by omega)
      have q3 := (o1.cellAt (j * 5 + 3) (by omega)).trans (HKP.out j hjx).1
      rw [List.getElem?_eq_getElem (by rw [HL.out]; omega)] at q0 q1 q2
      have f0 := o1.frozenAt (j * 5)
      have f1 := o1.frozenAt (j * 5 + 1)
      have f2 := o1.frozenAt (j * 5 + 2)
      generalize cs[j * 5]'(by rw [HL.out]; omega) = u0 at q0
      generalize cs[j * 5 + 1]'(by rw [HL.out]; omega) = u1 at q1
      generalize cs[j * 5 + 2]'(by rw [HL.out]; omega) = u2 at q2
      clear o1 hown hb1 hbw HO HR
      go_wp2_with fail
      clear q0 q1 q2 q3 f0 f1 f2
      have HX : Hid ((((w1.setCell ⟨g, j * 5, none⟩ (.string (mt K))).setCell ⟨g, j * 5 + 1, none⟩ (.int .i64 (K + 1))).setCell ⟨g, j * 5 + 2, none⟩ (.int .i64 (K + 1 + 1))).ownsRow base 54 5 (.slice (some ⟨g, 0, none⟩) n Lc) n (((cs.set (j * 5) (.string (mt K))).set (j * 5 + 1) (.int .i64 (K + 1))).set (j * 5 + 2) (.int .i64 (K + 1 + 1))) ∧ w1.grownBy (((w1.setCell ⟨g, j * 5, none⟩ (.string (mt K))).setCell ⟨g, j * 5 + 1, none⟩ (.int .i64 (K + 1))).setCell ⟨g, j * 5 + 2, none⟩ (.int .i64 (K + 1 + 1))) (some g)) := ⟨(((HOW.out.stored _ _).1.stored _ _).1.stored _ _).1, ow.grown_trans (ow.grown_trans (grown_set _ _ _ _) (grown_set _ _ _ _)) (grown_set _ _ _ _)⟩
      generalize hX : World.setCell _ _ _ = X at HX ⊢
      clear hX
      have HKP1 : Hid (Kept (((cs.set (j * 5) (.string (mt K))).set (j * 5 + 1) (.int .i64 (K + 1))).set (j * 5 + 2) (.int .i64 (K + 1 + 1))) xs.length us) := kept_set HKP.out _ _ _
      have HCM1 : Hid (∀ i, i < j + 1 → CellMk xs (((cs.set (j * 5) (.string (mt K))).set (j * 5 + 1) (.int .i64 (K + 1))).set (j * 5 + 2) (.int .i64 (K + 1 + 1))) i) := fun i hi => by
        by_cases e : i = j
        · subst e; exact HCN.out
        · exact cellMk_set (HCM.out i (by omega)) (by omega) _ _ _
      generalize (((cs.set (j * 5) (Value.string (mt K))).set (j * 5 + 1) (.int .i64 (K + 1))).set (j * 5 + 2) (.int .i64 (K + 1 + 1))) = cs1 at HX HKP1 HCM1
      have HO2 : Hid (Oth X base xs us j ∧ OwnM X base (us j).1 (xs.getD j noB).ms ∧ OwnK X base (us j).2 (xs.getD j noB).ks) := ⟨oth_row HO1.out.1 HOW.out HX.out.2 (by decide) (by decide), row_other HO1.out.2.1 (u := .slice (some ⟨g, 0, none⟩) n Lc) HX.out.2 (rowkinds HO1.out.2.1 HOW.out (by decide)), row_other HO1.out.2.2 (u := .slice (some ⟨g, 0, none⟩) n Lc) HX.out.2 (rowkinds HO1.out.2.2 HOW.out (by decide))⟩
      have HB2 : Hid (Below base w X ∧ base ≤ X.heap.size) := ⟨HB1.out.1.grown HX.out.2 HB1.out.2 (fun k hk => (HOW.out.lt k hk).1), Nat.le_trans HB1.out.2 HX.out.2.size⟩
      have HOX : Hid (X.ownsRow base 54 5 (.slice (some ⟨g, 0, none⟩) n Lc) n cs1) := HX.out.1
      clear HX HO1 HOW HB1 HKP HCM HCN
      have hMo : X.ownsRow base 85 3 (us j).1 m1 (mc (xs.getD j noB).ms) := by
        have := HO2.out.2.1
        unfold OwnM at this
        rwa [HM1.out.1] at this
      refine (markM_any (us j).1 base m1 _ (K + 1 + 1 + 1) X hMo (by omega) (by omega) (by omega)).mono ?_
      rintro e w2 ⟨rfl, hm2, hg2⟩
      have HO3 : Hid (Oth w2 base xs us j ∧ w2.ownsRow base 85 3 (us j).1 m1 (marksM (K + 1 + 1 + 1) m1) ∧ OwnK w2 base (us j).2 (xs.getD j noB).ks) := ⟨oth_mails HO2.out.1 hMo hg2 HD.out hjx, hm2, row_other HO2.out.2.2 hg2 (rowkinds HO2.out.2.2 hMo (by decide))⟩
      have o2 := row_other HOX.out hg2 (rowkinds HOX.out hMo (by decide))
      have HB3 : Hid (Below base w w2 ∧ base ≤ w2.heap.size) := ⟨HB2.out.1.grown hg2 HB2.out.2 (fun k hk => (hMo.lt k hk).1), Nat.le_trans HB2.out.2 hg2.size⟩
      have HOY : Hid (w2.ownsRow base 54 5 (.slice (some ⟨g, 0, none⟩) n Lc) n cs1) := o2
      have q4 := (o2.cellAt (j * 5 + 4) (by omega)).trans (HKP1.out j hjx).2
      clear HO2 HOX HB2 hMo hm2 hg2 o2
      have hmI : (m1 : Int) ≤ 1000 := by omega
      have hmI0 : (0 : Int) ≤ (m1 : Int) := by omega
      have hkI : (m2 : Int) ≤ 1000 := by omega
      have hkI0 : (0 : Int) ≤ (m2 : Int) := by omega
      go_wp2_with fail
      clear q4
      refine (markTexts_any (us j).2 base (xs.getD j noB).ks (K + 1 + 1 + 1 + 3 * (m1 : Int)) w2 HO3.out.2.2 (by rw [HM1.out.2]; omega) (by omega) (by omega)).mono ?_
      rintro e w3 ⟨rfl, hk3, hg3⟩
      rw [HM1.out.2] at hk3 ⊢
      have hk3' : w3.ownsRow base 9 1 (us j).2 m2 ((marks (K + 1 + 1 + 1 + 3 * (m1 : Int)) m2).map Value.string) := by
        unfold OwnT at hk3
        rwa [marks_len] at hk3
      have hrow3 := row_other HO3.out.2.1 hg3 (rowkinds HO3.out.2.1 HO3.out.2.2 (by decide))
      have HO4 : Hid (Oth w3 base xs us j ∧ RowMk w3 base xs us j) := ⟨oth_keys HO3.out.1 HO3.out.2.2 hg3 HD.out hjx, HMM.out w3 ⟨hrow3, hk3'⟩⟩
      have HOZ : Hid (w3.ownsRow base 54 5 (.slice (some ⟨g, 0, none⟩) n Lc) n cs1) := row_other HOY.out hg3 (rowkinds HOY.out HO3.out.2.2 (by decide))
      have HB4 : Hid (Below base w w3) := HB3.out.1.grown hg3 HB3.out.2 (fun k hk => (World.ownsRow.lt HO3.out.2.2 k hk).1)
      clear HO3 HOY HB3 hk3 hk3' hg3 hrow3 HMM
      go_wp2
      go_roundw
      case rel =>
        refine ⟨j + 1, cs1, by omega, by rw [HKN.out], by go_num, ⟨by rw [← HN.out]; exact HOZ.out, HKP1.out, HCM1.out, fun i hi => ?_, fun i h1 h2 => HO4.out.1.2 i (by omega) h2⟩, HB4.out⟩
        by_cases e : i = j
        · subst e; exact HO4.out.2
        · exact HO4.out.1.1 i (by omega)
      case measure => simp [intOf]; omega
    · obtain rfl : j = n := by omega
      have HQ : Hid (∃ cs, MB wr base (.slice La j Lc) xs us xs.length cs) := ⟨cs, by rw [HN.out] at hmb ⊢; exact hmb⟩
      have HE : Hid (kAt xs j = kAt xs xs.length) := congrArg (kAt xs) HN.out
      clear hmb
      go_wp2
      go_ret
      refine ⟨?_, HQ.out, hbw⟩
      show Ending.returned (.int .i64 (kAt xs j)) = .returned (.int .i64 (kAt xs xs.length))
      rw [HE.out]
end Go.Proofs.YtcnjgmeddkidaaaGreatDoor.ml

namespace Go.Proofs.YtcnjgmeddkidaaaGreatDoor.ml
open Go.RowKit
open gr mk st bx mm mx bl
open ky (TextsAt OwnT own_texts)
set_option linter.unusedVariables false

theorem mb_below {w w' : World} {base : Nat} {L : Value} {xs : List Bx} {us : Nat → Value × Value} {cs : List Value} (h : MB w base L xs us xs.length cs) (hb : Below w.heap.size w w') : MB w' base L xs us xs.length cs :=
  ⟨ow.own_below h.1 hb, h.2.1, h.2.2.1, fun i hi => ⟨ow.own_below (h.2.2.2.1 i hi).1 hb, ow.own_below (h.2.2.2.1 i hi).2 hb⟩, fun i h1 h2 => absurd h1 (by omega)⟩

set_option maxHeartbeats 4000000 in
set_option maxRecDepth 100000 in
theorem heldBoxS_any (L : Value) (base : Nat) (xs : List Bx) (us : Nat → Value × Value) (cs : List Value) (w : World) (h : MB w base L xs us xs.length cs) (hf : Few xs) :
    Calls Tryz.prog 11 #[L, .int .i64 1] w fun e w' => e = .returned (.int .i64 (kAt xs xs.length)) ∧ Below w.heap.size w w' := by
  have HF : Hid (Few xs) := hf
  have HMB : Hid (MB w base L xs us xs.length cs) := h
  obtain ⟨n, hn⟩ : ∃ n, n = xs.length := ⟨_, rfl⟩
  have HN : Hid (n = xs.length) := hn
  have hl : n ≤ 10 := by rw [hn]; exact hf.1
  obtain ⟨La, Lc, rfl, hLa⟩ : ∃ a c, L = .slice a n c ∧ (n = 0 ∨ ∃ g, a = some ⟨g, 0, none⟩) := by
    rcases h.1.2 with ⟨rfl, hz⟩ | ⟨g, cap, cur, rfl, _⟩
    · exact ⟨none, 0, by rw [hn, hz], .inl (by rw [hn, hz])⟩
    · exact ⟨_, _, by rw [hn], .inr ⟨g, rfl⟩⟩
  clear h hf hn
  go_enter Tryz.func11, Tryz.ntmps11
  go_wp2
  go_loopw [1, 5] (fun z i wr => ∃ (j : Nat), j ≤ n ∧ z = .int .i64 (kAt xs j) ∧ i = .int .i64 j ∧ Below w.heap.size w wr) (fun _ i _ => n - (intOf i).toNat)
  case atStart => exact ⟨0, Nat.zero_le _, rfl, rfl, Below.refl _ _⟩
  case round =>
    obtain ⟨j, hj, rfl, rfl, hbw⟩ := hrel
    by_cases hlt : j < n
    · have hjx : j < xs.length := by rw [← HN.out]; exact hlt
      obtain ⟨g, rfl⟩ : ∃ g, La = some ⟨g, 0, none⟩ := by
        rcases hLa with h | h
        · omega
        · exact h
      have hlt' : (j : Int) < (n : Int) := by omega
      have hj0 : (0 : Int) ≤ (j : Int) := by omega
      have hki := kAt_in HF.out (j := j) (by omega)
      have hfe := HF.out.2 j hjx
      have HKN : Hid (kAt xs (j + 1) = kAt xs j + 1 + 1 + 1 + 3 * ((xs.getD j noB).ms.length : Int) + ((xs.getD j noB).ks.length : Int)) := by
        show kAt xs j + 3 + _ + _ = _
        omega
      have hmb := mb_below HMB.out hbw
      obtain ⟨hown, hkp, hcm, hrm, _⟩ := hmb
      rw [← HN.out] at hown
      have c0 := (hown.cellAt (j * 5) (by omega)).trans (hcm j hjx).1
      have c1 := (hown.cellAt (j * 5 + 1) (by omega)).trans (hcm j hjx).2.1
      have c2 := (hown.cellAt (j * 5 + 2) (by omega)).trans (hcm j hjx).2.2
      have c3 := (hown.cellAt (j * 5 + 3) (by omega)).trans (hkp j hjx).1
      have c4 := (hown.cellAt (j * 5 + 4) (by omega)).trans (hkp j hjx).2
      have hr := hrm j hjx
      unfold RowMk at hr
      rw [show kAt xs j + 3 = kAt xs j + 1 + 1 + 1 by omega] at hr
      rw [show kAt xs j + 2 = kAt xs j + 1 + 1 by omega] at c2
      have HR : Hid (wr.ownsRow base 85 3 (us j).1 (xs.getD j noB).ms.length (marksM (kAt xs j + 1 + 1 + 1) (xs.getD j noB).ms.length) ∧ wr.ownsRow base 9 1 (us j).2 (xs.getD j noB).ks.length ((marks (kAt xs j + 1 + 1 + 1 + 3 * ((xs.getD j noB).ms.length : Int)) (xs.getD j noB).ks.length).map Value.string)) := hr
      clear hr hown hkp hcm hrm
      generalize kAt xs j = K at hki HKN HR c0 c1 c2 ⊢
      generalize (xs.getD j noB).ms.length = m1 at hfe HKN HR
      generalize (xs.getD j noB).ks.length = m2 at hfe HKN HR
      have HM : Hid (∀ w, Calls Tryz.prog 23 #[.int .i64 K] w fun e w' => e = .returned (.string (mt K)) ∧ Below w.heap.size w w') := fun w => mark_any _ w (by omega) (by omega)
      generalize mt K = x at c0 HM
      have HC : Hid (wr.cell? ⟨g, j * 5 + 1, none⟩ = some (.int .i64 (K + 1)) ∧ wr.cell? ⟨g, j * 5 + 2, none⟩ = some (.int .i64 (K + 1 + 1)) ∧ wr.cell? ⟨g, j * 5 + 3, none⟩ = some (us j).1 ∧ wr.cell? ⟨g, j * 5 + 4, none⟩ = some (us j).2) := ⟨c1, c2, c3, c4⟩
      have HC0 : Hid (wr.cell? ⟨g, j * 5, none⟩ = some (.string x)) := c0
      clear c0 c1 c2 c3 c4
      have hxx : (x.toList == x.toList) = true := by simp
      have n1 : ((K + 1 : Int) != K + 1) = false := by simp
      have n2 : ((K + 1 + 1 : Int) != K + 1 + 1) = false := by simp
      go_wp2_with fail
      have ne := ext_some wr
      have c0 := fun y : Ext wr => gw_cell y HC0.out
      refine region_lit (by kernel_rfl) (by kernel_rfl) ?_
      repeat (go_big_quiet_step ((go_at_call 23; exact grow_of (HM.out _))))
      refine wpQuiet_nil ?_
      rintro W1 ⟨y0, rfl⟩
      have hb1 := gw_below y0
      generalize gw y0 = W1 at hb1 ⊢
      have c1 := (hb1.cell (p := ⟨g, j * 5 + 1, none⟩) (World.block_lt_of_cell? wr _ HC.out.1)).trans HC.out.1
      have c2 := (hb1.cell (p := ⟨g, j * 5 + 2, none⟩) (World.block_lt_of_cell? wr _ HC.out.2.1)).trans HC.out.2.1
      have c3 := (hb1.cell (p := ⟨g, j * 5 + 3, none⟩) (World.block_lt_of_cell? wr _ HC.out.2.2.1)).trans HC.out.2.2.1
      have HC4 : Hid (W1.cell? ⟨g, j * 5 + 4, none⟩ = some (us j).2) := (hb1.cell (p := ⟨g, j * 5 + 4, none⟩) (World.block_lt_of_cell? wr _ HC.out.2.2.2)).trans HC.out.2.2.2
      have HR1 : Hid (W1.ownsRow base 85 3 (us j).1 m1 (marksM (K + 1 + 1 + 1) m1) ∧ W1.ownsRow base 9 1 (us j).2 m2 ((marks (K + 1 + 1 + 1 + 3 * (m1 : Int)) m2).map Value.string)) := ⟨ow.own_below HR.out.1 hb1, ow.own_below HR.out.2 hb1⟩
      have HB1 : Hid (Below w.heap.size w W1) := hbw.trans (hb1.mono hbw.size)
      clear c0 HC0 HC HR hbw hb1 HM
      go_wp2_with fail
      clear c1 c2 c3
      refine (heldM_any (us j).1 base m1 (K + 1 + 1 + 1) W1 HR1.out.1 (by omega) (by omega) (by omega)).mono ?_
      rintro e w2 ⟨rfl, hb2⟩
      have c4 := (hb2.cell (p := ⟨g, j * 5 + 4, none⟩) (World.block_lt_of_cell? W1 _ HC4.out)).trans HC4.out
      have HT2 : Hid (TextsAt w2 (us j).2 (marks (K + 1 + 1 + 1 + 3 * (m1 : Int)) m2)) := own_texts (base := base) (by unfold OwnT; rw [marks_len]; exact ow.own_below HR1.out.2 hb2)
      have HB2 : Hid (Below w.heap.size w w2) := HB1.out.trans (hb2.mono HB1.out.size)
      clear HR1 HC4 HB1 hb2
      have hmI : (m1 : Int) ≤ 1000 := by omega
      have hmI0 : (0 : Int) ≤ (m1 : Int) := by omega
      have hkI : (m2 : Int) ≤ 1000 := by omega
      have hkI0 : (0 : Int) ≤ (m2 : Int) := by omega
      go_wp2_with fail
      clear c4
      refine (heldTexts_any (us j).2 m2 (K + 1 + 1 + 1 + 3 * (m1 : Int)) w2 HT2.out (by omega) (by omega) (by omega)).mono ?_
      rintro e w3 ⟨rfl, hb3⟩
      have HB3 : Hid (Below w.heap.size w w3) := HB2.out.trans (hb3.mono HB2.out.size)
      clear HT2 HB2 hb3
      go_wp2
      go_roundw
      case rel => exact ⟨j + 1, by omega, by rw [HKN.out], by go_num, HB3.out⟩
      case measure => simp [intOf]; omega
    · obtain rfl : j = n := by omega
      have HE : Hid (kAt xs j = kAt xs xs.length) := congrArg (kAt xs) HN.out
      go_wp2
      go_ret
      refine ⟨?_, hbw⟩
      show Ending.returned (.int .i64 (kAt xs j)) = .returned (.int .i64 (kAt xs xs.length))
      rw [HE.out]
end Go.Proofs.YtcnjgmeddkidaaaGreatDoor.ml
