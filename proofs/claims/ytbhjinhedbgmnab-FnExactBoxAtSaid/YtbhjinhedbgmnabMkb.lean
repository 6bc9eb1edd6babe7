/-
  A list of boxes, marked by the law's own function, as to its shape; a box, marked and held against its marks.
-/
import Derived.Test.YtbhjinhedbgmnabMkx
import Derived.Test.YtbhjinhedbgmnabBcf
import Derived.Test.YtbhjinhedbgmnabBce
import Derived.Test.YtbhjinhedbgmnabBow
namespace Go.Proofs.Ytbhjinhedbgmnab.mx
open Go.RowKit
open gr mk st bx mm
open ky (TextsAt OwnT own_texts)
set_option linter.unusedVariables false

theorem mine_below {w w' : World} {A : Nat} {xs : List Bx} {vs : Nat → Value × Value} (h : Mine w A xs vs) (hb : Below w.heap.size w w') : Mine w' A xs vs := by
  obtain ⟨⟨cs, h1, h2⟩, h3⟩ := h
  exact ⟨⟨cs, ow.own_below h1 hb, h2⟩, rws_below h3 hb⟩
/-- The rows lie ahead of B. -/
def Ahead (A B : Nat) (xs : List Bx) (vs : Nat → Value × Value) : Prop := A < B ∧ ∀ j, j < xs.length → (∀ b, (vs j).1.ownBlock = some b → b < B) ∧ (∀ b, (vs j).2.ownBlock = some b → b < B)
theorem mine_ahead {w : World} {A : Nat} {xs : List Bx} {vs : Nat → Value × Value} (h : Mine w A xs vs) : Ahead A w.heap.size xs vs := by
  obtain ⟨⟨cs, h1, h2⟩, h3⟩ := h
  refine ⟨own_lt h1 A rfl, fun j hj => ?_⟩
  obtain ⟨g, g', e, _, _, ⟨c1, o1⟩, ⟨c2, o2⟩⟩ := h3 j hj
  rw [e]
  exact ⟨fun b hb => own_lt o1 b hb, fun b hb => own_lt o2 b hb⟩
theorem mine_fines {w : World} {A : Nat} {xs : List Bx} {vs : Nat → Value × Value} (h : Mine w A xs vs) : Fines xs vs := fun j hj => by
  obtain ⟨g, g', e, _⟩ := h.2 j hj
  rw [e]
  exact ⟨.inr ⟨_, _, _, rfl⟩, .inr ⟨_, _, _, rfl⟩⟩

def Kept (cs : List Value) (n : Nat) (vs : Nat → Value × Value) : Prop := ∀ j, j < n → cs[j * 5 + 3]? = some (vs j).1 ∧ cs[j * 5 + 4]? = some (vs j).2
theorem kept_set {cs : List Value} {n j : Nat} {vs : Nat → Value × Value} (h : Kept cs n vs) (a b c : Value) : Kept (((cs.set (j * 5) a).set (j * 5 + 1) b).set (j * 5 + 2) c) n vs := fun i hi => by
  obtain ⟨h3, h4⟩ := h i hi
  refine ⟨?_, ?_⟩
  · rw [List.getElem?_set_ne (by omega), List.getElem?_set_ne (by omega), List.getElem?_set_ne (by omega), h3]
  · rw [List.getElem?_set_ne (by omega), List.getElem?_set_ne (by omega), List.getElem?_set_ne (by omega), h4]

set_option maxHeartbeats 4000000 in
set_option maxRecDepth 100000 in
theorem markBoxS_any (A B : Nat) (xs : List Bx) (vs : Nat → Value × Value) (w : World) (h : Mine w A xs vs) (ha : Ahead A B xs vs) (hs : bx.Smalls xs) :
    Calls Try.prog 12 #[.slice (some ⟨A, 0, none⟩) xs.length xs.length, .int .i64 1] w fun e w' => (∃ z : Int, 0 < z ∧ e = .returned (.int .i64 z)) ∧ Mk A B w w' := by
  obtain ⟨n, hn⟩ : ∃ n, n = xs.length := ⟨_, rfl⟩
  have HR : Hid (Rws w A xs vs n) := by rw [hn]; exact h.2
  have HA : Hid (Ahead A B xs vs) := ha
  have HS : Hid (bx.Smalls xs) := hs
  have HN : Hid (n = xs.length) := hn
  have hl : n ≤ 1048576 := by rw [hn]; exact hs.1
  obtain ⟨⟨cs0, ho, hk0⟩, _⟩ := h
  rw [← hn] at ho hk0 ⊢
  have HO : Hid (w.ownsRow A 27 5 (.slice (some ⟨A, 0, none⟩) n n) n cs0 ∧ Kept cs0 n vs) := ⟨ho, hk0⟩
  have hAB := ha.1
  clear ho hk0 hs ha hn
  go_enter Try.func12, Try.ntmps12
  go_wp2
  go_loopw [1, 5] (fun z i wr => ∃ (j : Nat) (K : Int) (cs : List Value), j ≤ n ∧ z = .int .i64 K ∧ i = .int .i64 j ∧ 0 < K ∧ K ≤ 1 + 5000000 * (j : Int) ∧ wr.ownsRow A 27 5 (.slice (some ⟨A, 0, none⟩) n n) n cs ∧ Kept cs n vs ∧ Mk A B w wr) (fun _ i _ => n - (intOf i).toNat)
  case atStart => exact ⟨0, 1, cs0, Nat.zero_le _, rfl, rfl, by omega, by omega, HO.out.1, HO.out.2, Mk.refl _ _ _⟩
  case round =>
    clear HO
    obtain ⟨j, K, cs, hj, rfl, rfl, hK0, hK1, hown, hkp, hmk⟩ := hrel
    by_cases hlt : j < n
    · have hlt' : (j : Int) < (n : Int) := by omega
      have hj0 : (0 : Int) ≤ (j : Int) := by omega
      have hlen : cs.length = n * 5 := hown.1
      have HL : Hid (cs.length = n * 5) := hlen
      clear hlen
      obtain ⟨g, g', evs, hg, hg', r1, r2⟩ := HR.out j hlt
      have HR1 : Hid (∃ cs, wr.ownsRow A 97 3 (.slice (some ⟨g, 0, none⟩) (xs.getD j noB).ms.length (xs.getD j noB).ms.length) (xs.getD j noB).ms.length cs) := own_like hmk r1
      have HR2 : Hid (∃ cs, wr.ownsRow A 9 1 (.slice (some ⟨g', 0, none⟩) (xs.getD j noB).ks.length (xs.getD j noB).ks.length) (xs.getD j noB).ks.length cs) := own_like hmk r2
      have hgB : g < B := (HA.out.2 j (by rw [← HN.out]; exact hlt)).1 g (by rw [evs]; rfl)
      have hgB' : g' < B := (HA.out.2 j (by rw [← HN.out]; exact hlt)).2 g' (by rw [evs]; rfl)
      have hsk := HS.out.2 j (by rw [← HN.out]; exact hlt)
      have hml : (xs.getD j noB).ms.length ≤ 1048576 := hsk.2.2.1.1
      have hkl : (xs.getD j noB).ks.length ≤ 1048576 := hsk.2.2.2.1
      obtain ⟨e3, e4⟩ := hkp j hlt
      rw [evs] at e3 e4
      simp only at e3 e4
      clear r1 r2 evs hsk
      generalize (xs.getD j noB).ms.length = m1 at *
      generalize (xs.getD j noB).ks.length = m2 at *
      have HE : Hid (cs[j * 5 + 3]? = some (.slice (some ⟨g, 0, none⟩) m1 m1) ∧ cs[j * 5 + 4]? = some (.slice (some ⟨g', 0, none⟩) m2 m2)) := ⟨e3, e4⟩
      have HKP : Hid (Kept cs n vs) := hkp
      have HMK : Hid (Mk A B w wr) := hmk
      clear e3 e4 hkp hmk
      go_wp2_with fail
      refine (mark_some K _ (by omega) (by omega)).mono ?_
      rintro e w1 ⟨⟨s, rfl⟩, hb⟩
      have o1 := ow.own_below hown hb
      have HO1 : Hid (w1.ownsRow A 27 5 (.slice (some ⟨A, 0, none⟩) n n) n cs) := o1
      have HMK1 : Hid (Mk A B w w1) := HMK.out.trans (mk_below hb)
      have HR1 : Hid (∃ cs, w1.ownsRow A 97 3 (.slice (some ⟨g, 0, none⟩) m1 m1) m1 cs) := own_like (mk_below (A := A) (B := B) hb) HR1.out
      have HR2 : Hid (∃ cs, w1.ownsRow A 9 1 (.slice (some ⟨g', 0, none⟩) m2 m2) m2 cs) := own_like (mk_below (A := A) (B := B) hb) HR2.out
      have q0 := o1.cellAt (j * 5) (by omega)
      have q1 := o1.cellAt (j * 5 + 1) (by omega)
      have q2 := o1.cellAt (j * 5 + 2) (by omega)
      have q3 := o1.cellAt (j * 5 + 3) (by omega)
      rw [List.getElem?_eq_getElem (by rw [HL.out]; omega)] at q0 q1 q2
      rw [HE.out.1] at q3
      have f0 := o1.frozenAt (j * 5)
      have f1 := o1.frozenAt (j * 5 + 1)
      have f2 := o1.frozenAt (j * 5 + 2)
      generalize cs[j * 5]'(by rw [HL.out]; omega) = u0 at q0
      generalize cs[j * 5 + 1]'(by rw [HL.out]; omega) = u1 at q1
      generalize cs[j * 5 + 2]'(by rw [HL.out]; omega) = u2 at q2
      clear o1 hown hb HMK
      go_wp2_with fail
      have HX : Hid ((((w1.setCell ⟨A, j * 5, none⟩ (.string s)).setCell ⟨A, j * 5 + 1, none⟩ (.int .i64 (K + 1))).setCell ⟨A, j * 5 + 2, none⟩ (.int .i64 (K + 1 + 1))).ownsRow A 27 5 (.slice (some ⟨A, 0, none⟩) n n) n (((cs.set (j * 5) (.string s)).set (j * 5 + 1) (.int .i64 (K + 1))).set (j * 5 + 2) (.int .i64 (K + 1 + 1))) ∧ w1.grownBy (((w1.setCell ⟨A, j * 5, none⟩ (.string s)).setCell ⟨A, j * 5 + 1, none⟩ (.int .i64 (K + 1))).setCell ⟨A, j * 5 + 2, none⟩ (.int .i64 (K + 1 + 1))) (some A)) := ⟨(((HO1.out.stored _ _).1.stored _ _).1.stored _ _).1, ow.grown_trans (ow.grown_trans (grown_set _ _ _ _) (grown_set _ _ _ _)) (grown_set _ _ _ _)⟩
      clear q0 q1 q2 q3 f0 f1 f2
      generalize hX : World.setCell _ _ _ = X at HX ⊢
      clear hX
      have HKP1 : Hid (Kept (((cs.set (j * 5) (.string s)).set (j * 5 + 1) (.int .i64 (K + 1))).set (j * 5 + 2) (.int .i64 (K + 1 + 1))) n vs) := kept_set HKP.out _ _ _
      have HE1 : Hid ((((cs.set (j * 5) (.string s)).set (j * 5 + 1) (.int .i64 (K + 1))).set (j * 5 + 2) (.int .i64 (K + 1 + 1)))[j * 5 + 4]? = some (.slice (some ⟨g', 0, none⟩) m2 m2)) := by rw [List.getElem?_set_ne (by omega), List.getElem?_set_ne (by omega), List.getElem?_set_ne (by omega)]; exact HE.out.2
      generalize (((cs.set (j * 5) (Value.string s)).set (j * 5 + 1) (.int .i64 (K + 1))).set (j * 5 + 2) (.int .i64 (K + 1 + 1))) = cs1 at HX HKP1 HE1
      have hm1 : Mk A B w1 X := mk_grown HX.out.2 HO1.out HX.out.1 (Nat.le_refl _) hAB
      have HMK2 : Hid (Mk A B w X) := HMK1.out.trans hm1
      obtain ⟨y1, HY1⟩ := own_like hm1 HR1.out
      have HR2 : Hid (∃ cs, X.ownsRow A 9 1 (.slice (some ⟨g', 0, none⟩) m2 m2) m2 cs) := own_like hm1 HR2.out
      clear hm1 HMK1 HO1 HE HKP HR1
      refine (markM_some A m1 g m1 y1 (K + 1 + 1 + 1) X HY1 hml (by omega) (by omega)).mono ?_
      rintro e w2 ⟨rfl, ⟨y2, HY2⟩, hgr⟩
      have hAlt : A < X.heap.size := own_lt HX.out.1 A rfl
      have hm2 : Mk A B X w2 := mk_grown hgr HY1 HY2 (by omega) hgB
      have o2 := mu.own_block HX.out.1 (hgr.block A hAlt (by intro e; cases e; omega))
      have HO2 : Hid (w2.ownsRow A 27 5 (.slice (some ⟨A, 0, none⟩) n n) n cs1) := o2
      have HMK3 : Hid (Mk A B w w2) := HMK2.out.trans hm2
      obtain ⟨z1, HZ1⟩ := own_like hm2 HR2.out
      have q4 := o2.cellAt (j * 5 + 4) (by omega)
      rw [HE1.out] at q4
      clear hm2 HMK2 hgr HY1 HY2 HX HR2 o2 hAlt
      have hmI : (m1 : Int) ≤ 1048576 := by omega
      have hmI0 : (0 : Int) ≤ (m1 : Int) := by omega
      have hkI : (m2 : Int) ≤ 1048576 := by omega
      have hkI0 : (0 : Int) ≤ (m2 : Int) := by omega
      go_wp2_with fail
      refine (markT_some A m2 g' m2 z1 (K + 1 + 1 + 1 + 3 * (m1 : Int)) w2 HZ1 hkl (by omega) (by omega)).mono ?_
      rintro e w3 ⟨rfl, ⟨z2, HZ2⟩, hgr⟩
      have hAlt : A < w2.heap.size := own_lt HO2.out A rfl
      have hm3 : Mk A B w2 w3 := mk_grown hgr HZ1 HZ2 (by omega) hgB'
      have HO3 : Hid (w3.ownsRow A 27 5 (.slice (some ⟨A, 0, none⟩) n n) n cs1) := mu.own_block HO2.out (hgr.block A hAlt (by intro e; cases e; omega))
      have HMK4 : Hid (Mk A B w w3) := HMK3.out.trans hm3
      clear hm3 HMK3 hgr HZ1 HZ2 HO2 hAlt q4
      go_wp2
      go_roundw
      case rel => exact ⟨j + 1, K + 1 + 1 + 1 + 3 * (m1 : Int) + (m2 : Int), cs1, by omega, rfl, by go_num, by omega, by omega, HO3.out, HKP1.out, HMK4.out⟩
      case measure => simp [intOf]; omega
    · have HMK : Hid (Mk A B w wr) := hmk
      clear hmk hkp hown
      go_wp2
      go_ret
      exact ⟨⟨_, hK0, rfl⟩, HMK.out⟩
theorem row_other {w w' : World} {b e s n : Nat} {v u : Value} {xs : List Value} (h : w.ownsRow b e s v n xs) (hg : w.grownBy w' u.ownBlock) (hd : v.ownBlock = none ∨ v.ownBlock ≠ u.ownBlock) : w'.ownsRow b e s v n xs := by
  rcases h.2 with ⟨rfl, hz⟩ | ⟨g, cap, cur, rfl, hB, hh, r⟩
  · exact ⟨h.1, .inl ⟨rfl, hz⟩⟩
  · refine mu.own_block h (hg.block g (Array.getElem?_eq_some_iff.1 hh).1 ?_)
    rcases hd with e | e
    · cases e
    · exact e

set_option maxHeartbeats 2000000 in
set_option maxRecDepth 100000 in
theorem markBox_any (x : Bx) (v u : Value) (base : Nat) (w : World) (hm : OwnM w base v x.ms) (hk : OwnK w base u x.ks) (hl : x.ms.length ≤ 1048576 ∧ x.ks.length ≤ 1048576) (hb : base ≤ w.heap.size) :
    Calls Try.prog 13 #[BV x v u, .int .i64 1] w fun e w' => e = .returned (.int .i64 (1 + 3 * (x.ms.length : Int) + (x.ks.length : Int))) ∧ w'.ownsRow base 97 3 v x.ms.length (marksM 1 x.ms.length) ∧ w'.ownsRow base 9 1 u x.ks.length ((marks (1 + 3 * (x.ms.length : Int)) x.ks.length).map Value.string) ∧ Below base w w' ∧ ∀ G m a b, Lies w G 27 m a b → Lies w' G 27 m a b := by
  have L0 := lies_new w 27 x v u
  have hb0 := bx.new_below w 27 #[.string x.nm, .int .i64 x.vd, .int .i64 x.nx, v, u]
  have hm1 := ow.own_below hm hb0
  have hk1 := ow.own_below hk hb0
  have HB : Hid (Below base w (w.alloc (.cells #[.string x.nm, .int .i64 x.vd, .int .i64 x.nx, v, u] 27))) := hb0.mono hb
  have HM : Hid ((w.alloc (.cells #[.string x.nm, .int .i64 x.vd, .int .i64 x.nx, v, u] 27)).ownsRow base 97 3 v x.ms.length (mc x.ms)) := hm1
  have HK : Hid (OwnT (w.alloc (.cells #[.string x.nm, .int .i64 x.vd, .int .i64 x.nx, v, u] 27)) base u x.ks) := hk1
  have HL : Hid (Lies (w.alloc (.cells #[.string x.nm, .int .i64 x.vd, .int .i64 x.nx, v, u] 27)) w.heap.size 27 x v u) := L0
  have c3 : (w.alloc (.cells #[.string x.nm, .int .i64 x.vd, .int .i64 x.nx, v, u] 27)).cell? ⟨w.heap.size, 3, none⟩ = some v := L0.c3
  have HF : Hid (∀ G m a b, Lies w G 27 m a b → Lies (w.alloc (.cells #[.string x.nm, .int .i64 x.vd, .int .i64 x.nx, v, u] 27)) G 27 m a b) := fun G m a b h => h.keep hb0
  clear hm hk hm1 hk1 hb0 L0
  unfold BV
  go_enter Try.func13, Try.ntmps13
  go_wp2_with fail
  clear c3
  generalize w.alloc (.cells #[.string x.nm, .int .i64 x.vd, .int .i64 x.nx, v, u] 27) = W at HB HM HK HL HF ⊢
  refine (markM_any v base x.ms.length _ 1 W HM.out hl.1 (by omega) (by omega)).mono ?_
  rintro e w1 ⟨rfl, ho1, hg1⟩
  have hkd := rowkinds HK.out HM.out (by decide)
  have HK1 : Hid (OwnT w1 base u x.ks) := row_other HK.out hg1 hkd
  have HL1 : Hid (Lies w1 w.heap.size 27 x v u) := lies_row HL.out HM.out hg1 (by decide)
  have HF1 : Hid (∀ G m a b, Lies w G 27 m a b → Lies w1 G 27 m a b) := fun G m a b h => lies_row (HF.out G m a b h) HM.out hg1 (by decide)
  clear HF
  have HB1 : Hid (Below base w w1) := HB.out.grown hg1 (Nat.le_trans hb HB.out.size) (fun k hk => (HM.out.lt k hk).1)
  have HM1 : Hid (w1.ownsRow base 97 3 v x.ms.length (marksM 1 x.ms.length)) := ho1
  have c4 : w1.cell? ⟨w.heap.size, 4, none⟩ = some u := HL1.out.c4
  clear HB HM HK HL hg1 ho1 hkd
  have hmI : (x.ms.length : Int) ≤ 1048576 := by omega
  have hmI0 : (0 : Int) ≤ (x.ms.length : Int) := by omega
  have hkI : (x.ks.length : Int) ≤ 1048576 := by omega
  have hkI0 : (0 : Int) ≤ (x.ks.length : Int) := by omega
  go_wp2_with fail
  clear c4
  refine (markTexts_any u base x.ks (1 + 3 * (x.ms.length : Int)) w1 HK1.out hl.2 (by omega) (by omega)).mono ?_
  rintro e w2 ⟨rfl, ho2, hg2⟩
  have hkd := rowkinds HM1.out HK1.out (by decide)
  have HM2 : Hid (w2.ownsRow base 97 3 v x.ms.length (marksM 1 x.ms.length)) := row_other HM1.out hg2 hkd
  have HF2 : Hid (∀ G m a b, Lies w G 27 m a b → Lies w2 G 27 m a b) := fun G m a b h => lies_row (HF1.out G m a b h) HK1.out hg2 (by decide)
  clear HF1
  have HB2 : Hid (Below base w w2) := HB1.out.grown hg2 (Nat.le_trans hb HB1.out.size) (fun k hk => (World.ownsRow.lt HK1.out k hk).1)
  have HK2 : Hid (w2.ownsRow base 9 1 u x.ks.length ((marks (1 + 3 * (x.ms.length : Int)) x.ks.length).map Value.string)) := by
    unfold OwnT at ho2
    rw [marks_len] at ho2
    exact ho2
  clear HM1 HB1 HK1 HL1 ho2 hg2 hkd
  go_wp2
  go_ret
  exact ⟨rfl, HM2.out, HK2.out, HB2.out, HF2.out⟩

set_option maxHeartbeats 2000000 in
set_option maxRecDepth 100000 in
theorem heldBox_any (x : Bx) (v u : Value) (base : Nat) (w : World) (hm : w.ownsRow base 97 3 v x.ms.length (marksM 1 x.ms.length)) (hk : w.ownsRow base 9 1 u x.ks.length ((marks (1 + 3 * (x.ms.length : Int)) x.ks.length).map Value.string)) (hl : x.ms.length ≤ 1048576 ∧ x.ks.length ≤ 1048576) :
    Calls Try.prog 14 #[BV x v u, .int .i64 1] w fun e w' => e = .returned (.int .i64 (1 + 3 * (x.ms.length : Int) + (x.ks.length : Int))) ∧ Below w.heap.size w w' := by
  have L0 := lies_new w 27 x v u
  have hb0 := bx.new_below w 27 #[.string x.nm, .int .i64 x.vd, .int .i64 x.nx, v, u]
  have hm1 := ow.own_below hm hb0
  have hk1 := ow.own_below hk hb0
  have HB : Hid (Below w.heap.size w (w.alloc (.cells #[.string x.nm, .int .i64 x.vd, .int .i64 x.nx, v, u] 27))) := hb0
  have HM : Hid ((w.alloc (.cells #[.string x.nm, .int .i64 x.vd, .int .i64 x.nx, v, u] 27)).ownsRow base 97 3 v x.ms.length (marksM 1 x.ms.length)) := hm1
  have HK : Hid (TextsAt (w.alloc (.cells #[.string x.nm, .int .i64 x.vd, .int .i64 x.nx, v, u] 27)) u (marks (1 + 3 * (x.ms.length : Int)) x.ks.length)) := own_texts (base := base) (by unfold OwnT; rw [marks_len]; exact hk1)
  have HL : Hid (Lies (w.alloc (.cells #[.string x.nm, .int .i64 x.vd, .int .i64 x.nx, v, u] 27)) w.heap.size 27 x v u) := L0
  have c3 : (w.alloc (.cells #[.string x.nm, .int .i64 x.vd, .int .i64 x.nx, v, u] 27)).cell? ⟨w.heap.size, 3, none⟩ = some v := L0.c3
  clear hm hk hm1 hk1 hb0 L0
  unfold BV
  go_enter Try.func14, Try.ntmps14
  go_wp2_with fail
  clear c3
  generalize w.alloc (.cells #[.string x.nm, .int .i64 x.vd, .int .i64 x.nx, v, u] 27) = W at HB HM HK HL ⊢
  refine (heldM_any v base x.ms.length 1 W HM.out hl.1 (by omega) (by omega)).mono ?_
  rintro e w1 ⟨rfl, hb1⟩
  have HK1 : Hid (TextsAt w1 u (marks (1 + 3 * (x.ms.length : Int)) x.ks.length)) := ky.texts_below HK.out hb1
  have c4 : w1.cell? ⟨w.heap.size, 4, none⟩ = some u := (HL.out.keep hb1).c4
  have HB1 : Hid (Below w.heap.size w w1) := HB.out.trans (hb1.mono HB.out.size)
  clear HB HM HK HL hb1
  have hmI : (x.ms.length : Int) ≤ 1048576 := by omega
  have hmI0 : (0 : Int) ≤ (x.ms.length : Int) := by omega
  have hkI : (x.ks.length : Int) ≤ 1048576 := by omega
  have hkI0 : (0 : Int) ≤ (x.ks.length : Int) := by omega
  go_wp2_with fail
  clear c4
  refine (heldTexts_any u x.ks.length (1 + 3 * (x.ms.length : Int)) w1 HK1.out hl.2 (by omega) (by omega)).mono ?_
  rintro e w2 ⟨rfl, hb2⟩
  have HB2 : Hid (Below w.heap.size w w2) := HB1.out.trans (hb2.mono HB1.out.size)
  clear HB1 HK1 hb2
  go_wp2
  go_ret
  exact ⟨rfl, HB2.out⟩
end Go.Proofs.Ytbhjinhedbgmnab.mx
