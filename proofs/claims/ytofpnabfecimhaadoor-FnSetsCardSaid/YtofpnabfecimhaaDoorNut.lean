/-
  A set's text read: the specification's way.
-/
import Derived.Test.YtofpnabfecimhaaDoorNul
namespace Go.Proofs.YtofpnabfecimhaaDoor.nu
open Go.RowKit
open rg sp
set_option linter.unusedVariables false

theorem rg1_first {l : List UInt8} (h : one ((cutS 58 [] l).getD 0 []) = none) : rg1 l = none := by
  unfold rg1
  rcases hc : cutS 58 [] l with _ | ⟨a, _ | ⟨b, _ | ⟨c, t⟩⟩⟩
  · rfl
  · rw [hc] at h
    simp only
    have : one a = none := h
    rw [this]
    rfl
  · rw [hc] at h
    simp only
    have : one a = none := h
    rw [this]
    cases one b <;> rfl
  · rfl
theorem rg1_many {l : List UInt8} (h : 2 < (cutS 58 [] l).length) : rg1 l = none := by
  unfold rg1
  rcases hc : cutS 58 [] l with _ | ⟨a, _ | ⟨b, _ | ⟨c, t⟩⟩⟩
  · rfl
  · rw [hc] at h; simp at h
  · rw [hc] at h; simp at h
  · rfl
theorem rg1_p1 {l : List UInt8} {x : Int} (h : (cutS 58 [] l).length = 1) (ho : one ((cutS 58 [] l).getD 0 []) = some x) : rg1 l = some (x, x) := by
  unfold rg1
  rcases hc : cutS 58 [] l with _ | ⟨a, _ | ⟨b, t⟩⟩
  · rw [hc] at h; simp at h
  · rw [hc] at ho
    simp only
    have : one a = some x := ho
    rw [this]
    rfl
  · rw [hc] at h; simp at h
theorem rg1_p2 {l : List UInt8} (h : (cutS 58 [] l).length = 2) : rg1 l = pr2 (one ((cutS 58 [] l).getD 0 [])) (one ((cutS 58 [] l).getD 1 [])) := by
  unfold rg1
  rcases hc : cutS 58 [] l with _ | ⟨a, _ | ⟨b, _ | ⟨c, t⟩⟩⟩
  · rw [hc] at h; simp at h
  · rw [hc] at h; simp at h
  · rfl
  · rw [hc] at h; simp at h
theorem st_drop {V : List (List UInt8)} {k : Nat} {acc : List Pr} (hk : k < V.length) : st (V.drop k) acc = st (V.getD k [] :: V.drop (k + 1)) acc := by
  have e : V.getD k [] = V[k] := by simp [List.getD_eq_getElem?_getD, hk]
  rw [List.drop_eq_getElem_cons hk, e]

/-- A slice lies in another block. -/
def Apart (z : Value) (g : Nat) : Prop := some g ≠ z.ownBlock
theorem apart_of {w : World} {base : Nat} {v : Value} {ps : List Pr} {g : Nat} {t : ByteArray} (h : OwnP w base v ps) (hne : ps ≠ []) (hc : w.cell? ⟨g, 0, none⟩ = some (.string t)) : Apart v g := by
  intro e
  have h0 : w.ownsRow base 38 2 v ps.length (cl ps) := h
  obtain ⟨a, cap, hv, h2⟩ := own_at h
  rcases h2 with h2 | ⟨b, off, rfl, hcell⟩
  · exact hne h2
  · rcases h0.2 with ⟨h3, _⟩ | ⟨g', cap', cur, h3, _⟩
    · rw [hv] at h3; cases h3
    · rw [hv] at h3
      cases h3
      rw [hv] at e
      have eg : g = b := by simpa [Value.ownBlock] using e
      have hl : 0 < ps.length := by cases ps with | nil => exact absurd rfl hne | cons a r => simp
      have := (hcell 0 hl).1
      rw [← eg] at this
      simp only [Nat.zero_mul, Nat.add_zero] at this
      rw [hc] at this
      cases this
set_option maxHeartbeats 4000000 in
set_option maxRecDepth 100000 in
theorem specSetL (s : ByteArray) (hs : s.size ≤ 1048576) (w : World) :
    Calls Tryd.prog 26 #[.string s] w fun e w' => SetRet (st (cutS 44 [] s.data.toList) []) w' w.heap.size e ∧ Below w.heap.size w w' := by
  have HCP : Hid (∀ W, Calls Tryd.prog 43 #[.string s, .int .u8 44] W fun e w' => ∃ v, e = .returned v ∧ WordsAt (cutS 44 [] s.data.toList) v w' ∧ Below W.heap.size W w') := fun W => cut_parts 44 s W hs
  have HVS : Hid (∀ j, j < (cutS 44 [] s.data.toList).length → ((cutS 44 [] s.data.toList).getD j []).length ≤ 1048576) := fun j hj => by
    have hm : (cutS 44 [] s.data.toList).getD j [] ∈ cutS 44 [] s.data.toList := by
      rw [List.getD_eq_getElem?_getD, List.getElem?_eq_getElem hj]; exact List.getElem_mem _
    have := cutS_small 44 _ _ _ hm
    rw [← Lib.size_eq] at this
    simp only [List.length_nil, Nat.zero_add] at this
    omega
  have HVL : Hid ((cutS 44 [] s.data.toList).length ≤ 1048577) := by
    have := cutS_len 44 s.data.toList []
    rw [← Lib.size_eq] at this
    exact (show _ ≤ 1048577 by omega)
  have HVN : Hid (0 < (cutS 44 [] s.data.toList).length) := List.length_pos_iff.2 (cutS_ne 44 _ _)
  generalize cutS 44 [] s.data.toList = V at HCP HVS HVL HVN ⊢
  generalize hR : st V [] = R
  obtain ⟨n, hn⟩ : ∃ n, n = V.length := ⟨_, rfl⟩
  have HN : Hid (n = V.length) := hn
  have hnl : n ≤ 1048577 := by rw [hn]; exact HVL.out
  have HR0 : Hid (st (V.drop 0) [] = R) := by rw [List.drop_zero]; exact hR
  have b0 := new_below w 38 #[]
  have own0 : OwnP (w.alloc (.cells #[] 38)) w.heap.size (.slice (some ⟨w.heap.size, 0, none⟩) 0 0) [] := ⟨rfl, .inr ⟨w.heap.size, 0, #[], rfl, Nat.le_refl _, (MapKept.heap_alloc w _).1, Nat.le_refl _, Nat.zero_le _, rfl, rfl⟩⟩
  obtain ⟨i0, hi, hz0, hz1, hz2⟩ := info_parts rg.infoAt
  clear hR hn HVL
  go_enter Tryd.func26, Tryd.ntmps26
  go_wp2_with fail
  generalize w.alloc _ = w0 at b0 own0 ⊢
  refine (HCP.out _).mono ?_
  rintro e w1 ⟨v, rfl, hw1, hb1⟩
  have own1 : OwnP w1 w.heap.size (.slice (some ⟨w.heap.size, 0, none⟩) 0 0) [] := ow.own_below own0 hb1
  have b1 := b0.trans (hb1.mono b0.size)
  obtain ⟨g, cap, rfl, hgl, hcl⟩ := hw1
  rw [← HN.out]
  have HC1 : Hid (∀ j, j < V.length → w1.cell? ⟨g, j, none⟩ = some (.string ⟨(V.getD j []).toArray⟩)) := hcl
  have hg1 := b1.size
  have HAP : Hid (Apart (.slice (some ⟨w.heap.size, 0, none⟩) 0 0) g) := by
    intro e
    have eg : g = w.heap.size := by simpa [Value.ownBlock] using e
    have hV0 : 0 < V.length := HVN.out
    have hc0 := hcl 0 hV0
    rw [eg] at hc0
    rcases own1.2 with ⟨h3, _⟩ | ⟨g', cap', cur, h3, _, h5, h6, _, h7, _⟩
    · cases h3
    · cases h3
      rw [cell_of_row _ _ _ _ _ _ h5] at hc0
      have : cur.size = 0 := h7
      rw [Array.getElem?_eq_none (by omega)] at hc0
      cases hc0
  clear hcl HCP own0 b0 hb1
  go_wp2
  go_loopw [4, 6] (fun z i wr => ∃ (k : Nat) (acc : List Pr), k ≤ n ∧ i = .int .i64 k ∧ acc.length ≤ 50 ∧ st (V.drop k) acc = R ∧ OwnP wr w.heap.size z acc ∧ Below w.heap.size w wr ∧ Apart z g ∧ (∀ j, j < V.length → wr.cell? ⟨g, j, none⟩ = some (.string ⟨(V.getD j []).toArray⟩)) ∧ g < wr.heap.size) (fun _ i _ => n - (intOf i).toNat)
  case atStart => exact ⟨0, [], Nat.zero_le _, rfl, Nat.zero_le _, HR0.out, own1, b1, HAP.out, HC1.out, hgl⟩
  case round =>
    obtain ⟨k, acc, hk, rfl, hacc, hst, hown, hbw, hap, hcl, hglr⟩ := hrel
    obtain ⟨av, capv, rfl⟩ := own_slice hown
    have HST : Hid (st (V.drop k) acc = R) := hst
    have HCL : Hid (∀ j, j < V.length → wr.cell? ⟨g, j, none⟩ = some (.string ⟨(V.getD j []).toArray⟩)) := hcl
    have HAP : Hid (Apart (.slice av acc.length capv) g) := hap
    clear hst hcl hap HR0 HC1
    have HO : Hid (OwnP wr w.heap.size (.slice av acc.length capv) acc ∧ Below w.heap.size w wr) := ⟨hown, hbw⟩
    clear hown hbw own1 b1 hgl
    by_cases hlt : k < n
    · have hlt' : (k : Int) < (n : Int) := by omega
      have HKL : Hid (k < V.length) := by rw [← HN.out]; exact hlt
      obtain ⟨X, hX⟩ : ∃ X : ByteArray, X = ⟨(V.getD k []).toArray⟩ := ⟨_, rfl⟩
      have hXs : X.size ≤ 1048576 := by rw [Lib.size_eq, hX]; exact HVS.out k HKL.out
      have hXl : X.data.toList = V.getD k [] := by rw [hX]
      have c1 : wr.cell? ⟨g, k, none⟩ = some (.string X) := by rw [hX]; exact HCL.out k HKL.out
      have HCP2 : Hid (∀ W, Calls Tryd.prog 43 #[.string X, .int .u8 58] W fun e w' => ∃ v, e = .returned v ∧ WordsAt (cutS 58 [] X.data.toList) v w' ∧ Below W.heap.size W w') := fun W => cut_parts 58 X W hXs
      have HPS : Hid (∀ j, j < (cutS 58 [] X.data.toList).length → ((cutS 58 [] X.data.toList).getD j []).length ≤ 1048576) := fun j hj => by
        have hm : (cutS 58 [] X.data.toList).getD j [] ∈ cutS 58 [] X.data.toList := by
          rw [List.getD_eq_getElem?_getD, List.getElem?_eq_getElem hj]; exact List.getElem_mem _
        have := cutS_small 58 _ _ _ hm
        rw [← Lib.size_eq] at this
        simp only [List.length_nil, Nat.zero_add] at this
        omega
      have HPL : Hid (0 < (cutS 58 [] X.data.toList).length ∧ (cutS 58 [] X.data.toList).length ≤ 1048577) := ⟨List.length_pos_iff.2 (cutS_ne 58 _ _), by have := cutS_len 58 X.data.toList []; rw [← Lib.size_eq] at this; omega⟩
      have hstx : st (X.data.toList :: V.drop (k + 1)) acc = R := by rw [hXl, ← st_drop HKL.out]; exact HST.out
      have HF1 : Hid (one ((cutS 58 [] X.data.toList).getD 0 []) = none → R = none) := fun y => by rw [← hstx]; exact st_bad (.inl (rg1_first y))
      have HF2 : Hid (2 < (cutS 58 [] X.data.toList).length → R = none) := fun y => by rw [← hstx]; exact st_bad (.inl (rg1_many y))
      have HF3 : Hid (acc.length = 50 → R = none) := fun y => by rw [← hstx]; exact st_bad (.inr y)
      have HF4 : Hid (∀ x, (cutS 58 [] X.data.toList).length = 1 → one ((cutS 58 [] X.data.toList).getD 0 []) = some x → acc.length ≠ 50 → st (V.drop (k + 1)) (acc ++ [(x, x)]) = R) := fun x y1 y2 y3 => by rw [← hstx, st_good (rg1_p1 y1 y2) y3]
      have HF5 : Hid (∀ x y, (cutS 58 [] X.data.toList).length = 2 → one ((cutS 58 [] X.data.toList).getD 0 []) = some x → one ((cutS 58 [] X.data.toList).getD 1 []) = some y → acc.length ≠ 50 → st (V.drop (k + 1)) (acc ++ [(x, y)]) = R) := fun x y y1 y2 y3 y4 => by rw [← hstx, st_good (by rw [rg1_p2 y1, y2, y3]; rfl) y4]
      have HF6 : Hid ((cutS 58 [] X.data.toList).length = 2 → one ((cutS 58 [] X.data.toList).getD 1 []) = none → R = none) := fun y1 y2 => by
        rw [← hstx]
        refine st_bad (.inl ?_)
        rw [rg1_p2 y1, y2]
        cases one ((cutS 58 [] X.data.toList).getD 0 []) <;> rfl
      clear hstx hX hXl HST
      generalize cutS 58 [] X.data.toList = P at HCP2 HPS HPL HF1 HF2 HF4 HF5 HF6
      go_wp2_with fail
      refine (HCP2.out _).mono ?_
      rintro e w2 ⟨v2, rfl, hw2, hb2⟩
      obtain ⟨g2, cap2, rfl, hgl2, hcl2⟩ := hw2
      have HO2 : Hid (w2.ownsRow w.heap.size 38 2 (.slice av acc.length capv) acc.length (cl acc) ∧ Below w.heap.size w w2) := ⟨ow.own_below HO.out.1 hb2, HO.out.2.trans (hb2.mono HO.out.2.size)⟩
      have HB2E : Hid (∀ cs t, Below w.heap.size w (w2.alloc (.cells cs t))) := fun cs t => HO2.out.2.alloc HO2.out.2.size _
      have HCL2 : Hid (∀ j, j < V.length → w2.cell? ⟨g, j, none⟩ = some (.string ⟨(V.getD j []).toArray⟩)) := fun j hj => (hb2.cell (p := ⟨g, j, none⟩) hglr).trans (HCL.out j hj)
      have hglr2 : g < w2.heap.size := by have := hb2.size; omega
      have d0 := hcl2 0 HPL.out.1
      have HD1 : Hid (∀ _ : 1 < P.length, w2.cell? ⟨g2, 1, none⟩ = some (.string ⟨(P.getD 1 []).toArray⟩)) := fun y => hcl2 1 y
      obtain ⟨A, hA⟩ : ∃ A : ByteArray, A = ⟨(P.getD 0 []).toArray⟩ := ⟨_, rfl⟩
      rw [← hA] at d0
      have HAL : Hid (A.data.toList = P.getD 0 []) := (show A.data.toList = P.getD 0 [] from by rw [hA])
      have hAs : A.size ≤ 1048576 := by rw [Lib.size_eq, HAL.out]; exact HPS.out 0 HPL.out.1
      obtain ⟨p, hp⟩ : ∃ p, p = P.length := ⟨_, rfl⟩
      rw [← hp] at HPL HF2 HF4 HF5 HF6 HD1 HPS ⊢
      have hp0 : 0 < p := HPL.out.1
      have hpl : p ≤ 1048577 := HPL.out.2
      clear hA hcl2 hb2 HO HCP2 c1 HCL hglr hp
      go_wp2_with fail
      refine (one_any A hAs w2).mono ?_
      rintro e w2' ⟨⟨x, OB, rfl, ho⟩, hww⟩
      have hww := hww.symm
      subst hww
      have HOA : Hid ((OB = true ∧ one (P.getD 0 []) = some x) ∨ (OB = false ∧ one (P.getD 0 []) = none)) := by rw [HAL.out] at ho; exact ho
      clear ho d0 hAs
      cases OB
      · have HQ : Hid (one (P.getD 0 []) = none) := by
          rcases HOA.out with ⟨h, _⟩ | ⟨_, h⟩
          · cases h
          · exact h
        have HZ : Hid (R = none) := HF1.out HQ.out
        go_wp2
        go_ret2
        exact ⟨.inr ⟨HZ.out, _, rfl, _, _, rfl⟩, HB2E.out _ _⟩
      have HQ : Hid (one (P.getD 0 []) = some x) := by
        rcases HOA.out with ⟨_, h⟩ | ⟨h, _⟩
        · exact h
        · cases h
      clear HOA
      by_cases p2 : 2 < p
      · have p2d : decide ((2 : Int) < (p : Int)) = true := decide_eq_true (by omega)
        have HZ : Hid (R = none) := HF2.out p2
        go_wp2
        go_ret2
        exact ⟨.inr ⟨HZ.out, _, rfl, _, _, rfl⟩, HB2E.out _ _⟩
      have p2d : decide ((2 : Int) < (p : Int)) = false := decide_eq_false (by omega)
      by_cases h50 : acc.length = 50
      · have h50b : ((acc.length : Int) == 50) = true := beq_iff_eq.2 (by omega)
        have HZ : Hid (R = none) := HF3.out h50
        go_wp2
        go_ret2
        exact ⟨.inr ⟨HZ.out, _, rfl, _, _, rfl⟩, HB2E.out _ _⟩
      have h50b : ((acc.length : Int) == 50) = false := beq_eq_false_iff_ne.2 (by omega)
      by_cases p1 : p = 2
      · have p1b : ((p : Int) == 2) = true := beq_iff_eq.2 (by omega)
        have d1 := HD1.out (by omega)
        obtain ⟨A1, hA1⟩ : ∃ A : ByteArray, A = ⟨(P.getD 1 []).toArray⟩ := ⟨_, rfl⟩
        rw [← hA1] at d1
        have HAL1 : Hid (A1.data.toList = P.getD 1 []) := (show A1.data.toList = P.getD 1 [] from by rw [hA1])
        have hAs1 : A1.size ≤ 1048576 := by rw [Lib.size_eq, HAL1.out]; exact HPS.out 1 (by omega)
        have HP1 : Hid (p = 2) := p1
        have hp1 : (1 : Int) < (p : Int) := by omega
        clear hA1 p1
        go_wp2_with fail
        refine (one_any A1 hAs1 w2).mono ?_
        rintro e w2' ⟨⟨y, OB, rfl, ho⟩, hww⟩
        have hww := hww.symm
        subst hww
        have HOA : Hid ((OB = true ∧ one (P.getD 1 []) = some y) ∨ (OB = false ∧ one (P.getD 1 []) = none)) := by rw [HAL1.out] at ho; exact ho
        clear ho d1 hAs1
        cases OB
        · have HQ1 : Hid (one (P.getD 1 []) = none) := by
            rcases HOA.out with ⟨h, _⟩ | ⟨_, h⟩
            · cases h
            · exact h
          have HZ : Hid (R = none) := HF6.out HP1.out HQ1.out
          go_wp2
          go_ret2
          exact ⟨.inr ⟨HZ.out, _, rfl, _, _, rfl⟩, HB2E.out _ _⟩
        have HQ1 : Hid (one (P.getD 1 []) = some y) := by
          rcases HOA.out with ⟨_, h⟩ | ⟨h, _⟩
          · exact h
          · cases h
        clear HOA
        have HNX : Hid (st (V.drop (k + 1)) (acc ++ [(x, y)]) = R) := HF5.out x y HP1.out HQ.out HQ1.out h50
        have HLT : Hid (acc.length + 1 ≤ 50) := (show acc.length + 1 ≤ 50 by omega)
        go_wp2_with (at_builtin; go_loud (refine wpList_append_own _ rfl _ _ 29 rfl w.heap.size 38 i0 _ 2 16 Tryd.underlying29 hi hz0 hz1 hz2 rfl (by decide) _ _ _ rfl (HO2.out.1.alloc _) ⟨w2.heap.size, 0, none⟩ 1 1 [Value.int .i64 x, Value.int .i64 y] rfl rfl (by have hh := ow.cells_new w2 [Value.int .i64 x, Value.int .i64 y] 38; simpa using hh) (by simp [Value.oneCell']) (by unfold maxLen; omega) (by omega) (by have := HO2.out.2.size; simp; omega) ?_); intro v' w6 hown' hgrow _)
        have hb6 := Below.grown (HO2.out.2.alloc HO2.out.2.size _) hgrow (by have := HO2.out.2.size; simp; omega) (ow.own_lt HO2.out.1)
        have hglr6 : g < w6.heap.size := by have := hgrow.size; simp at this; omega
        have HCL6 : Hid (∀ j, j < V.length → w6.cell? ⟨g, j, none⟩ = some (.string ⟨(V.getD j []).toArray⟩)) := fun j hj => by
          have hbk : w6.heap[g]? = w2.heap[g]? := (hgrow.block g (by simp; omega) HAP.out).trans (Lib.alloc_old w2 _ g hglr2)
          have := HCL2.out j hj
          unfold World.cell? at this ⊢
          rw [hbk]
          exact this
        have HOW6 : OwnP w6 w.heap.size v' (acc ++ [(x, y)]) := by unfold OwnP; rw [cl_snoc, List.length_append]; exact hown'
        have HAP6 : Apart v' g := apart_of HOW6 (by simp) (HCL6.out 0 (by have := HKL.out; omega))
        have HO6 : Hid (OwnP w6 w.heap.size v' (acc ++ [(x, y)]) ∧ Below w.heap.size w w6 ∧ Apart v' g) := ⟨HOW6, hb6, HAP6⟩
        clear hown' hgrow hb6 HOW6 HAP6
        go_wp2
        go_roundw
        case rel => exact ⟨k + 1, acc ++ [(x, y)], by omega, by go_num, by rw [List.length_append]; exact HLT.out, HNX.out, HO6.out.1, HO6.out.2.1, HO6.out.2.2, HCL6.out, hglr6⟩
        case measure => simp [intOf]; omega
      · have p1b : ((p : Int) == 2) = false := beq_eq_false_iff_ne.2 (by omega)
        have HNX : Hid (st (V.drop (k + 1)) (acc ++ [(x, x)]) = R) := HF4.out x (by omega) HQ.out h50
        have HLT : Hid (acc.length + 1 ≤ 50) := (show acc.length + 1 ≤ 50 by omega)
        go_wp2_with (at_builtin; go_loud (refine wpList_append_own _ rfl _ _ 29 rfl w.heap.size 38 i0 _ 2 16 Tryd.underlying29 hi hz0 hz1 hz2 rfl (by decide) _ _ _ rfl (HO2.out.1.alloc _) ⟨w2.heap.size, 0, none⟩ 1 1 [Value.int .i64 x, Value.int .i64 x] rfl rfl (by have hh := ow.cells_new w2 [Value.int .i64 x, Value.int .i64 x] 38; simpa using hh) (by simp [Value.oneCell']) (by unfold maxLen; omega) (by omega) (by have := HO2.out.2.size; simp; omega) ?_); intro v' w6 hown' hgrow _)
        have hb6 := Below.grown (HO2.out.2.alloc HO2.out.2.size _) hgrow (by have := HO2.out.2.size; simp; omega) (ow.own_lt HO2.out.1)
        have hglr6 : g < w6.heap.size := by have := hgrow.size; simp at this; omega
        have HCL6 : Hid (∀ j, j < V.length → w6.cell? ⟨g, j, none⟩ = some (.string ⟨(V.getD j []).toArray⟩)) := fun j hj => by
          have hbk : w6.heap[g]? = w2.heap[g]? := (hgrow.block g (by simp; omega) HAP.out).trans (Lib.alloc_old w2 _ g hglr2)
          have := HCL2.out j hj
          unfold World.cell? at this ⊢
          rw [hbk]
          exact this
        have HOW6 : OwnP w6 w.heap.size v' (acc ++ [(x, x)]) := by unfold OwnP; rw [cl_snoc, List.length_append]; exact hown'
        have HAP6 : Apart v' g := apart_of HOW6 (by simp) (HCL6.out 0 (by have := HKL.out; omega))
        have HO6 : Hid (OwnP w6 w.heap.size v' (acc ++ [(x, x)]) ∧ Below w.heap.size w w6 ∧ Apart v' g) := ⟨HOW6, hb6, HAP6⟩
        clear hown' hgrow hb6 HOW6 HAP6
        go_wp2
        go_roundw
        case rel => exact ⟨k + 1, acc ++ [(x, x)], by omega, by go_num, by rw [List.length_append]; exact HLT.out, HNX.out, HO6.out.1, HO6.out.2.1, HO6.out.2.2, HCL6.out, hglr6⟩
        case measure => simp [intOf]; omega
    · have HE : Hid (R = some acc) := by
        have := HST.out
        rw [List.drop_eq_nil_of_le (by have := HN.out; omega)] at this
        exact this.symm
      have hkn : k = n := by omega
      subst hkn
      go_wp2
      go_ret2
      exact ⟨.inl ⟨acc, _, HE.out, rfl, HO.out.1, hacc⟩, HO.out.2⟩
end Go.Proofs.YtofpnabfecimhaaDoor.nu
