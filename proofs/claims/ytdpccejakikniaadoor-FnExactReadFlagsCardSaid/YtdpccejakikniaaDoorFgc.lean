/-
  Flags read from a text between brackets: the specification's way.
-/
import Derived.Test.YtdpccejakikniaaDoorFgb
namespace Go.Proofs.YtdpccejakikniaaDoor.fg
open Go.RowKit
open lo sl sp gr
set_option linter.unusedVariables false

/-- Whether a name was met. -/
def Fnd (x : ByteArray) (j : Nat) (f : Value) : Prop := f = .bool (decide (flg x j ≠ 0))
/-- What was made of the flags. -/
def Mixed (x : ByteArray) (j : Nat) (o : Int) (z : Value) : Prop := z = .int .i64 (mix x j o)
set_option maxHeartbeats 4000000 in
set_option maxRecDepth 100000 in
theorem specRead_good (s : ByteArray) (q : List UInt8) (w : World) (hs : s.size ≤ 1048576) (h : s.data.toList = 40 :: (q ++ [41])) :
    Calls Tryd.prog 24 #[.string s] w fun e w' => e = .returned (.tuple #[.int .i64 (rf s.data.toList).1, .int .i64 (rf s.data.toList).2]) ∧ Below w.heap.size w w' := by
  have hz : s.size = q.length + 2 := by rw [Lib.size_eq, h]; simp
  have hz' : 2 ≤ (s.size : Int) := by omega
  have hz2 : decide ((s.size : Int) < 2) = false := decide_eq_false (by omega)
  have h0 := at_first s 40 (q ++ [41]) h
  have h1 := at_last s 41 (40 :: q) h
  have h40 : (((40 : UInt8).toNat : Int)) = 40 := rfl
  have h41 : (((41 : UInt8).toNat : Int)) = 41 := rfl
  rw [h40] at h0
  rw [h41] at h1
  have hsl := ow.slice_str (P := Tryd.prog) 9 s .i64 .i64 1 (s.size - 1) Tryd.underlying9 1 ((s.size : Int) - 1) rfl (by omega) (by omega) (by omega)
  rw [mid_text s 40 41 q h] at hsl
  rw [h, rf_good q]
  have hQ : (⟨q.toArray⟩ : ByteArray).data.toList = q := rfl
  obtain ⟨Q, eQ⟩ : ∃ Q : ByteArray, Q = ⟨q.toArray⟩ := ⟨_, rfl⟩
  rw [← eQ] at hsl hQ
  have HQ : Hid (Q.data.toList = q) := hQ
  have hQs : Q.size ≤ 1048576 := by rw [Lib.size_eq, hQ]; omega
  clear h h40 h41 hQ eQ
  by_cases hq : q = []
  · have HR : Hid ((if q = [] then ((0 : Int), (0 : Int)) else go (cutS 32 [] q) 0) = (0, 0)) := if_pos hq
    have hem : Q.toList.isEmpty = true := by rw [Lib.toList_data, HQ.out, hq]; rfl
    have hem2 : (Q.toList == []) = true := by rw [Lib.toList_data, HQ.out, hq]; rfl
    rw [HR.out]
    clear hq hz HR
    go_enter Tryd.func24, Tryd.ntmps24
    go_wp2
    go_ret2
    exact ⟨rfl, Below.refl _ _⟩
  have HR : Hid ((if q = [] then ((0 : Int), (0 : Int)) else go (cutS 32 [] q) 0) = go (cutS 32 [] Q.data.toList) 0) := by rw [HQ.out]; exact if_neg hq
  rw [HR.out]
  have hem : Q.toList.isEmpty = false := by rw [Lib.toList_data, HQ.out]; cases q with | nil => exact absurd rfl hq | cons a b => rfl
  have hem2 : (Q.toList == []) = false := by rw [Lib.toList_data, HQ.out]; cases q with | nil => exact absurd rfl hq | cons a b => rfl
  have HVS : Hid (∀ j, j < (cutS 32 [] Q.data.toList).length → ((cutS 32 [] Q.data.toList).getD j []).length ≤ 1048576) := fun j hj => by
    have hm : (cutS 32 [] Q.data.toList).getD j [] ∈ cutS 32 [] Q.data.toList := by
      rw [List.getD_eq_getElem?_getD, List.getElem?_eq_getElem hj]; exact List.getElem_mem _
    have := cutS_small 32 _ _ _ hm
    rw [← Lib.size_eq] at this
    simp only [List.length_nil, Nat.zero_add] at this
    omega
  have HVL : Hid ((cutS 32 [] Q.data.toList).length ≤ 1048577) := by
    have := cutS_len 32 Q.data.toList []
    rw [← Lib.size_eq] at this
    exact (show _ ≤ 1048577 by omega)
  have HCP := cut_parts 32 Q
  have HCP : Hid (∀ W, Calls Tryd.prog 41 #[.string Q, .int .u8 32] W fun e w' => ∃ v, e = .returned v ∧ WordsAt (cutS 32 [] Q.data.toList) v w' ∧ Below W.heap.size W w') := fun W => HCP W hQs
  clear hq hz HR HQ
  generalize cutS 32 [] Q.data.toList = V at HVS HVL HCP ⊢
  generalize hR : go V 0 = R
  obtain ⟨n, hn⟩ : ∃ n, n = V.length := ⟨_, rfl⟩
  have HN : Hid (n = V.length) := hn
  have hnl : n ≤ 1048577 := by rw [hn]; exact HVL.out
  have HR0 : Hid (go (V.drop 0) 0 = R) := by rw [List.drop_zero]; exact hR
  clear hR hn HVL
  go_enter Tryd.func24, Tryd.ntmps24
  go_wp2_with fail
  refine (HCP.out _).mono ?_
  rintro e w1 ⟨v, rfl, hw1, b1⟩
  clear HCP h0 h1 hsl hem hem2 hz' hz2
  obtain ⟨g, cap, rfl, hgl, hcl⟩ := hw1
  rw [← HN.out]
  have HC1 : Hid (∀ j, j < V.length → w1.cell? ⟨g, j, none⟩ = some (.string ⟨(V.getD j []).toArray⟩)) := hcl
  clear hcl
  go_wp2_with fail
  refine (names_any _).mono ?_
  rintro e w2 ⟨u, rfl, hw2, b2⟩
  obtain ⟨g2, cap2, rfl, hgl2, hcl2⟩ := hw2
  rw [fls_len]
  have HC2 : Hid (∀ j, j < 5 → w2.cell? ⟨g2, j, none⟩ = some (.string (fn j))) := hcl2
  have HC1' : Hid (∀ j, j < V.length → w2.cell? ⟨g, j, none⟩ = some (.string ⟨(V.getD j []).toArray⟩)) := fun j hj => (b2.cell (p := ⟨g, j, none⟩) hgl).trans (HC1.out j hj)
  have hgl' : g < w2.heap.size := by have := b2.size; omega
  have b12 := b1.trans (b2.mono b1.size)
  clear hcl2 HC1 hgl b1 b2
  go_wp2
  go_loopw [4, 7] (fun z i wr => ∃ (k : Nat) (o : Int), k ≤ n ∧ z = .int .i64 o ∧ i = .int .i64 k ∧ go (V.drop k) o = R ∧ Below w2.heap.size w2 wr) (fun _ i _ => n - (intOf i).toNat)
  case atStart => exact ⟨0, 0, Nat.zero_le _, rfl, rfl, HR0.out, Below.refl _ _⟩
  case round =>
    obtain ⟨k, o, hk, rfl, rfl, hgo, hbw⟩ := hrel
    have HGO : Hid (go (V.drop k) o = R) := hgo
    clear hgo
    by_cases hlt : k < n
    · have hlt' : (k : Int) < (n : Int) := by omega
      have HKL : Hid (k < V.length) := by rw [← HN.out]; exact hlt
      obtain ⟨x, hx⟩ : ∃ x : ByteArray, x = ⟨(V.getD k []).toArray⟩ := ⟨_, rfl⟩
      have hxs : x.size ≤ 1048576 := by rw [Lib.size_eq, hx]; exact HVS.out k HKL.out
      have HX : Hid (x = ⟨(V.getD k []).toArray⟩) := hx
      have HCX : Hid (w2.cell? ⟨g, k, none⟩ = some (.string x)) := by rw [hx]; exact HC1'.out k HKL.out
      clear hx
      go_wp2
      go_loopw [4, 8, 9] (fun z f i wr => ∃ j : Nat, j ≤ 5 ∧ Mixed x j o z ∧ Fnd x j f ∧ i = .int .i64 j ∧ Below w2.heap.size w2 wr) (fun _ _ i _ => 5 - (intOf i).toNat)
      case atStart => exact ⟨0, Nat.zero_le _, rfl, rfl, rfl, hbw⟩
      case round =>
        obtain ⟨j, hj, hmx, hfx, rfl, hbr⟩ := hrel
        obtain rfl : _ = _ := hmx
        obtain rfl : _ = _ := hfx
        by_cases hlj : j < 5
        · have hlj' : (j : Int) < 5 := by omega
          have c1 : wr.cell? ⟨g, k, none⟩ = some (.string x) := (hbr.cell (p := ⟨g, k, none⟩) hgl').trans HCX.out
          have c2 : wr.cell? ⟨g2, j, none⟩ = some (.string (fn j)) := (hbr.cell (p := ⟨g2, j, none⟩) hgl2).trans (HC2.out j hlj)
          have hys : (fn j).size ≤ 1048576 := by have := fn_size j hlj; omega
          obtain ⟨lw, hlw⟩ : ∃ lw : ByteArray → ByteArray, ∀ t, lw t = ⟨(lower t.data.toList).toArray⟩ := ⟨_, fun t => rfl⟩
          have HT : ((lw x).toList == (lw (fn j)).toList) = sameB x (fn j) := by rw [hlw, hlw]; exact tl_same x (fn j)
          have HJ : Hid (∀ o, sameB x (fn j) = true → mix x j o = o ∧ mix x (j + 1) o = bits .or .i64 o (pw j) ∧ decide (flg x (j + 1) ≠ 0) = true) := fun o y => mix_hit o hlj y
          have HM : Hid (∀ o, sameB x (fn j) = false → mix x (j + 1) o = mix x j o ∧ decide (flg x (j + 1) ≠ 0) = decide (flg x j ≠ 0)) := fun o y => mix_miss o y
          have HLW : Hid (∀ (t : ByteArray) W, t.size ≤ 1048576 → Calls Tryd.prog 42 #[.string t] W fun e w' => e = .returned (.string (lw t)) ∧ Below W.heap.size W w') := fun t W ht => by rw [hlw]; exact spec_lower t W ht
          clear hlw
          generalize sameB x (fn j) = SB at HT HJ HM
          have hj0 : (0 : Int) ≤ (j : Int) := by omega
          have hk0 : (0 : Int) ≤ (k : Int) := by omega
          generalize fn j = Y at c2 hys HT
          go_wp2_with fail
          have ne := ext_some wr
          have c1 := fun z : Ext wr => gw_cell z c1
          have c2 := fun z : Ext wr => gw_cell z c2
          refine region_lit (by kernel_rfl) (by kernel_rfl) ?_
          repeat (go_big_quiet_step ((go_at_call 42; exact grow_of (HLW.out _ _ (by assumption)))))
          refine wpQuiet_nil ?_
          rintro W' ⟨z, rfl⟩
          have b3 := hbr.trans ((gw_below z).mono hbr.size)
          generalize gw z = W' at b3 ⊢
          clear c1 c2 hbr HLW
          cases SB
          · have HZ : Hid (mix x (j + 1) o = mix x j o ∧ decide (flg x (j + 1) ≠ 0) = decide (flg x j ≠ 0)) := HM.out o rfl
            clear HM HJ
            generalize mix x j o = MX at HZ ⊢
            generalize decide (flg x j ≠ 0) = FX at HZ ⊢
            go_wp2
            go_roundw
            case rel => exact ⟨j + 1, by omega, by unfold Mixed; rw [HZ.out.1], by unfold Fnd; rw [HZ.out.2], by go_num, b3⟩
            case measure => simp [intOf]; omega
          · have HZ : Hid (mix x j o = o ∧ mix x (j + 1) o = bits .or .i64 o (pw j) ∧ decide (flg x (j + 1) ≠ 0) = true) := HJ.out o rfl
            clear HM HJ
            generalize mix x j o = MX at HZ ⊢
            generalize decide (flg x j ≠ 0) = FX at ⊢
            have hc : j = 0 ∨ j = 1 ∨ j = 2 ∨ j = 3 ∨ j = 4 := by omega
            rcases hc with rfl | rfl | rfl | rfl | rfl
            · go_wp2
              go_roundw
              case rel => exact ⟨0 + 1, by omega, by unfold Mixed; rw [HZ.out.2.1, HZ.out.1]; rfl, by unfold Fnd; rw [HZ.out.2.2], by go_num, b3⟩
              case measure => simp [intOf]
            · go_wp2
              go_roundw
              case rel => exact ⟨1 + 1, by omega, by unfold Mixed; rw [HZ.out.2.1, HZ.out.1]; rfl, by unfold Fnd; rw [HZ.out.2.2], by go_num, b3⟩
              case measure => simp [intOf]
            · go_wp2
              go_roundw
              case rel => exact ⟨2 + 1, by omega, by unfold Mixed; rw [HZ.out.2.1, HZ.out.1]; rfl, by unfold Fnd; rw [HZ.out.2.2], by go_num, b3⟩
              case measure => simp [intOf]
            · go_wp2
              go_roundw
              case rel => exact ⟨3 + 1, by omega, by unfold Mixed; rw [HZ.out.2.1, HZ.out.1]; rfl, by unfold Fnd; rw [HZ.out.2.2], by go_num, b3⟩
              case measure => simp [intOf]
            · go_wp2
              go_roundw
              case rel => exact ⟨4 + 1, by omega, by unfold Mixed; rw [HZ.out.2.1, HZ.out.1]; rfl, by unfold Fnd; rw [HZ.out.2.2], by go_num, b3⟩
              case measure => simp [intOf]
        · have hj5 : j = 5 := by omega
          subst hj5
          have HMX : Hid (mix x 5 o = if flg x 5 = 0 then o else bits .or .i64 o (flg x 5)) := rfl
          by_cases hf : flg x 5 = 0
          · have hd : decide (flg x 5 ≠ 0) = false := by rw [hf]; rfl
            have HE : Hid (R = (0, 16)) := go_bad HGO.out HKL.out (by rw [← HX.out]; exact hf)
            rw [hd]
            generalize mix x 5 o = MX
            clear HMX hf hd HGO
            go_wp2
            go_ret2
            exact ⟨by rw [HE.out]; rfl, b12.trans (hbr.mono b12.size)⟩
          · have hd : decide (flg x 5 ≠ 0) = true := decide_eq_true hf
            have HE : Hid (go (V.drop (k + 1)) (mix x 5 o) = R) := by
              rw [HMX.out, if_neg hf]
              have q := go_step HGO.out HKL.out (by rw [← HX.out]; exact hf)
              rw [← HX.out] at q
              exact q
            rw [hd]
            generalize mix x 5 o = MX at HE ⊢
            clear HMX hf hd HGO
            go_wp2
            go_roundw
            case rel => exact ⟨k + 1, MX, by omega, rfl, by go_num, HE.out, hbr⟩
            case measure => simp [intOf]; omega
    · have HE : Hid (R = (o, 0)) := go_end HGO.out (by have := HN.out; omega)
      have hkn : k = n := by omega
      subst hkn
      go_wp2
      go_ret2
      exact ⟨by rw [HE.out]; rfl, b12.trans (hbw.mono b12.size)⟩
end Go.Proofs.YtdpccejakikniaaDoor.fg
