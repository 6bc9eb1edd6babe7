/-
  Both ReadFlags functions.
-/
import Derived.Test.YtofpnabfecimhaaDoorFgc
namespace Go.Proofs.YtofpnabfecimhaaDoor.fg
open Go.RowKit
open lo sl sp gr
set_option linter.unusedVariables false

def RF (s : ByteArray) : Int × Int := if 65536 < s.size then (0, 2) else rf s.data.toList
theorem rf_bad {l : List UInt8} (hq : ¬ ∃ q, l = 40 :: (q ++ [41])) : rf l = (0, 3) := by
  rcases shape l with h | rfl | ⟨b, r, rfl, hb⟩ | rfl | ⟨q, x, rfl, hx⟩
  · exact absurd h hq
  · rfl
  · exact rf_open b r hb
  · rfl
  · exact rf_shut q x hx


theorem hasPre_no {b : UInt8} {r : List UInt8} (h : b ≠ 40) : Lib.hasPrefix (b :: r) [40] = false := by
  simp [Lib.hasPrefix, List.isPrefixOf, Ne.symm h]
theorem hasPre_yes (r : List UInt8) : Lib.hasPrefix (40 :: r) [40] = true ∧ Lib.trimPrefix (40 :: r) [40] = r := by
  have h : Lib.hasPrefix (40 :: r) [40] = true := by simp [Lib.hasPrefix, List.isPrefixOf]
  refine ⟨h, ?_⟩
  unfold Lib.trimPrefix
  rw [if_pos h]
  rfl
theorem hasSuf (q : List UInt8) (x : UInt8) : Lib.hasSuffix (q ++ [x]) [41] = decide (x = 41) ∧ (x = 41 → Lib.trimSuffix (q ++ [x]) [41] = q) := by
  have h : Lib.hasSuffix (q ++ [x]) [41] = decide (x = 41) := by
    rw [Bool.eq_iff_iff]
    simp [Lib.hasSuffix, List.isSuffixOf, List.reverse_append, List.isPrefixOf]
    exact eq_comm
  refine ⟨h, fun e => ?_⟩
  unfold Lib.trimSuffix
  rw [if_pos (by rw [h]; exact decide_eq_true e)]
  simp
/-- What the two cuts at the brackets leave. -/
structure Cuts (s : ByteArray) (rest names : ByteArray) (o c : Bool) : Prop where
  pre : ∀ W, Calls Tryd.prog 19 #[.string s, .string ⟨#[40]⟩] W fun e w' => e = .returned (.tuple #[.string rest, .bool o]) ∧ w' = W
  suf : ∀ W, Calls Tryd.prog 20 #[.string rest, .string ⟨#[41]⟩] W fun e w' => e = .returned (.tuple #[.string names, .bool c]) ∧ w' = W
theorem cuts_any (s : ByteArray) (hs : s.size ≤ 1048576) : ∃ rest names o c, Cuts s rest names o c ∧ ((∃ q, s.data.toList = 40 :: (q ++ [41]) ∧ names = ⟨q.toArray⟩ ∧ o = true ∧ c = true) ∨ (rf s.data.toList = (0, 3) ∧ (o = false ∨ (o = true ∧ c = false)))) := by
  refine ⟨_, _, _, _, ⟨fun W => Tryd.strings_CutPrefix s ⟨#[40]⟩ W, fun W => Tryd.strings_CutSuffix _ ⟨#[41]⟩ W (by rw [Lib.size_eq]; show (Lib.trimPrefix s.data.toList [40]).length ≤ _; have e : s.data.toList.length = s.size := (Lib.size_eq s).symm; unfold Lib.trimPrefix; split <;> (try rw [List.length_drop]) <;> omega)⟩, ?_⟩
  show (∃ q, s.data.toList = 40 :: (q ++ [41]) ∧ (⟨(Lib.trimSuffix (Lib.trimPrefix s.data.toList [40]) [41]).toArray⟩ : ByteArray) = ⟨q.toArray⟩ ∧ Lib.hasPrefix s.data.toList [40] = true ∧ Lib.hasSuffix (Lib.trimPrefix s.data.toList [40]) [41] = true) ∨ (rf s.data.toList = (0, 3) ∧ (Lib.hasPrefix s.data.toList [40] = false ∨ (Lib.hasPrefix s.data.toList [40] = true ∧ Lib.hasSuffix (Lib.trimPrefix s.data.toList [40]) [41] = false)))
  generalize s.data.toList = l
  rcases shape l with ⟨q, rfl⟩ | rfl | ⟨b, r, rfl, hb⟩ | rfl | ⟨q, x, rfl, hx⟩
  · obtain ⟨h1, h2⟩ := hasPre_yes (q ++ [41])
    obtain ⟨h3, h4⟩ := hasSuf q 41
    exact .inl ⟨q, rfl, by rw [h2, h4 rfl], h1, by rw [h2, h3]; rfl⟩
  · exact .inr ⟨rfl, .inl rfl⟩
  · exact .inr ⟨rf_open b r hb, .inl (hasPre_no hb)⟩
  · exact .inr ⟨rfl, .inr ⟨rfl, rfl⟩⟩
  · obtain ⟨h1, h2⟩ := hasPre_yes (q ++ [x])
    obtain ⟨h3, h4⟩ := hasSuf q x
    exact .inr ⟨rf_shut q x hx, .inr ⟨h1, by rw [h2, h3]; exact decide_eq_false hx⟩⟩

set_option maxHeartbeats 4000000 in
set_option maxRecDepth 100000 in
theorem implRF (s : ByteArray) (w : World) (mx : Int) (hs : s.size ≤ 1048576) (hF : tb.TF w) (hm : w.cell? ⟨1, 0, none⟩ = some (.int .i64 mx)) :
    Calls Tryd.prog 8 #[.string s] w fun e w' => e = .returned (.tuple #[.int .i64 (RF s).1, .int .i64 (RF s).2]) ∧ Below w.heap.size w w' := by
  by_cases g0 : 65536 < s.size
  · have g0' : (65536 : Int) < (s.size : Int) := by omega
    rw [show RF s = (0, 2) from if_pos g0]
    clear hF hm
    go_enter Tryd.func8, Tryd.ntmps8
    go_wp2
    go_ret2
    exact ⟨rfl, Below.refl _ _⟩
  have g0' : (s.size : Int) ≤ 65536 := by omega
  rw [show RF s = rf s.data.toList from if_neg g0]
  obtain ⟨rest, names, o, c, hcut, hcase⟩ := cuts_any s hs
  have HP : Hid (∀ W, Calls Tryd.prog 19 #[.string s, .string ⟨#[40]⟩] W fun e w' => e = .returned (.tuple #[.string rest, .bool o]) ∧ w' = W) := hcut.pre
  have HS : Hid (∀ W, Calls Tryd.prog 20 #[.string rest, .string ⟨#[41]⟩] W fun e w' => e = .returned (.tuple #[.string names, .bool c]) ∧ w' = W) := hcut.suf
  clear hcut
  rcases hcase with ⟨q, hq, hn, rfl, rfl⟩ | ⟨hr, hoc⟩
  · rw [hq, rf_good q]
    have hnl : names.data.toList = q := by rw [hn]
    have hns : names.size ≤ 1048576 := by
      have e : s.data.toList.length = s.size := (Lib.size_eq s).symm
      rw [Lib.size_eq, hnl]
      rw [hq] at e
      simp at e
      omega
    clear hq hn
    by_cases hqe : q = []
    · have hem : names.toList.isEmpty = true := by rw [Lib.toList_data, hnl, hqe]; rfl
      have hem2 : (names.toList == []) = true := by rw [Lib.toList_data, hnl, hqe]; rfl
      rw [if_pos hqe]
      clear hnl hqe hF hm
      go_enter Tryd.func8, Tryd.ntmps8
      go_wp2_with fail
      refine (HP.out _).mono ?_
      rintro e w ⟨rfl, rfl⟩
      go_wp2_with fail
      refine (HS.out _).mono ?_
      rintro e w ⟨rfl, rfl⟩
      go_wp2
      go_ret2
      exact ⟨rfl, Below.refl _ _⟩
    rw [if_neg hqe]
    have hem : names.toList.isEmpty = false := by rw [Lib.toList_data, hnl]; cases q with | nil => exact absurd rfl hqe | cons a b => rfl
    have hem2 : (names.toList == []) = false := by rw [Lib.toList_data, hnl]; cases q with | nil => exact absurd rfl hqe | cons a b => rfl
    have HVS : Hid (∀ j, j < (cutS 32 [] q).length → ((cutS 32 [] q).getD j []).length ≤ 1048576) := fun j hj => by
      have hm : (cutS 32 [] q).getD j [] ∈ cutS 32 [] q := by
        rw [List.getD_eq_getElem?_getD, List.getElem?_eq_getElem hj]; exact List.getElem_mem _
      have := cutS_small 32 _ _ _ hm
      have e := Lib.size_eq names
      rw [hnl] at e
      simp only [List.length_nil, Nat.zero_add] at this
      omega
    have HVL : Hid ((cutS 32 [] q).length ≤ 1048577) := by
      have := cutS_len 32 q []
      have e := Lib.size_eq names
      rw [hnl] at e
      exact (show _ ≤ 1048577 by omega)
    have HCP := split_any 32 names hns w mx hm
    rw [hnl] at HCP
    have HCP : Hid (Calls Tryd.prog 21 #[.string names, .string ⟨#[32]⟩] w fun e w'' => ∃ v, e = .returned v ∧ WordsAt (cutS 32 [] q) v w'' ∧ Below w.heap.size w w'') := HCP
    clear hqe hnl hm
    generalize cutS 32 [] q = V at HVS HVL HCP ⊢
    generalize hR : go V 0 = R
    obtain ⟨n, hn⟩ : ∃ n, n = V.length := ⟨_, rfl⟩
    have HN : Hid (n = V.length) := hn
    have hnl : n ≤ 1048577 := by rw [hn]; exact HVL.out
    have HR0 : Hid (go (V.drop 0) 0 = R) := by rw [List.drop_zero]; exact hR
    have HF : Hid (tb.TF w) := hF
    clear hR hn HVL hF
    go_enter Tryd.func8, Tryd.ntmps8
    go_wp2_with fail
    refine (HP.out _).mono ?_
    rintro e w ⟨rfl, rfl⟩
    go_wp2_with fail
    refine (HS.out _).mono ?_
    rintro e w ⟨rfl, rfl⟩
    clear HP HS
    go_wp2_with fail
    refine HCP.out.mono ?_
    rintro e w1 ⟨v, rfl, hw1, b1⟩
    have HF1 : Hid (tb.TF w1) := tb.keepS HF.out b1
    clear HCP hem hem2 HF
    obtain ⟨g, cap, rfl, hgl, hcl⟩ := hw1
    rw [← HN.out]
    have HC1 : Hid (∀ j, j < V.length → w1.cell? ⟨g, j, none⟩ = some (.string ⟨(V.getD j []).toArray⟩)) := hcl
    clear hcl
    go_wp2
    go_loopw [8, 36] (fun z i wr => ∃ (k : Nat) (o : Int), k ≤ n ∧ z = .int .i64 o ∧ i = .int .i64 k ∧ go (V.drop k) o = R ∧ Below w1.heap.size w1 wr) (fun _ i _ => n - (intOf i).toNat)
    case atStart => exact ⟨0, 0, Nat.zero_le _, rfl, rfl, HR0.out, Below.refl _ _⟩
    case round =>
      obtain ⟨k, o, hk, rfl, rfl, hgo, hbw⟩ := hrel
      have HGO : Hid (go (V.drop k) o = R) := hgo
      clear hgo
      by_cases hlt : k < n
      · have hlt' : (k : Int) < (n : Int) := by omega
        have HKL : Hid (k < V.length) := by rw [← HN.out]; exact hlt
        obtain ⟨x, hx⟩ : ∃ x : ByteArray, x = ⟨(V.getD k []).toArray⟩ := ⟨_, rfl⟩
        have hxs : x.size ≤ 1048576 := by rw [Lib.size_eq, hx]; exact HVS.out k HKL.out
        have HX : Hid (x = ⟨(V.getD k []).toArray⟩) := hx
        have c1 : wr.cell? ⟨g, k, none⟩ = some (.string x) := by rw [hx]; exact (hbw.cell (p := ⟨g, k, none⟩) hgl).trans (HC1.out k HKL.out)
        clear hx
        go_wp2_with fail
        refine (flagOf_any x wr (tb.keepS HF1.out hbw) hxs).mono ?_
        rintro e w2 ⟨rfl, hb2⟩
        have b2 := hbw.trans (hb2.mono hbw.size)
        clear hb2 hbw c1
        by_cases hf : flg x 5 = 0
        · have HE : Hid (R = (0, 16)) := go_bad HGO.out HKL.out (by rw [← HX.out]; exact hf)
          rw [hf]
          clear hf HGO
          go_wp2
          go_ret2
          exact ⟨by rw [HE.out]; rfl, b1.trans (b2.mono b1.size)⟩
        · have hd : (flg x 5 == 0) = false := by simpa using hf
          have HE : Hid (go (V.drop (k + 1)) (bits .or .i64 o (flg x 5)) = R) := by
            have q := go_step HGO.out HKL.out (by rw [← HX.out]; exact hf)
            rw [← HX.out] at q
            exact q
          generalize flg x 5 = Y at hd HE ⊢
          clear hf HGO
          go_wp2
          go_roundw
          case rel => exact ⟨k + 1, bits .or .i64 o Y, by omega, rfl, by go_num, HE.out, b2⟩
          case measure => simp [intOf]; omega
      · have HE : Hid (R = (o, 0)) := go_end HGO.out (by have := HN.out; omega)
        have hkn : k = n := by omega
        subst hkn
        go_wp2
        go_ret2
        exact ⟨by rw [HE.out]; rfl, b1.trans (hbw.mono b1.size)⟩
  · rw [hr]
    clear hr hF hm
    rcases hoc with rfl | ⟨rfl, rfl⟩
    · go_enter Tryd.func8, Tryd.ntmps8
      go_wp2_with fail
      refine (HP.out _).mono ?_
      rintro e w ⟨rfl, rfl⟩
      go_wp2_with fail
      refine (HS.out _).mono ?_
      rintro e w ⟨rfl, rfl⟩
      go_wp2
      go_ret2
      exact ⟨rfl, Below.refl _ _⟩
    · go_enter Tryd.func8, Tryd.ntmps8
      go_wp2_with fail
      refine (HP.out _).mono ?_
      rintro e w ⟨rfl, rfl⟩
      go_wp2_with fail
      refine (HS.out _).mono ?_
      rintro e w ⟨rfl, rfl⟩
      go_wp2
      go_ret2
      exact ⟨rfl, Below.refl _ _⟩
end Go.Proofs.YtofpnabfecimhaaDoor.fg
