/-
  Texts that are written are read back: plain facts.
-/
import Derived.Test.YtbfppgoehgdnlaaDoorRdl
import Derived.Test.YtbfppgoehgdnlaaDoorDxe
namespace Go.Proofs.YtbfppgoehgdnlaaDoor.rd
open Go.RowKit
open dt dx
set_option linter.unusedVariables false
theorem dg_isD {n : Int} (h0 : 0 ≤ n) (h1 : n ≤ 9) : isD (dg n) = true := isD_iff.2 (by rw [dg_nat h0 h1]; omega)
theorem dg_ne {n : Int} (h0 : 0 ≤ n) (h1 : n ≤ 9) {b : UInt8} (hb : isD b = false) : dg n ≠ b := fun e => by have := dg_isD h0 h1; rw [e, hb] at this; cases this
theorem num_two_dg {n : Int} (h0 : 0 ≤ n) (h1 : n ≤ 99) : num (two n) = n := by
  unfold two
  rw [num_two, dg_nat (by omega) (by omega), dg_nat (by omega) (by omega)]
  omega
theorem num_four_dg {n : Int} (h0 : 0 ≤ n) (h1 : n ≤ 9999) : num (four n) = n := by
  unfold four
  rw [num_four, dg_nat (by omega) (by omega), dg_nat (by omega) (by omega), dg_nat (by omega) (by omega), dg_nat (by omega) (by omega)]
  omega
theorem hf_two {n : Int} (h0 : 0 ≤ n) (h1 : n ≤ 99) : isD (dg (n / 10)) = true ∧ isD (dg (n % 10)) = true := ⟨dg_isD (by omega) (by omega), dg_isD (by omega) (by omega)⟩
theorem hf_four {n : Int} (h0 : 0 ≤ n) (h1 : n ≤ 9999) : isD (dg (n / 1000)) = true ∧ isD (dg (n / 100 % 10)) = true ∧ isD (dg (n / 10 % 10)) = true ∧ isD (dg (n % 10)) = true :=
  ⟨dg_isD (by omega) (by omega), dg_isD (by omega) (by omega), dg_isD (by omega) (by omega), dg_isD (by omega) (by omega)⟩
/-- The bounds that a right calendar's numbers have. -/
theorem ok_bounds {y m d h i s : Int} (k : Ok y m d h i s) : (0 ≤ y ∧ y ≤ 9999) ∧ (0 ≤ m ∧ m ≤ 99) ∧ (0 ≤ d ∧ d ≤ 99) ∧ (0 ≤ h ∧ h ≤ 99) ∧ (0 ≤ i ∧ i ≤ 99) ∧ (0 ≤ s ∧ s ≤ 99) := by
  obtain ⟨k1, k2, k3, k4, k5, k6, k7, k8, k9, k10, k11, k12⟩ := k
  have k13 := dm_pos y m
  omega
theorem form_m39 {y m d h i s : Int} (k : Ok y m d h i s) : hf (m39 y m d h i s) F19 = true := by
  obtain ⟨⟨y0, y1⟩, ⟨m0, m1⟩, ⟨d0, d1⟩, ⟨h0, h1⟩, ⟨i0, i1⟩, ⟨s0, s1⟩⟩ := ok_bounds k
  obtain ⟨a1, a2, a3, a4⟩ := hf_four y0 y1
  obtain ⟨b1, b2⟩ := hf_two m0 m1
  obtain ⟨c1, c2⟩ := hf_two d0 d1
  obtain ⟨e1, e2⟩ := hf_two h0 h1
  obtain ⟨f1, f2⟩ := hf_two i0 i1
  obtain ⟨g1, g2⟩ := hf_two s0 s1
  simp [m39, four, two, clk, F19, hf, a1, a2, a3, a4, b1, b2, c1, c2, e1, e2, f1, f2, g1, g2]
theorem read_m39 {y m d h i s a : Int} (k : Ok y m d h i s) (z : List UInt8) (hz : zx z = some a) (hp : Lib.hasPrefix z [46] = false) : rdI (m39 y m d h i s ++ z) = fin y m d h i s a := by
  obtain ⟨⟨y0, y1⟩, ⟨m0, m1⟩, ⟨d0, d1⟩, ⟨h0, h1⟩, ⟨i0, i1⟩, ⟨s0, s1⟩⟩ := ok_bounds k
  have e19 : (m39 y m d h i s).length = 19 := rfl
  have ed : (m39 y m d h i s ++ z).drop 19 = z := List.drop_left' e19
  have et : (m39 y m d h i s ++ z).take 19 = m39 y m d h i s := List.take_left' e19
  rw [rdI_fin (a := a) (by rw [List.length_append, e19]; omega) (by rw [et]; exact form_m39 k) (by rw [ed, fi_no hp]) (by rw [ed, fi_no hp]; exact hz)]
  have q1 : g (m39 y m d h i s ++ z) 0 4 = four y := rfl
  have q2 : g (m39 y m d h i s ++ z) 5 2 = two m := rfl
  have q3 : g (m39 y m d h i s ++ z) 8 2 = two d := rfl
  have q4 : g (m39 y m d h i s ++ z) 11 2 = two h := rfl
  have q5 : g (m39 y m d h i s ++ z) 14 2 = two i := rfl
  have q6 : g (m39 y m d h i s ++ z) 17 2 = two s := rfl
  rw [q1, q2, q3, q4, q5, q6, num_four_dg y0 y1, num_two_dg m0 m1, num_two_dg d0 d1, num_two_dg h0 h1, num_two_dg i0 i1, num_two_dg s0 s1]
/-- A stamp is read back from its first text, also from another zone's. -/
theorem back39 {n : Int} (n0 : 0 ≤ n) (n1 : n ≤ 4102444799) : r3 (t39 n) = .tuple #[.int .i64 n, .int .i64 0] := by
  have k := civ_ok n0 n1
  have hl : (t39 n).length = 20 := rfl
  rw [r3_else (by rw [hl]; decide)]
  unfold t39
  rw [read_m39 k [90] zx_z rfl, fin_in k (by rw [st_civ]; exact dw.in_yes (by omega) (by omega)), st_civ, Int.sub_zero]
theorem backz {n q : Int} (n0 : 0 ≤ n) (q0 : 0 ≤ q) (q1 : q ≤ 12) (n1 : n + q * 3600 ≤ 4102444799) :
    r3 (m39 (yr (n + q * 3600)) (mn (n + q * 3600)) (dy (n + q * 3600)) (hr (n + q * 3600)) (dt.mt (n + q * 3600)) (sc (n + q * 3600)) ++ [43, dg (q / 10), dg (q % 10), 58, 48, 48]) = .tuple #[.int .i64 n, .int .i64 0] := by
  have k := civ_ok (show 0 ≤ n + q * 3600 by omega) n1
  have d1 := dg_isD (show 0 ≤ q / 10 by omega) (by omega)
  have d2 := dg_isD (show 0 ≤ q % 10 by omega) (by omega)
  have hz : zx [43, dg (q / 10), dg (q % 10), 58, 48, 48] = some (q * 3600) := by
    rw [zx_c (by simp)]
    show (if (58 : UInt8) = 58 then zn 43 [dg (q / 10), dg (q % 10)] [48, 48] else none) = _
    rw [if_pos rfl, zn_some (by rw [dgs_two, d1, d2]; rfl) (by decide)]
    have e : num [dg (q / 10), dg (q % 10)] = q := by
      have := num_two_dg q0 (show q ≤ 99 by omega)
      exact this
    have e0 : num [48, 48] = 0 := by decide
    rw [e, e0, if_neg (by omega), if_pos rfl]
    simp
  rw [r3_else (by simp [m39, four, two, clk])]
  rw [read_m39 k _ hz rfl, fin_in k (by rw [st_civ]; exact dw.in_yes (by omega) (by omega)), st_civ]
  rw [show n + q * 3600 - q * 3600 = n by omega]
/-- The second text behind the comma. -/
def b82 (y : Int) (m : Nat) (d h i s : Int) : List UInt8 := two d ++ 32 :: (mtn m ++ 32 :: (four y ++ 32 :: (clk h i s ++ 32 :: [43, 48, 48, 48, 48])))
theorem wk_three {a : Nat} (h : a < 7) : ∃ x y z : UInt8, wkn a = [x, y, z] ∧ x ≠ 44 ∧ y ≠ 44 ∧ z ≠ 44 := by
  have : a = 0 ∨ a = 1 ∨ a = 2 ∨ a = 3 ∨ a = 4 ∨ a = 5 ∨ a = 6 := by omega
  rcases this with rfl | rfl | rfl | rfl | rfl | rfl | rfl <;> exact ⟨_, _, _, rfl, by decide, by decide, by decide⟩
theorem cut_t82 {a : Nat} (ha : a < 7) (y : Int) (m : Nat) (d h i s : Int) : Lib.cut (f82 a y m d h i s) [44, 32] = (wkn a, b82 y m d h i s, true) := by
  obtain ⟨x, u, z, e, h1, h2, h3⟩ := wk_three ha
  have hf : f82 a y m d h i s = x :: u :: z :: 44 :: 32 :: b82 y m d h i s := by
    unfold f82 b82
    rw [e]
    simp
  rw [hf, cut_three _ h1 h2 h3, e]
theorem mt_blank {m : Nat} (h : m < 13) : ∀ b ∈ mtn m, b ≠ 32 := by
  have : m = 0 ∨ m = 1 ∨ m = 2 ∨ m = 3 ∨ m = 4 ∨ m = 5 ∨ m = 6 ∨ m = 7 ∨ m = 8 ∨ m = 9 ∨ m = 10 ∨ m = 11 ∨ m = 12 := by omega
  rcases this with rfl | rfl | rfl | rfl | rfl | rfl | rfl | rfl | rfl | rfl | rfl | rfl | rfl <;> decide
theorem two_blank {n : Int} (h0 : 0 ≤ n) (h1 : n ≤ 99) : ∀ b ∈ two n, b ≠ 32 := by
  intro b hb
  simp only [two, List.mem_cons, List.not_mem_nil, or_false] at hb
  rcases hb with rfl | rfl <;> exact dg_ne (by omega) (by omega) (by decide)
theorem four_blank {n : Int} (h0 : 0 ≤ n) (h1 : n ≤ 9999) : ∀ b ∈ four n, b ≠ 32 := by
  intro b hb
  simp only [four, List.mem_cons, List.not_mem_nil, or_false] at hb
  rcases hb with rfl | rfl | rfl | rfl <;> exact dg_ne (by omega) (by omega) (by decide)
theorem clk_blank {h i s : Int} (h0 : 0 ≤ h) (h1 : h ≤ 99) (i0 : 0 ≤ i) (i1 : i ≤ 99) (s0 : 0 ≤ s) (s1 : s ≤ 99) : ∀ b ∈ clk h i s, b ≠ 32 := by
  intro b hb
  simp only [clk, List.mem_append, List.mem_cons, List.not_mem_nil, or_false] at hb
  rcases hb with (((hb | rfl) | hb) | rfl) | hb
  · exact two_blank h0 h1 b hb
  · decide
  · exact two_blank i0 i1 b hb
  · decide
  · exact two_blank s0 s1 b hb
theorem words_t82 {y : Int} {m : Nat} {d h i s : Int} (k : Ok y (m : Int) d h i s) : wds [] (b82 y m d h i s) = [two d, mtn m, four y, clk h i s, [43, 48, 48, 48, 48]] := by
  obtain ⟨⟨y0, y1⟩, ⟨m0, m1⟩, ⟨d0, d1⟩, ⟨h0, h1⟩, ⟨i0, i1⟩, ⟨s0, s1⟩⟩ := ok_bounds k
  have hm : m < 13 := by have := k.2.2.2.1; omega
  unfold b82
  rw [wds_blank _ _ _ (two_blank d0 d1), wds_blank _ _ _ (mt_blank hm), wds_blank _ _ _ (four_blank y0 y1), wds_blank _ _ _ (clk_blank h0 h1 i0 i1 s0 s1), wds_none _ _ (by decide)]
  rfl
theorem mon_mtn {m : Nat} (h1 : 1 ≤ m) (h : m < 13) : mon (mtn m) = m := by
  have e : mtn m = tb.mts[m]'h := by unfold mtn; rw [List.getD_eq_getElem?_getD, List.getElem?_eq_getElem (show m < tb.mts.length from h)]; rfl
  rw [e, mon_at h1 h]
theorem forms82 {y : Int} {m : Nat} {d h i s : Int} (k : Ok y (m : Int) d h i s) : hf (two d) [48] = false ∧ hf (two d) [48, 48] = true ∧ hf (four y) F4 = true ∧ hf (clk h i s) F8 = true := by
  obtain ⟨⟨y0, y1⟩, ⟨m0, m1⟩, ⟨d0, d1⟩, ⟨h0, h1⟩, ⟨i0, i1⟩, ⟨s0, s1⟩⟩ := ok_bounds k
  obtain ⟨a1, a2, a3, a4⟩ := hf_four y0 y1
  obtain ⟨c1, c2⟩ := hf_two d0 d1
  obtain ⟨e1, e2⟩ := hf_two h0 h1
  obtain ⟨f1, f2⟩ := hf_two i0 i1
  obtain ⟨g1, g2⟩ := hf_two s0 s1
  exact ⟨hf_no (by rw [two_len]; decide), by simp [two, hf, c1, c2], by simp [four, F4, hf, a1, a2, a3, a4], by simp [clk, two, F8, hf, e1, e2, f1, f2, g1, g2]⟩

/-- A stamp is read back from its second text. -/
theorem back82 (n : Int) (n0 : 0 ≤ n) (n1 : n ≤ 4102444799) (w : World) (mx : Int) (hm : w.cell? ⟨2, 0, none⟩ = some (.int .i64 mx)) (hT : tb.TN w) (hTW : tb.TW w) :
    Calls Tryd.prog 15 #[.string ⟨(t82 n).toArray⟩] w fun e w' => e = .returned (.tuple #[.int .i64 n, .int .i64 0]) ∧ Below w.heap.size w w' := by
  have k := civ_ok n0 n1
  obtain ⟨q, hq⟩ : ∃ q : Nat, mn n = (q : Int) := ⟨(mn n).toNat, by have := k.2.2.1; omega⟩
  have hs := st_civ (n := n)
  have ha7 : wkd n < 7 := by unfold wkd; omega
  rw [hq] at k hs
  obtain ⟨f1, f2, f3, f4⟩ := forms82 k
  obtain ⟨⟨y0, y1⟩, ⟨m0, m1⟩, ⟨d0, d1⟩, ⟨h0, h1⟩, ⟨i0, i1⟩, ⟨s0, s1⟩⟩ := ok_bounds k
  have hm1 : mon (mtn q) = (q : Int) := mon_mtn (by have := k.2.2.1; omega) (by have := k.2.2.2.1; omega)
  have c1 : g (clk (hr n) (dt.mt n) (sc n)) 0 2 = two (hr n) := rfl
  have c2 : g (clk (hr n) (dt.mt n) (sc n)) 3 2 = two (dt.mt n) := rfl
  have c3 : g (clk (hr n) (dt.mt n) (sc n)) 6 2 = two (sc n) := rfl
  have et : t82 n = f82 (wkd n) (yr n) q (dy n) (hr n) (dt.mt n) (sc n) := by unfold t82; rw [hq, Int.toNat_natCast]
  have l3 := wkn_len ha7
  have l3m := mtn_len (m := q) (by have := k.2.2.1; omega) (by have := k.2.2.2.1; omega)
  refine impl_82_good ⟨(t82 n).toArray⟩ ?_ (wkn (wkd n)) (b82 (yr n) q (dy n) (hr n) (dt.mt n) (sc n)) (two (dy n)) (mtn q) (four (yr n)) (clk (hr n) (dt.mt n) (sc n)) [43, 48, 48, 48, 48] n w mx hm hT hTW ?_ ?_ (words_t82 k) f1 f2 f3 f4 ?_ ?_ rfl (by decide) (by decide) (by decide) (by decide)
  · rw [et, ← len_eq]
    simp [f82, l3, l3m, two_len, four_len, clk_len]
  · rw [et]
    exact cut_t82 ha7 _ _ _ _ _ _
  · simp [b82, l3m, two_len, four_len, clk_len]
  · rw [c1, c2, c3, hm1, num_four_dg y0 y1, num_two_dg d0 d1, num_two_dg h0 h1, num_two_dg i0 i1, num_two_dg s0 s1]
    exact k
  · rw [c1, c2, c3, hm1, num_four_dg y0 y1, num_two_dg d0 d1, num_two_dg h0 h1, num_two_dg i0 i1, num_two_dg s0 s1]
    exact hs
end Go.Proofs.YtbfppgoehgdnlaaDoor.rd
