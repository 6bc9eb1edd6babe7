/-
  Plain facts on a mutation that is read: what is there, and where it stands in its bytes.
-/
import Derived.Test.YtcnjgmeddkidaaaGreatDoorPkbm
import Derived.Test.YtcnjgmeddkidaaaGreatDoorPkak

namespace Go.Proofs.YtcnjgmeddkidaaaGreatDoor.rm
open Go.RowKit
open it
set_option linter.unusedVariables false

theorem nx_ok {s : Sta} {n : Nat} (h : (nx s n).2 = false) : s.2 = false ∧ n ≤ s.1.size ∧ (nx s n).1.size = s.1.size - n := by
  simp only [nx, sx, Bool.or_eq_false_iff, decide_eq_false_iff_not] at h
  refine ⟨h.1, by omega, ?_⟩
  show (rs s.1 n).size = _
  unfold rs
  rw [if_neg h.2]
  simp
theorem nx_no {s : Sta} {n : Nat} (h : s.1.size < n) : (nx s n).2 = true := by simp [nx, sx, h]
theorem nx_stick {s : Sta} (n : Nat) (h : s.2 = true) : (nx s n).2 = true := by simp [nx, h]
theorem its_stick1 {s : Sta} {k : Nat} (h : (its k s).2.2 = true) : (its (k + 1) s).2.2 = true := by
  simp only [its]
  exact nx_stick _ (nx_stick _ (nx_stick _ (nx_stick _ h)))
theorem its_more {s : Sta} {k : Nat} (h : (its k s).2.2 = true) : ∀ m, (its (k + m) s).2.2 = true
  | 0 => h
  | m + 1 => its_stick1 (its_more h m)
theorem its_upto {s : Sta} {k j : Nat} (h : (its k s).2.2 = true) (hj : k ≤ j) : (its j s).2.2 = true := by
  have := its_more h (j - k)
  rwa [Nat.add_sub_cancel' hj] at this
/-- The state at a place of a text. -/
def pl (t : ByteArray) (a : Nat) : Sta := (t.extract a t.size, false)
theorem pl_zero (t : ByteArray) : pl t 0 = (t, false) := by simp [pl]
theorem pl_size (t : ByteArray) (a : Nat) : (pl t a).1.size = t.size - a := by simp [pl]
theorem tk_pl {t : ByteArray} {a n : Nat} (h : a + n ≤ t.size) : tk (pl t a).1 n = t.extract a (a + n) := by
  unfold tk
  rw [if_neg (by rw [pl_size]; omega)]
  show (t.extract a t.size).extract 0 n = _
  rw [ByteArray.extract_extract]
  congr 1
  omega
theorem nx_pl {t : ByteArray} {a n : Nat} (h : a + n ≤ t.size) : nx (pl t a) n = pl t (a + n) := by
  unfold nx
  refine Prod.ext ?_ ?_
  · show rs (pl t a).1 n = t.extract (a + n) t.size
    unfold rs
    rw [if_neg (by rw [pl_size]; omega)]
    show (t.extract a t.size).extract n (t.extract a t.size).size = _
    rw [ByteArray.extract_extract, ByteArray.size_extract]
    congr 1
    omega
  · show (false || sx (pl t a).1 n) = false
    simp only [sx, Bool.false_or, decide_eq_false_iff_not]
    rw [pl_size]
    omega
theorem nx_pl_no {t : ByteArray} {a n : Nat} (ha : a ≤ t.size) (h : t.size < a + n) : (nx (pl t a) n).2 = true := nx_no (by rw [pl_size]; omega)
theorem num_one {t : ByteArray} {a : Nat} (h : a < t.size) : numB (t.extract a (a + 1)) = (t[a]).toNat := by
  have e : (t.extract a (a + 1)).data.toList = [t[a]] := by
    rw [ByteArray.data_extract]
    apply List.ext_getElem?
    intro i
    rw [Array.getElem?_toList, Array.getElem?_extract]
    have hs : t.data.size = t.size := rfl
    rcases i with _ | i
    · simp [hs]
      rw [show min (a + 1) t.size - a = 1 by omega]
      simp
      rw [Array.getElem?_eq_getElem (by omega)]
      rfl
    · simp [hs]
      omega
  unfold numB
  rw [e]
  simp [num]
theorem nb_pl {t : ByteArray} {a : Nat} (h : a < t.size) : nb (pl t a) 1 = (t[a]).toNat := by
  unfold nb
  rw [tk_pl (by omega), num_one h]
theorem nb2_pl {t : ByteArray} {a : Nat} (h : a + 2 ≤ t.size) : nb (pl t a) 2 = numB (t.extract a (a + 2)) := by
  unfold nb
  rw [tk_pl h]

/-- Whether bytes are just those of a right mutation. -/
def rok (t : ByteArray) : Bool := !(fin (t, false)).2 && (decide ((fin (t, false)).1.size = 0) && mu.mok (mtn (t, false)))
theorem rok_short {t : ByteArray} (h : (fin (t, false)).2 = true) : rok t = false := by simp [rok, h]
theorem rok_left {t : ByteArray} (h : (fin (t, false)).1.size ≠ 0) : rok t = false := by simp [rok, h]
theorem rok_mok {t : ByteArray} (h : mu.mok (mtn (t, false)) = false) : rok t = false := by simp [rok, h]
theorem rok_yes {t : ByteArray} (h : (fin (t, false)).2 = false) (h1 : (fin (t, false)).1.size = 0) : rok t = mu.mok (mtn (t, false)) := by simp [rok, h, h1]
theorem fin_s7 {s : Sta} (h : (s7 s).2 = true) : (fin s).2 = true := by
  unfold fin
  generalize s7 s = q at h ⊢
  generalize nb (s3 s) 1 = k
  have h0 : (its 0 q).2.2 = true := by rw [its]; exact h
  exact its_upto h0 (Nat.zero_le _)
theorem rok_few {t : ByteArray} (h : t.size < 7) : rok t = false := by
  refine rok_short (fin_s7 ?_)
  cases e : (s7 (t, false)).2 with
  | true => rfl
  | false =>
    exfalso
    have h7 := nx_ok (s := s6 (t, false)) e
    have h6 := nx_ok (s := s5 (t, false)) h7.1
    have h5 := nx_ok (s := s4 (t, false)) h6.1
    have h4 := nx_ok (s := s3 (t, false)) h5.1
    have h3 := nx_ok (s := s2 (t, false)) h4.1
    have h2 := nx_ok (s := s1 (t, false)) h3.1
    have h1 := nx_ok (s := (t, false)) h2.1
    have e1 : (s1 (t, false)).1.size = t.size - 1 := h1.2.2
    have e2 : (s2 (t, false)).1.size = (s1 (t, false)).1.size - 1 := h2.2.2
    have e3 : (s3 (t, false)).1.size = (s2 (t, false)).1.size - 1 := h3.2.2
    have e4 : (s4 (t, false)).1.size = (s3 (t, false)).1.size - 1 := h4.2.2
    have e5 : (s5 (t, false)).1.size = (s4 (t, false)).1.size - 1 := h5.2.2
    have q1 : 1 ≤ t.size := h1.2.1
    have q2 := h2.2.1
    have q3 := h3.2.1
    have q4 := h4.2.1
    have q5 := h5.2.1
    have q6 := h6.2.1
    omega
theorem s1_pl {t : ByteArray} (h : 7 ≤ t.size) : s1 (t, false) = pl t 1 := by unfold s1; rw [← pl_zero, nx_pl (by omega)]
theorem s2_pl {t : ByteArray} (h : 7 ≤ t.size) : s2 (t, false) = pl t 2 := by unfold s2; rw [s1_pl h, nx_pl (by omega)]
theorem s3_pl {t : ByteArray} (h : 7 ≤ t.size) : s3 (t, false) = pl t 3 := by unfold s3; rw [s2_pl h, nx_pl (by omega)]
theorem s4_pl {t : ByteArray} (h : 7 ≤ t.size) : s4 (t, false) = pl t 4 := by unfold s4; rw [s3_pl h, nx_pl (by omega)]
theorem s5_pl {t : ByteArray} (h : 7 ≤ t.size) : s5 (t, false) = pl t 5 := by unfold s5; rw [s4_pl h, nx_pl (by omega)]
theorem s6_pl {t : ByteArray} (h : 7 ≤ t.size) : s6 (t, false) = pl t 7 := by unfold s6; rw [s5_pl h, nx_pl (by omega)]
theorem size_is {t : ByteArray} (h : 7 ≤ t.size) : nb (s4 (t, false)) 1 = (t[4]).toNat := by rw [s4_pl h, nb_pl (by omega)]
theorem count_is {t : ByteArray} (h : 7 ≤ t.size) : nb (s3 (t, false)) 1 = (t[3]).toNat := by rw [s3_pl h, nb_pl (by omega)]
theorem rok_name {t : ByteArray} (h : 7 ≤ t.size) (h2 : t.size < 7 + (t[4]).toNat) : rok t = false := by
  refine rok_short (fin_s7 ?_)
  unfold s7
  rw [size_is h, s6_pl h]
  exact nx_pl_no (by omega) h2
theorem s7_pl {t : ByteArray} (h : 7 ≤ t.size) (h2 : 7 + (t[4]).toNat ≤ t.size) : s7 (t, false) = pl t (7 + (t[4]).toNat) := by
  unfold s7
  rw [size_is h, s6_pl h, nx_pl h2]
theorem mtn_is {t : ByteArray} (h : 7 ≤ t.size) (h2 : 7 + (t[4]).toNat ≤ t.size) {ps : List Pr} {s : Sta} (hi : its (t[3]).toNat (pl t (7 + (t[4]).toNat)) = (ps, s)) :
    mtn (t, false) = ⟨((t[0]).toNat : Nat), (numB (t.extract 5 7) : Nat), ((t[1]).toNat : Nat), ((t[2]).toNat : Nat), t.extract 7 (7 + (t[4]).toNat), ps⟩ ∧ fin (t, false) = s := by
  have e0 : nb (t, false) 1 = (t[0]).toNat := by rw [← pl_zero, nb_pl (by omega)]
  have e1 : nb (s1 (t, false)) 1 = (t[1]).toNat := by rw [s1_pl h, nb_pl (by omega)]
  have e2 : nb (s2 (t, false)) 1 = (t[2]).toNat := by rw [s2_pl h, nb_pl (by omega)]
  have e5 : nb (s5 (t, false)) 2 = numB (t.extract 5 7) := by rw [s5_pl h, nb2_pl (by omega)]
  unfold mtn fin
  rw [e0, e1, e2, e5, size_is h, count_is h, s7_pl h h2, hi, s6_pl h, tk_pl h2]
  exact ⟨rfl, rfl⟩
theorem rok_its {t : ByteArray} (h : 7 ≤ t.size) (h2 : 7 + (t[4]).toNat ≤ t.size) {j : Nat} (hi : (its j (pl t (7 + (t[4]).toNat))).2.2 = true) (hj : j ≤ (t[3]).toNat) : rok t = false := by
  refine rok_short ?_
  rw [(mtn_is h h2 (ps := (its (t[3]).toNat (pl t (7 + (t[4]).toNat))).1) (s := (its (t[3]).toNat (pl t (7 + (t[4]).toNat))).2) rfl).2]
  exact its_upto hi hj
theorem its_next {s : Sta} {t : ByteArray} {a j : Nat} {ps : List Pr} (h : its j s = (ps, pl t a)) {k n : Nat} (h4 : a + 4 ≤ t.size) (hk : k = numB (t.extract a (a + 2))) (hn : n = numB (t.extract (a + 2) (a + 4))) (hs : a + 4 + k + n ≤ t.size) :
    its (j + 1) s = (ps ++ [(t.extract (a + 4) (a + 4 + k), t.extract (a + 4 + k) (a + 4 + k + n))], pl t (a + 4 + k + n)) := by
  have e1 : nx (pl t a) 2 = pl t (a + 2) := nx_pl (by omega)
  have e2 : nx (pl t (a + 2)) 2 = pl t (a + 4) := nx_pl (by omega)
  have e3 : nb (pl t a) 2 = k := by rw [nb2_pl (by omega), hk]
  have e4 : nb (pl t (a + 2)) 2 = n := by rw [nb2_pl (by omega), hn]
  simp only [its, h, e1, e2, e3, e4]
  rw [nx_pl (a := a + 4) (n := k) (by omega), nx_pl (a := a + 4 + k) (n := n) hs, tk_pl (a := a + 4) (n := k) (by omega), tk_pl (a := a + 4 + k) (n := n) hs]
theorem its_no4 {s : Sta} {t : ByteArray} {a j : Nat} {ps : List Pr} (h : its j s = (ps, pl t a)) (ha : a ≤ t.size) (h4 : t.size < a + 4) : (its (j + 1) s).2.2 = true := by
  simp only [its, h]
  refine nx_stick _ (nx_stick _ ?_)
  by_cases h2 : a + 2 ≤ t.size
  · rw [nx_pl h2]
    exact nx_pl_no h2 (by omega)
  · exact nx_stick _ (nx_pl_no ha (by omega))
theorem its_nokn {s : Sta} {t : ByteArray} {a j : Nat} {ps : List Pr} (h : its j s = (ps, pl t a)) {k n : Nat} (h4 : a + 4 ≤ t.size) (hk : k = numB (t.extract a (a + 2))) (hn : n = numB (t.extract (a + 2) (a + 4))) (hs : t.size < a + 4 + k + n) : (its (j + 1) s).2.2 = true := by
  have e1 : nx (pl t a) 2 = pl t (a + 2) := nx_pl (by omega)
  have e2 : nx (pl t (a + 2)) 2 = pl t (a + 4) := nx_pl (by omega)
  have e3 : nb (pl t a) 2 = k := by rw [nb2_pl (by omega), hk]
  have e4 : nb (pl t (a + 2)) 2 = n := by rw [nb2_pl (by omega), hn]
  simp only [its, h, e1, e2, e3, e4]
  by_cases h2 : a + 4 + k ≤ t.size
  · rw [nx_pl (a := a + 4) (n := k) h2]
    exact nx_pl_no h2 hs
  · exact nx_stick _ (nx_pl_no h4 (by omega))
theorem getD_snoc_lt {ps : List Pr} {x : Pr} {j : Nat} (h : j < ps.length) : (ps ++ [x]).getD j no = ps.getD j no := by
  simp only [List.getD_eq_getElem?_getD]
  rw [List.getElem?_append_left h]
theorem getD_snoc_eq {ps : List Pr} {x : Pr} {j : Nat} (h : j = ps.length) : (ps ++ [x]).getD j no = x := by
  subst h
  simp
theorem its_small (q : Sta) : ∀ (k j : Nat), j < k → ((its k q).1.getD j no).1.size ≤ 1048576 ∧ ((its k q).1.getD j no).2.size ≤ 1048576
  | 0, j, hj => absurd hj (Nat.not_lt_zero _)
  | k + 1, j, hj => by
    rw [its]
    by_cases e : j < k
    · rw [getD_snoc_lt (by rw [its_len]; exact e)]
      exact its_small q k j e
    · rw [getD_snoc_eq (by rw [its_len]; omega)]
      have a1 := tk_size (nx (nx (its k q).2 2) 2).1 (nb (its k q).2 2)
      have a2 := tk_size (nx (nx (nx (its k q).2 2) 2) (nb (its k q).2 2)).1 (nb (nx (its k q).2 2) 2)
      have b1 := nb_lt (its k q).2 2
      have b2 := nb_lt (nx (its k q).2 2) 2
      exact ⟨by simp only; omega, by simp only; omega⟩
theorem in_nat {n : Nat} (h : n < 65536) : -9223372036854775808 ≤ (n : Int) ∧ (n : Int) ≤ 9223372036854775807 := ⟨by omega, by omega⟩
/-- The mutation that is read is of a size that a law takes. -/
theorem mtn_small (s : Sta) : mu.Small (mtn s) := by
  have n0 := nb_lt s 1
  have n1 := nb_lt (s5 s) 2
  have n2 := nb_lt (s1 s) 1
  have n3 := nb_lt (s2 s) 1
  have n4 := nb_lt (s4 s) 1
  have n5 := nb_lt (s3 s) 1
  have n6 := tk_size (s6 s).1 (nb (s4 s) 1)
  unfold mtn mu.Small mu.Ins
  simp only
  generalize nb s 1 = k0 at *
  generalize nb (s5 s) 2 = k1 at *
  generalize nb (s1 s) 1 = k2 at *
  generalize nb (s2 s) 1 = k3 at *
  generalize nb (s4 s) 1 = k4 at *
  generalize nb (s3 s) 1 = k5 at *
  refine ⟨⟨in_nat (by omega), in_nat (by omega), in_nat (by omega), in_nat (by omega)⟩, by omega, ?_, fun j hj => ?_⟩
  · rw [its_len]
    omega
  · rw [its_len] at hj
    exact its_small _ _ _ hj
end Go.Proofs.YtcnjgmeddkidaaaGreatDoor.rm
