/-
  Plain facts on a mutation that is read: what is there, and where it stands in its bytes.
  Plain facts: a mutation is read back from its bytes.
  Plain facts: bytes of which a right mutation is read are just those of that mutation.
  Both MutationOK functions answer whether a mutation is right: the functions as wholes.
-/
import Derived.Test.YtinnnfkhiigjpaaPkbc
import Derived.Test.YtinnnfkhiigjpaaPkax
import Derived.Test.YtinnnfkhiigjpaaPkbb
import Derived.Deep.DeepCutAuto
import Derived.Deep.Cut
import Derived.Deep.CutRange
import Derived.BigRegion

namespace Go.Proofs.Ytinnnfkhiigjpaa.rm
open Go.RowKit
open it
set_option linter.unusedVariables false

theorem nx_ok {s : Sta} {n : Nat} (h : (nx s n).2 = false) : s.2 = false ∧ n ≤ s.1.size ∧ (nx s n).1.size = s.1.size - n := by
  simp only [nx, sx, Bool.or_eq_false_iff, decide_eq_false_iff_not] at h
  refine ⟨h.1, by omega, ?_⟩
  show (rs s.1 n).size = _
  unfold rs
  rw [if_neg h.2]
  simp
theorem nx_no {s : Sta} {n : Nat} (h : s.1.size < n) : (nx s n).2 = true := by simp [nx, sx, h]
theorem nx_stick {s : Sta} (n : Nat) (h : s.2 = true) : (nx s n).2 = true := by simp [nx, h]
theorem its_stick1 {s : Sta} {k : Nat} (h : (its k s).2.2 = true) : (its (k + 1) s).2.2 = true := by
  simp only [its]
  exact nx_stick _ (nx_stick _ (nx_stick _ (nx_stick _ h)))
theorem its_more {s : Sta} {k : Nat} (h : (its k s).2.2 = true) : ∀ m, (its (k + m) s).2.2 = true
  | 0 => h
  | m + 1 => its_stick1 (its_more h m)
theorem its_upto {s : Sta} {k j : Nat} (h : (its k s).2.2 = true) (hj : k ≤ j) : (its j s).2.2 = true := by
  have := its_more h (j - k)
  rwa [Nat.add_sub_cancel' hj] at this
/-- The state at a place of a text. -/
def pl (t : ByteArray) (a : Nat) : Sta := (t.extract a t.size, false)
theorem pl_zero (t : ByteArray) : pl t 0 = (t, false) := by simp [pl]
theorem pl_size (t : ByteArray) (a : Nat) : (pl t a).1.size = t.size - a := by simp [pl]
theorem tk_pl {t : ByteArray} {a n : Nat} (h : a + n ≤ t.size) : tk (pl t a).1 n = t.extract a (a + n) := by
  unfold tk
  rw [if_neg (by rw [pl_size]; omega)]
  show (t.extract a t.size).extract 0 n = _
  rw [ByteArray.extract_extract]
  congr 1
  omega
theorem nx_pl {t : ByteArray} {a n : Nat} (h : a + n ≤ t.size) : nx (pl t a) n = pl t (a + n) := by
  unfold nx
  refine Prod.ext ?_ ?_
  · show rs (pl t a).1 n = t.extract (a + n) t.size
    unfold rs
    rw [if_neg (by rw [pl_size]; omega)]
    show (t.extract a t.size).extract n (t.extract a t.size).size = _
    rw [ByteArray.extract_extract, ByteArray.size_extract]
    congr 1
    omega
  · show (false || sx (pl t a).1 n) = false
    simp only [sx, Bool.false_or, decide_eq_false_iff_not]
    rw [pl_size]
    omega
theorem nx_pl_no {t : ByteArray} {a n : Nat} (ha : a ≤ t.size) (h : t.size < a + n) : (nx (pl t a) n).2 = true := nx_no (by rw [pl_size]; omega)
theorem num_one {t : ByteArray} {a : Nat} (h : a < t.size) : numB (t.extract a (a + 1)) = (t[a]).toNat := by
  have e : (t.extract a (a + 1)).data.toList = [t[a]] := by
    rw [ByteArray.data_extract]
    apply List.ext_getElem?
    intro i
    rw [Array.getElem?_toList, Array.getElem?_extract]
    have hs : t.data.size = t.size := rfl
    rcases i with _ | i
    · simp [hs]
      rw [show min (a + 1) t.size - a = 1 by omega]
      simp
      rw [Array.getElem?_eq_getElem (by omega)]
      rfl
    · simp [hs]
      omega
  unfold numB
  rw [e]
  simp [num]
theorem nb_pl {t : ByteArray} {a : Nat} (h : a < t.size) : nb (pl t a) 1 = (t[a]).toNat := by
  unfold nb
  rw [tk_pl (by omega), num_one h]
theorem nb2_pl {t : ByteArray} {a : Nat} (h : a + 2 ≤ t.size) : nb (pl t a) 2 = numB (t.extract a (a + 2)) := by
  unfold nb
  rw [tk_pl h]

/-- Whether bytes are just those of a right mutation. -/
def rok (t : ByteArray) : Bool := !(fin (t, false)).2 && (decide ((fin (t, false)).1.size = 0) && mu.mok (mtn (t, false)))
theorem rok_short {t : ByteArray} (h : (fin (t, false)).2 = true) : rok t = false := by simp [rok, h]
theorem rok_left {t : ByteArray} (h : (fin (t, false)).1.size ≠ 0) : rok t = false := by simp [rok, h]
theorem rok_mok {t : ByteArray} (h : mu.mok (mtn (t, false)) = false) : rok t = false := by simp [rok, h]
theorem rok_yes {t : ByteArray} (h : (fin (t, false)).2 = false) (h1 : (fin (t, false)).1.size = 0) : rok t = mu.mok (mtn (t, false)) := by simp [rok, h, h1]
theorem fin_s7 {s : Sta} (h : (s7 s).2 = true) : (fin s).2 = true := by
  unfold fin
  generalize s7 s = q at h ⊢
  generalize nb (s3 s) 1 = k
  have h0 : (its 0 q).2.2 = true := by rw [its]; exact h
  exact its_upto h0 (Nat.zero_le _)
theorem rok_few {t : ByteArray} (h : t.size < 7) : rok t = false := by
  refine rok_short (fin_s7 ?_)
  cases e : (s7 (t, false)).2 with
  | true => rfl
  | false =>
    exfalso
    have h7 := nx_ok (s := s6 (t, false)) e
    have h6 := nx_ok (s := s5 (t, false)) h7.1
    have h5 := nx_ok (s := s4 (t, false)) h6.1
    have h4 := nx_ok (s := s3 (t, false)) h5.1
    have h3 := nx_ok (s := s2 (t, false)) h4.1
    have h2 := nx_ok (s := s1 (t, false)) h3.1
    have h1 := nx_ok (s := (t, false)) h2.1
    have e1 : (s1 (t, false)).1.size = t.size - 1 := h1.2.2
    have e2 : (s2 (t, false)).1.size = (s1 (t, false)).1.size - 1 := h2.2.2
    have e3 : (s3 (t, false)).1.size = (s2 (t, false)).1.size - 1 := h3.2.2
    have e4 : (s4 (t, false)).1.size = (s3 (t, false)).1.size - 1 := h4.2.2
    have e5 : (s5 (t, false)).1.size = (s4 (t, false)).1.size - 1 := h5.2.2
    have q1 : 1 ≤ t.size := h1.2.1
    have q2 := h2.2.1
    have q3 := h3.2.1
    have q4 := h4.2.1
    have q5 := h5.2.1
    have q6 := h6.2.1
    omega
theorem s1_pl {t : ByteArray} (h : 7 ≤ t.size) : s1 (t, false) = pl t 1 := by unfold s1; rw [← pl_zero, nx_pl (by omega)]
theorem s2_pl {t : ByteArray} (h : 7 ≤ t.size) : s2 (t, false) = pl t 2 := by unfold s2; rw [s1_pl h, nx_pl (by omega)]
theorem s3_pl {t : ByteArray} (h : 7 ≤ t.size) : s3 (t, false) = pl t 3 := by unfold s3; rw [s2_pl h, nx_pl (by omega)]
theorem s4_pl {t : ByteArray} (h : 7 ≤ t.size) : s4 (t, false) = pl t 4 := by unfold s4; rw [s3_pl h, nx_pl (by omega)]
theorem s5_pl {t : ByteArray} (h : 7 ≤ t.size) : s5 (t, false) = pl t 5 := by unfold s5; rw [s4_pl h, nx_pl (by omega)]
theorem s6_pl {t : ByteArray} (h : 7 ≤ t.size) : s6 (t, false) = pl t 7 := by unfold s6; rw [s5_pl h, nx_pl (by omega)]
theorem size_is {t : ByteArray} (h : 7 ≤ t.size) : nb (s4 (t, false)) 1 = (t[4]).toNat := by rw [s4_pl h, nb_pl (by omega)]
theorem count_is {t : ByteArray} (h : 7 ≤ t.size) : nb (s3 (t, false)) 1 = (t[3]).toNat := by rw [s3_pl h, nb_pl (by omega)]
theorem rok_name {t : ByteArray} (h : 7 ≤ t.size) (h2 : t.size < 7 + (t[4]).toNat) : rok t = false := by
  refine rok_short (fin_s7 ?_)
  unfold s7
  rw [size_is h, s6_pl h]
  exact nx_pl_no (by omega) h2
theorem s7_pl {t : ByteArray} (h : 7 ≤ t.size) (h2 : 7 + (t[4]).toNat ≤ t.size) : s7 (t, false) = pl t (7 + (t[4]).toNat) := by
  unfold s7
  rw [size_is h, s6_pl h, nx_pl h2]
theorem mtn_is {t : ByteArray} (h : 7 ≤ t.size) (h2 : 7 + (t[4]).toNat ≤ t.size) {ps : List Pr} {s : Sta} (hi : its (t[3]).toNat (pl t (7 + (t[4]).toNat)) = (ps, s)) :
    mtn (t, false) = ⟨((t[0]).toNat : Nat), (numB (t.extract 5 7) : Nat), ((t[1]).toNat : Nat), ((t[2]).toNat : Nat), t.extract 7 (7 + (t[4]).toNat), ps⟩ ∧ fin (t, false) = s := by
  have e0 : nb (t, false) 1 = (t[0]).toNat := by rw [← pl_zero, nb_pl (by omega)]
  have e1 : nb (s1 (t, false)) 1 = (t[1]).toNat := by rw [s1_pl h, nb_pl (by omega)]
  have e2 : nb (s2 (t, false)) 1 = (t[2]).toNat := by rw [s2_pl h, nb_pl (by omega)]
  have e5 : nb (s5 (t, false)) 2 = numB (t.extract 5 7) := by rw [s5_pl h, nb2_pl (by omega)]
  unfold mtn fin
  rw [e0, e1, e2, e5, size_is h, count_is h, s7_pl h h2, hi, s6_pl h, tk_pl h2]
  exact ⟨rfl, rfl⟩
theorem rok_its {t : ByteArray} (h : 7 ≤ t.size) (h2 : 7 + (t[4]).toNat ≤ t.size) {j : Nat} (hi : (its j (pl t (7 + (t[4]).toNat))).2.2 = true) (hj : j ≤ (t[3]).toNat) : rok t = false := by
  refine rok_short ?_
  rw [(mtn_is h h2 (ps := (its (t[3]).toNat (pl t (7 + (t[4]).toNat))).1) (s := (its (t[3]).toNat (pl t (7 + (t[4]).toNat))).2) rfl).2]
  exact its_upto hi hj
theorem its_next {s : Sta} {t : ByteArray} {a j : Nat} {ps : List Pr} (h : its j s = (ps, pl t a)) {k n : Nat} (h4 : a + 4 ≤ t.size) (hk : k = numB (t.extract a (a + 2))) (hn : n = numB (t.extract (a + 2) (a + 4))) (hs : a + 4 + k + n ≤ t.size) :
    its (j + 1) s = (ps ++ [(t.extract (a + 4) (a + 4 + k), t.extract (a + 4 + k) (a + 4 + k + n))], pl t (a + 4 + k + n)) := by
  have e1 : nx (pl t a) 2 = pl t (a + 2) := nx_pl (by omega)
  have e2 : nx (pl t (a + 2)) 2 = pl t (a + 4) := nx_pl (by omega)
  have e3 : nb (pl t a) 2 = k := by rw [nb2_pl (by omega), hk]
  have e4 : nb (pl t (a + 2)) 2 = n := by rw [nb2_pl (by omega), hn]
  simp only [its, h, e1, e2, e3, e4]
  rw [nx_pl (a := a + 4) (n := k) (by omega), nx_pl (a := a + 4 + k) (n := n) hs, tk_pl (a := a + 4) (n := k) (by omega), tk_pl (a := a + 4 + k) (n := n) hs]
theorem its_no4 {s : Sta} {t : ByteArray} {a j : Nat} {ps : List Pr} (h : its j s = (ps, pl t a)) (ha : a ≤ t.size) (h4 : t.size < a + 4) : (its (j + 1) s).2.2 = true := by
  simp only [its, h]
  refine nx_stick _ (nx_stick _ ?_)
  by_cases h2 : a + 2 ≤ t.size
  · rw [nx_pl h2]
    exact nx_pl_no h2 (by omega)
  · exact nx_stick _ (nx_pl_no ha (by omega))
theorem its_nokn {s : Sta} {t : ByteArray} {a j : Nat} {ps : List Pr} (h : its j s = (ps, pl t a)) {k n : Nat} (h4 : a + 4 ≤ t.size) (hk : k = numB (t.extract a (a + 2))) (hn : n = numB (t.extract (a + 2) (a + 4))) (hs : t.size < a + 4 + k + n) : (its (j + 1) s).2.2 = true := by
  have e1 : nx (pl t a) 2 = pl t (a + 2) := nx_pl (by omega)
  have e2 : nx (pl t (a + 2)) 2 = pl t (a + 4) := nx_pl (by omega)
  have e3 : nb (pl t a) 2 = k := by rw [nb2_pl (by omega), hk]
  have e4 : nb (pl t (a + 2)) 2 = n := by rw [nb2_pl (by omega), hn]
  simp only [its, h, e1, e2, e3, e4]
  by_cases h2 : a + 4 + k ≤ t.size
  · rw [nx_pl (a := a + 4) (n := k) h2]
    exact nx_pl_no h2 hs
  · exact nx_stick _ (nx_pl_no h4 (by omega))
theorem getD_snoc_lt {ps : List Pr} {x : Pr} {j : Nat} (h : j < ps.length) : (ps ++ [x]).getD j no = ps.getD j no := by
  simp only [List.getD_eq_getElem?_getD]
  rw [List.getElem?_append_left h]
theorem getD_snoc_eq {ps : List Pr} {x : Pr} {j : Nat} (h : j = ps.length) : (ps ++ [x]).getD j no = x := by
  subst h
  simp
theorem its_small (q : Sta) : ∀ (k j : Nat), j < k → ((its k q).1.getD j no).1.size ≤ 1048576 ∧ ((its k q).1.getD j no).2.size ≤ 1048576
  | 0, j, hj => absurd hj (Nat.not_lt_zero _)
  | k + 1, j, hj => by
    rw [its]
    by_cases e : j < k
    · rw [getD_snoc_lt (by rw [its_len]; exact e)]
      exact its_small q k j e
    · rw [getD_snoc_eq (by rw [its_len]; omega)]
      have a1 := tk_size (nx (nx (its k q).2 2) 2).1 (nb (its k q).2 2)
      have a2 := tk_size (nx (nx (nx (its k q).2 2) 2) (nb (its k q).2 2)).1 (nb (nx (its k q).2 2) 2)
      have b1 := nb_lt (its k q).2 2
      have b2 := nb_lt (nx (its k q).2 2) 2
      exact ⟨by simp only; omega, by simp only; omega⟩
theorem in_nat {n : Nat} (h : n < 65536) : -9223372036854775808 ≤ (n : Int) ∧ (n : Int) ≤ 9223372036854775807 := ⟨by omega, by omega⟩
/-- The mutation that is read is of a size that a law takes. -/
theorem mtn_small (s : Sta) : mu.Small (mtn s) := by
  have n0 := nb_lt s 1
  have n1 := nb_lt (s5 s) 2
  have n2 := nb_lt (s1 s) 1
  have n3 := nb_lt (s2 s) 1
  have n4 := nb_lt (s4 s) 1
  have n5 := nb_lt (s3 s) 1
  have n6 := tk_size (s6 s).1 (nb (s4 s) 1)
  unfold mtn mu.Small mu.Ins
  simp only
  generalize nb s 1 = k0 at *
  generalize nb (s5 s) 2 = k1 at *
  generalize nb (s1 s) 1 = k2 at *
  generalize nb (s2 s) 1 = k3 at *
  generalize nb (s4 s) 1 = k4 at *
  generalize nb (s3 s) 1 = k5 at *
  refine ⟨⟨in_nat (by omega), in_nat (by omega), in_nat (by omega), in_nat (by omega)⟩, by omega, ?_, fun j hj => ?_⟩
  · rw [its_len]
    omega
  · rw [its_len] at hj
    exact its_small _ _ _ hj
end Go.Proofs.Ytinnnfkhiigjpaa.rm

namespace Go.Proofs.Ytinnnfkhiigjpaa.mb
open Go.RowKit
open it mu
open rm (pl its its_next mtn_is rok_yes mtn fin rok numB)
set_option linter.unusedVariables false

/-- Bytes as a text. -/
def tx (l : List UInt8) : ByteArray := ⟨l.toArray⟩
theorem tx_size (l : List UInt8) : (tx l).size = l.length := by simp [tx, ByteArray.size]
theorem tx_self (b : ByteArray) : tx b.data.toList = b := by cases b; simp [tx]
theorem tx_get (l : List UInt8) (i : Nat) (h : i < (tx l).size) (h' : i < l.length) : (tx l)[i] = l[i] := by
  show (l.toArray)[i]'_ = _
  simp
theorem tx_ex (A B C : List UInt8) (i j : Nat) (hi : i = A.length) (hj : j = A.length + B.length) : (tx (A ++ B ++ C)).extract i j = tx B := by
  subst hi hj
  apply ByteArray.ext
  show _ = B.toArray
  rw [ByteArray.data_extract]
  apply Array.toList_inj.1
  simp [tx, List.extract_eq_take_drop]
theorem be2 (n : Nat) : lg.be 2 n = [UInt8.ofNat (n / 256), UInt8.ofNat n] := by simp [lg.be]
theorem num_be2 (n : Nat) (h : n < 65536) : numB (tx (lg.be 2 n)) = n := by
  unfold rm.numB rm.num tx
  rw [be2]
  simp
  omega
theorem take_split {ps : List Pr} {j : Nat} (h : j < ps.length) : itsB ps ps.length = itsB ps j ++ itB (ps.getD j no) ++ (ps.drop (j + 1)).flatMap itB := by
  have e : ps = ps.take j ++ ps.getD j no :: ps.drop (j + 1) := by
    have : ps.getD j no = ps[j] := by simp [List.getD_eq_getElem?_getD, h]
    rw [this, ← List.drop_eq_getElem_cons h, List.take_append_drop]
  unfold itsB
  rw [List.take_length]
  conv => lhs; rw [e]
  rw [List.flatMap_append, List.flatMap_cons, List.append_assoc]
theorem its_read {ps : List Pr} {H : List UInt8} (hf : ∀ j, j < ps.length → (ps.getD j no).1.size ≤ 200 ∧ (ps.getD j no).2.size ≤ 4000) : ∀ j, j ≤ ps.length → its j (pl (tx (H ++ itsB ps ps.length)) H.length) = (ps.take j, pl (tx (H ++ itsB ps ps.length)) (H.length + (itsB ps j).length))
  | 0, _ => by simp [its, itsB]
  | j + 1, hj => by
    have ih := its_read (H := H) hf j (by omega)
    have hp := hf j (by omega)
    obtain ⟨k, hk⟩ : ∃ k, k = ps.getD j no := ⟨_, rfl⟩
    have hs := take_split (ps := ps) (j := j) (by omega)
    have hlen := itB_len (ps.getD j no)
    have hst := itsB_step (ps := ps) (k := j) (by omega)
    have h1 := num_be2 (ps.getD j no).1.size (by omega)
    have h2 := num_be2 (ps.getD j no).2.size (by omega)
    have hsz : (tx (H ++ itsB ps ps.length)).size = H.length + (itsB ps j).length + (4 + (ps.getD j no).1.size + (ps.getD j no).2.size) + ((ps.drop (j + 1)).flatMap itB).length := by
      rw [tx_size, hs]
      simp only [List.length_append, hlen]
      omega
    have htk : ps.take (j + 1) = ps.take j ++ [ps.getD j no] := by
      rw [List.take_add_one]
      congr 1
      have : j < ps.length := by omega
      simp [List.getD_eq_getElem?_getD, this]
    rw [← hk] at *
    have hl1 : k.1.data.toList.length = k.1.size := rfl
    have hl2 : k.2.data.toList.length = k.2.size := rfl
    have hb1 := lg.be_len 2 k.1.size
    have hb2 := lg.be_len 2 k.2.size
    have x1 : (tx (H ++ itsB ps ps.length)).extract (H.length + (itsB ps j).length) (H.length + (itsB ps j).length + 2) = tx (lg.be 2 k.1.size) := by
      rw [hs]
      have := tx_ex (H ++ itsB ps j) (lg.be 2 k.1.size) (lg.be 2 k.2.size ++ k.1.data.toList ++ k.2.data.toList ++ (ps.drop (j + 1)).flatMap itB) (H.length + (itsB ps j).length) (H.length + (itsB ps j).length + 2) (by simp) (by simp [hb1])
      simpa [itB, List.append_assoc] using this
    have x2 : (tx (H ++ itsB ps ps.length)).extract (H.length + (itsB ps j).length + 2) (H.length + (itsB ps j).length + 4) = tx (lg.be 2 k.2.size) := by
      rw [hs]
      have := tx_ex (H ++ itsB ps j ++ lg.be 2 k.1.size) (lg.be 2 k.2.size) (k.1.data.toList ++ k.2.data.toList ++ (ps.drop (j + 1)).flatMap itB) (H.length + (itsB ps j).length + 2) (H.length + (itsB ps j).length + 4) (by simp [hb1]; omega) (by simp [hb1, hb2]; omega)
      simpa [itB, List.append_assoc] using this
    have x3 : (tx (H ++ itsB ps ps.length)).extract (H.length + (itsB ps j).length + 4) (H.length + (itsB ps j).length + 4 + k.1.size) = k.1 := by
      rw [hs]
      have := tx_ex (H ++ itsB ps j ++ lg.be 2 k.1.size ++ lg.be 2 k.2.size) k.1.data.toList (k.2.data.toList ++ (ps.drop (j + 1)).flatMap itB) (H.length + (itsB ps j).length + 4) (H.length + (itsB ps j).length + 4 + k.1.size) (by simp [hb1, hb2]; omega) (by simp [hb1, hb2]; omega)
      rw [tx_self] at this
      simpa [itB, List.append_assoc] using this
    have x4 : (tx (H ++ itsB ps ps.length)).extract (H.length + (itsB ps j).length + 4 + k.1.size) (H.length + (itsB ps j).length + 4 + k.1.size + k.2.size) = k.2 := by
      rw [hs]
      have := tx_ex (H ++ itsB ps j ++ lg.be 2 k.1.size ++ lg.be 2 k.2.size ++ k.1.data.toList) k.2.data.toList ((ps.drop (j + 1)).flatMap itB) (H.length + (itsB ps j).length + 4 + k.1.size) (H.length + (itsB ps j).length + 4 + k.1.size + k.2.size) (by simp [hb1, hb2]; omega) (by simp [hb1, hb2]; omega)
      rw [tx_self] at this
      simpa [itB, List.append_assoc] using this
    have := its_next ih (k := k.1.size) (n := k.2.size) (by omega) (by rw [x1, h1]) (by rw [x2, h2]) (by omega)
    rw [this, x3, x4, htk, hst]
    congr 2
    simp only [List.length_append, hlen]
    omega
theorem u8_back {z : Int} (h : 0 ≤ z ∧ z < 256) : (((u8 z).toNat : Nat) : Int) = z := by
  unfold u8
  rw [UInt8.toNat_ofNat']
  omega
theorem mu_eq {k u m f : Int} {b : ByteArray} {ps : List Pr} {M : Mu} (h1 : k = M.k) (h2 : u = M.u) (h3 : m = M.m) (h4 : f = M.f) (h5 : b = M.b) (h6 : ps = M.ps) : (⟨k, u, m, f, b, ps⟩ : Mu) = M := by
  subst h1 h2 h3 h4 h5 h6
  rfl
/-- A right mutation is read back from its bytes. -/
theorem mb_back {M : Mu} (h : mok M = true) : rok (tx (mB M)) = true ∧ mtn (tx (mB M), false) = M := by
  have hf := fits_of h
  obtain ⟨hk, hu, hm, hfl, hb, hn, hi⟩ := hf
  have hbl : M.b.data.toList.length = M.b.size := rfl
  have hH : (hdB M ++ lg.be 2 M.u.toNat ++ M.b.data.toList).length = 7 + M.b.size := by
    simp [hdB, lg.be_len, hbl]
    omega
  have hsz : (tx (mB M)).size = 7 + M.b.size + (itsB M.ps M.ps.length).length := by
    rw [tx_size, mB, List.length_append, hH]
  have h7 : 7 ≤ (tx (mB M)).size := by omega
  have g0 : (tx (mB M))[0] = u8 M.k := (tx_get (mB M) 0 (by omega) (by rw [← tx_size]; omega)).trans (by simp [mB, hdB])
  have g1 : (tx (mB M))[1] = u8 M.m := (tx_get (mB M) 1 (by omega) (by rw [← tx_size]; omega)).trans (by simp [mB, hdB])
  have g2 : (tx (mB M))[2] = u8 M.f := (tx_get (mB M) 2 (by omega) (by rw [← tx_size]; omega)).trans (by simp [mB, hdB])
  have g3 : (tx (mB M))[3] = u8 (M.ps.length : Int) := (tx_get (mB M) 3 (by omega) (by rw [← tx_size]; omega)).trans (by simp [mB, hdB])
  have g4 : (tx (mB M))[4] = u8 (M.b.size : Int) := (tx_get (mB M) 4 (by omega) (by rw [← tx_size]; omega)).trans (by simp [mB, hdB])
  have n3 : ((tx (mB M))[3]).toNat = M.ps.length := by rw [g3]; have := u8_back (z := (M.ps.length : Int)) (by omega); omega
  have n4 : ((tx (mB M))[4]).toNat = M.b.size := by rw [g4]; have := u8_back (z := (M.b.size : Int)) (by omega); omega
  have x5 : (tx (mB M)).extract 5 7 = tx (lg.be 2 M.u.toNat) := by
    have := tx_ex (hdB M) (lg.be 2 M.u.toNat) (M.b.data.toList ++ itsB M.ps M.ps.length) 5 7 (by simp [hdB]) (by simp [hdB, lg.be_len])
    simpa [mB, List.append_assoc] using this
  have x7 : (tx (mB M)).extract 7 (7 + M.b.size) = M.b := by
    have := tx_ex (hdB M ++ lg.be 2 M.u.toNat) M.b.data.toList (itsB M.ps M.ps.length) 7 (7 + M.b.size) (by simp [hdB, lg.be_len]) (by simp [hdB, lg.be_len, hbl])
    rw [tx_self] at this
    simpa [mB, List.append_assoc] using this
  have hi2 := its_read (H := hdB M ++ lg.be 2 M.u.toNat ++ M.b.data.toList) hi M.ps.length (Nat.le_refl _)
  rw [hH, List.take_length] at hi2
  have hi3 : its ((tx (mB M))[3]).toNat (pl (tx (mB M)) (7 + ((tx (mB M))[4]).toNat)) = (M.ps, pl (tx (mB M)) (7 + M.b.size + (itsB M.ps M.ps.length).length)) := by
    rw [n3, n4]
    exact hi2
  have hu5 := num_be2 M.u.toNat (by omega)
  obtain ⟨e1, e2⟩ := mtn_is h7 (by rw [n4]; omega) hi3
  have e3 : mtn (tx (mB M), false) = M := by
    refine e1.trans (mu_eq ?_ ?_ ?_ ?_ ?_ rfl)
    · rw [g0]; exact u8_back hk
    · rw [x5, hu5]; omega
    · rw [g1]; exact u8_back hm
    · rw [g2]; exact u8_back hfl
    · rw [n4]; exact x7
  refine ⟨?_, e3⟩
  rw [rok_yes (by rw [e2]; rfl) (by rw [e2, rm.pl_size, hsz]; omega), e3]
  exact h
end Go.Proofs.Ytinnnfkhiigjpaa.mb

namespace Go.Proofs.Ytinnnfkhiigjpaa.mb
open Go.RowKit
open it mu
open rm (pl its its_next its_no4 its_nokn its_stick1 its_len mtn_is rok_few rok_name mtn fin rok numB pl_size)
set_option linter.unusedVariables false

theorem exl (t : ByteArray) {i j k : Nat} (h1 : i ≤ j) (h2 : j ≤ k) : (t.extract i j).data.toList ++ (t.extract j k).data.toList = (t.extract i k).data.toList := by
  rw [← Array.toList_append, ← ByteArray.data_append, ByteArray.extract_append_extract, Nat.min_eq_left h1, Nat.max_eq_right h2]
theorem exn (t : ByteArray) {i j : Nat} (h1 : i ≤ j) (h2 : j ≤ t.size) : (t.extract i j).size = j - i := by rw [ByteArray.size_extract]; omega
theorem be_num {s : ByteArray} (h : s.size = 2) : lg.be 2 (numB s) = s.data.toList := by
  have hl : s.data.toList.length = 2 := h
  unfold rm.numB rm.num
  generalize s.data.toList = l at hl
  match l, hl with
  | [x, y], _ =>
    have hx := x.toNat_lt
    have hy := y.toNat_lt
    simp only [List.foldl_cons, List.foldl_nil, Nat.zero_mul, Nat.zero_add, lg.be]
    have e1 : (x.toNat * 256 + y.toNat) / 256 = x.toNat := by omega
    simp only [e1]
    congr 1
    · simp
    · congr 1
      apply UInt8.toNat.inj
      rw [UInt8.toNat_ofNat']
      omega
theorem get_ex {t : ByteArray} {a : Nat} (h : a < t.size) : (t.extract a (a + 1)).data.toList = [t[a]] := by
  rw [ByteArray.data_extract]
  apply List.ext_getElem?
  intro i
  rw [Array.getElem?_toList, Array.getElem?_extract]
  have hs : t.data.size = t.size := rfl
  rcases i with _ | i
  · simp [hs]
    rw [show min (a + 1) t.size - a = 1 by omega]
    simp
    rw [Array.getElem?_eq_getElem (by omega)]
    rfl
  · simp [hs]
    omega
theorem its_back {t : ByteArray} {a : Nat} (ha : a ≤ t.size) : ∀ (j : Nat) (ps : List Pr) (s : rm.Sta), its j (pl t a) = (ps, s) → s.2 = false → ∃ a', a ≤ a' ∧ a' ≤ t.size ∧ s = pl t a' ∧ ps.flatMap itB = (t.extract a a').data.toList
  | 0, ps, s, h, hf => by
    rw [its] at h
    injection h with h1 h2
    subst h1 h2
    exact ⟨a, Nat.le_refl _, ha, rfl, by simp⟩
  | j + 1, ps, s, h, hf => by
    obtain ⟨ps0, s0, h0⟩ : ∃ ps0 s0, its j (pl t a) = (ps0, s0) := ⟨_, _, rfl⟩
    have hf0 : s0.2 = false := by
      cases e : s0.2 with
      | false => rfl
      | true =>
        have := its_stick1 (s := pl t a) (k := j) (by rw [h0]; exact e)
        rw [h] at this
        exact absurd (this.symm.trans hf) (by decide)
    obtain ⟨a0, b1, b2, rfl, hB⟩ := its_back ha j ps0 s0 h0 hf0
    have h4 : a0 + 4 ≤ t.size := by
      rcases Nat.lt_or_ge t.size (a0 + 4) with e | e
      · have := its_no4 h0 b2 e
        rw [h] at this
        exact absurd (this.symm.trans hf) (by decide)
      · exact e
    obtain ⟨k, hk⟩ : ∃ k, k = numB (t.extract a0 (a0 + 2)) := ⟨_, rfl⟩
    obtain ⟨n, hn⟩ : ∃ n, n = numB (t.extract (a0 + 2) (a0 + 4)) := ⟨_, rfl⟩
    have hs : a0 + 4 + k + n ≤ t.size := by
      rcases Nat.lt_or_ge t.size (a0 + 4 + k + n) with e | e
      · have := its_nokn h0 h4 hk hn e
        rw [h] at this
        exact absurd (this.symm.trans hf) (by decide)
      · exact e
    rw [its_next h0 h4 hk hn hs] at h
    injection h with h1 h2
    subst h1 h2
    refine ⟨a0 + 4 + k + n, by omega, hs, rfl, ?_⟩
    rw [List.flatMap_append, hB, List.flatMap_cons, List.flatMap_nil, List.append_nil]
    unfold itB
    simp only
    rw [exn t (by omega) (by omega), exn t (by omega) hs]
    rw [show a0 + 4 + k - (a0 + 4) = k by omega, show a0 + 4 + k + n - (a0 + 4 + k) = n by omega]
    rw [hk, be_num (exn t (by omega) (by omega) |>.trans (by omega)), ← hk, hn, be_num (exn t (by omega) (by omega) |>.trans (by omega)), ← hn]
    rw [exl t (by omega) (by omega), exl t (by omega) (by omega), exl t (by omega) (by omega), exl t (by omega) (by omega)]
theorem u8_nat (c : UInt8) : u8 ((c.toNat : Nat) : Int) = c := by
  unfold u8
  apply UInt8.toNat.inj
  rw [UInt8.toNat_ofNat']
  have := c.toNat_lt
  omega
/-- Bytes of which a right mutation is read are its own. -/
theorem mb_forth {t : ByteArray} (h : rok t = true) : mu.mok (mtn (t, false)) = true ∧ mB (mtn (t, false)) = t.data.toList := by
  have h7 : 7 ≤ t.size := by
    rcases Nat.lt_or_ge t.size 7 with e | e
    · exact absurd ((rok_few e).symm.trans h) (by decide)
    · exact e
  have h8 : 7 + (t[4]).toNat ≤ t.size := by
    rcases Nat.lt_or_ge t.size (7 + (t[4]).toNat) with e | e
    · exact absurd ((rok_name h7 e).symm.trans h) (by decide)
    · exact e
  obtain ⟨ps, s, hi⟩ : ∃ ps s, its (t[3]).toNat (pl t (7 + (t[4]).toNat)) = (ps, s) := ⟨_, _, rfl⟩
  obtain ⟨e1, e2⟩ := mtn_is h7 h8 hi
  have hr := h
  unfold rm.rok at hr
  rw [e2] at hr
  simp only [Bool.and_eq_true, Bool.not_eq_true', decide_eq_true_eq] at hr
  obtain ⟨hf, h0, hm⟩ := hr
  obtain ⟨a', b1, b2, rfl, hB⟩ := its_back h8 _ ps s hi hf
  rw [pl_size] at h0
  obtain rfl : a' = t.size := by omega
  have hl := its_len (pl t (7 + (t[4]).toNat)) (t[3]).toNat
  rw [hi] at hl
  refine ⟨hm, ?_⟩
  rw [e1]
  unfold mB hdB itsB
  simp only
  rw [List.take_length, hB, hl, exn t (by omega) h8, show 7 + (t[4]).toNat - 7 = (t[4]).toNat by omega]
  rw [u8_nat, u8_nat, u8_nat, u8_nat, u8_nat, Int.toNat_natCast, be_num (exn t (by omega) (by omega))]
  have g0 := get_ex (t := t) (a := 0) (by omega)
  have g1 := get_ex (t := t) (a := 1) (by omega)
  have g2 := get_ex (t := t) (a := 2) (by omega)
  have g3 := get_ex (t := t) (a := 3) (by omega)
  have g4 := get_ex (t := t) (a := 4) (by omega)
  have e5 : [t[0], t[1], t[2], t[3], t[4]] = (t.extract 0 5).data.toList := by
    rw [← exl t (i := 0) (j := 4) (k := 5) (by omega) (by omega), ← exl t (i := 0) (j := 3) (k := 4) (by omega) (by omega), ← exl t (i := 0) (j := 2) (k := 3) (by omega) (by omega), ← exl t (i := 0) (j := 1) (k := 2) (by omega) (by omega), g0, g1, g2, g3, g4]
    rfl
  rw [e5, exl t (by omega) (by omega), exl t (by omega) (by omega), exl t (by omega) h8]
  simp
end Go.Proofs.Ytinnnfkhiigjpaa.mb

namespace Go.Proofs.Ytinnnfkhiigjpaa.mu
open Go.RowKit
open it
set_option linter.unusedVariables false

theorem kind_is (k u m f : Int) (n : Nat) : kindOK k u m f n = true ↔ ((k = 1 ∨ k = 4) ∧ u = 0 ∧ m = 0 ∧ f = 0 ∧ n = 0 ∨ k = 2 ∧ u = 0 ∧ m = 0 ∧ f = 0 ∧ 0 < n ∨ k = 3 ∧ n = 0 ∧ 1 ≤ u ∧ u ≤ 1000 ∧ 1 ≤ m ∧ m ≤ 3 ∧ 0 ≤ f ∧ f ≤ 31) := by
  simp [kindOK]

theorem isUid_any (u : Int) (w : World) : Calls Try.prog 19 #[.int .i64 u] w fun e w' => e = .returned (.bool (decide (1 ≤ u ∧ u ≤ 1000))) ∧ w' = w := by
  go_enter Try.func19, Try.ntmps19
  go_wp2
  all_goals (go_ret; exact ⟨ret_bool (by rw [Bool.eq_iff_iff]; simp; try omega), rfl⟩)

set_option maxHeartbeats 4000000 in
set_option maxRecDepth 100000 in
theorem impl_mok (x : Mu) (v : Value) (w : World) (h : AttrsAt w v x.ps) (hx : Small x) :
    Calls Try.prog 9 #[MV x v] w fun e w' => e = .returned (.bool (mok x)) ∧ Below w.heap.size w w' := by
  have L0 := lies_new w 25 x v
  have b0 := new_below w 25 #[.int .i64 x.k, .int .i64 x.u, .int .i64 x.m, .int .i64 x.f, .string x.b, v]
  have HA : Hid (AttrsAt (w.alloc (.cells #[.int .i64 x.k, .int .i64 x.u, .int .i64 x.m, .int .i64 x.f, .string x.b, v] 25)) v x.ps) := at_below h b0
  obtain ⟨a, cap, rfl, _⟩ := h
  obtain ⟨hi, hbs, hps⟩ := hx
  have HPS : Hid (it.Small x.ps) := hps
  unfold MV
  clear hi hps
  obtain ⟨k, u, m, f, b, ps⟩ := x
  simp only at L0 b0 HA hbs HPS ⊢
  have HN : Hid (∀ w, Calls Try.prog 17 #[.string b] w fun e w' => e = .returned (.bool (nmB b)) ∧ w' = w) := fun w => impl_name b w hbs
  have HF : Hid (∀ w, Calls Try.prog 20 #[.int .i64 f] w fun e w' => e = .returned (.bool (fOK f)) ∧ w' = w) := fun w => areFlags_any f w
  obtain ⟨n, hn⟩ : ∃ n, n = ps.length := ⟨_, rfl⟩
  have HL : Hid (n = ps.length) := hn
  rw [← hn] at L0 b0 HA ⊢
  clear hn
  have HMN : Hid (nmB b = false → mok ⟨k, u, m, f, b, ps⟩ = false) := fun h => mok_name h
  have HMI : Hid (itsOK ps = false → mok ⟨k, u, m, f, b, ps⟩ = false) := fun h => mok_its h
  have HMK : Hid (nmB b = true → itsOK ps = true → mok ⟨k, u, m, f, b, ps⟩ = kindOK k u m f n) := fun h h2 => by rw [HL.out]; exact mok_kind h h2
  generalize mok ⟨k, u, m, f, b, ps⟩ = MOK at HMN HMI HMK ⊢
  go_enter Try.func9, Try.ntmps9
  go_wp2_with fail
  generalize w.alloc _ = w0 at L0 b0 HA ⊢
  refine (HN.out _).mono ?_
  rintro e w' ⟨rfl, rfl⟩
  generalize nmB b = nb at HMN HMK ⊢
  have c0 := L0.c0
  have c1 := L0.c1
  have c2 := L0.c2
  have c3 := L0.c3
  have c5 := L0.c5
  cases nb
  · go_wp2
    go_ret
    exact ⟨ret_bool (HMN.out (by trivial)).symm, b0⟩
  clear HMN
  go_wp2_with fail
  have HI : Hid (∀ w1, Below w'.heap.size w' w1 → Lies w1 w.heap.size 25 ⟨k, u, m, f, b, ps⟩ (.slice a n cap)) := fun w1 h => L0.keep h
  clear L0
  refine (areItems_any _ ps _ HA.out HPS.out).mono ?_
  rintro e w1 ⟨rfl, hb1⟩
  have L1 := HI.out _ hb1
  have b1 := b0.trans (hb1.mono b0.size)
  clear hb1 b0 HA c0 c1 c2 c3 c5 HI
  generalize itsOK ps = ib at HMI HMK ⊢
  have c0 := L1.c0
  have c1 := L1.c1
  have c2 := L1.c2
  have c3 := L1.c3
  have c5 := L1.c5
  simp only at c0 c1 c2 c3 c5
  clear L1
  cases ib
  · go_wp2
    go_ret
    exact ⟨ret_bool (HMI.out (by trivial)).symm, b1⟩
  have HR : Hid (MOK = kindOK k u m f n) := HMK.out (by trivial) (by trivial)
  clear HMK HMI HN hbs HPS
  have KK : Hid (MOK = true ↔ ((k = 1 ∨ k = 4) ∧ u = 0 ∧ m = 0 ∧ f = 0 ∧ n = 0 ∨ k = 2 ∧ u = 0 ∧ m = 0 ∧ f = 0 ∧ 0 < n ∨ k = 3 ∧ n = 0 ∧ 1 ≤ u ∧ u ≤ 1000 ∧ 1 ≤ m ∧ m ≤ 3 ∧ 0 ≤ f ∧ f ≤ 31)) := by rw [HR.out]; exact kind_is k u m f n
  clear HR HL
  obtain ⟨al, hal⟩ : ∃ al : Bool, (al = true ↔ u = 0 ∧ m = 0 ∧ f = 0) := ⟨decide (u = 0 ∧ m = 0 ∧ f = 0), by simp⟩
  have HAL : Hid (al = true ↔ u = 0 ∧ m = 0 ∧ f = 0) := hal
  clear hal
  go_upto_region 3 with fail
  go_cut [3] (fun t wx => t = .bool al ∧ wx = w1)
  case first =>
    by_cases hu : u = 0
    · have hu' : (u == 0) = true := by simp [hu]
      by_cases hm : m = 0
      · have hm' : (m == 0) = true := by simp [hm]
        by_cases hf : f = 0
        · have hf' : (f == 0) = true := by simp [hf]
          have ha : al = true := HAL.out.2 ⟨hu, hm, hf⟩
          clear hu hm hf
          go_wp2_with fail
          go_meet
          exact ⟨by rw [ha], rfl⟩
        · have hf' : (f == 0) = false := by simp [hf]
          have ha : al = false := Bool.eq_false_iff.2 fun x => hf (HAL.out.1 x).2.2
          clear hu hm hf
          go_wp2_with fail
          go_meet
          exact ⟨by rw [ha], rfl⟩
      · have hm' : (m == 0) = false := by simp [hm]
        have ha : al = false := Bool.eq_false_iff.2 fun x => hm (HAL.out.1 x).2.1
        clear hu hm
        go_wp2_with fail
        go_meet
        exact ⟨by rw [ha], rfl⟩
    · have hu' : (u == 0) = false := by simp [hu]
      have ha : al = false := Bool.eq_false_iff.2 fun x => hu (HAL.out.1 x).1
      clear hu
      go_wp2_with fail
      go_meet
      exact ⟨by rw [ha], rfl⟩
  case rest =>
    obtain ⟨rfl, rfl⟩ := hcut
    by_cases h1 : k = 1
    · subst h1
      cases al
      · have ha : ¬ (u = 0 ∧ m = 0 ∧ f = 0) := fun x => by have := HAL.out.2 x; cases this
        have HZ : Hid (MOK = false) := Bool.eq_false_iff.2 fun x => by have := KK.out.1 x; omega
        clear ha
        go_wp2
        go_ret
        exact ⟨ret_bool HZ.out.symm, b1⟩
      · have HZ : Hid (u = 0 ∧ m = 0 ∧ f = 0) := HAL.out.1 rfl
        by_cases hn : n = 0
        · have hn' : ((n : Int) == 0) = true := by simp [hn]
          have HY : Hid (MOK = true) := KK.out.2 (by obtain ⟨z0, z1, z2⟩ := HZ.out; rw [z0, z1, z2]; omega)
          go_wp2
          go_ret
          exact ⟨ret_bool HY.out.symm, b1⟩
        · have hn' : ((n : Int) == 0) = false := by simp [hn]
          go_wp2
          go_ret
          exact ⟨ret_bool (Bool.eq_false_iff.2 fun x => by have := KK.out.1 x; omega).symm, b1⟩
    by_cases h4 : k = 4
    · subst h4
      cases al
      · have ha : ¬ (u = 0 ∧ m = 0 ∧ f = 0) := fun x => by have := HAL.out.2 x; cases this
        have HZ : Hid (MOK = false) := Bool.eq_false_iff.2 fun x => by have := KK.out.1 x; omega
        clear ha
        go_wp2
        go_ret
        exact ⟨ret_bool HZ.out.symm, b1⟩
      · have HZ : Hid (u = 0 ∧ m = 0 ∧ f = 0) := HAL.out.1 rfl
        by_cases hn : n = 0
        · have hn' : ((n : Int) == 0) = true := by simp [hn]
          have HY : Hid (MOK = true) := KK.out.2 (by obtain ⟨z0, z1, z2⟩ := HZ.out; rw [z0, z1, z2]; omega)
          go_wp2
          go_ret
          exact ⟨ret_bool HY.out.symm, b1⟩
        · have hn' : ((n : Int) == 0) = false := by simp [hn]
          go_wp2
          go_ret
          exact ⟨ret_bool (Bool.eq_false_iff.2 fun x => by have := KK.out.1 x; omega).symm, b1⟩
    by_cases h2 : k = 2
    · subst h2
      cases al
      · have ha : ¬ (u = 0 ∧ m = 0 ∧ f = 0) := fun x => by have := HAL.out.2 x; cases this
        have HZ : Hid (MOK = false) := Bool.eq_false_iff.2 fun x => by have := KK.out.1 x; omega
        clear ha
        go_wp2
        go_ret
        exact ⟨ret_bool HZ.out.symm, b1⟩
      · have HZ : Hid (u = 0 ∧ m = 0 ∧ f = 0) := HAL.out.1 rfl
        by_cases hn : 0 < n
        · have hn' : (0 : Int) < (n : Int) := by omega
          have HY : Hid (MOK = true) := KK.out.2 (by obtain ⟨z0, z1, z2⟩ := HZ.out; rw [z0, z1, z2]; omega)
          go_wp2
          go_ret
          exact ⟨ret_bool HY.out.symm, b1⟩
        · have hn' : (n : Int) ≤ 0 := by omega
          go_wp2
          go_ret
          exact ⟨ret_bool (Bool.eq_false_iff.2 fun x => by have := KK.out.1 x; omega).symm, b1⟩
    have e1 : (k == 1) = false := by simp [h1]
    have e4 : (k == 4) = false := by simp [h4]
    have e2 : (k == 2) = false := by simp [h2]
    by_cases h3 : k = 3
    · subst h3
      clear e1 e4 e2
      by_cases hn : n = 0
      · have hn' : ((n : Int) == 0) = true := by simp [hn]
        have hf : fOK f = decide (0 ≤ f ∧ f ≤ 31) := rfl
        have HU : Hid (∀ w, Calls Try.prog 19 #[.int .i64 u] w fun e w' => e = .returned (.bool (decide (1 ≤ u ∧ u ≤ 1000))) ∧ w' = w) := fun w => isUid_any u w
        go_wp2_with (first | (go_at_call 20; refine (HF.out _).mono ?_; rintro e w' ⟨rfl, rfl⟩; rw [hf]) | (go_at_call 19; refine (HU.out _).mono ?_; rintro e w' ⟨rfl, rfl⟩))
        all_goals (go_ret; refine ⟨ret_bool ?_, b1⟩; rw [Bool.eq_iff_iff, KK.out]; simp; omega)
      · have hn' : ((n : Int) == 0) = false := by simp [hn]
        have HZ : Hid (MOK = false) := Bool.eq_false_iff.2 fun x => by have := KK.out.1 x; omega
        go_wp2
        go_ret
        exact ⟨ret_bool HZ.out.symm, b1⟩
    · have e3 : (k == 3) = false := by simp [h3]
      have HZ : Hid (MOK = false) := Bool.eq_false_iff.2 fun x => by have := KK.out.1 x; omega
      go_wp2
      go_ret
      exact ⟨ret_bool HZ.out.symm, b1⟩
end Go.Proofs.Ytinnnfkhiigjpaa.mu
