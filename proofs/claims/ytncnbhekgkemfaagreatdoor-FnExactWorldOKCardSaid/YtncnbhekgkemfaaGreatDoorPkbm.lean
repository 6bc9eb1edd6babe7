/-
  Plain facts on a mutation that is read: what is there, and where it stands in its bytes.
  The program's ReadMutation, as a whole.
-/
import Derived.Test.YtncnbhekgkemfaaGreatDoorPkbl
import Derived.Test.YtncnbhekgkemfaaGreatDoorPkad
import Derived.Lib.Strings

namespace Go.Proofs.YtncnbhekgkemfaaGreatDoor.rm
open Go.RowKit
open it
set_option linter.unusedVariables false

theorem nx_ok {s : Sta} {n : Nat} (h : (nx s n).2 = false) : s.2 = false ∧ n ≤ s.1.size ∧ (nx s n).1.size = s.1.size - n := by
  simp only [nx, sx, Bool.or_eq_false_iff, decide_eq_false_iff_not] at h
  refine ⟨h.1, by omega, ?_⟩
  show (rs s.1 n).size = _
  unfold rs
  rw [if_neg h.2]
  simp
theorem nx_no {s : Sta} {n : Nat} (h : s.1.size < n) : (nx s n).2 = true := by simp [nx, sx, h]
theorem nx_stick {s : Sta} (n : Nat) (h : s.2 = true) : (nx s n).2 = true := by simp [nx, h]
theorem its_stick1 {s : Sta} {k : Nat} (h : (its k s).2.2 = true) : (its (k + 1) s).2.2 = true := by
  simp only [its]
  exact nx_stick _ (nx_stick _ (nx_stick _ (nx_stick _ h)))
theorem its_more {s : Sta} {k : Nat} (h : (its k s).2.2 = true) : ∀ m, (its (k + m) s).2.2 = true
  | 0 => h
  | m + 1 => its_stick1 (its_more h m)
theorem its_upto {s : Sta} {k j : Nat} (h : (its k s).2.2 = true) (hj : k ≤ j) : (its j s).2.2 = true := by
  have := its_more h (j - k)
  rwa [Nat.add_sub_cancel' hj] at this
/-- The state at a place of a text. -/
def pl (t : ByteArray) (a : Nat) : Sta := (t.extract a t.size, false)
theorem pl_zero (t : ByteArray) : pl t 0 = (t, false) := by simp [pl]
theorem pl_size (t : ByteArray) (a : Nat) : (pl t a).1.size = t.size - a := by simp [pl]
theorem tk_pl {t : ByteArray} {a n : Nat} (h : a + n ≤ t.size) : tk (pl t a).1 n = t.extract a (a + n) := by
  unfold tk
  rw [if_neg (by rw [pl_size]; omega)]
  show (t.extract a t.size).extract 0 n = _
  rw [ByteArray.extract_extract]
  congr 1
  omega
theorem nx_pl {t : ByteArray} {a n : Nat} (h : a + n ≤ t.size) : nx (pl t a) n = pl t (a + n) := by
  unfold nx
  refine Prod.ext ?_ ?_
  · show rs (pl t a).1 n = t.extract (a + n) t.size
    unfold rs
    rw [if_neg (by rw [pl_size]; omega)]
    show (t.extract a t.size).extract n (t.extract a t.size).size = _
    rw [ByteArray.extract_extract, ByteArray.size_extract]
    congr 1
    omega
  · show (false || sx (pl t a).1 n) = false
    simp only [sx, Bool.false_or, decide_eq_false_iff_not]
    rw [pl_size]
    omega
theorem nx_pl_no {t : ByteArray} {a n : Nat} (ha : a ≤ t.size) (h : t.size < a + n) : (nx (pl t a) n).2 = true := nx_no (by rw [pl_size]; omega)
theorem num_one {t : ByteArray} {a : Nat} (h : a < t.size) : numB (t.extract a (a + 1)) = (t[a]).toNat := by
  have e : (t.extract a (a + 1)).data.toList = [t[a]] := by
    rw [ByteArray.data_extract]
    apply List.ext_getElem?
    intro i
    rw [Array.getElem?_toList, Array.getElem?_extract]
    have hs : t.data.size = t.size := rfl
    rcases i with _ | i
    · simp [hs]
      rw [show min (a + 1) t.size - a = 1 by omega]
      simp
      rw [Array.getElem?_eq_getElem (by omega)]
      rfl
    · simp [hs]
      omega
  unfold numB
  rw [e]
  simp [num]
theorem nb_pl {t : ByteArray} {a : Nat} (h : a < t.size) : nb (pl t a) 1 = (t[a]).toNat := by
  unfold nb
  rw [tk_pl (by omega), num_one h]
theorem nb2_pl {t : ByteArray} {a : Nat} (h : a + 2 ≤ t.size) : nb (pl t a) 2 = numB (t.extract a (a + 2)) := by
  unfold nb
  rw [tk_pl h]

/-- Whether bytes are just those of a right mutation. -/
def rok (t : ByteArray) : Bool := !(fin (t, false)).2 && (decide ((fin (t, false)).1.size = 0) && mu.mok (mtn (t, false)))
theorem rok_short {t : ByteArray} (h : (fin (t, false)).2 = true) : rok t = false := by simp [rok, h]
theorem rok_left {t : ByteArray} (h : (fin (t, false)).1.size ≠ 0) : rok t = false := by simp [rok, h]
theorem rok_mok {t : ByteArray} (h : mu.mok (mtn (t, false)) = false) : rok t = false := by simp [rok, h]
theorem rok_yes {t : ByteArray} (h : (fin (t, false)).2 = false) (h1 : (fin (t, false)).1.size = 0) : rok t = mu.mok (mtn (t, false)) := by simp [rok, h, h1]
theorem fin_s7 {s : Sta} (h : (s7 s).2 = true) : (fin s).2 = true := by
  unfold fin
  generalize s7 s = q at h ⊢
  generalize nb (s3 s) 1 = k
  have h0 : (its 0 q).2.2 = true := by rw [its]; exact h
  exact its_upto h0 (Nat.zero_le _)
theorem rok_few {t : ByteArray} (h : t.size < 7) : rok t = false := by
  refine rok_short (fin_s7 ?_)
  cases e : (s7 (t, false)).2 with
  | true => rfl
  | false =>
    exfalso
    have h7 := nx_ok (s := s6 (t, false)) e
    have h6 := nx_ok (s := s5 (t, false)) h7.1
    have h5 := nx_ok (s := s4 (t, false)) h6.1
    have h4 := nx_ok (s := s3 (t, false)) h5.1
    have h3 := nx_ok (s := s2 (t, false)) h4.1
    have h2 := nx_ok (s := s1 (t, false)) h3.1
    have h1 := nx_ok (s := (t, false)) h2.1
    have e1 : (s1 (t, false)).1.size = t.size - 1 := h1.2.2
    have e2 : (s2 (t, false)).1.size = (s1 (t, false)).1.size - 1 := h2.2.2
    have e3 : (s3 (t, false)).1.size = (s2 (t, false)).1.size - 1 := h3.2.2
    have e4 : (s4 (t, false)).1.size = (s3 (t, false)).1.size - 1 := h4.2.2
    have e5 : (s5 (t, false)).1.size = (s4 (t, false)).1.size - 1 := h5.2.2
    have q1 : 1 ≤ t.size := h1.2.1
    have q2 := h2.2.1
    have q3 := h3.2.1
    have q4 := h4.2.1
    have q5 := h5.2.1
    have q6 := h6.2.1
    omega
theorem s1_pl {t : ByteArray} (h : 7 ≤ t.size) : s1 (t, false) = pl t 1 := by unfold s1; rw [← pl_zero, nx_pl (by omega)]
theorem s2_pl {t : ByteArray} (h : 7 ≤ t.size) : s2 (t, false) = pl t 2 := by unfold s2; rw [s1_pl h, nx_pl (by omega)]
theorem s3_pl {t : ByteArray} (h : 7 ≤ t.size) : s3 (t, false) = pl t 3 := by unfold s3; rw [s2_pl h, nx_pl (by omega)]
theorem s4_pl {t : ByteArray} (h : 7 ≤ t.size) : s4 (t, false) = pl t 4 := by unfold s4; rw [s3_pl h, nx_pl (by omega)]
theorem s5_pl {t : ByteArray} (h : 7 ≤ t.size) : s5 (t, false) = pl t 5 := by unfold s5; rw [s4_pl h, nx_pl (by omega)]
theorem s6_pl {t : ByteArray} (h : 7 ≤ t.size) : s6 (t, false) = pl t 7 := by unfold s6; rw [s5_pl h, nx_pl (by omega)]
theorem size_is {t : ByteArray} (h : 7 ≤ t.size) : nb (s4 (t, false)) 1 = (t[4]).toNat := by rw [s4_pl h, nb_pl (by omega)]
theorem count_is {t : ByteArray} (h : 7 ≤ t.size) : nb (s3 (t, false)) 1 = (t[3]).toNat := by rw [s3_pl h, nb_pl (by omega)]
theorem rok_name {t : ByteArray} (h : 7 ≤ t.size) (h2 : t.size < 7 + (t[4]).toNat) : rok t = false := by
  refine rok_short (fin_s7 ?_)
  unfold s7
  rw [size_is h, s6_pl h]
  exact nx_pl_no (by omega) h2
theorem s7_pl {t : ByteArray} (h : 7 ≤ t.size) (h2 : 7 + (t[4]).toNat ≤ t.size) : s7 (t, false) = pl t (7 + (t[4]).toNat) := by
  unfold s7
  rw [size_is h, s6_pl h, nx_pl h2]
theorem mtn_is {t : ByteArray} (h : 7 ≤ t.size) (h2 : 7 + (t[4]).toNat ≤ t.size) {ps : List Pr} {s : Sta} (hi : its (t[3]).toNat (pl t (7 + (t[4]).toNat)) = (ps, s)) :
    mtn (t, false) = ⟨((t[0]).toNat : Nat), (numB (t.extract 5 7) : Nat), ((t[1]).toNat : Nat), ((t[2]).toNat : Nat), t.extract 7 (7 + (t[4]).toNat), ps⟩ ∧ fin (t, false) = s := by
  have e0 : nb (t, false) 1 = (t[0]).toNat := by rw [← pl_zero, nb_pl (by omega)]
  have e1 : nb (s1 (t, false)) 1 = (t[1]).toNat := by rw [s1_pl h, nb_pl (by omega)]
  have e2 : nb (s2 (t, false)) 1 = (t[2]).toNat := by rw [s2_pl h, nb_pl (by omega)]
  have e5 : nb (s5 (t, false)) 2 = numB (t.extract 5 7) := by rw [s5_pl h, nb2_pl (by omega)]
  unfold mtn fin
  rw [e0, e1, e2, e5, size_is h, count_is h, s7_pl h h2, hi, s6_pl h, tk_pl h2]
  exact ⟨rfl, rfl⟩
theorem rok_its {t : ByteArray} (h : 7 ≤ t.size) (h2 : 7 + (t[4]).toNat ≤ t.size) {j : Nat} (hi : (its j (pl t (7 + (t[4]).toNat))).2.2 = true) (hj : j ≤ (t[3]).toNat) : rok t = false := by
  refine rok_short ?_
  rw [(mtn_is h h2 (ps := (its (t[3]).toNat (pl t (7 + (t[4]).toNat))).1) (s := (its (t[3]).toNat (pl t (7 + (t[4]).toNat))).2) rfl).2]
  exact its_upto hi hj
theorem its_next {s : Sta} {t : ByteArray} {a j : Nat} {ps : List Pr} (h : its j s = (ps, pl t a)) {k n : Nat} (h4 : a + 4 ≤ t.size) (hk : k = numB (t.extract a (a + 2))) (hn : n = numB (t.extract (a + 2) (a + 4))) (hs : a + 4 + k + n ≤ t.size) :
    its (j + 1) s = (ps ++ [(t.extract (a + 4) (a + 4 + k), t.extract (a + 4 + k) (a + 4 + k + n))], pl t (a + 4 + k + n)) := by
  have e1 : nx (pl t a) 2 = pl t (a + 2) := nx_pl (by omega)
  have e2 : nx (pl t (a + 2)) 2 = pl t (a + 4) := nx_pl (by omega)
  have e3 : nb (pl t a) 2 = k := by rw [nb2_pl (by omega), hk]
  have e4 : nb (pl t (a + 2)) 2 = n := by rw [nb2_pl (by omega), hn]
  simp only [its, h, e1, e2, e3, e4]
  rw [nx_pl (a := a + 4) (n := k) (by omega), nx_pl (a := a + 4 + k) (n := n) hs, tk_pl (a := a + 4) (n := k) (by omega), tk_pl (a := a + 4 + k) (n := n) hs]
theorem its_no4 {s : Sta} {t : ByteArray} {a j : Nat} {ps : List Pr} (h : its j s = (ps, pl t a)) (ha : a ≤ t.size) (h4 : t.size < a + 4) : (its (j + 1) s).2.2 = true := by
  simp only [its, h]
  refine nx_stick _ (nx_stick _ ?_)
  by_cases h2 : a + 2 ≤ t.size
  · rw [nx_pl h2]
    exact nx_pl_no h2 (by omega)
  · exact nx_stick _ (nx_pl_no ha (by omega))
theorem its_nokn {s : Sta} {t : ByteArray} {a j : Nat} {ps : List Pr} (h : its j s = (ps, pl t a)) {k n : Nat} (h4 : a + 4 ≤ t.size) (hk : k = numB (t.extract a (a + 2))) (hn : n = numB (t.extract (a + 2) (a + 4))) (hs : t.size < a + 4 + k + n) : (its (j + 1) s).2.2 = true := by
  have e1 : nx (pl t a) 2 = pl t (a + 2) := nx_pl (by omega)
  have e2 : nx (pl t (a + 2)) 2 = pl t (a + 4) := nx_pl (by omega)
  have e3 : nb (pl t a) 2 = k := by rw [nb2_pl (by omega), hk]
  have e4 : nb (pl t (a + 2)) 2 = n := by rw [nb2_pl (by omega), hn]
  simp only [its, h, e1, e2, e3, e4]
  by_cases h2 : a + 4 + k ≤ t.size
  · rw [nx_pl (a := a + 4) (n := k) h2]
    exact nx_pl_no h2 hs
  · exact nx_stick _ (nx_pl_no h4 (by omega))
theorem getD_snoc_lt {ps : List Pr} {x : Pr} {j : Nat} (h : j < ps.length) : (ps ++ [x]).getD j no = ps.getD j no := by
  simp only [List.getD_eq_getElem?_getD]
  rw [List.getElem?_append_left h]
theorem getD_snoc_eq {ps : List Pr} {x : Pr} {j : Nat} (h : j = ps.length) : (ps ++ [x]).getD j no = x := by
  subst h
  simp
theorem its_small (q : Sta) : ∀ (k j : Nat), j < k → ((its k q).1.getD j no).1.size ≤ 1048576 ∧ ((its k q).1.getD j no).2.size ≤ 1048576
  | 0, j, hj => absurd hj (Nat.not_lt_zero _)
  | k + 1, j, hj => by
    rw [its]
    by_cases e : j < k
    · rw [getD_snoc_lt (by rw [its_len]; exact e)]
      exact its_small q k j e
    · rw [getD_snoc_eq (by rw [its_len]; omega)]
      have a1 := tk_size (nx (nx (its k q).2 2) 2).1 (nb (its k q).2 2)
      have a2 := tk_size (nx (nx (nx (its k q).2 2) 2) (nb (its k q).2 2)).1 (nb (nx (its k q).2 2) 2)
      have b1 := nb_lt (its k q).2 2
      have b2 := nb_lt (nx (its k q).2 2) 2
      exact ⟨by simp only; omega, by simp only; omega⟩
theorem in_nat {n : Nat} (h : n < 65536) : -9223372036854775808 ≤ (n : Int) ∧ (n : Int) ≤ 9223372036854775807 := ⟨by omega, by omega⟩
/-- The mutation that is read is of a size that a law takes. -/
theorem mtn_small (s : Sta) : mu.Small (mtn s) := by
  have n0 := nb_lt s 1
  have n1 := nb_lt (s5 s) 2
  have n2 := nb_lt (s1 s) 1
  have n3 := nb_lt (s2 s) 1
  have n4 := nb_lt (s4 s) 1
  have n5 := nb_lt (s3 s) 1
  have n6 := tk_size (s6 s).1 (nb (s4 s) 1)
  unfold mtn mu.Small mu.Ins
  simp only
  generalize nb s 1 = k0 at *
  generalize nb (s5 s) 2 = k1 at *
  generalize nb (s1 s) 1 = k2 at *
  generalize nb (s2 s) 1 = k3 at *
  generalize nb (s4 s) 1 = k4 at *
  generalize nb (s3 s) 1 = k5 at *
  refine ⟨⟨in_nat (by omega), in_nat (by omega), in_nat (by omega), in_nat (by omega)⟩, by omega, ?_, fun j hj => ?_⟩
  · rw [its_len]
    omega
  · rw [its_len] at hj
    exact its_small _ _ _ hj
end Go.Proofs.YtncnbhekgkemfaaGreatDoor.rm

namespace Go.Proofs.YtncnbhekgkemfaaGreatDoor.rm
open Go.RowKit
open it
set_option linter.unusedVariables false

def bz (l : List UInt8) : List Int := l.map fun b => (b.toNat : Int)
theorem bz_len (l : List UInt8) : (bz l).length = l.length := List.length_map _
theorem bz_at (l : List UInt8) (j : Nat) : (bz l).getD j 0 = ((l.getD j 0).toNat : Int) := by
  simp only [bz, List.getD_eq_getElem?_getD, List.getElem?_map]
  cases l[j]? <;> rfl
theorem conv {w : World} {v : Value} {l : List UInt8} (h : ow.Reads .u8 w v (bz l)) : (convert 124 9 v).run Tryz.prog w = .ok (.string ⟨l.toArray⟩) w := by
  obtain ⟨a, cap, rfl, h⟩ := h
  rw [bz_len] at h ⊢
  by_cases h0 : l = []
  · subst h0
    rw [run_convert_bytes_string w 124 9 5 _ _ _ Tryz.underlying124 Tryz.underlying5 Tryz.underlying9]
    cases a <;> rfl
  · rcases h with e | ⟨b, off, rfl, hc⟩
    · exact absurd (List.eq_nil_of_length_eq_zero (by have := congrArg List.length e; rwa [bz_len] at this)) h0
    · refine run_convert_bytes_back w 124 9 5 ⟨b, off, none⟩ cap l Tryz.underlying124 Tryz.underlying5 Tryz.underlying9 (fun j hj => ?_)
      rw [show ((⟨b, off, none⟩ : Addr).add j) = ⟨b, off + j, none⟩ from by simp [Addr.add], hc j hj, bz_at]
      simp [List.getD_eq_getElem?_getD, hj]
theorem text_size (l : List UInt8) : (⟨l.toArray⟩ : ByteArray).size = l.length := rfl

theorem empty_is {s : ByteArray} (h : s.size = 0) : s.toList.isEmpty = true := by rw [Lib.size_eq] at h; rw [Lib.toList_data, List.isEmpty_iff]; exact List.eq_nil_of_length_eq_zero h
theorem full_is {s : ByteArray} (h : ¬ s.size = 0) : s.toList.isEmpty = false := by
  cases e : s.toList.isEmpty with
  | false => rfl
  | true =>
    rw [Lib.toList_data, List.isEmpty_iff] at e
    exact absurd (by rw [Lib.size_eq, e]; rfl) h
/-- No mutation. -/
def noM : mu.Mu := ⟨0, 0, 0, 0, ⟨#[]⟩, []⟩
/-- The mutation that ReadMutation answers, and its code. -/
def rmx (l : List UInt8) : mu.Mu := if l.length ≤ 20000 ∧ rok ⟨l.toArray⟩ = true then mtn (⟨l.toArray⟩, false) else noM
def rmc (l : List UInt8) : Int := if 65536 < l.length then 2 else if l.length ≤ 20000 ∧ rok ⟨l.toArray⟩ = true then 0 else 3
theorem rm_long {l : List UInt8} (h : 65536 < l.length) : rmx l = noM ∧ rmc l = 2 := by
  refine ⟨by unfold rmx; rw [if_neg (by omega)], by unfold rmc; rw [if_pos h]⟩
theorem rm_form {l : List UInt8} (h : ¬ 65536 < l.length) (h1 : ¬ (l.length ≤ 20000 ∧ rok ⟨l.toArray⟩ = true)) : rmx l = noM ∧ rmc l = 3 := by
  refine ⟨by unfold rmx; rw [if_neg h1], by unfold rmc; rw [if_neg h, if_neg h1]⟩
theorem rm_ok {l : List UInt8} (h1 : l.length ≤ 20000) (h2 : rok ⟨l.toArray⟩ = true) : rmx l = mtn (⟨l.toArray⟩, false) ∧ rmc l = 0 := by
  refine ⟨by unfold rmx; rw [if_pos ⟨h1, h2⟩], by unfold rmc; rw [if_neg (by omega), if_pos ⟨h1, h2⟩]⟩
theorem rmx_small (l : List UInt8) : mu.Small (rmx l) := by
  unfold rmx
  split
  · exact mtn_small _
  · exact ⟨⟨⟨by decide, by decide⟩, ⟨by decide, by decide⟩, ⟨by decide, by decide⟩, ⟨by decide, by decide⟩⟩, Nat.zero_le _, Nat.zero_le _, fun j hj => absurd hj (Nat.not_lt_zero _)⟩
theorem rows_nil (w : World) (base : Nat) : Rows2 w base (.slice none 0 0) [] := World.ownsRow_nil _ _ _ _
/-- What ReadMutation answers, in memory from base on. -/
def RmRet (l : List UInt8) (base : Nat) (e : Ending) (w : World) : Prop := ∃ u, e = .returned (.tuple #[mu.MV (rmx l) u, .int .i64 (rmc l)]) ∧ Rows2 w base u (rmx l).ps
theorem ret_none {l : List UInt8} {base : Nat} {w : World} {c : Int} (h : rmx l = noM ∧ rmc l = c) : RmRet l base (.returned (.tuple #[.agg #[.int .i64 0, .int .i64 0, .int .i64 0, .int .i64 0, .string ⟨#[]⟩, .slice none 0 0], .int .i64 c])) w := by
  refine ⟨.slice none 0 0, ?_, ?_⟩
  · rw [h.1, h.2]
    rfl
  · rw [h.1]
    exact rows_nil _ _
theorem put6_below {B : Nat} {w0 w : World} {g : Nat} {a b c d e f : Value} (k : Below B w0 w) (hb : B ≤ g) : Below B w0 (put6 w g a b c d e f) :=
  (((((k.setCell (p := ⟨g, 0, none⟩) hb _).setCell (p := ⟨g, 1, none⟩) hb _).setCell (p := ⟨g, 2, none⟩) hb _).setCell (p := ⟨g, 3, none⟩) hb _).setCell (p := ⟨g, 4, none⟩) hb _).setCell (p := ⟨g, 5, none⟩) hb _
theorem B6.below {w w' : World} {g : Nat} {T : TypeId} {v0 v1 v2 v3 v4 v5 : Value} (h : B6 w g T v0 v1 v2 v3 v4 v5) (hb : Below w.heap.size w w') : B6 w' g T v0 v1 v2 v3 v4 v5 := (hb.block g h.lt).trans h

set_option maxHeartbeats 4000000 in
set_option maxRecDepth 100000 in
theorem impl_rm (v : Value) (l : List UInt8) (w : World) (h : ow.Reads .u8 w v (bz l)) (hl : l.length ≤ 1048576) :
    Calls Tryz.prog 66 #[v] w fun e w' => RmRet l w.heap.size e w' ∧ Below w.heap.size w w' := by
  have HR0 : Zero (w.alloc (.cells #[.int .i64 0, .int .i64 0, .int .i64 0, .int .i64 0, .string ⟨#[]⟩, .slice none 0 0] 104)) w.heap.size := (MapKept.heap_alloc w _).1
  have b0 : Below w.heap.size w (w.alloc (.cells #[.int .i64 0, .int .i64 0, .int .i64 0, .int .i64 0, .string ⟨#[]⟩, .slice none 0 0] 104)) := (Below.refl _ _).alloc (Nat.le_refl _) _
  have hk : ow.Reads .u8 (w.alloc (.cells #[.int .i64 0, .int .i64 0, .int .i64 0, .int .i64 0, .string ⟨#[]⟩, .slice none 0 0] 104)) v (bz l) := ow.reads_keep h (fun a u h => (b0.cell (p := a) (World.block_lt_of_cell? w _ h)).trans h)
  have HCV := conv hk
  obtain ⟨a, cap, rfl, _⟩ := h
  rw [bz_len] at HCV ⊢
  clear hk
  by_cases g1 : 65536 < l.length
  · have g1' : (65536 : Int) < (l.length : Int) := by omega
    have HE : Hid (rmx l = noM ∧ rmc l = 2) := rm_long g1
    go_enter Tryz.func66, Tryz.ntmps66
    go_wp2
    exact bodyPost_ret (v := .tuple #[.agg #[.int .i64 0, .int .i64 0, .int .i64 0, .int .i64 0, .string ⟨#[]⟩, .slice none 0 0], .int .i64 2]) (by simp [results, Tryz.results66, go_sem]) rfl ⟨ret_none HE.out, b0⟩
  have g1' : (l.length : Int) ≤ 65536 := by omega
  by_cases g2 : 20000 < l.length
  · have g2' : (20000 : Int) < (l.length : Int) := by omega
    have HE : Hid (rmx l = noM ∧ rmc l = 3) := rm_form g1 (by omega)
    go_enter Tryz.func66, Tryz.ntmps66
    go_wp2
    exact bodyPost_ret (v := .tuple #[.agg #[.int .i64 0, .int .i64 0, .int .i64 0, .int .i64 0, .string ⟨#[]⟩, .slice none 0 0], .int .i64 3]) (by simp [results, Tryz.results66, go_sem]) rfl ⟨ret_none HE.out, b0⟩
  have g2' : (l.length : Int) ≤ 20000 := by omega
  have HE3 : Hid (rok ⟨l.toArray⟩ = false → rmx l = noM ∧ rmc l = 3) := fun h => rm_form g1 (by rw [h]; simp)
  have HE0 : Hid (rok ⟨l.toArray⟩ = true → rmx l = mtn (⟨l.toArray⟩, false) ∧ rmc l = 0) := fun h => rm_ok (by omega) h
  have hts : (⟨l.toArray⟩ : ByteArray).size ≤ 1048576 := hl
  generalize (⟨l.toArray⟩ : ByteArray) = t at HCV HE3 HE0 hts ⊢
  have HC1 := (MapKept.heap_alloc (w.alloc (.cells #[.int .i64 0, .int .i64 0, .int .i64 0, .int .i64 0, .string ⟨#[]⟩, .slice none 0 0] 104)) (.cells #[.string t, .bool false] 153)).1
  have b1 := b0.alloc (by simp) (.cells #[.string t, .bool false] 153)
  have HR1 : Zero ((w.alloc (.cells #[.int .i64 0, .int .i64 0, .int .i64 0, .int .i64 0, .string ⟨#[]⟩, .slice none 0 0] 104)).alloc (.cells #[.string t, .bool false] 153)) w.heap.size := HR0.below ((Below.refl _ _).alloc (Nat.le_refl _) _)
  rw [show (w.alloc (.cells #[.int .i64 0, .int .i64 0, .int .i64 0, .int .i64 0, .string ⟨#[]⟩, .slice none 0 0] 104)).heap.size = w.heap.size + 1 by simp] at HC1
  clear HR0 b0
  go_enter Tryz.func66, Tryz.ntmps66
  go_wp2_with fail
  have HCT : Cut ((w.alloc (.cells #[.int .i64 0, .int .i64 0, .int .i64 0, .int .i64 0, .string ⟨#[]⟩, .slice none 0 0] 104)).alloc (.cells #[.string t, .bool false] 153)) (w.heap.size + 1) t false := HC1
  clear HC1 HCV
  generalize World.alloc _ _ = w1 at HCT HR1 b1 ⊢
  refine (mutation_any (w.heap.size + 1) (t, false) w1 HCT hts).mono ?_
  rintro e w2 ⟨u, rfl, hrw, hct, hgr⟩
  have hlt1 : w.heap.size + 1 < w1.heap.size := HCT.lt
  have R2 : Zero w2 w.heap.size := HR1.keep hgr (by omega)
  have b2 : Below w.heap.size w w2 := b1.grown hgr b1.size (fun k hk => by cases hk; omega)
  have HRW : Hid (Rows2 w2 w1.heap.size u (mtn (t, false)).ps) := hrw
  clear HCT HR1 b1 hgr hrw
  obtain ⟨av, nv, cv, rfl⟩ : ∃ a n c, u = .slice a n c := by
    rcases HRW.out.2 with ⟨rfl, _⟩ | ⟨g, cap, cur, rfl, _⟩
    · exact ⟨_, _, _, rfl⟩
    · exact ⟨_, _, _, rfl⟩
  have HSM : Hid (mu.Small (mtn (t, false))) := mtn_small _
  have HRS : Hid ((fin (t, false)).2 = true → rok t = false) := rok_short
  have HRL : Hid ((fin (t, false)).1.size ≠ 0 → rok t = false) := rok_left
  have HRY : Hid ((fin (t, false)).2 = false → (fin (t, false)).1.size = 0 → rok t = mu.mok (mtn (t, false))) := rok_yes
  generalize fin (t, false) = q at hct HRS HRL HRY
  obtain ⟨q1, q2⟩ := q
  simp only at hct HRS HRL HRY
  generalize hM : mtn (t, false) = x at HRW HSM HRY HE0 ⊢
  clear hM
  unfold mu.MV
  have LM := mu.lies_new w2 104 x (.slice av nv cv)
  have b3 := b2.trans ((mu.new_below w2 104 #[.int .i64 x.k, .int .i64 x.u, .int .i64 x.m, .int .i64 x.f, .string x.b, .slice av nv cv]).mono b2.size)
  have R3 : Zero (w2.alloc (.cells #[.int .i64 x.k, .int .i64 x.u, .int .i64 x.m, .int .i64 x.f, .string x.b, .slice av nv cv] 104)) w.heap.size := R2.below (mu.new_below _ _ _)
  have C3 : Cut (w2.alloc (.cells #[.int .i64 x.k, .int .i64 x.u, .int .i64 x.m, .int .i64 x.f, .string x.b, .slice av nv cv] 104)) (w.heap.size + 1) q1 q2 := (Below.heap_alloc _ _ _ hct.lt).trans hct
  have HRW3 : Hid (Rows2 (w2.alloc (.cells #[.int .i64 x.k, .int .i64 x.u, .int .i64 x.m, .int .i64 x.f, .string x.b, .slice av nv cv] 104)) w1.heap.size (.slice av nv cv) x.ps) := ow.own_below HRW.out (mu.new_below _ _ _)
  have HB1 : Hid (w.heap.size ≤ w1.heap.size) := (show w.heap.size ≤ w1.heap.size by omega)
  clear HRW hct R2 b2
  have c0 := C3.c0
  have c1 : (w2.alloc (.cells #[.int .i64 x.k, .int .i64 x.u, .int .i64 x.m, .int .i64 x.f, .string x.b, .slice av nv cv] 104)).cell? ⟨w.heap.size + 1, 0 + 1, none⟩ = some (.bool q2) := C3.c1
  clear C3
  cases q2
  case true =>
    have HEE : Hid (rmx l = noM ∧ rmc l = 3) := HE3.out (HRS.out rfl)
    have r0 : World.cell? (w2.alloc (.cells #[.int .i64 x.k, .int .i64 x.u, .int .i64 x.m, .int .i64 x.f, .string x.b, .slice av nv cv] 104)) ⟨w.heap.size, 0, none⟩ = _ := R3.cell 0 _ rfl
    have r1 : World.cell? (w2.alloc (.cells #[.int .i64 x.k, .int .i64 x.u, .int .i64 x.m, .int .i64 x.f, .string x.b, .slice av nv cv] 104)) ⟨w.heap.size, 0 + 1, none⟩ = _ := R3.cell 1 _ rfl
    have r2 : World.cell? (w2.alloc (.cells #[.int .i64 x.k, .int .i64 x.u, .int .i64 x.m, .int .i64 x.f, .string x.b, .slice av nv cv] 104)) ⟨w.heap.size, 0 + 2, none⟩ = _ := R3.cell 2 _ rfl
    have r3 : World.cell? (w2.alloc (.cells #[.int .i64 x.k, .int .i64 x.u, .int .i64 x.m, .int .i64 x.f, .string x.b, .slice av nv cv] 104)) ⟨w.heap.size, 0 + 3, none⟩ = _ := R3.cell 3 _ rfl
    have r4 : World.cell? (w2.alloc (.cells #[.int .i64 x.k, .int .i64 x.u, .int .i64 x.m, .int .i64 x.f, .string x.b, .slice av nv cv] 104)) ⟨w.heap.size, 0 + 4, none⟩ = _ := R3.cell 4 _ rfl
    have r5 : World.cell? (w2.alloc (.cells #[.int .i64 x.k, .int .i64 x.u, .int .i64 x.m, .int .i64 x.f, .string x.b, .slice av nv cv] 104)) ⟨w.heap.size, 0 + 5, none⟩ = _ := R3.cell 5 _ rfl
    have fz := R3.f
    clear LM HE3 HRS
    go_wp2
    have A5 := R3.put (a := .int .i64 0) (b := .int .i64 0) (c := .int .i64 0) (d := .int .i64 0) (e := .string ⟨#[]⟩) (f := .slice none 0 0)
    have b5 := put6_below (g := w.heap.size) (a := .int .i64 0) (b := .int .i64 0) (c := .int .i64 0) (d := .int .i64 0) (e := .string ⟨#[]⟩) (f := .slice none 0 0) b3 (Nat.le_refl _)
    change bodyPost _ _ _ _ _ (put6 (w2.alloc (.cells #[.int .i64 x.k, .int .i64 x.u, .int .i64 x.m, .int .i64 x.f, .string x.b, .slice av nv cv] 104)) w.heap.size (.int .i64 0) (.int .i64 0) (.int .i64 0) (.int .i64 0) (.string ⟨#[]⟩) (.slice none 0 0))
    generalize put6 _ _ _ _ _ _ _ _ = W5 at A5 b5 ⊢
    have d0 : W5.cell? ⟨w.heap.size, 0, none⟩ = _ := A5.cell 0 _ rfl
    have d1 : W5.cell? ⟨w.heap.size, 0 + 1, none⟩ = _ := A5.cell 1 _ rfl
    have d2 : W5.cell? ⟨w.heap.size, 0 + 2, none⟩ = _ := A5.cell 2 _ rfl
    have d3 : W5.cell? ⟨w.heap.size, 0 + 3, none⟩ = _ := A5.cell 3 _ rfl
    have d4 : W5.cell? ⟨w.heap.size, 0 + 4, none⟩ = _ := A5.cell 4 _ rfl
    have d5 : W5.cell? ⟨w.heap.size, 0 + 5, none⟩ = _ := A5.cell 5 _ rfl
    exact bodyPost_ret (v := .tuple #[.agg #[.int .i64 0, .int .i64 0, .int .i64 0, .int .i64 0, .string ⟨#[]⟩, .slice none 0 0], .int .i64 3]) (by simp [results, Tryz.results66, go_sem, d0, d1, d2, d3, d4, d5]) rfl ⟨ret_none HEE.out, b5⟩
  by_cases hq : q1.size = 0
  case neg =>
    have HEE : Hid (rmx l = noM ∧ rmc l = 3) := HE3.out (HRL.out hq)
    have hem := full_is hq
    have r0 : World.cell? (w2.alloc (.cells #[.int .i64 x.k, .int .i64 x.u, .int .i64 x.m, .int .i64 x.f, .string x.b, .slice av nv cv] 104)) ⟨w.heap.size, 0, none⟩ = _ := R3.cell 0 _ rfl
    have r1 : World.cell? (w2.alloc (.cells #[.int .i64 x.k, .int .i64 x.u, .int .i64 x.m, .int .i64 x.f, .string x.b, .slice av nv cv] 104)) ⟨w.heap.size, 0 + 1, none⟩ = _ := R3.cell 1 _ rfl
    have r2 : World.cell? (w2.alloc (.cells #[.int .i64 x.k, .int .i64 x.u, .int .i64 x.m, .int .i64 x.f, .string x.b, .slice av nv cv] 104)) ⟨w.heap.size, 0 + 2, none⟩ = _ := R3.cell 2 _ rfl
    have r3 : World.cell? (w2.alloc (.cells #[.int .i64 x.k, .int .i64 x.u, .int .i64 x.m, .int .i64 x.f, .string x.b, .slice av nv cv] 104)) ⟨w.heap.size, 0 + 3, none⟩ = _ := R3.cell 3 _ rfl
    have r4 : World.cell? (w2.alloc (.cells #[.int .i64 x.k, .int .i64 x.u, .int .i64 x.m, .int .i64 x.f, .string x.b, .slice av nv cv] 104)) ⟨w.heap.size, 0 + 4, none⟩ = _ := R3.cell 4 _ rfl
    have r5 : World.cell? (w2.alloc (.cells #[.int .i64 x.k, .int .i64 x.u, .int .i64 x.m, .int .i64 x.f, .string x.b, .slice av nv cv] 104)) ⟨w.heap.size, 0 + 5, none⟩ = _ := R3.cell 5 _ rfl
    have fz := R3.f
    clear LM HE3 HRS hq
    go_wp2
    have A5 := R3.put (a := .int .i64 0) (b := .int .i64 0) (c := .int .i64 0) (d := .int .i64 0) (e := .string ⟨#[]⟩) (f := .slice none 0 0)
    have b5 := put6_below (g := w.heap.size) (a := .int .i64 0) (b := .int .i64 0) (c := .int .i64 0) (d := .int .i64 0) (e := .string ⟨#[]⟩) (f := .slice none 0 0) b3 (Nat.le_refl _)
    change bodyPost _ _ _ _ _ (put6 (w2.alloc (.cells #[.int .i64 x.k, .int .i64 x.u, .int .i64 x.m, .int .i64 x.f, .string x.b, .slice av nv cv] 104)) w.heap.size (.int .i64 0) (.int .i64 0) (.int .i64 0) (.int .i64 0) (.string ⟨#[]⟩) (.slice none 0 0))
    generalize put6 _ _ _ _ _ _ _ _ = W5 at A5 b5 ⊢
    have d0 : W5.cell? ⟨w.heap.size, 0, none⟩ = _ := A5.cell 0 _ rfl
    have d1 : W5.cell? ⟨w.heap.size, 0 + 1, none⟩ = _ := A5.cell 1 _ rfl
    have d2 : W5.cell? ⟨w.heap.size, 0 + 2, none⟩ = _ := A5.cell 2 _ rfl
    have d3 : W5.cell? ⟨w.heap.size, 0 + 3, none⟩ = _ := A5.cell 3 _ rfl
    have d4 : W5.cell? ⟨w.heap.size, 0 + 4, none⟩ = _ := A5.cell 4 _ rfl
    have d5 : W5.cell? ⟨w.heap.size, 0 + 5, none⟩ = _ := A5.cell 5 _ rfl
    exact bodyPost_ret (v := .tuple #[.agg #[.int .i64 0, .int .i64 0, .int .i64 0, .int .i64 0, .string ⟨#[]⟩, .slice none 0 0], .int .i64 3]) (by simp [results, Tryz.results66, go_sem, d0, d1, d2, d3, d4, d5]) rfl ⟨ret_none HEE.out, b5⟩
  have hem := empty_is hq
  have HRK : Hid (rok t = mu.mok x) := HRY.out rfl hq
  clear HRY HRL HRS hq
  go_wp2_with fail
  obtain ⟨G, hG⟩ : ∃ G, G = w2.heap.size := ⟨_, rfl⟩
  rw [← hG] at LM ⊢
  clear hG
  generalize w2.alloc _ = W3 at LM b3 R3 HRW3 c0 c1 ⊢
  have HAT : Hid (AttrsAt W3 (.slice av nv cv) x.ps) := rows_at HRW3.out
  refine (mu.impl_mok x _ W3 HAT.out HSM.out).mono ?_
  rintro e w4 ⟨rfl, hb4⟩
  have LM4 := LM.keep hb4
  have R4 : Zero w4 w.heap.size := R3.below hb4
  have b4 := b3.trans (hb4.mono b3.size)
  have HRW4 : Hid (Rows2 w4 w1.heap.size (.slice av nv cv) x.ps) := ow.own_below HRW3.out hb4
  clear LM R3 b3 HRW3 hb4 HAT c0 c1 HSM
  rw [HRK.out] at HE3 HE0
  generalize mu.mok x = ok at HE3 HE0 ⊢
  cases ok
  case false =>
    have R3 := R4
    have b3 := b4
    have HEE : Hid (rmx l = noM ∧ rmc l = 3) := HE3.out rfl
    have r0 : World.cell? w4 ⟨w.heap.size, 0, none⟩ = _ := R3.cell 0 _ rfl
    have r1 : World.cell? w4 ⟨w.heap.size, 0 + 1, none⟩ = _ := R3.cell 1 _ rfl
    have r2 : World.cell? w4 ⟨w.heap.size, 0 + 2, none⟩ = _ := R3.cell 2 _ rfl
    have r3 : World.cell? w4 ⟨w.heap.size, 0 + 3, none⟩ = _ := R3.cell 3 _ rfl
    have r4 : World.cell? w4 ⟨w.heap.size, 0 + 4, none⟩ = _ := R3.cell 4 _ rfl
    have r5 : World.cell? w4 ⟨w.heap.size, 0 + 5, none⟩ = _ := R3.cell 5 _ rfl
    have fz := R3.f
    clear HE3 LM4
    go_wp2
    have A5 := R3.put (a := .int .i64 0) (b := .int .i64 0) (c := .int .i64 0) (d := .int .i64 0) (e := .string ⟨#[]⟩) (f := .slice none 0 0)
    have b5 := put6_below (g := w.heap.size) (a := .int .i64 0) (b := .int .i64 0) (c := .int .i64 0) (d := .int .i64 0) (e := .string ⟨#[]⟩) (f := .slice none 0 0) b3 (Nat.le_refl _)
    change bodyPost _ _ _ _ _ (put6 w4 w.heap.size (.int .i64 0) (.int .i64 0) (.int .i64 0) (.int .i64 0) (.string ⟨#[]⟩) (.slice none 0 0))
    generalize put6 _ _ _ _ _ _ _ _ = W5 at A5 b5 ⊢
    have d0 : W5.cell? ⟨w.heap.size, 0, none⟩ = _ := A5.cell 0 _ rfl
    have d1 : W5.cell? ⟨w.heap.size, 0 + 1, none⟩ = _ := A5.cell 1 _ rfl
    have d2 : W5.cell? ⟨w.heap.size, 0 + 2, none⟩ = _ := A5.cell 2 _ rfl
    have d3 : W5.cell? ⟨w.heap.size, 0 + 3, none⟩ = _ := A5.cell 3 _ rfl
    have d4 : W5.cell? ⟨w.heap.size, 0 + 4, none⟩ = _ := A5.cell 4 _ rfl
    have d5 : W5.cell? ⟨w.heap.size, 0 + 5, none⟩ = _ := A5.cell 5 _ rfl
    exact bodyPost_ret (v := .tuple #[.agg #[.int .i64 0, .int .i64 0, .int .i64 0, .int .i64 0, .string ⟨#[]⟩, .slice none 0 0], .int .i64 3]) (by simp [results, Tryz.results66, go_sem, d0, d1, d2, d3, d4, d5]) rfl ⟨ret_none HEE.out, b5⟩
  have HEE : Hid (rmx l = x ∧ rmc l = 0) := HE0.out rfl
  have m0 := LM4.c0
  have m1 := LM4.c1
  have m2 := LM4.c2
  have m3 := LM4.c3
  have m4 := LM4.c4
  have m5 := LM4.c5
  have r0 : World.cell? w4 ⟨w.heap.size, 0, none⟩ = _ := R4.cell 0 _ rfl
  have r1 : World.cell? w4 ⟨w.heap.size, 0 + 1, none⟩ = _ := R4.cell 1 _ rfl
  have r2 : World.cell? w4 ⟨w.heap.size, 0 + 2, none⟩ = _ := R4.cell 2 _ rfl
  have r3 : World.cell? w4 ⟨w.heap.size, 0 + 3, none⟩ = _ := R4.cell 3 _ rfl
  have r4 : World.cell? w4 ⟨w.heap.size, 0 + 4, none⟩ = _ := R4.cell 4 _ rfl
  have r5 : World.cell? w4 ⟨w.heap.size, 0 + 5, none⟩ = _ := R4.cell 5 _ rfl
  have fz := R4.f
  clear LM4 HE3 HE0
  go_wp2
  have A5 := R4.put (a := .int .i64 x.k) (b := .int .i64 x.u) (c := .int .i64 x.m) (d := .int .i64 x.f) (e := .string x.b) (f := .slice av nv cv)
  have b5 := put6_below (g := w.heap.size) (a := .int .i64 x.k) (b := .int .i64 x.u) (c := .int .i64 x.m) (d := .int .i64 x.f) (e := .string x.b) (f := .slice av nv cv) b4 (Nat.le_refl _)
  have HRW5 : Rows2 (put6 w4 w.heap.size (.int .i64 x.k) (.int .i64 x.u) (.int .i64 x.m) (.int .i64 x.f) (.string x.b) (.slice av nv cv)) w.heap.size (.slice av nv cv) x.ps := own_low (HRW4.out.kept (put6_grown _ _ _ _ _ _ _ _) (own_ne HRW4.out (by omega))) HB1.out
  change bodyPost _ _ _ _ _ (put6 w4 w.heap.size (.int .i64 x.k) (.int .i64 x.u) (.int .i64 x.m) (.int .i64 x.f) (.string x.b) (.slice av nv cv))
  generalize put6 _ _ _ _ _ _ _ _ = W5 at A5 b5 HRW5 ⊢
  have d0 : W5.cell? ⟨w.heap.size, 0, none⟩ = _ := A5.cell 0 _ rfl
  have d1 : W5.cell? ⟨w.heap.size, 0 + 1, none⟩ = _ := A5.cell 1 _ rfl
  have d2 : W5.cell? ⟨w.heap.size, 0 + 2, none⟩ = _ := A5.cell 2 _ rfl
  have d3 : W5.cell? ⟨w.heap.size, 0 + 3, none⟩ = _ := A5.cell 3 _ rfl
  have d4 : W5.cell? ⟨w.heap.size, 0 + 4, none⟩ = _ := A5.cell 4 _ rfl
  have d5 : W5.cell? ⟨w.heap.size, 0 + 5, none⟩ = _ := A5.cell 5 _ rfl
  exact bodyPost_ret (v := .tuple #[.agg #[.int .i64 x.k, .int .i64 x.u, .int .i64 x.m, .int .i64 x.f, .string x.b, .slice av nv cv], .int .i64 0]) (by simp [results, Tryz.results66, go_sem, d0, d1, d2, d3, d4, d5]) rfl ⟨⟨_, by rw [HEE.out.1, HEE.out.2]; rfl, by rw [HEE.out.1]; exact HRW5⟩, b5⟩
end Go.Proofs.YtncnbhekgkemfaaGreatDoor.rm
