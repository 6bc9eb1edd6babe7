/-
  The model of the readings of texts of the first form: the program's way and the specification's.
-/
import Derived.Test.YtadfdfmebdcfgaaGreatDoorRdd
namespace Go.Proofs.YtadfdfmebdcfgaaGreatDoor.rd
open Go.RowKit
open dt
set_option linter.unusedVariables false
def F19 : List UInt8 := [48, 48, 48, 48, 45, 48, 48, 45, 48, 48, 84, 48, 48, 58, 48, 48, 58, 48, 48]
def zx (z : List UInt8) : Option Int := if z = [90] then some 0 else zc z
theorem zx_z : zx [90] = some 0 := if_pos rfl
theorem zx_c {z : List UInt8} (h : z ≠ [90]) : zx z = zc z := if_neg h
def g (l : List UInt8) (i n : Nat) : List UInt8 := (l.drop i).take n
def rdI (l : List UInt8) : Value :=
  if 19 ≤ l.length ∧ hf (l.take 19) F19 = true ∧ (fi (l.drop 19)).2 = true then
    (match zx (fi (l.drop 19)).1 with
      | none => bad
      | some a => fin (num (g l 0 4)) (num (g l 5 2)) (num (g l 8 2)) (num (g l 11 2)) (num (g l 14 2)) (num (g l 17 2)) a)
  else bad
theorem rdI_short {l : List UInt8} (h : l.length < 19) : rdI l = bad := by unfold rdI; rw [if_neg (by rintro ⟨h1, _⟩; omega)]
theorem rdI_form {l : List UInt8} (h : hf (l.take 19) F19 = false) : rdI l = bad := by unfold rdI; rw [if_neg (by rintro ⟨_, h2, _⟩; rw [h] at h2; cases h2)]
theorem rdI_frac {l : List UInt8} (h : (fi (l.drop 19)).2 = false) : rdI l = bad := by unfold rdI; rw [if_neg (by rintro ⟨_, _, h2⟩; rw [h] at h2; cases h2)]
theorem rdI_zone {l : List UInt8} (h : zx (fi (l.drop 19)).1 = none) : rdI l = bad := by unfold rdI; rw [h]; split <;> rfl
theorem rdI_fin {l : List UInt8} {a : Int} (h1 : 19 ≤ l.length) (h2 : hf (l.take 19) F19 = true) (h3 : (fi (l.drop 19)).2 = true) (h : zx (fi (l.drop 19)).1 = some a) :
    rdI l = fin (num (g l 0 4)) (num (g l 5 2)) (num (g l 8 2)) (num (g l 11 2)) (num (g l 14 2)) (num (g l 17 2)) a := by
  unfold rdI
  rw [if_pos ⟨h1, h2, h3⟩, h]
theorem zx_bound {z : List UInt8} {a : Int} (h : zx z = some a) : -90000 ≤ a ∧ a ≤ 90000 := by
  unfold zx at h
  split at h
  · cases h; decide
  · exact zc_bound h
theorem uncons {n : Nat} {l : List UInt8} (h : n + 1 ≤ l.length) : ∃ a r, l = a :: r ∧ n ≤ r.length := by
  match l, h with
  | a :: r, h => exact ⟨a, r, rfl, by simpa using h⟩
/-- Nineteen and more. -/
theorem nineteen {l : List UInt8} (h : 19 ≤ l.length) : ∃ a0 a1 a2 a3 a4 a5 a6 a7 a8 a9 b0 b1 b2 b3 b4 b5 b6 b7 b8 r, l = a0 :: a1 :: a2 :: a3 :: a4 :: a5 :: a6 :: a7 :: a8 :: a9 :: b0 :: b1 :: b2 :: b3 :: b4 :: b5 :: b6 :: b7 :: b8 :: r := by
  obtain ⟨a0, l0, rfl, h0⟩ := uncons h
  obtain ⟨a1, l1, rfl, h1⟩ := uncons h0
  obtain ⟨a2, l2, rfl, h2⟩ := uncons h1
  obtain ⟨a3, l3, rfl, h3⟩ := uncons h2
  obtain ⟨a4, l4, rfl, h4⟩ := uncons h3
  obtain ⟨a5, l5, rfl, h5⟩ := uncons h4
  obtain ⟨a6, l6, rfl, h6⟩ := uncons h5
  obtain ⟨a7, l7, rfl, h7⟩ := uncons h6
  obtain ⟨a8, l8, rfl, h8⟩ := uncons h7
  obtain ⟨a9, l9, rfl, h9⟩ := uncons h8
  obtain ⟨b0, l10, rfl, h10⟩ := uncons h9
  obtain ⟨b1, l11, rfl, h11⟩ := uncons h10
  obtain ⟨b2, l12, rfl, h12⟩ := uncons h11
  obtain ⟨b3, l13, rfl, h13⟩ := uncons h12
  obtain ⟨b4, l14, rfl, h14⟩ := uncons h13
  obtain ⟨b5, l15, rfl, h15⟩ := uncons h14
  obtain ⟨b6, l16, rfl, h16⟩ := uncons h15
  obtain ⟨b7, l17, rfl, h17⟩ := uncons h16
  obtain ⟨b8, l18, rfl, h18⟩ := uncons h17
  exact ⟨a0, a1, a2, a3, a4, a5, a6, a7, a8, a9, b0, b1, b2, b3, b4, b5, b6, b7, b8, l18, rfl⟩
theorem dgs_four {a b c d : UInt8} : dgs [a, b, c, d] = (isD a && isD b && isD c && isD d) := by simp [dgs, Bool.and_assoc]
theorem parts {l : List UInt8} (h1 : 19 ≤ l.length) (h2 : hf (l.take 19) F19 = true) :
    dgs (g l 0 4) = true ∧ dgs (g l 5 2) = true ∧ dgs (g l 8 2) = true ∧ dgs (g l 11 2) = true ∧ dgs (g l 14 2) = true ∧ dgs (g l 17 2) = true ∧ l.getD 4 0 = 45 ∧ l.getD 7 0 = 45 ∧ l.getD 10 0 = 84 ∧ l.getD 13 0 = 58 ∧ l.getD 16 0 = 58 := by
  obtain ⟨a0, a1, a2, a3, a4, a5, a6, a7, a8, a9, b0, b1, b2, b3, b4, b5, b6, b7, b8, r, rfl⟩ := nineteen h1
  simp [hf, F19] at h2
  obtain ⟨i0, i1, i2, i3, i4, i5, i6, i7, i8, i9, j0, j1, j2, j3, j4, j5, j6, j7, j8⟩ := h2
  simp [g, dgs, i0, i1, i2, i3, i4, i5, i6, i7, i8, i9, j0, j1, j2, j3, j4, j5, j6, j7, j8]
theorem parts_back {l : List UInt8} (h1 : 19 ≤ l.length) (d1 : dgs (g l 0 4) = true) (d2 : dgs (g l 5 2) = true) (d3 : dgs (g l 8 2) = true) (d4 : dgs (g l 11 2) = true) (d5 : dgs (g l 14 2) = true) (d6 : dgs (g l 17 2) = true)
    (e1 : l.getD 4 0 = 45) (e2 : l.getD 7 0 = 45) (e3 : l.getD 10 0 = 84) (e4 : l.getD 13 0 = 58) (e5 : l.getD 16 0 = 58) : hf (l.take 19) F19 = true := by
  obtain ⟨a0, a1, a2, a3, a4, a5, a6, a7, a8, a9, b0, b1, b2, b3, b4, b5, b6, b7, b8, r, rfl⟩ := nineteen h1
  simp [g, dgs] at d1 d2 d3 d4 d5 d6 e1 e2 e3 e4 e5
  simp [hf, F19, d1, d2, d3, d4, d5, d6, e1, e2, e3, e4, e5]
/-- The specification's way. -/
def sepOk (l : List UInt8) : Prop := 20 ≤ l.length ∧ l.getD 4 0 = 45 ∧ l.getD 7 0 = 45 ∧ l.getD 10 0 = 84 ∧ l.getD 13 0 = 58 ∧ l.getD 16 0 = 58
theorem spec_sep {l : List UInt8} (h : ¬ sepOk l) : rdI l = bad := by
  by_cases h1 : 19 ≤ l.length
  · cases h2 : hf (l.take 19) F19
    · exact rdI_form h2
    · obtain ⟨_, _, _, _, _, _, e1, e2, e3, e4, e5⟩ := parts h1 h2
      have h3 : l.length = 19 := by
        rcases Nat.lt_or_ge l.length 20 with q | q
        · omega
        · exact absurd ⟨q, e1, e2, e3, e4, e5⟩ h
      apply rdI_zone
      rw [List.drop_eq_nil_of_le (by omega), fi_no (by rfl)]
      rfl
  · exact rdI_short (by omega)
theorem spec_frac {l : List UInt8} (h : (fi (l.drop 19)).2 = false) : rdI l = bad := rdI_frac h
theorem not_ok {y m d h i s : Int} (k : y < 0 ∨ m < 0 ∨ d < 0 ∨ h < 0 ∨ i < 0 ∨ s < 0) : ¬ Ok y m d h i s := by
  rintro ⟨h1, h2, h3, h4, h5, h6, h7, h8, h9, h10, h11, h12⟩
  omega
theorem spec_fin {l : List UInt8} {a : Int} (h : sepOk l) (h3 : (fi (l.drop 19)).2 = true) (hz : zx (fi (l.drop 19)).1 = some a) :
    rdI l = fin (nb (g l 0 4)) (nb (g l 5 2)) (nb (g l 8 2)) (nb (g l 11 2)) (nb (g l 14 2)) (nb (g l 17 2)) a := by
  obtain ⟨h0, e1, e2, e3, e4, e5⟩ := h
  by_cases d : dgs (g l 0 4) = true ∧ dgs (g l 5 2) = true ∧ dgs (g l 8 2) = true ∧ dgs (g l 11 2) = true ∧ dgs (g l 14 2) = true ∧ dgs (g l 17 2) = true
  · obtain ⟨d1, d2, d3, d4, d5, d6⟩ := d
    rw [rdI_fin (by omega) (parts_back (by omega) d1 d2 d3 d4 d5 d6 e1 e2 e3 e4 e5) h3 hz, nb_yes d1, nb_yes d2, nb_yes d3, nb_yes d4, nb_yes d5, nb_yes d6]
  · have hb : hf (l.take 19) F19 = false := by
      cases q : hf (l.take 19) F19
      · rfl
      · obtain ⟨d1, d2, d3, d4, d5, d6, _⟩ := parts (by omega) q
        exact absurd ⟨d1, d2, d3, d4, d5, d6⟩ d
    rw [rdI_form hb, fin_no]
    apply not_ok
    cases q1 : dgs (g l 0 4)
    · rw [nb_no q1]; omega
    cases q2 : dgs (g l 5 2)
    · rw [nb_no q2]; omega
    cases q3 : dgs (g l 8 2)
    · rw [nb_no q3]; omega
    cases q4 : dgs (g l 11 2)
    · rw [nb_no q4]; omega
    cases q5 : dgs (g l 14 2)
    · rw [nb_no q5]; omega
    cases q6 : dgs (g l 17 2)
    · rw [nb_no q6]; omega
    exact absurd ⟨q1, q2, q3, q4, q5, q6⟩ d
theorem spec_zone {l : List UInt8} (h : zx (fi (l.drop 19)).1 = none) : rdI l = bad := rdI_zone h
/-- A whole answer, with the code of a text that is too long. -/
def r3 (l : List UInt8) : Value := if 65536 < l.length then .tuple #[.int .i64 0, .int .i64 2] else rdI l
theorem r3_long {l : List UInt8} (h : 65536 < l.length) : r3 l = .tuple #[.int .i64 0, .int .i64 2] := if_pos h
theorem r3_else {l : List UInt8} (h : ¬ 65536 < l.length) : r3 l = rdI l := if_neg h
theorem rdI_two (l : List UInt8) : ∃ x c : Int, rdI l = .tuple #[.int .i64 x, .int .i64 c] := by
  unfold rdI
  split
  · split
    · exact ⟨_, _, rfl⟩
    · exact fin_form _ _ _ _ _ _ _
  · exact ⟨_, _, rfl⟩
theorem r3_two (l : List UInt8) : ∃ x c : Int, r3 l = .tuple #[.int .i64 x, .int .i64 c] := by
  unfold r3
  split
  · exact ⟨_, _, rfl⟩
  · exact rdI_two l
end Go.Proofs.YtadfdfmebdcfgaaGreatDoor.rd
