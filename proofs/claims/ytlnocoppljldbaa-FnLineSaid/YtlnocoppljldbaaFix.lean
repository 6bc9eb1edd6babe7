/-
  Plain facts on repairing a text: the runes that are read, written again, are the bytes that were read, and the stand-in where none begins.
-/
import Derived.Test.YtlnocoppljldbaaPos
import Derived.Laws.Cover4
namespace Go.Proofs.Ytlnocoppljldbaa.ut
open Go.RowKit
set_option linter.unusedVariables false

theorem F_wide1 (n k b0 b1 b2 b3 : Nat) : 1 ≤ (decF n k b0 b1 b2 b3).2 := by
  unfold decF
  repeat' split
  all_goals simp
theorem pos_up (s : ByteArray) (n : Nat) : pos s n < pos s (n + 1) := by
  have : 1 ≤ (Utf8.decode s (pos s n)).2 := by rw [dec_eq]; exact F_wide1 _ _ _ _ _ _
  simp only [pos]
  omega
theorem pos_lt (s : ByteArray) {a b : Nat} (h : a < b) : pos s a < pos s b := by
  have h1 := pos_mono s (a + 1) (b - (a + 1))
  rw [show a + 1 + (b - (a + 1)) = b from by omega] at h1
  have := pos_up s a
  omega
theorem pos_inj (s : ByteArray) {a b : Nat} (h : pos s a = pos s b) : a = b := by
  rcases Nat.lt_trichotomy a b with e | e | e
  · have := pos_lt s e; omega
  · exact e
  · have := pos_lt s e; omega
theorem pos_ge (s : ByteArray) (n : Nat) : n ≤ pos s n := by
  induction n with
  | zero => exact Nat.zero_le _
  | succ n ih => have := pos_up s n; omega

/-- The runes of the first n steps. -/
def runesL (s : ByteArray) : Nat → List Int
  | 0 => []
  | n + 1 => runesL s n ++ [((Utf8.decode s (pos s n)).1 : Int)]
theorem runesL_len (s : ByteArray) (n : Nat) : (runesL s n).length = n := by
  induction n with
  | zero => rfl
  | succ n ih => simp [runesL, ih]
/-- What a repaired text has for one step. -/
def piece (s : ByteArray) (k : Nat) : List UInt8 := if Utf8.decode s k = (65533, 1) then [239, 191, 189] else (s.extract k (k + (Utf8.decode s k).2)).data.toList
def fixL (s : ByteArray) : Nat → List UInt8
  | 0 => []
  | n + 1 => fixL s n ++ piece s (pos s n)
theorem piece_bad {s : ByteArray} {k : Nat} (h : badAt s k) : piece s k = [239, 191, 189] := by rw [badAt] at h; unfold piece; rw [if_pos h]
theorem piece_good {s : ByteArray} {k : Nat} (h : ¬ badAt s k) : piece s k = (s.extract k (k + (Utf8.decode s k).2)).data.toList := by rw [badAt] at h; unfold piece; rw [if_neg h]

theorem piece_len (s : ByteArray) (k : Nat) : (piece s k).length ≤ 3 * (Utf8.decode s k).2 := by
  have : 1 ≤ (Utf8.decode s k).2 := by rw [dec_eq]; exact F_wide1 _ _ _ _ _ _
  by_cases h : badAt s k
  · rw [piece_bad h]; simp; omega
  · rw [piece_good h, Lib.extract_data, List.length_take]; omega
theorem fix_len (s : ByteArray) (n : Nat) : (fixL s n).length ≤ 3 * pos s n := by
  induction n with
  | zero => simp [fixL]
  | succ n ih =>
    have := piece_len s (pos s n)
    simp only [fixL, pos, List.length_append]
    omega
theorem valid_nat (c : Nat) : Utf8.valid (c : Int) = true ↔ c < 55296 ∨ (57344 ≤ c ∧ c ≤ 1114111) := by simp [Utf8.valid]; omega
theorem enc1 {c : Nat} (h : c < 128) : (Utf8.encode (c : Int)).data.toList = [UInt8.ofNat c] := by
  have hv : Utf8.valid (c : Int) = true := (valid_nat c).2 (by omega)
  simp only [Utf8.encode, hv, if_true, Int.toNat_natCast]
  rw [if_pos h]
theorem enc2 {c : Nat} (h : 128 ≤ c) (h' : c < 2048) : (Utf8.encode (c : Int)).data.toList = [UInt8.ofNat (192 + c / 64), UInt8.ofNat (128 + c % 64)] := by
  have hv : Utf8.valid (c : Int) = true := (valid_nat c).2 (by omega)
  simp only [Utf8.encode, hv, if_true, Int.toNat_natCast]
  rw [if_neg (by omega), if_pos h']
theorem enc3 {c : Nat} (h : 2048 ≤ c) (h' : c < 65536) (hv : Utf8.valid (c : Int) = true) : (Utf8.encode (c : Int)).data.toList = [UInt8.ofNat (224 + c / 4096), UInt8.ofNat (128 + c / 64 % 64), UInt8.ofNat (128 + c % 64)] := by
  simp only [Utf8.encode, hv, if_true, Int.toNat_natCast]
  rw [if_neg (by omega), if_neg (by omega), if_pos h']
theorem enc4 {c : Nat} (h : 65536 ≤ c) (hv : Utf8.valid (c : Int) = true) : (Utf8.encode (c : Int)).data.toList = [UInt8.ofNat (240 + c / 262144), UInt8.ofNat (128 + c / 4096 % 64), UInt8.ofNat (128 + c / 64 % 64), UInt8.ofNat (128 + c % 64)] := by
  simp only [Utf8.encode, hv, if_true, Int.toNat_natCast]
  rw [if_neg (by omega), if_neg (by omega), if_neg (by omega)]
theorem of_nat {b : UInt8} {x : Nat} (h : x = b.toNat) : UInt8.ofNat x = b := by rw [h]; exact UInt8.ofNat_toNat

theorem ext1 (s : ByteArray) (k : Nat) (h : k < s.size) : (s.extract k (k + 1)).data.toList = [s.get! k] := by
  rw [Lib.extract_data, get_byte s k h]
  have hl : s.data.toList.length = s.size := (Lib.size_eq s).symm
  rw [List.drop_eq_getElem_cons (by omega), show k + 1 - k = 1 from by omega]
  rfl
theorem ext2 (s : ByteArray) (k : Nat) (h : k + 1 < s.size) : (s.extract k (k + 2)).data.toList = [s.get! k, s.get! (k + 1)] := by
  rw [Lib.extract_data, get_byte s k (by omega), get_byte s (k + 1) h]
  have hl : s.data.toList.length = s.size := (Lib.size_eq s).symm
  rw [List.drop_eq_getElem_cons (by omega), List.drop_eq_getElem_cons (by omega), show k + 2 - k = 2 from by omega]
  rfl
theorem ext3 (s : ByteArray) (k : Nat) (h : k + 2 < s.size) : (s.extract k (k + 3)).data.toList = [s.get! k, s.get! (k + 1), s.get! (k + 2)] := by
  rw [Lib.extract_data, get_byte s k (by omega), get_byte s (k + 1) (by omega), get_byte s (k + 2) h]
  have hl : s.data.toList.length = s.size := (Lib.size_eq s).symm
  rw [List.drop_eq_getElem_cons (by omega), List.drop_eq_getElem_cons (by omega), List.drop_eq_getElem_cons (by omega), show k + 3 - k = 3 from by omega]
  rfl
theorem ext4 (s : ByteArray) (k : Nat) (h : k + 3 < s.size) : (s.extract k (k + 4)).data.toList = [s.get! k, s.get! (k + 1), s.get! (k + 2), s.get! (k + 3)] := by
  rw [Lib.extract_data, get_byte s k (by omega), get_byte s (k + 1) (by omega), get_byte s (k + 2) (by omega), get_byte s (k + 3) h]
  have hl : s.data.toList.length = s.size := (Lib.size_eq s).symm
  rw [List.drop_eq_getElem_cons (by omega), List.drop_eq_getElem_cons (by omega), List.drop_eq_getElem_cons (by omega), List.drop_eq_getElem_cons (by omega), show k + 4 - k = 4 from by omega]
  rfl

theorem enc_piece (s : ByteArray) (k : Nat) (hk : k < s.size) : (Utf8.encode ((Utf8.decode s k).1 : Int)).data.toList = piece s k := by
  have u0 := UInt8.toNat_lt (s.get! k)
  have u1 := UInt8.toNat_lt (s.get! (k + 1))
  have u2 := UInt8.toNat_lt (s.get! (k + 2))
  have u3 := UInt8.toNat_lt (s.get! (k + 3))
  by_cases hb : badAt s k
  · rw [piece_bad hb, bad_rune hb]
    rfl
  rw [piece_good hb]
  rw [badAt] at hb
  have e := dec_eq s k
  revert e hb
  generalize Utf8.decode s k = d
  unfold decF
  split
  · rename_i g
    rintro hb rfl
    rw [enc1 g, ext1 s k hk, of_nat rfl]
  split
  · rename_i g0 g; simp at g
    split
    · rename_i g2
      rintro hb rfl
      rw [enc2 g2 (by omega), ext2 s k (by omega), of_nat (b := s.get! k) (by omega), of_nat (b := s.get! (k + 1)) (by omega)]
    · rintro hb rfl; exact absurd rfl hb
  split
  · rename_i g0 g1 g; simp at g
    split
    · rename_i g2
      simp only [Bool.and_eq_true, decide_eq_true_eq] at g2
      rintro hb rfl
      rw [enc3 g2.1 (by omega) g2.2, ext3 s k (by omega), of_nat (b := s.get! k) (by omega), of_nat (b := s.get! (k + 1)) (by omega), of_nat (b := s.get! (k + 2)) (by omega)]
    · rintro hb rfl; exact absurd rfl hb
  split
  · rename_i g0 g1 g3 g; simp at g
    split
    · rename_i g2
      simp only [Bool.and_eq_true, decide_eq_true_eq] at g2
      rintro hb rfl
      rw [enc4 g2.1 g2.2, ext4 s k (by omega), of_nat (b := s.get! k) (by omega), of_nat (b := s.get! (k + 1)) (by omega), of_nat (b := s.get! (k + 2)) (by omega), of_nat (b := s.get! (k + 3)) (by omega)]
    · rintro hb rfl; exact absurd rfl hb
  · rintro hb rfl; exact absurd rfl hb

theorem runesBytes_snoc (l : List Int) (r : Int) : runesBytes (l ++ [r]) = runesBytes l ++ Utf8.encode r := by simp [runesBytes]
theorem bytes_ext {a b : ByteArray} (h : a.data.toList = b.data.toList) : a = b := by
  rw [← Lib.mk_data a, ← Lib.mk_data b, h]
theorem runes_fix (s : ByteArray) (n : Nat) (h : ∀ m, m < n → pos s m < s.size) : (runesBytes (runesL s n)).data.toList = fixL s n := by
  induction n with
  | zero => rfl
  | succ n ih =>
    rw [runesL, runesBytes_snoc, fixL, ← enc_piece s (pos s n) (h n (by omega)), ← ih (fun m hm => h m (by omega))]
    rw [ByteArray.data_append, Array.toList_append]
end Go.Proofs.Ytlnocoppljldbaa.ut
