/-
  Plain facts on repairing a text: the runes that are read, written again, are the bytes that were read, and the stand-in where none begins.
  The contract of impl.RuneSize: how many bytes a rune has, 0 of no rune.
  Contracts of both TextOfRunes functions: the bytes of the runes of a list, and the code otherwise.
  Plain facts on a text that is the bytes of some runes: it is right, its places are the sums of their sizes, and each place reads as its rune.
  The contract of impl.ValidText: whether a text is right and of at most 65536 bytes.
-/
import Derived.Test.YtinnnfkhiigjpaaGreatPkba
import Derived.Laws.Cover4
import Derived.Test.YtinnnfkhiigjpaaGreatPkbb
import Derived.Test.YtinnnfkhiigjpaaGreatPkaa
import Derived.Test.YtinnnfkhiigjpaaGreatPkbd

namespace Go.Proofs.YtinnnfkhiigjpaaGreat.ut
open Go.RowKit
set_option linter.unusedVariables false

theorem F_wide1 (n k b0 b1 b2 b3 : Nat) : 1 ≤ (decF n k b0 b1 b2 b3).2 := by
  unfold decF
  repeat' split
  all_goals simp
theorem pos_up (s : ByteArray) (n : Nat) : pos s n < pos s (n + 1) := by
  have : 1 ≤ (Utf8.decode s (pos s n)).2 := by rw [dec_eq]; exact F_wide1 _ _ _ _ _ _
  simp only [pos]
  omega
theorem pos_lt (s : ByteArray) {a b : Nat} (h : a < b) : pos s a < pos s b := by
  have h1 := pos_mono s (a + 1) (b - (a + 1))
  rw [show a + 1 + (b - (a + 1)) = b from by omega] at h1
  have := pos_up s a
  omega
theorem pos_ge (s : ByteArray) (n : Nat) : n ≤ pos s n := by
  induction n with
  | zero => exact Nat.zero_le _
  | succ n ih => have := pos_up s n; omega

/-- The runes of the first n steps. -/
def runesL (s : ByteArray) : Nat → List Int
  | 0 => []
  | n + 1 => runesL s n ++ [((Utf8.decode s (pos s n)).1 : Int)]
/-- What a repaired text has for one step. -/
def piece (s : ByteArray) (k : Nat) : List UInt8 := if Utf8.decode s k = (65533, 1) then [239, 191, 189] else (s.extract k (k + (Utf8.decode s k).2)).data.toList
def fixL (s : ByteArray) : Nat → List UInt8
  | 0 => []
  | n + 1 => fixL s n ++ piece s (pos s n)
theorem piece_bad {s : ByteArray} {k : Nat} (h : badAt s k) : piece s k = [239, 191, 189] := by rw [badAt] at h; unfold piece; rw [if_pos h]
theorem piece_good {s : ByteArray} {k : Nat} (h : ¬ badAt s k) : piece s k = (s.extract k (k + (Utf8.decode s k).2)).data.toList := by rw [badAt] at h; unfold piece; rw [if_neg h]

theorem valid_nat (c : Nat) : Utf8.valid (c : Int) = true ↔ c < 55296 ∨ (57344 ≤ c ∧ c ≤ 1114111) := by simp [Utf8.valid]; omega
theorem enc1 {c : Nat} (h : c < 128) : (Utf8.encode (c : Int)).data.toList = [UInt8.ofNat c] := by
  have hv : Utf8.valid (c : Int) = true := (valid_nat c).2 (by omega)
  simp only [Utf8.encode, hv, if_true, Int.toNat_natCast]
  rw [if_pos h]
theorem enc2 {c : Nat} (h : 128 ≤ c) (h' : c < 2048) : (Utf8.encode (c : Int)).data.toList = [UInt8.ofNat (192 + c / 64), UInt8.ofNat (128 + c % 64)] := by
  have hv : Utf8.valid (c : Int) = true := (valid_nat c).2 (by omega)
  simp only [Utf8.encode, hv, if_true, Int.toNat_natCast]
  rw [if_neg (by omega), if_pos h']
theorem enc3 {c : Nat} (h : 2048 ≤ c) (h' : c < 65536) (hv : Utf8.valid (c : Int) = true) : (Utf8.encode (c : Int)).data.toList = [UInt8.ofNat (224 + c / 4096), UInt8.ofNat (128 + c / 64 % 64), UInt8.ofNat (128 + c % 64)] := by
  simp only [Utf8.encode, hv, if_true, Int.toNat_natCast]
  rw [if_neg (by omega), if_neg (by omega), if_pos h']
theorem enc4 {c : Nat} (h : 65536 ≤ c) (hv : Utf8.valid (c : Int) = true) : (Utf8.encode (c : Int)).data.toList = [UInt8.ofNat (240 + c / 262144), UInt8.ofNat (128 + c / 4096 % 64), UInt8.ofNat (128 + c / 64 % 64), UInt8.ofNat (128 + c % 64)] := by
  simp only [Utf8.encode, hv, if_true, Int.toNat_natCast]
  rw [if_neg (by omega), if_neg (by omega), if_neg (by omega)]
theorem of_nat {b : UInt8} {x : Nat} (h : x = b.toNat) : UInt8.ofNat x = b := by rw [h]; exact UInt8.ofNat_toNat

theorem ext1 (s : ByteArray) (k : Nat) (h : k < s.size) : (s.extract k (k + 1)).data.toList = [s.get! k] := by
  rw [Lib.extract_data, get_byte s k h]
  have hl : s.data.toList.length = s.size := (Lib.size_eq s).symm
  rw [List.drop_eq_getElem_cons (by omega), show k + 1 - k = 1 from by omega]
  rfl
theorem ext2 (s : ByteArray) (k : Nat) (h : k + 1 < s.size) : (s.extract k (k + 2)).data.toList = [s.get! k, s.get! (k + 1)] := by
  rw [Lib.extract_data, get_byte s k (by omega), get_byte s (k + 1) h]
  have hl : s.data.toList.length = s.size := (Lib.size_eq s).symm
  rw [List.drop_eq_getElem_cons (by omega), List.drop_eq_getElem_cons (by omega), show k + 2 - k = 2 from by omega]
  rfl
theorem ext3 (s : ByteArray) (k : Nat) (h : k + 2 < s.size) : (s.extract k (k + 3)).data.toList = [s.get! k, s.get! (k + 1), s.get! (k + 2)] := by
  rw [Lib.extract_data, get_byte s k (by omega), get_byte s (k + 1) (by omega), get_byte s (k + 2) h]
  have hl : s.data.toList.length = s.size := (Lib.size_eq s).symm
  rw [List.drop_eq_getElem_cons (by omega), List.drop_eq_getElem_cons (by omega), List.drop_eq_getElem_cons (by omega), show k + 3 - k = 3 from by omega]
  rfl
theorem ext4 (s : ByteArray) (k : Nat) (h : k + 3 < s.size) : (s.extract k (k + 4)).data.toList = [s.get! k, s.get! (k + 1), s.get! (k + 2), s.get! (k + 3)] := by
  rw [Lib.extract_data, get_byte s k (by omega), get_byte s (k + 1) (by omega), get_byte s (k + 2) (by omega), get_byte s (k + 3) h]
  have hl : s.data.toList.length = s.size := (Lib.size_eq s).symm
  rw [List.drop_eq_getElem_cons (by omega), List.drop_eq_getElem_cons (by omega), List.drop_eq_getElem_cons (by omega), List.drop_eq_getElem_cons (by omega), show k + 4 - k = 4 from by omega]
  rfl

theorem enc_piece (s : ByteArray) (k : Nat) (hk : k < s.size) : (Utf8.encode ((Utf8.decode s k).1 : Int)).data.toList = piece s k := by
  have u0 := UInt8.toNat_lt (s.get! k)
  have u1 := UInt8.toNat_lt (s.get! (k + 1))
  have u2 := UInt8.toNat_lt (s.get! (k + 2))
  have u3 := UInt8.toNat_lt (s.get! (k + 3))
  by_cases hb : badAt s k
  · rw [piece_bad hb, bad_rune hb]
    rfl
  rw [piece_good hb]
  rw [badAt] at hb
  have e := dec_eq s k
  revert e hb
  generalize Utf8.decode s k = d
  unfold decF
  split
  · rename_i g
    rintro hb rfl
    rw [enc1 g, ext1 s k hk, of_nat rfl]
  split
  · rename_i g0 g; simp at g
    split
    · rename_i g2
      rintro hb rfl
      rw [enc2 g2 (by omega), ext2 s k (by omega), of_nat (b := s.get! k) (by omega), of_nat (b := s.get! (k + 1)) (by omega)]
    · rintro hb rfl; exact absurd rfl hb
  split
  · rename_i g0 g1 g; simp at g
    split
    · rename_i g2
      simp only [Bool.and_eq_true, decide_eq_true_eq] at g2
      rintro hb rfl
      rw [enc3 g2.1 (by omega) g2.2, ext3 s k (by omega), of_nat (b := s.get! k) (by omega), of_nat (b := s.get! (k + 1)) (by omega), of_nat (b := s.get! (k + 2)) (by omega)]
    · rintro hb rfl; exact absurd rfl hb
  split
  · rename_i g0 g1 g3 g; simp at g
    split
    · rename_i g2
      simp only [Bool.and_eq_true, decide_eq_true_eq] at g2
      rintro hb rfl
      rw [enc4 g2.1 g2.2, ext4 s k (by omega), of_nat (b := s.get! k) (by omega), of_nat (b := s.get! (k + 1)) (by omega), of_nat (b := s.get! (k + 2)) (by omega), of_nat (b := s.get! (k + 3)) (by omega)]
    · rintro hb rfl; exact absurd rfl hb
  · rintro hb rfl; exact absurd rfl hb

theorem runesBytes_snoc (l : List Int) (r : Int) : runesBytes (l ++ [r]) = runesBytes l ++ Utf8.encode r := by simp [runesBytes]
theorem bytes_ext {a b : ByteArray} (h : a.data.toList = b.data.toList) : a = b := by
  rw [← Lib.mk_data a, ← Lib.mk_data b, h]
theorem runes_fix (s : ByteArray) (n : Nat) (h : ∀ m, m < n → pos s m < s.size) : (runesBytes (runesL s n)).data.toList = fixL s n := by
  induction n with
  | zero => rfl
  | succ n ih =>
    rw [runesL, runesBytes_snoc, fixL, ← enc_piece s (pos s n) (h n (by omega)), ← ih (fun m hm => h m (by omega))]
    rw [ByteArray.data_append, Array.toList_append]
end Go.Proofs.YtinnnfkhiigjpaaGreat.ut

namespace Go.Proofs.YtinnnfkhiigjpaaGreat.ut
open Go.RowKit
set_option linter.unusedVariables false

end Go.Proofs.YtinnnfkhiigjpaaGreat.ut

namespace Go.Proofs.YtinnnfkhiigjpaaGreat.ut
open Go.RowKit
set_option linter.unusedVariables false

/-- A rune's bytes as cells. -/
def cellsOf (l : List UInt8) : List Value := l.map fun b => Value.int .u8 (b.toNat : Int)
def encB (r : Int) : List UInt8 := (Utf8.encode r).data.toList
theorem sc_valid {c : Nat} (h : scB (c : Int) = true) : Utf8.valid (c : Int) = true := by
  rw [valid_nat]
  simp [scB, inB] at h
  omega

theorem nat_of {x : Nat} (h : x < 256) : ((UInt8.ofNat x).toNat : Int) = (x : Int) := by
  rw [UInt8.toNat_ofNat']
  omega
theorem cells3 {c : Nat} (hv : scB (c : Int) = true) (h : 2048 ≤ c) (h' : c < 65536) : (encB c).length = 3 ∧ cellsOf (encB c) = [.int .u8 (224 + (c : Int) / 4096), .int .u8 (128 + (c : Int) / 64 % 64), .int .u8 (128 + (c : Int) % 64)] := by
  rw [encB, enc3 h h' (sc_valid hv)]
  refine ⟨rfl, ?_⟩
  simp only [cellsOf, List.map_cons, List.map_nil]
  rw [nat_of (by omega), nat_of (by omega), nat_of (by omega), show ((224 + c / 4096 : Nat) : Int) = 224 + (c : Int) / 4096 from by omega, show ((128 + c / 64 % 64 : Nat) : Int) = 128 + (c : Int) / 64 % 64 from by omega, show ((128 + c % 64 : Nat) : Int) = 128 + (c : Int) % 64 from by omega]

theorem enc_len (r : Int) : (encB r).length ≤ 4 := by
  have := encode_size_le r
  rw [Lib.size_eq] at this
  exact this
theorem flat_runes (zs : List Int) : runesBytes zs = ⟨(zs.flatMap encB).toArray⟩ := by
  refine bytes_ext ?_
  have key : ∀ (l : List Int) (b : ByteArray), (l.foldl (fun r n => r ++ Utf8.encode n) b).data.toList = b.data.toList ++ l.flatMap encB := by
    intro l
    induction l with
    | nil => intro b; simp
    | cons a l ih =>
      intro b
      rw [List.foldl_cons, ih, ByteArray.data_append, Array.toList_append, List.flatMap_cons, List.append_assoc]
      rfl
  rw [runesBytes, key]
  rfl
end Go.Proofs.YtinnnfkhiigjpaaGreat.ut

namespace Go.Proofs.YtinnnfkhiigjpaaGreat.ut
open Go.RowKit
set_option linter.unusedVariables false

def mk (l : List UInt8) : ByteArray := ⟨l.toArray⟩
theorem mk_size (l : List UInt8) : (mk l).size = l.length := by rw [Lib.size_eq]; rfl
theorem mk_list (l : List UInt8) : (mk l).data.toList = l := rfl
theorem get_list (l : List UInt8) (i : Nat) (h : i < l.length) : (mk l).get! i = l[i] := by
  rw [get_byte (mk l) i (by rw [mk_size]; exact h)]
  rfl

theorem enc_list {c : Nat} (hv : scB (c : Int) = true) (hm : c ≤ 1114111) :
    (c < 128 ∧ encB c = [UInt8.ofNat c]) ∨ (128 ≤ c ∧ c < 2048 ∧ encB c = [UInt8.ofNat (192 + c / 64), UInt8.ofNat (128 + c % 64)]) ∨
    (2048 ≤ c ∧ c < 65536 ∧ encB c = [UInt8.ofNat (224 + c / 4096), UInt8.ofNat (128 + c / 64 % 64), UInt8.ofNat (128 + c % 64)]) ∨
    (65536 ≤ c ∧ encB c = [UInt8.ofNat (240 + c / 262144), UInt8.ofNat (128 + c / 4096 % 64), UInt8.ofNat (128 + c / 64 % 64), UInt8.ofNat (128 + c % 64)]) := by
  by_cases h1 : c < 128
  · exact .inl ⟨h1, by rw [encB, enc1 h1]⟩
  by_cases h2 : c < 2048
  · exact .inr (.inl ⟨by omega, h2, by rw [encB, enc2 (by omega) h2]⟩)
  by_cases h3 : c < 65536
  · exact .inr (.inr (.inl ⟨by omega, h3, by rw [encB, enc3 (by omega) h3 (sc_valid hv)]⟩))
  · exact .inr (.inr (.inr ⟨by omega, by rw [encB, enc4 (by omega) (sc_valid hv)]⟩))
theorem nat_byte {x : Nat} (h : x < 256) : (UInt8.ofNat x).toNat = x := by rw [UInt8.toNat_ofNat']; omega

theorem dec_at (pre post : List UInt8) {c : Nat} (hv : scB (c : Int) = true) : Utf8.decode (mk (pre ++ (encB c ++ post))) pre.length = (c, (encB c).length) := by
  have hm : c ≤ 1114111 ∧ (c < 55296 ∨ 57344 ≤ c) := by simp [scB, inB] at hv; omega
  have hget : ∀ (e : List UInt8) (i : Nat) (hi : i < e.length), (mk (pre ++ (e ++ post))).get! (pre.length + i) = e[i] := by
    intro e i hi
    rw [get_list _ _ (by simp; omega)]
    simp [List.getElem_append_right, List.getElem_append_left, hi]
  have hsz : ∀ e : List UInt8, (mk (pre ++ (e ++ post))).size = pre.length + e.length + post.length := by
    intro e; rw [mk_size]; simp; omega
  rcases enc_list hv hm.1 with ⟨h, e⟩ | ⟨h, h', e⟩ | ⟨h, h', e⟩ | ⟨h, e⟩
  · rw [e, dec_eq]
    have g0 := hget [UInt8.ofNat c] 0 (by simp)
    simp only [Nat.add_zero] at g0
    rw [g0]
    simp only [List.getElem_cons_zero]
    rw [nat_byte (by omega), F1 h]
    rfl
  · rw [e, dec_eq, hsz]
    have g0 := hget [UInt8.ofNat (192 + c / 64), UInt8.ofNat (128 + c % 64)] 0 (by simp)
    have g1 := hget [UInt8.ofNat (192 + c / 64), UInt8.ofNat (128 + c % 64)] 1 (by simp)
    simp only [Nat.add_zero] at g0
    rw [g0, g1]
    simp only [List.getElem_cons_zero, List.getElem_cons_succ]
    rw [nat_byte (by omega), nat_byte (by omega), F2 (by omega) (by omega) (by simp; omega) (by omega) (by omega)]
    refine Prod.ext ?_ rfl
    show _ = c
    omega
  · rw [e, dec_eq, hsz]
    have g0 := hget [UInt8.ofNat (224 + c / 4096), UInt8.ofNat (128 + c / 64 % 64), UInt8.ofNat (128 + c % 64)] 0 (by simp)
    have g1 := hget [UInt8.ofNat (224 + c / 4096), UInt8.ofNat (128 + c / 64 % 64), UInt8.ofNat (128 + c % 64)] 1 (by simp)
    have g2 := hget [UInt8.ofNat (224 + c / 4096), UInt8.ofNat (128 + c / 64 % 64), UInt8.ofNat (128 + c % 64)] 2 (by simp)
    simp only [Nat.add_zero] at g0
    rw [g0, g1, g2]
    simp only [List.getElem_cons_zero, List.getElem_cons_succ]
    rw [nat_byte (by omega), nat_byte (by omega), nat_byte (by omega), F3 (by omega) (by omega) (by simp; omega) (by omega) (by omega) (by omega) (by omega), if_pos (by omega)]
    refine Prod.ext ?_ rfl
    show _ = c
    omega
  · rw [e, dec_eq, hsz]
    have g0 := hget [UInt8.ofNat (240 + c / 262144), UInt8.ofNat (128 + c / 4096 % 64), UInt8.ofNat (128 + c / 64 % 64), UInt8.ofNat (128 + c % 64)] 0 (by simp)
    have g1 := hget [UInt8.ofNat (240 + c / 262144), UInt8.ofNat (128 + c / 4096 % 64), UInt8.ofNat (128 + c / 64 % 64), UInt8.ofNat (128 + c % 64)] 1 (by simp)
    have g2 := hget [UInt8.ofNat (240 + c / 262144), UInt8.ofNat (128 + c / 4096 % 64), UInt8.ofNat (128 + c / 64 % 64), UInt8.ofNat (128 + c % 64)] 2 (by simp)
    have g3 := hget [UInt8.ofNat (240 + c / 262144), UInt8.ofNat (128 + c / 4096 % 64), UInt8.ofNat (128 + c / 64 % 64), UInt8.ofNat (128 + c % 64)] 3 (by simp)
    simp only [Nat.add_zero] at g0
    rw [g0, g1, g2, g3]
    simp only [List.getElem_cons_zero, List.getElem_cons_succ]
    rw [nat_byte (by omega), nat_byte (by omega), nat_byte (by omega), nat_byte (by omega), F4 (by omega) (by omega) (by simp; omega) (by omega) (by omega) (by omega) (by omega) (by omega) (by omega), if_pos (by omega)]
    refine Prod.ext ?_ rfl
    show _ = c
    omega

/-- All of a list are runes. -/
def Runes (zs : List Int) : Prop := ∀ r ∈ zs, scB r = true
theorem dec_flat (zs : List Int) (hz : Runes zs) (j : Nat) (hj : j < zs.length) :
    Utf8.decode (mk (zs.flatMap encB)) ((zs.take j).flatMap encB).length = (zs[j].toNat, (encB zs[j]).length) := by
  have h1 : zs = zs.take j ++ (zs[j] :: zs.drop (j + 1)) := by
    rw [List.getElem_cons_drop, List.take_append_drop]
  have hsc : scB zs[j] = true := hz _ (List.getElem_mem hj)
  obtain ⟨c, hc⟩ : ∃ c : Nat, zs[j] = (c : Int) := ⟨zs[j].toNat, by simp [scB, inB] at hsc; omega⟩
  rw [hc] at hsc h1 ⊢
  have h2 : zs.flatMap encB = (zs.take j).flatMap encB ++ (encB (c : Int) ++ (zs.drop (j + 1)).flatMap encB) := by
    conv => lhs; rw [h1]
    rw [List.flatMap_append, List.flatMap_cons]
  rw [h2, dec_at _ _ hsc]
  rfl
theorem pos_flat (zs : List Int) (hz : Runes zs) (j : Nat) (hj : j ≤ zs.length) : pos (mk (zs.flatMap encB)) j = ((zs.take j).flatMap encB).length := by
  induction j with
  | zero => rfl
  | succ j ih =>
    have h1 := ih (by omega)
    rw [pos, h1, dec_flat zs hz j (by omega), List.take_succ_eq_append_getElem (by omega), List.flatMap_append, List.length_append, List.flatMap_cons, List.flatMap_nil, List.append_nil]
theorem pos_flat_end (zs : List Int) (hz : Runes zs) : pos (mk (zs.flatMap encB)) zs.length = (mk (zs.flatMap encB)).size := by
  rw [pos_flat zs hz zs.length (Nat.le_refl _), List.take_length, mk_size]
theorem right_flat (zs : List Int) (hz : Runes zs) : Right (mk (zs.flatMap encB)) := by
  intro n hn hb
  by_cases h : n < zs.length
  · rw [pos_flat zs hz n (by omega), badAt, dec_flat zs hz n h] at hb
    have hsc : scB zs[n] = true := hz _ (List.getElem_mem h)
    obtain ⟨c, hc⟩ : ∃ c : Nat, zs[n] = (c : Int) := ⟨zs[n].toNat, by simp [scB, inB] at hsc; omega⟩
    rw [hc] at hb hsc
    simp only [Prod.mk.injEq, Int.toNat_natCast] at hb
    rcases enc_list hsc (by simp [scB, inB] at hsc; omega) with ⟨_, e⟩ | ⟨_, _, e⟩ | ⟨_, _, e⟩ | ⟨_, e⟩ <;> rw [e] at hb <;> simp at hb <;> omega
  · have := pos_mono (mk (zs.flatMap encB)) zs.length (n - zs.length)
    rw [show zs.length + (n - zs.length) = n from by omega, pos_flat_end zs hz] at this
    omega
end Go.Proofs.YtinnnfkhiigjpaaGreat.ut

namespace Go.Proofs.YtinnnfkhiigjpaaGreat.ut
open Go.RowKit
set_option linter.unusedVariables false

end Go.Proofs.YtinnnfkhiigjpaaGreat.ut
