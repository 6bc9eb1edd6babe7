/-
  The contract of impl.RuneSize: how many bytes a rune has, 0 of no rune.
  Contracts of both TextOfRunes functions: the bytes of the runes of a list, and the code otherwise.
  Plain facts on a text that is the bytes of some runes: it is right, its places are the sums of their sizes, and each place reads as its rune.
  The contract of impl.ValidText: whether a text is right and of at most 65536 bytes.
  Plain facts on what is cut off a text that is the bytes of some runes.
-/
import Derived.Test.YtbokolpjdaamiaaGreatDoorPkal
import Derived.Test.YtbokolpjdaamiaaGreatDoorPkam
import Derived.Test.YtbokolpjdaamiaaGreatDoorPkae

namespace Go.Proofs.YtbokolpjdaamiaaGreatDoor.ut
open Go.RowKit
set_option linter.unusedVariables false

theorem rsz_no {n : Int} (h : n < 0 ∨ 1114111 < n ∨ (55296 ≤ n ∧ n ≤ 57343)) : rsz n = 0 := by
  unfold rsz
  rw [if_neg]
  simp [scB, inB]
  omega
theorem rsz_yes {n : Int} (h0 : 0 ≤ n) (h1 : n ≤ 1114111) (h2 : n < 55296 ∨ 57343 < n) : rsz n = if n < 128 then 1 else if n < 2048 then 2 else if n < 65536 then 3 else 4 := by
  unfold rsz
  rw [if_pos]
  simp [scB, inB]
  omega

end Go.Proofs.YtbokolpjdaamiaaGreatDoor.ut

namespace Go.Proofs.YtbokolpjdaamiaaGreatDoor.ut
open Go.RowKit
set_option linter.unusedVariables false

/-- A rune's bytes as cells. -/
def cellsOf (l : List UInt8) : List Value := l.map fun b => Value.int .u8 (b.toNat : Int)
def encB (r : Int) : List UInt8 := (Utf8.encode r).data.toList
theorem cells_one (l : List UInt8) : ∀ u ∈ cellsOf l, u.oneCell' = true := by
  intro u hu
  simp only [cellsOf, List.mem_map] at hu
  obtain ⟨b, _, rfl⟩ := hu
  rfl
theorem sc_valid {c : Nat} (h : scB (c : Int) = true) : Utf8.valid (c : Int) = true := by
  rw [valid_nat]
  simp [scB, inB] at h
  omega

theorem nat_of {x : Nat} (h : x < 256) : ((UInt8.ofNat x).toNat : Int) = (x : Int) := by
  rw [UInt8.toNat_ofNat']
  omega
theorem cells1 {c : Nat} (h : c < 128) : encB c = [UInt8.ofNat c] ∧ cellsOf (encB c) = [.int .u8 (c : Int)] := by
  have e : encB c = [UInt8.ofNat c] := by rw [encB]; exact enc1 h
  refine ⟨e, ?_⟩
  rw [e]
  simp only [cellsOf, List.map_cons, List.map_nil]
  rw [nat_of (by omega)]
theorem cells2 {c : Nat} (h : 128 ≤ c) (h' : c < 2048) : (encB c).length = 2 ∧ cellsOf (encB c) = [.int .u8 (192 + (c : Int) / 64), .int .u8 (128 + (c : Int) % 64)] := by
  rw [encB, enc2 h h']
  refine ⟨rfl, ?_⟩
  simp only [cellsOf, List.map_cons, List.map_nil]
  rw [nat_of (by omega), nat_of (by omega), show ((192 + c / 64 : Nat) : Int) = 192 + (c : Int) / 64 from by omega, show ((128 + c % 64 : Nat) : Int) = 128 + (c : Int) % 64 from by omega]
theorem cells3 {c : Nat} (hv : scB (c : Int) = true) (h : 2048 ≤ c) (h' : c < 65536) : (encB c).length = 3 ∧ cellsOf (encB c) = [.int .u8 (224 + (c : Int) / 4096), .int .u8 (128 + (c : Int) / 64 % 64), .int .u8 (128 + (c : Int) % 64)] := by
  rw [encB, enc3 h h' (sc_valid hv)]
  refine ⟨rfl, ?_⟩
  simp only [cellsOf, List.map_cons, List.map_nil]
  rw [nat_of (by omega), nat_of (by omega), nat_of (by omega), show ((224 + c / 4096 : Nat) : Int) = 224 + (c : Int) / 4096 from by omega, show ((128 + c / 64 % 64 : Nat) : Int) = 128 + (c : Int) / 64 % 64 from by omega, show ((128 + c % 64 : Nat) : Int) = 128 + (c : Int) % 64 from by omega]
theorem cells4 {c : Nat} (hv : scB (c : Int) = true) (h : 65536 ≤ c) (h' : c ≤ 1114111) : (encB c).length = 4 ∧ cellsOf (encB c) = [.int .u8 (240 + (c : Int) / 262144), .int .u8 (128 + (c : Int) / 4096 % 64), .int .u8 (128 + (c : Int) / 64 % 64), .int .u8 (128 + (c : Int) % 64)] := by
  rw [encB, enc4 h (sc_valid hv)]
  refine ⟨rfl, ?_⟩
  simp only [cellsOf, List.map_cons, List.map_nil]
  rw [nat_of (by omega), nat_of (by omega), nat_of (by omega), nat_of (by omega), show ((240 + c / 262144 : Nat) : Int) = 240 + (c : Int) / 262144 from by omega, show ((128 + c / 4096 % 64 : Nat) : Int) = 128 + (c : Int) / 4096 % 64 from by omega, show ((128 + c / 64 % 64 : Nat) : Int) = 128 + (c : Int) / 64 % 64 from by omega, show ((128 + c % 64 : Nat) : Int) = 128 + (c : Int) % 64 from by omega]

/-- What both TextOfRunes functions answer. -/
def TextRet (zs : List Int) (e : Ending) : Prop :=
  (4096 < zs.length ∧ e = .returned (.tuple #[.string ⟨#[]⟩, .int .i64 2])) ∨
  (zs.length ≤ 4096 ∧ (∃ j, j < zs.length ∧ scB (zs.getD j 0) = false) ∧ e = .returned (.tuple #[.string ⟨#[]⟩, .int .i64 4])) ∨
  (zs.length ≤ 4096 ∧ (∀ j, j < zs.length → scB (zs.getD j 0) = true) ∧ e = .returned (.tuple #[.string ⟨(zs.flatMap encB).toArray⟩, .int .i64 0]))
theorem text_same {zs : List Int} {e e' : Ending} (h : TextRet zs e) (h' : TextRet zs e') : ∃ (x : ByteArray) (c : Int), e = .returned (.tuple #[.string x, .int .i64 c]) ∧ e' = .returned (.tuple #[.string x, .int .i64 c]) := by
  rcases h with ⟨a, rfl⟩ | ⟨a, ⟨j, hj, hf⟩, rfl⟩ | ⟨a, a2, rfl⟩ <;> rcases h' with ⟨b, rfl⟩ | ⟨b, ⟨i, hi, hg⟩, rfl⟩ | ⟨b, b2, rfl⟩ <;>
  first | exact ⟨_, _, rfl, rfl⟩ | (exfalso; omega) | (exfalso; have := a2 i hi; rw [hg] at this; cases this) | (exfalso; have := b2 j hj; rw [hf] at this; cases this)
theorem enc_len (r : Int) : (encB r).length ≤ 4 := by
  have := encode_size_le r
  rw [Lib.size_eq] at this
  exact this
theorem flat_len (l : List Int) : (l.flatMap encB).length ≤ 4 * l.length := by
  induction l with
  | nil => simp
  | cons a l ih =>
    have := enc_len a
    simp only [List.flatMap_cons, List.length_append, List.length_cons]
    omega
theorem flat_runes (zs : List Int) : runesBytes zs = ⟨(zs.flatMap encB).toArray⟩ := by
  refine bytes_ext ?_
  have key : ∀ (l : List Int) (b : ByteArray), (l.foldl (fun r n => r ++ Utf8.encode n) b).data.toList = b.data.toList ++ l.flatMap encB := by
    intro l
    induction l with
    | nil => intro b; simp
    | cons a l ih =>
      intro b
      rw [List.foldl_cons, ih, ByteArray.data_append, Array.toList_append, List.flatMap_cons, List.append_assoc]
      rfl
  rw [runesBytes, key]
  rfl
theorem take_step (zs : List Int) (k : Nat) (h : k < zs.length) : zs.take (k + 1) = zs.take k ++ [zs.getD k 0] := by
  rw [List.take_succ_eq_append_getElem h, List.getD_eq_getElem?_getD, List.getElem?_eq_getElem h]
  rfl
theorem rsz_zero (x : Int) : rsz x = 0 ↔ scB x = false := by
  unfold rsz
  cases h : scB x
  · simp
  · simp only [if_true]
    constructor
    · intro e
      exfalso
      revert e
      (repeat' split) <;> omega
    · intro e; cases e
end Go.Proofs.YtbokolpjdaamiaaGreatDoor.ut

namespace Go.Proofs.YtbokolpjdaamiaaGreatDoor.ut
open Go.RowKit
set_option linter.unusedVariables false

def mk (l : List UInt8) : ByteArray := ⟨l.toArray⟩
theorem mk_size (l : List UInt8) : (mk l).size = l.length := by rw [Lib.size_eq]; rfl
theorem mk_list (l : List UInt8) : (mk l).data.toList = l := rfl
theorem get_list (l : List UInt8) (i : Nat) (h : i < l.length) : (mk l).get! i = l[i] := by
  rw [get_byte (mk l) i (by rw [mk_size]; exact h)]
  rfl

theorem enc_list {c : Nat} (hv : scB (c : Int) = true) (hm : c ≤ 1114111) :
    (c < 128 ∧ encB c = [UInt8.ofNat c]) ∨ (128 ≤ c ∧ c < 2048 ∧ encB c = [UInt8.ofNat (192 + c / 64), UInt8.ofNat (128 + c % 64)]) ∨
    (2048 ≤ c ∧ c < 65536 ∧ encB c = [UInt8.ofNat (224 + c / 4096), UInt8.ofNat (128 + c / 64 % 64), UInt8.ofNat (128 + c % 64)]) ∨
    (65536 ≤ c ∧ encB c = [UInt8.ofNat (240 + c / 262144), UInt8.ofNat (128 + c / 4096 % 64), UInt8.ofNat (128 + c / 64 % 64), UInt8.ofNat (128 + c % 64)]) := by
  by_cases h1 : c < 128
  · exact .inl ⟨h1, by rw [encB, enc1 h1]⟩
  by_cases h2 : c < 2048
  · exact .inr (.inl ⟨by omega, h2, by rw [encB, enc2 (by omega) h2]⟩)
  by_cases h3 : c < 65536
  · exact .inr (.inr (.inl ⟨by omega, h3, by rw [encB, enc3 (by omega) h3 (sc_valid hv)]⟩))
  · exact .inr (.inr (.inr ⟨by omega, by rw [encB, enc4 (by omega) (sc_valid hv)]⟩))
theorem nat_byte {x : Nat} (h : x < 256) : (UInt8.ofNat x).toNat = x := by rw [UInt8.toNat_ofNat']; omega

theorem dec_at (pre post : List UInt8) {c : Nat} (hv : scB (c : Int) = true) : Utf8.decode (mk (pre ++ (encB c ++ post))) pre.length = (c, (encB c).length) := by
  have hm : c ≤ 1114111 ∧ (c < 55296 ∨ 57344 ≤ c) := by simp [scB, inB] at hv; omega
  have hget : ∀ (e : List UInt8) (i : Nat) (hi : i < e.length), (mk (pre ++ (e ++ post))).get! (pre.length + i) = e[i] := by
    intro e i hi
    rw [get_list _ _ (by simp; omega)]
    simp [List.getElem_append_right, List.getElem_append_left, hi]
  have hsz : ∀ e : List UInt8, (mk (pre ++ (e ++ post))).size = pre.length + e.length + post.length := by
    intro e; rw [mk_size]; simp; omega
  rcases enc_list hv hm.1 with ⟨h, e⟩ | ⟨h, h', e⟩ | ⟨h, h', e⟩ | ⟨h, e⟩
  · rw [e, dec_eq]
    have g0 := hget [UInt8.ofNat c] 0 (by simp)
    simp only [Nat.add_zero] at g0
    rw [g0]
    simp only [List.getElem_cons_zero]
    rw [nat_byte (by omega), F1 h]
    rfl
  · rw [e, dec_eq, hsz]
    have g0 := hget [UInt8.ofNat (192 + c / 64), UInt8.ofNat (128 + c % 64)] 0 (by simp)
    have g1 := hget [UInt8.ofNat (192 + c / 64), UInt8.ofNat (128 + c % 64)] 1 (by simp)
    simp only [Nat.add_zero] at g0
    rw [g0, g1]
    simp only [List.getElem_cons_zero, List.getElem_cons_succ]
    rw [nat_byte (by omega), nat_byte (by omega), F2 (by omega) (by omega) (by simp; omega) (by omega) (by omega)]
    refine Prod.ext ?_ rfl
    show _ = c
    omega
  · rw [e, dec_eq, hsz]
    have g0 := hget [UInt8.ofNat (224 + c / 4096), UInt8.ofNat (128 + c / 64 % 64), UInt8.ofNat (128 + c % 64)] 0 (by simp)
    have g1 := hget [UInt8.ofNat (224 + c / 4096), UInt8.ofNat (128 + c / 64 % 64), UInt8.ofNat (128 + c % 64)] 1 (by simp)
    have g2 := hget [UInt8.ofNat (224 + c / 4096), UInt8.ofNat (128 + c / 64 % 64), UInt8.ofNat (128 + c % 64)] 2 (by simp)
    simp only [Nat.add_zero] at g0
    rw [g0, g1, g2]
    simp only [List.getElem_cons_zero, List.getElem_cons_succ]
    rw [nat_byte (by omega), nat_byte (by omega), nat_byte (by omega), F3 (by omega) (by omega) (by simp; omega) (by omega) (by omega) (by omega) (by omega), if_pos (by omega)]
    refine Prod.ext ?_ rfl
    show _ = c
    omega
  · rw [e, dec_eq, hsz]
    have g0 := hget [UInt8.ofNat (240 + c / 262144), UInt8.ofNat (128 + c / 4096 % 64), UInt8.ofNat (128 + c / 64 % 64), UInt8.ofNat (128 + c % 64)] 0 (by simp)
    have g1 := hget [UInt8.ofNat (240 + c / 262144), UInt8.ofNat (128 + c / 4096 % 64), UInt8.ofNat (128 + c / 64 % 64), UInt8.ofNat (128 + c % 64)] 1 (by simp)
    have g2 := hget [UInt8.ofNat (240 + c / 262144), UInt8.ofNat (128 + c / 4096 % 64), UInt8.ofNat (128 + c / 64 % 64), UInt8.ofNat (128 + c % 64)] 2 (by simp)
    have g3 := hget [UInt8.ofNat (240 + c / 262144), UInt8.ofNat (128 + c / 4096 % 64), UInt8.ofNat (128 + c / 64 % 64), UInt8.ofNat (128 + c % 64)] 3 (by simp)
    simp only [Nat.add_zero] at g0
    rw [g0, g1, g2, g3]
    simp only [List.getElem_cons_zero, List.getElem_cons_succ]
    rw [nat_byte (by omega), nat_byte (by omega), nat_byte (by omega), nat_byte (by omega), F4 (by omega) (by omega) (by simp; omega) (by omega) (by omega) (by omega) (by omega) (by omega) (by omega), if_pos (by omega)]
    refine Prod.ext ?_ rfl
    show _ = c
    omega

/-- All of a list are runes. -/
def Runes (zs : List Int) : Prop := ∀ r ∈ zs, scB r = true
theorem dec_flat (zs : List Int) (hz : Runes zs) (j : Nat) (hj : j < zs.length) :
    Utf8.decode (mk (zs.flatMap encB)) ((zs.take j).flatMap encB).length = (zs[j].toNat, (encB zs[j]).length) := by
  have h1 : zs = zs.take j ++ (zs[j] :: zs.drop (j + 1)) := by
    rw [List.getElem_cons_drop, List.take_append_drop]
  have hsc : scB zs[j] = true := hz _ (List.getElem_mem hj)
  obtain ⟨c, hc⟩ : ∃ c : Nat, zs[j] = (c : Int) := ⟨zs[j].toNat, by simp [scB, inB] at hsc; omega⟩
  rw [hc] at hsc h1 ⊢
  have h2 : zs.flatMap encB = (zs.take j).flatMap encB ++ (encB (c : Int) ++ (zs.drop (j + 1)).flatMap encB) := by
    conv => lhs; rw [h1]
    rw [List.flatMap_append, List.flatMap_cons]
  rw [h2, dec_at _ _ hsc]
  rfl
theorem pos_flat (zs : List Int) (hz : Runes zs) (j : Nat) (hj : j ≤ zs.length) : pos (mk (zs.flatMap encB)) j = ((zs.take j).flatMap encB).length := by
  induction j with
  | zero => rfl
  | succ j ih =>
    have h1 := ih (by omega)
    rw [pos, h1, dec_flat zs hz j (by omega), List.take_succ_eq_append_getElem (by omega), List.flatMap_append, List.length_append, List.flatMap_cons, List.flatMap_nil, List.append_nil]
theorem pos_flat_end (zs : List Int) (hz : Runes zs) : pos (mk (zs.flatMap encB)) zs.length = (mk (zs.flatMap encB)).size := by
  rw [pos_flat zs hz zs.length (Nat.le_refl _), List.take_length, mk_size]
theorem enc_pos {r : Int} (h : scB r = true) : 1 ≤ (encB r).length ∧ (encB r).length ≤ 4 := by
  obtain ⟨c, rfl⟩ : ∃ c : Nat, r = (c : Int) := ⟨r.toNat, by simp [scB, inB] at h; omega⟩
  rcases enc_list h (by simp [scB, inB] at h; omega) with ⟨_, e⟩ | ⟨_, _, e⟩ | ⟨_, _, e⟩ | ⟨_, e⟩ <;> rw [e] <;> simp
theorem right_flat (zs : List Int) (hz : Runes zs) : Right (mk (zs.flatMap encB)) := by
  intro n hn hb
  by_cases h : n < zs.length
  · rw [pos_flat zs hz n (by omega), badAt, dec_flat zs hz n h] at hb
    have hsc : scB zs[n] = true := hz _ (List.getElem_mem h)
    obtain ⟨c, hc⟩ : ∃ c : Nat, zs[n] = (c : Int) := ⟨zs[n].toNat, by simp [scB, inB] at hsc; omega⟩
    rw [hc] at hb hsc
    simp only [Prod.mk.injEq, Int.toNat_natCast] at hb
    rcases enc_list hsc (by simp [scB, inB] at hsc; omega) with ⟨_, e⟩ | ⟨_, _, e⟩ | ⟨_, _, e⟩ | ⟨_, e⟩ <;> rw [e] at hb <;> simp at hb <;> omega
  · have := pos_mono (mk (zs.flatMap encB)) zs.length (n - zs.length)
    rw [show zs.length + (n - zs.length) = n from by omega, pos_flat_end zs hz] at this
    omega
theorem runesL_flat (zs : List Int) (hz : Runes zs) (n : Nat) (hn : n ≤ zs.length) : runesL (mk (zs.flatMap encB)) n = zs.take n := by
  induction n with
  | zero => rfl
  | succ n ih =>
    rw [runesL, ih (by omega), pos_flat zs hz n (by omega), dec_flat zs hz n (by omega), List.take_succ_eq_append_getElem (by omega)]
    have hsc : scB zs[n] = true := hz _ (List.getElem_mem (by omega))
    have : ((zs[n].toNat : Nat) : Int) = zs[n] := by simp [scB, inB] at hsc; omega
    simp only [this]
end Go.Proofs.YtbokolpjdaamiaaGreatDoor.ut

namespace Go.Proofs.YtbokolpjdaamiaaGreatDoor.ut
open Go.RowKit
set_option linter.unusedVariables false

end Go.Proofs.YtbokolpjdaamiaaGreatDoor.ut

namespace Go.Proofs.YtbokolpjdaamiaaGreatDoor.ut
open Go.RowKit
set_option linter.unusedVariables false

theorem extract_pre (A B : List UInt8) : (mk (A ++ B)).extract 0 A.length = mk A := by
  refine bytes_ext ?_
  rw [Lib.extract_data, mk_list, mk_list]
  simp
/-- What is known of a beginning x of a text s that was cut at n. -/
def CutFacts (s : ByteArray) (n : Int) (x : ByteArray) : Prop :=
  Valid x ∧ (x.size : Int) ≤ n ∧ x.size ≤ s.size ∧ s.extract 0 x.size = x ∧ (x = s ∨ n < (x.size : Int) + 4)
theorem cut_facts (zs : List Int) (hz : Runes zs) (hl : zs.length ≤ 4096) (n : Int) (k : Nat) (h : CutAt (mk (zs.flatMap encB)) n k) : CutFacts (mk (zs.flatMap encB)) n ((mk (zs.flatMap encB)).extract 0 k) := by
  obtain ⟨j, hk, hks, hkn, hx⟩ := h
  have hj : j ≤ zs.length := by
    by_cases e : j ≤ zs.length
    · exact e
    · have := pos_lt (mk (zs.flatMap encB)) (show zs.length < j by omega)
      rw [pos_flat_end zs hz] at this
      omega
  have hp := pos_flat zs hz j hj
  have hsplit : zs.flatMap encB = (zs.take j).flatMap encB ++ (zs.drop j).flatMap encB := by rw [← List.flatMap_append, List.take_append_drop]
  have hex : (mk (zs.flatMap encB)).extract 0 k = mk ((zs.take j).flatMap encB) := by
    rw [hk, hp]
    conv => lhs; rw [hsplit]
    exact extract_pre _ _
  have hsz : ((mk (zs.flatMap encB)).extract 0 k).size = k := by rw [hex, mk_size, hk, hp]
  have hr : Runes (zs.take j) := fun r hr => hz r (List.mem_of_mem_take hr)
  refine ⟨⟨?_, ?_⟩, by rw [hsz]; exact hkn, by rw [hsz]; exact hks, by rw [hsz], ?_⟩
  · rw [hsz]
    have h1 := flat_len (zs.take j)
    have h2 : (zs.take j).length ≤ zs.length := by rw [List.length_take]; omega
    rw [hk, hp]
    omega
  · rw [hex]; exact right_flat _ hr
  · by_cases e : j = zs.length
    · left
      rw [hex, e, List.take_length]
    · right
      rw [hsz]
      rcases hx with hx | hx
      · rw [pos, ← hk] at hx
        have hd := dec_flat zs hz j (by omega)
        rw [← hp, ← hk] at hd
        rw [hd] at hx
        have := (enc_pos (hz _ (List.getElem_mem (show j < zs.length by omega)))).2
        simp only at hx
        omega
      · exfalso
        have := pos_lt (mk (zs.flatMap encB)) (show j < zs.length by omega)
        rw [pos_flat_end zs hz, ← hk] at this
        omega
theorem cut_ok {s : ByteArray} {n : Int} {e : Ending} (h : CutRet s n e) (hv : Valid s) (hn : 0 ≤ n) : ∃ k, CutAt s n k ∧ e = .returned (.tuple #[.string (s.extract 0 k), .int .i64 0]) := by
  rcases h with ⟨a, _⟩ | ⟨_, a, _⟩ | ⟨_, _, a, _⟩ | ⟨_, _, _, k, hk, rfl⟩
  · have := hv.1; omega
  · exact absurd hv.2 a
  · omega
  · exact ⟨k, hk, rfl⟩
theorem valid_flat (zs : List Int) (hz : Runes zs) (hl : zs.length ≤ 4096) : Valid (mk (zs.flatMap encB)) := by
  refine ⟨?_, right_flat zs hz⟩
  have := flat_len zs
  rw [mk_size]
  omega
end Go.Proofs.YtbokolpjdaamiaaGreatDoor.ut
