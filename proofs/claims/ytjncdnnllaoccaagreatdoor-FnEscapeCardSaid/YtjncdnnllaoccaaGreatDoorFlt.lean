/-
  Plain facts on a text that is the bytes of some runes: it is right, its places are the sums of their sizes, and each place reads as its rune.
-/
import Derived.Test.YtjncdnnllaoccaaGreatDoorTew
namespace Go.Proofs.YtjncdnnllaoccaaGreatDoor.ut
open Go.RowKit
set_option linter.unusedVariables false

def mk (l : List UInt8) : ByteArray := ⟨l.toArray⟩
theorem mk_size (l : List UInt8) : (mk l).size = l.length := by rw [Lib.size_eq]; rfl
theorem mk_list (l : List UInt8) : (mk l).data.toList = l := rfl
theorem get_list (l : List UInt8) (i : Nat) (h : i < l.length) : (mk l).get! i = l[i] := by
  rw [get_byte (mk l) i (by rw [mk_size]; exact h)]
  rfl

theorem enc_list {c : Nat} (hv : scB (c : Int) = true) (hm : c ≤ 1114111) :
    (c < 128 ∧ encB c = [UInt8.ofNat c]) ∨ (128 ≤ c ∧ c < 2048 ∧ encB c = [UInt8.ofNat (192 + c / 64), UInt8.ofNat (128 + c % 64)]) ∨
    (2048 ≤ c ∧ c < 65536 ∧ encB c = [UInt8.ofNat (224 + c / 4096), UInt8.ofNat (128 + c / 64 % 64), UInt8.ofNat (128 + c % 64)]) ∨
    (65536 ≤ c ∧ encB c = [UInt8.ofNat (240 + c / 262144), UInt8.ofNat (128 + c / 4096 % 64), UInt8.ofNat (128 + c / 64 % 64), UInt8.ofNat (128 + c % 64)]) := by
  by_cases h1 : c < 128
  · exact .inl ⟨h1, by rw [encB, enc1 h1]⟩
  by_cases h2 : c < 2048
  · exact .inr (.inl ⟨by omega, h2, by rw [encB, enc2 (by omega) h2]⟩)
  by_cases h3 : c < 65536
  · exact .inr (.inr (.inl ⟨by omega, h3, by rw [encB, enc3 (by omega) h3 (sc_valid hv)]⟩))
  · exact .inr (.inr (.inr ⟨by omega, by rw [encB, enc4 (by omega) (sc_valid hv)]⟩))
theorem nat_byte {x : Nat} (h : x < 256) : (UInt8.ofNat x).toNat = x := by rw [UInt8.toNat_ofNat']; omega

theorem dec_at (pre post : List UInt8) {c : Nat} (hv : scB (c : Int) = true) : Utf8.decode (mk (pre ++ (encB c ++ post))) pre.length = (c, (encB c).length) := by
  have hm : c ≤ 1114111 ∧ (c < 55296 ∨ 57344 ≤ c) := by simp [scB, inB] at hv; omega
  have hget : ∀ (e : List UInt8) (i : Nat) (hi : i < e.length), (mk (pre ++ (e ++ post))).get! (pre.length + i) = e[i] := by
    intro e i hi
    rw [get_list _ _ (by simp; omega)]
    simp [List.getElem_append_right, List.getElem_append_left, hi]
  have hsz : ∀ e : List UInt8, (mk (pre ++ (e ++ post))).size = pre.length + e.length + post.length := by
    intro e; rw [mk_size]; simp; omega
  rcases enc_list hv hm.1 with ⟨h, e⟩ | ⟨h, h', e⟩ | ⟨h, h', e⟩ | ⟨h, e⟩
  · rw [e, dec_eq]
    have g0 := hget [UInt8.ofNat c] 0 (by simp)
    simp only [Nat.add_zero] at g0
    rw [g0]
    simp only [List.getElem_cons_zero]
    rw [nat_byte (by omega), F1 h]
    rfl
  · rw [e, dec_eq, hsz]
    have g0 := hget [UInt8.ofNat (192 + c / 64), UInt8.ofNat (128 + c % 64)] 0 (by simp)
    have g1 := hget [UInt8.ofNat (192 + c / 64), UInt8.ofNat (128 + c % 64)] 1 (by simp)
    simp only [Nat.add_zero] at g0
    rw [g0, g1]
    simp only [List.getElem_cons_zero, List.getElem_cons_succ]
    rw [nat_byte (by omega), nat_byte (by omega), F2 (by omega) (by omega) (by simp; omega) (by omega) (by omega)]
    refine Prod.ext ?_ rfl
    show _ = c
    omega
  · rw [e, dec_eq, hsz]
    have g0 := hget [UInt8.ofNat (224 + c / 4096), UInt8.ofNat (128 + c / 64 % 64), UInt8.ofNat (128 + c % 64)] 0 (by simp)
    have g1 := hget [UInt8.ofNat (224 + c / 4096), UInt8.ofNat (128 + c / 64 % 64), UInt8.ofNat (128 + c % 64)] 1 (by simp)
    have g2 := hget [UInt8.ofNat (224 + c / 4096), UInt8.ofNat (128 + c / 64 % 64), UInt8.ofNat (128 + c % 64)] 2 (by simp)
    simp only [Nat.add_zero] at g0
    rw [g0, g1, g2]
    simp only [List.getElem_cons_zero, List.getElem_cons_succ]
    rw [nat_byte (by omega), nat_byte (by omega), nat_byte (by omega), F3 (by omega) (by omega) (by simp; omega) (by omega) (by omega) (by omega) (by omega), if_pos (by omega)]
    refine Prod.ext ?_ rfl
    show _ = c
    omega
  · rw [e, dec_eq, hsz]
    have g0 := hget [UInt8.ofNat (240 + c / 262144), UInt8.ofNat (128 + c / 4096 % 64), UInt8.ofNat (128 + c / 64 % 64), UInt8.ofNat (128 + c % 64)] 0 (by simp)
    have g1 := hget [UInt8.ofNat (240 + c / 262144), UInt8.ofNat (128 + c / 4096 % 64), UInt8.ofNat (128 + c / 64 % 64), UInt8.ofNat (128 + c % 64)] 1 (by simp)
    have g2 := hget [UInt8.ofNat (240 + c / 262144), UInt8.ofNat (128 + c / 4096 % 64), UInt8.ofNat (128 + c / 64 % 64), UInt8.ofNat (128 + c % 64)] 2 (by simp)
    have g3 := hget [UInt8.ofNat (240 + c / 262144), UInt8.ofNat (128 + c / 4096 % 64), UInt8.ofNat (128 + c / 64 % 64), UInt8.ofNat (128 + c % 64)] 3 (by simp)
    simp only [Nat.add_zero] at g0
    rw [g0, g1, g2, g3]
    simp only [List.getElem_cons_zero, List.getElem_cons_succ]
    rw [nat_byte (by omega), nat_byte (by omega), nat_byte (by omega), nat_byte (by omega), F4 (by omega) (by omega) (by simp; omega) (by omega) (by omega) (by omega) (by omega) (by omega) (by omega), if_pos (by omega)]
    refine Prod.ext ?_ rfl
    show _ = c
    omega

/-- All of a list are runes. -/
def Runes (zs : List Int) : Prop := ∀ r ∈ zs, scB r = true
theorem dec_flat (zs : List Int) (hz : Runes zs) (j : Nat) (hj : j < zs.length) :
    Utf8.decode (mk (zs.flatMap encB)) ((zs.take j).flatMap encB).length = (zs[j].toNat, (encB zs[j]).length) := by
  have h1 : zs = zs.take j ++ (zs[j] :: zs.drop (j + 1)) := by
    rw [List.getElem_cons_drop, List.take_append_drop]
  have hsc : scB zs[j] = true := hz _ (List.getElem_mem hj)
  obtain ⟨c, hc⟩ : ∃ c : Nat, zs[j] = (c : Int) := ⟨zs[j].toNat, by simp [scB, inB] at hsc; omega⟩
  rw [hc] at hsc h1 ⊢
  have h2 : zs.flatMap encB = (zs.take j).flatMap encB ++ (encB (c : Int) ++ (zs.drop (j + 1)).flatMap encB) := by
    conv => lhs; rw [h1]
    rw [List.flatMap_append, List.flatMap_cons]
  rw [h2, dec_at _ _ hsc]
  rfl
theorem pos_flat (zs : List Int) (hz : Runes zs) (j : Nat) (hj : j ≤ zs.length) : pos (mk (zs.flatMap encB)) j = ((zs.take j).flatMap encB).length := by
  induction j with
  | zero => rfl
  | succ j ih =>
    have h1 := ih (by omega)
    rw [pos, h1, dec_flat zs hz j (by omega), List.take_succ_eq_append_getElem (by omega), List.flatMap_append, List.length_append, List.flatMap_cons, List.flatMap_nil, List.append_nil]
theorem pos_flat_end (zs : List Int) (hz : Runes zs) : pos (mk (zs.flatMap encB)) zs.length = (mk (zs.flatMap encB)).size := by
  rw [pos_flat zs hz zs.length (Nat.le_refl _), List.take_length, mk_size]
theorem enc_pos {r : Int} (h : scB r = true) : 1 ≤ (encB r).length ∧ (encB r).length ≤ 4 := by
  obtain ⟨c, rfl⟩ : ∃ c : Nat, r = (c : Int) := ⟨r.toNat, by simp [scB, inB] at h; omega⟩
  rcases enc_list h (by simp [scB, inB] at h; omega) with ⟨_, e⟩ | ⟨_, _, e⟩ | ⟨_, _, e⟩ | ⟨_, e⟩ <;> rw [e] <;> simp
theorem right_flat (zs : List Int) (hz : Runes zs) : Right (mk (zs.flatMap encB)) := by
  intro n hn hb
  by_cases h : n < zs.length
  · rw [pos_flat zs hz n (by omega), badAt, dec_flat zs hz n h] at hb
    have hsc : scB zs[n] = true := hz _ (List.getElem_mem h)
    obtain ⟨c, hc⟩ : ∃ c : Nat, zs[n] = (c : Int) := ⟨zs[n].toNat, by simp [scB, inB] at hsc; omega⟩
    rw [hc] at hb hsc
    simp only [Prod.mk.injEq, Int.toNat_natCast] at hb
    rcases enc_list hsc (by simp [scB, inB] at hsc; omega) with ⟨_, e⟩ | ⟨_, _, e⟩ | ⟨_, _, e⟩ | ⟨_, e⟩ <;> rw [e] at hb <;> simp at hb <;> omega
  · have := pos_mono (mk (zs.flatMap encB)) zs.length (n - zs.length)
    rw [show zs.length + (n - zs.length) = n from by omega, pos_flat_end zs hz] at this
    omega
theorem runesL_flat (zs : List Int) (hz : Runes zs) (n : Nat) (hn : n ≤ zs.length) : runesL (mk (zs.flatMap encB)) n = zs.take n := by
  induction n with
  | zero => rfl
  | succ n ih =>
    rw [runesL, ih (by omega), pos_flat zs hz n (by omega), dec_flat zs hz n (by omega), List.take_succ_eq_append_getElem (by omega)]
    have hsc : scB zs[n] = true := hz _ (List.getElem_mem (by omega))
    have : ((zs[n].toNat : Nat) : Int) = zs[n] := by simp [scB, inB] at hsc; omega
    simp only [this]
end Go.Proofs.YtjncdnnllaoccaaGreatDoor.ut
