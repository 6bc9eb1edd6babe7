/-
  The contract of the program's fieldSize: how many bytes the first field of a header has.
-/
import Derived.Test.YtejmfffapkmjoaaDoorPar
import Derived.Test.YtejmfffapkmjoaaDoorMai
namespace Go.Proofs.YtejmfffapkmjoaaDoor.ml
open Go.RowKit
set_option linter.unusedVariables false

theorem ext_list (s : ByteArray) (a b : Nat) : (s.extract a b).data.toList = (s.data.toList.drop a).take (b - a) := by rw [← Lib.toList_data, Lib.extract_toList]
theorem ext_tail (s : ByteArray) (a : Nat) : (s.extract a s.size).data.toList = s.data.toList.drop a := by
  rw [ext_list, List.take_of_length_le (by rw [List.length_drop, ← Lib.size_eq]; omega)]
theorem ext_front (s : ByteArray) (b : Nat) : (s.extract 0 b).data.toList = s.data.toList.take b := by rw [ext_list]; rfl
theorem ext_size (s : ByteArray) (a b : Nat) (h : b ≤ s.size) : (s.extract a b).size = b - a := by
  rw [Lib.size_eq, ext_list, List.length_take, List.length_drop, ← Lib.size_eq]; omega
theorem has_blank (l : B) : Lib.hasPrefix l [32] = decide (l.head? = some 32) := by
  unfold Lib.hasPrefix
  match l with
  | [] => rfl
  | c :: r =>
    rw [Bool.eq_iff_iff]
    simp only [List.isPrefixOf, Bool.and_true, beq_iff_eq, List.head?_cons, decide_eq_true_iff, Option.some.injEq]
    exact eq_comm
theorem blank_ne {l : B} (h : l.head? = some 32) : l ≠ [] := fun e => by rw [e] at h; cases h

set_option maxHeartbeats 2000000 in
set_option maxRecDepth 100000 in
theorem fieldSize_any (s : ByteArray) (w : World) (m : Int) (hm : w.cell? ⟨1, 0, none⟩ = some (.int .i64 m)) (hs : s.size ≤ 65536) (hE : Ends s.data.toList) (h0 : s.data.toList ≠ []) :
    Calls Tryd.prog 74 #[.string s] w fun e w' => (∃ p : Nat, e = .returned (.int .i64 p) ∧ Seek s.data.toList p ∧ (s.data.toList.drop p).head? ≠ some 32) ∧ ∃ n, w' = w.drewN n := by
  have HMX : Hid (∀ n, (w.drewN n).cell? ⟨1, 0, none⟩ = some (.int .i64 m)) := fun n => hm
  obtain ⟨i, hi⟩ := index_some hE h0 (ends_len hE)
  have hC := Tryd.strings_Index s ⟨#[13, 10]⟩ m w (by omega) hm
  rw [show (⟨#[13, 10]⟩ : ByteArray).data.toList = nl from rfl, hi] at hC
  have hsk := seek_first hi
  have hlen := seek_le hsk
  rw [← Lib.size_eq] at hlen
  have HS0 : Hid (Seek s.data.toList (i + 2)) := hsk
  have HE : Hid (Ends s.data.toList) := hE
  have HC : Hid (Calls Tryd.prog 56 #[.string s, .string ⟨#[13, 10]⟩] w fun e w' => e = .returned (.int .i64 (i : Int)) ∧ w' = w) := hC
  clear hC hi hsk hE h0 hm
  go_enter Tryd.func74, Tryd.ntmps74
  go_wp2_with fail
  refine HC.out.mono ?_
  rintro e w1 ⟨rfl, rfl⟩
  go_wp2
  go_loopw [3] (fun q wr => ∃ p n : Nat, q = .int .i64 p ∧ p ≤ s.size ∧ Seek s.data.toList p ∧ wr = w1.drewN n) (fun q _ => s.size - (intOf q).toNat)
  case atStart => exact ⟨i + 2, 0, by go_num, hlen, HS0.out, rfl⟩
  case round =>
    obtain ⟨p, n, rfl, hp, hsk, rfl⟩ := hrel
    clear HC HS0 hlen
    have hp' : (p : Int) ≤ (s.size : Int) := by omega
    have hp0 : (0 : Int) ≤ (p : Int) := by omega
    have HH := Tryd.strings_HasPrefix (s.extract p s.size) ⟨#[32]⟩ (w1.drewN n)
    rw [show (⟨#[32]⟩ : ByteArray).data.toList = [32] from rfl, ext_tail, has_blank] at HH
    by_cases hb : (s.data.toList.drop p).head? = some 32
    · rw [decide_eq_true hb] at HH
      have hE2 := seek_ends hsk HE.out
      obtain ⟨j, hj⟩ := index_some hE2 (blank_ne hb) (ends_len hE2)
      have hnx := seek_next hsk hb hj
      have hle := seek_le hnx
      rw [← Lib.size_eq] at hle
      have HI := Tryd.strings_Index (s.extract p s.size) ⟨#[13, 10]⟩ m (w1.drewN n) (by rw [ext_size _ _ _ (Nat.le_refl _)]; omega) (HMX.out n)
      rw [show (⟨#[13, 10]⟩ : ByteArray).data.toList = nl from rfl, ext_tail, hj] at HI
      have HI' : Hid (Calls Tryd.prog 56 #[.string (s.extract p s.size), .string ⟨#[13, 10]⟩] (w1.drewN n) fun e w' => e = .returned (.int .i64 (j : Int)) ∧ w' = w1.drewN n) := HI
      have HN : Hid (Seek s.data.toList (p + (j + 2))) := hnx
      have HH' : Hid (Calls Tryd.prog 83 #[.string (s.extract p s.size), .string ⟨#[32]⟩] (w1.drewN n) fun e w' => e = .returned (.bool true) ∧ w' = w1.drewN n) := HH
      clear HI HH hnx hsk hb hE2 hj
      go_wp2_with fail
      refine HH'.out.mono ?_
      rintro e w2 ⟨rfl, rfl⟩
      go_wp2_with fail
      refine HI'.out.mono ?_
      rintro e w2 ⟨rfl, rfl⟩
      go_wp2
      go_roundw
      case rel => exact ⟨p + (j + 2), n, by go_num, hle, HN.out, rfl⟩
      case measure => simp [intOf]; omega
    · rw [decide_eq_false hb] at HH
      have HB : Hid (¬ (s.data.toList.drop p).head? = some 32) := hb
      have HK : Hid (Seek s.data.toList p) := hsk
      have HH' : Hid (Calls Tryd.prog 83 #[.string (s.extract p s.size), .string ⟨#[32]⟩] (w1.drewN n) fun e w' => e = .returned (.bool false) ∧ w' = w1.drewN n) := HH
      clear HH hsk hb
      go_wp2_with fail
      refine HH'.out.mono ?_
      rintro e w2 ⟨rfl, rfl⟩
      go_wp2
      go_ret
      exact ⟨⟨p, rfl, HK.out, HB.out⟩, n, rfl⟩
end Go.Proofs.YtejmfffapkmjoaaDoor.ml
