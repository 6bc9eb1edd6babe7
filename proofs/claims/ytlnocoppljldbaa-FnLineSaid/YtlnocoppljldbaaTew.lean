/-
  Contracts of both TextOfRunes functions: the bytes of the runes of a list, and the code otherwise.
-/
import Derived.Test.YtlnocoppljldbaaFix
import Derived.Test.YtlnocoppljldbaaOwn
import Derived.Test.YtlnocoppljldbaaSzw
namespace Go.Proofs.Ytlnocoppljldbaa.ut
open Go.RowKit
set_option linter.unusedVariables false

/-- A rune's bytes as cells. -/
def cellsOf (l : List UInt8) : List Value := l.map fun b => Value.int .u8 (b.toNat : Int)
def encB (r : Int) : List UInt8 := (Utf8.encode r).data.toList
theorem cells_one (l : List UInt8) : ∀ u ∈ cellsOf l, u.oneCell' = true := by
  intro u hu
  simp only [cellsOf, List.mem_map] at hu
  obtain ⟨b, _, rfl⟩ := hu
  rfl
theorem sc_valid {c : Nat} (h : scB (c : Int) = true) : Utf8.valid (c : Int) = true := by
  rw [valid_nat]
  simp [scB, inB] at h
  omega

theorem nat_of {x : Nat} (h : x < 256) : ((UInt8.ofNat x).toNat : Int) = (x : Int) := by
  rw [UInt8.toNat_ofNat']
  omega
theorem cells1 {c : Nat} (h : c < 128) : encB c = [UInt8.ofNat c] ∧ cellsOf (encB c) = [.int .u8 (c : Int)] := by
  have e : encB c = [UInt8.ofNat c] := by rw [encB]; exact enc1 h
  refine ⟨e, ?_⟩
  rw [e]
  simp only [cellsOf, List.map_cons, List.map_nil]
  rw [nat_of (by omega)]
theorem cells2 {c : Nat} (h : 128 ≤ c) (h' : c < 2048) : (encB c).length = 2 ∧ cellsOf (encB c) = [.int .u8 (192 + (c : Int) / 64), .int .u8 (128 + (c : Int) % 64)] := by
  rw [encB, enc2 h h']
  refine ⟨rfl, ?_⟩
  simp only [cellsOf, List.map_cons, List.map_nil]
  rw [nat_of (by omega), nat_of (by omega), show ((192 + c / 64 : Nat) : Int) = 192 + (c : Int) / 64 from by omega, show ((128 + c % 64 : Nat) : Int) = 128 + (c : Int) % 64 from by omega]
theorem cells3 {c : Nat} (hv : scB (c : Int) = true) (h : 2048 ≤ c) (h' : c < 65536) : (encB c).length = 3 ∧ cellsOf (encB c) = [.int .u8 (224 + (c : Int) / 4096), .int .u8 (128 + (c : Int) / 64 % 64), .int .u8 (128 + (c : Int) % 64)] := by
  rw [encB, enc3 h h' (sc_valid hv)]
  refine ⟨rfl, ?_⟩
  simp only [cellsOf, List.map_cons, List.map_nil]
  rw [nat_of (by omega), nat_of (by omega), nat_of (by omega), show ((224 + c / 4096 : Nat) : Int) = 224 + (c : Int) / 4096 from by omega, show ((128 + c / 64 % 64 : Nat) : Int) = 128 + (c : Int) / 64 % 64 from by omega, show ((128 + c % 64 : Nat) : Int) = 128 + (c : Int) % 64 from by omega]
theorem cells4 {c : Nat} (hv : scB (c : Int) = true) (h : 65536 ≤ c) (h' : c ≤ 1114111) : (encB c).length = 4 ∧ cellsOf (encB c) = [.int .u8 (240 + (c : Int) / 262144), .int .u8 (128 + (c : Int) / 4096 % 64), .int .u8 (128 + (c : Int) / 64 % 64), .int .u8 (128 + (c : Int) % 64)] := by
  rw [encB, enc4 h (sc_valid hv)]
  refine ⟨rfl, ?_⟩
  simp only [cellsOf, List.map_cons, List.map_nil]
  rw [nat_of (by omega), nat_of (by omega), nat_of (by omega), nat_of (by omega), show ((240 + c / 262144 : Nat) : Int) = 240 + (c : Int) / 262144 from by omega, show ((128 + c / 4096 % 64 : Nat) : Int) = 128 + (c : Int) / 4096 % 64 from by omega, show ((128 + c / 64 % 64 : Nat) : Int) = 128 + (c : Int) / 64 % 64 from by omega, show ((128 + c % 64 : Nat) : Int) = 128 + (c : Int) % 64 from by omega]

set_option maxHeartbeats 1000000 in
theorem bytes_any (c : Nat) (hv : scB (c : Int) = true) (w : World) :
    Calls Try.prog 46 #[.int .i64 c] w fun e w' => e = .returned (.slice (some ⟨w.heap.size, 0, none⟩) (encB c).length (encB c).length) ∧ w' = w.alloc (.cells (cellsOf (encB c)).toArray 5) := by
  have hm : c ≤ 1114111 := by simp [scB, inB] at hv; omega
  by_cases h1 : c < 128
  · have hr : rsz (c : Int) = 1 := by unfold rsz; rw [if_pos hv, if_pos (by omega)]
    rw [(cells1 h1).2, (cells1 h1).1]
    go_enter Try.func46, Try.ntmps46
    go_wp2_with fail
    refine (size_any _ _).mono ?_
    rintro e w' ⟨rfl, rfl⟩
    rw [hr]
    go_wp2
    go_ret
    exact ⟨rfl, rfl⟩
  by_cases h2 : c < 2048
  · have hr : rsz (c : Int) = 2 := by unfold rsz; rw [if_pos hv, if_neg (by omega), if_pos (by omega)]
    rw [(cells2 (by omega) h2).2, (cells2 (by omega) h2).1]
    go_enter Try.func46, Try.ntmps46
    go_wp2_with fail
    refine (size_any _ _).mono ?_
    rintro e w' ⟨rfl, rfl⟩
    rw [hr]
    go_wp2
    go_ret
    exact ⟨rfl, rfl⟩
  by_cases h3 : c < 65536
  · have hr : rsz (c : Int) = 3 := by unfold rsz; rw [if_pos hv, if_neg (by omega), if_neg (by omega), if_pos (by omega)]
    rw [(cells3 hv (by omega) h3).2, (cells3 hv (by omega) h3).1]
    go_enter Try.func46, Try.ntmps46
    go_wp2_with fail
    refine (size_any _ _).mono ?_
    rintro e w' ⟨rfl, rfl⟩
    rw [hr]
    go_wp2
    go_ret
    exact ⟨rfl, rfl⟩
  · have hr : rsz (c : Int) = 4 := by unfold rsz; rw [if_pos hv, if_neg (by omega), if_neg (by omega), if_neg (by omega)]
    rw [(cells4 hv (by omega) hm).2, (cells4 hv (by omega) hm).1]
    go_enter Try.func46, Try.ntmps46
    go_wp2_with fail
    refine (size_any _ _).mono ?_
    rintro e w' ⟨rfl, rfl⟩
    rw [hr]
    go_wp2
    go_ret
    exact ⟨rfl, rfl⟩

/-- What both TextOfRunes functions answer. -/
def TextRet (zs : List Int) (e : Ending) : Prop :=
  (4096 < zs.length ∧ e = .returned (.tuple #[.string ⟨#[]⟩, .int .i64 2])) ∨
  (zs.length ≤ 4096 ∧ (∃ j, j < zs.length ∧ scB (zs.getD j 0) = false) ∧ e = .returned (.tuple #[.string ⟨#[]⟩, .int .i64 4])) ∨
  (zs.length ≤ 4096 ∧ (∀ j, j < zs.length → scB (zs.getD j 0) = true) ∧ e = .returned (.tuple #[.string ⟨(zs.flatMap encB).toArray⟩, .int .i64 0]))
theorem text_same {zs : List Int} {e e' : Ending} (h : TextRet zs e) (h' : TextRet zs e') : ∃ (x : ByteArray) (c : Int), e = .returned (.tuple #[.string x, .int .i64 c]) ∧ e' = .returned (.tuple #[.string x, .int .i64 c]) := by
  rcases h with ⟨a, rfl⟩ | ⟨a, ⟨j, hj, hf⟩, rfl⟩ | ⟨a, a2, rfl⟩ <;> rcases h' with ⟨b, rfl⟩ | ⟨b, ⟨i, hi, hg⟩, rfl⟩ | ⟨b, b2, rfl⟩ <;>
  first | exact ⟨_, _, rfl, rfl⟩ | (exfalso; omega) | (exfalso; have := a2 i hi; rw [hg] at this; cases this) | (exfalso; have := b2 j hj; rw [hf] at this; cases this)
theorem enc_len (r : Int) : (encB r).length ≤ 4 := by
  have := encode_size_le r
  rw [Lib.size_eq] at this
  exact this
theorem flat_len (l : List Int) : (l.flatMap encB).length ≤ 4 * l.length := by
  induction l with
  | nil => simp
  | cons a l ih =>
    have := enc_len a
    simp only [List.flatMap_cons, List.length_append, List.length_cons]
    omega
theorem flat_runes (zs : List Int) : runesBytes zs = ⟨(zs.flatMap encB).toArray⟩ := by
  refine bytes_ext ?_
  have key : ∀ (l : List Int) (b : ByteArray), (l.foldl (fun r n => r ++ Utf8.encode n) b).data.toList = b.data.toList ++ l.flatMap encB := by
    intro l
    induction l with
    | nil => intro b; simp
    | cons a l ih =>
      intro b
      rw [List.foldl_cons, ih, ByteArray.data_append, Array.toList_append, List.flatMap_cons, List.append_assoc]
      rfl
  rw [runesBytes, key]
  rfl
theorem take_step (zs : List Int) (k : Nat) (h : k < zs.length) : zs.take (k + 1) = zs.take k ++ [zs.getD k 0] := by
  rw [List.take_succ_eq_append_getElem h, List.getD_eq_getElem?_getD, List.getElem?_eq_getElem h]
  rfl
theorem rsz_zero (x : Int) : rsz x = 0 ↔ scB x = false := by
  unfold rsz
  cases h : scB x
  · simp
  · simp only [if_true]
    constructor
    · intro e
      exfalso
      revert e
      (repeat' split) <;> omega
    · intro e; cases e
end Go.Proofs.Ytlnocoppljldbaa.ut
