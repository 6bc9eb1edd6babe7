/-
  Contracts of the functions on names: a letter, a digit, a word, and both NameOK functions answer whether a text is a name, and leave the world as it was.
  Contracts of the program's quoted text.
-/
import Derived.Test.YtbokolpjdaamiaaGreatDoorRows
import Derived.WalkKit
import Derived.WalkLawsBesides
import Derived.Test.YtbokolpjdaamiaaGreatDoorPkah
import Derived.Test.YtbokolpjdaamiaaGreatDoorPkaf
import Derived.Laws.BitsAll
import Derived.Deep.DeepCutAuto
import Derived.Deep.Cut
import Derived.Deep.CutRange
import Derived.BigRegion

namespace Go.Proofs.YtbokolpjdaamiaaGreatDoor.nm
open Go.RowKit
set_option linter.unusedVariables false

def letB (c : Int) : Bool := decide (97 ≤ c ∧ c ≤ 122 ∨ 65 ≤ c ∧ c ≤ 90 ∨ c = 95)
def digB (c : Int) : Bool := decide (48 ≤ c ∧ c ≤ 57)

theorem ret_bool {a b : Bool} (h : a = b) : Ending.returned (.bool a) = .returned (.bool b) := by rw [h]


set_option maxHeartbeats 400000 in
theorem letter_any (c : Int) (w : World) : Calls Tryz.prog 48 #[.int .u8 c] w fun e w' => e = .returned (.bool (letB c)) ∧ w' = w := by
  go_enter Tryz.func48, Tryz.ntmps48
  go_wp2
  all_goals (go_ret; exact ⟨ret_bool (by rw [Bool.eq_iff_iff]; simp [letB]; omega), rfl⟩)


set_option maxHeartbeats 400000 in
theorem digit_any (c : Int) (w : World) : Calls Tryz.prog 49 #[.int .u8 c] w fun e w' => e = .returned (.bool (digB c)) ∧ w' = w := by
  go_enter Tryz.func49, Tryz.ntmps49
  go_wp2
  all_goals (go_ret; exact ⟨ret_bool (by simp [digB]; omega), rfl⟩)

/-- The byte at a place may stand there in a name. -/
def good (s : ByteArray) (j : Nat) : Prop := ∃ h : j < s.size, letB ((s[j]'h).toNat : Int) = true ∨ (0 < j ∧ digB ((s[j]'h).toNat : Int) = true)
/-- A text is a name. -/
def IsName (s : ByteArray) : Prop := 1 ≤ s.size ∧ s.size ≤ 40 ∧ ∀ j, j < s.size → good s j

/-- What a call on a name answers: a bool that says whether it is one. -/
def NameRet (s : ByteArray) (e : Ending) : Prop := ∃ b : Bool, e = .returned (.bool b) ∧ (b = true ↔ IsName s)

theorem not_name {s : ByteArray} {k : Nat} (h : k < s.size) (hl : ¬ letB ((s[k]'h).toNat : Int) = true) (hd : k = 0 ∨ digB ((s[k]'h).toNat : Int) = false) : NameRet s (.returned (.bool false)) := by
  refine ⟨false, rfl, ?_⟩
  constructor
  · intro x; cases x
  · rintro ⟨_, _, hg⟩
    obtain ⟨h', hx⟩ := hg k h
    rcases hx with hx | ⟨hp, hx⟩
    · exact absurd hx hl
    · rcases hd with rfl | hd
      · omega
      · rw [hd] at hx; cases hx
theorem no_size {s : ByteArray} (h : s.size = 0 ∨ 40 < s.size) : NameRet s (.returned (.bool false)) :=
  ⟨false, rfl, ⟨fun x => (by cases x), fun x => (by have h1 := x.1; have h2 := x.2.1; omega)⟩⟩
theorem yes_name {s : ByteArray} (h1 : 1 ≤ s.size) (h2 : s.size ≤ 40) (hg : ∀ j, j < s.size → good s j) : NameRet s (.returned (.bool true)) :=
  ⟨true, rfl, ⟨fun _ => ⟨h1, h2, hg⟩, fun _ => rfl⟩⟩
theorem step {s : ByteArray} {k : Nat} (hg : ∀ j, j < k → good s j) (h : k < s.size) (hx : letB ((s[k]'h).toNat : Int) = true ∨ (0 < k ∧ digB ((s[k]'h).toNat : Int) = true)) : ∀ j, j < k + 1 → good s j := by
  intro j hj
  by_cases e : j = k
  · subst e; exact ⟨h, hx⟩
  · exact hg j (by omega)
theorem same_ret {s : ByteArray} {a b : Bool} (h1 : NameRet s (.returned (.bool a))) (h2 : NameRet s (.returned (.bool b))) : a = b := by
  obtain ⟨x, hx, h1⟩ := h1
  obtain ⟨y, hy, h2⟩ := h2
  cases hx; cases hy
  exact Bool.eq_iff_iff.2 (h1.trans h2.symm)
theorem ret_ex {s : ByteArray} {e : Ending} (h : NameRet s e) : ∃ b : Bool, e = .returned (.bool b) := ⟨h.choose, h.choose_spec.1⟩


set_option maxHeartbeats 1000000 in
theorem word_any (s : ByteArray) (w : World) (hs : s.size ≤ 1048576) :
    Calls Tryz.prog 24 #[.string s] w fun e w' => NameRet s e ∧ w' = w := by
  by_cases h0 : s.size = 0
  · have b0 : (s.size : Int) < 1 := by omega
    go_enter Tryz.func24, Tryz.ntmps24
    go_wp2
    go_ret
    exact ⟨no_size (.inl h0), rfl⟩
  have b0 : (1 : Int) ≤ (s.size : Int) := by omega
  by_cases h4 : 40 < s.size
  · have h4' : (40 : Int) < (s.size : Int) := by omega
    go_enter Tryz.func24, Tryz.ntmps24
    go_wp2
    go_ret
    exact ⟨no_size (.inr h4), rfl⟩
  have h4' : (s.size : Int) ≤ 40 := by omega
  have hp : 0 < s.size := by omega
  by_cases hl0 : letB ((s[0]'hp).toNat : Int) = true
  case neg =>
    go_enter Tryz.func24, Tryz.ntmps24
    go_wp2_with (go_at_call 48; refine (letter_any _ _).mono ?_; rintro e w' ⟨rfl, rfl⟩)
    go_ret
    exact ⟨not_name hp hl0 (.inl rfl), rfl⟩
  have HL : Hid (letB ((s[0]'hp).toNat : Int) = true) := hl0
  go_enter Tryz.func24, Tryz.ntmps24
  go_wp2_with (go_at_call 48; refine (letter_any _ _).mono ?_; rintro e w' ⟨rfl, rfl⟩)
  go_loop [3] (fun i => ∃ k : Nat, 1 ≤ k ∧ k ≤ s.size ∧ i = .int .i64 k ∧ ∀ j, j < k → good s j) (fun i => s.size - (intOf i).toNat)
  case atStart => exact ⟨1, Nat.le_refl _, hp, rfl, step (k := 0) (fun j hj => absurd hj (Nat.not_lt_zero _)) hp (.inl HL.out)⟩
  case round =>
    obtain ⟨k, hk1, hk, rfl, hg⟩ := hrel
    have HG : Hid (∀ j, j < k → good s j) := hg
    clear hg
    by_cases hlt : k < s.size
    · go_wp2_with (first | (go_at_call 48; refine (letter_any _ _).mono ?_; rintro e w' ⟨rfl, rfl⟩) | (go_at_call 49; refine (digit_any _ _).mono ?_; rintro e w' ⟨rfl, rfl⟩))
      · go_round
        case rel => exact ⟨k + 1, by omega, by omega, by go_num, step HG.out hlt (.inl ‹_›)⟩
        case measure => simp [intOf]; omega
      · go_ret
        exact ⟨not_name hlt ‹_› (by rename_i h; simp at h; exact .inr h), rfl⟩
      · go_round
        case rel => exact ⟨k + 1, by omega, by omega, by go_num, step HG.out hlt (.inr ⟨by omega, by rename_i h; simpa using h⟩)⟩
        case measure => simp [intOf]; omega
    · go_wp2
      go_ret
      exact ⟨yes_name (by omega) (by omega) (fun j hj => HG.out j (by omega)), rfl⟩

theorem specName_any (s : ByteArray) (w : World) (hs : s.size ≤ 1048576) :
    Calls Tryz.prog 10 #[.string s] w fun e w' => NameRet s e ∧ w' = w := by
  go_enter Tryz.func10, Tryz.ntmps10
  go_wp2_with fail
  refine (word_any s _ hs).mono ?_
  rintro e w' ⟨hn, rfl⟩
  obtain ⟨b, rfl⟩ := ret_ex hn
  go_wp2
  go_ret
  exact ⟨hn, rfl⟩
end Go.Proofs.YtbokolpjdaamiaaGreatDoor.nm

namespace Go.Proofs.YtbokolpjdaamiaaGreatDoor.qu
open Go.RowKit
set_option linter.unusedVariables false


theorem js13 : ∀ c : UInt8, ((c.toNat : Int) == 61) = (c == 61) := fun c => b6.byte_all (p := fun c => ((c.toNat : Int) == 61) = (c == 61)) (by decide +kernel) c
theorem js32 : ∀ c : UInt8, ((c.toNat : Int) == 32) = (c == 32) := fun c => b6.byte_all (p := fun c => ((c.toNat : Int) == 32) = (c == 32)) (by decide +kernel) c

theorem and15 (x : Nat) (h : x < 256) : bits .and .u8 (x : Int) 15 = ((x % 16 : Nat) : Int) := by
  have := bits_mask .u8 8 (by decide) wraps_u8 4 (by decide) (x : Int) (by omega) (by omega)
  have e : ((2 : Int) ^ 4 - 1) = 15 := by decide
  rw [e] at this
  rw [this]
  omega
theorem conv_new (w : World) (l : List UInt8) (hl : l.length ≤ 1000) : (convert 22 9 (.slice (some ⟨w.heap.size, 0, none⟩) l.length l.length)).run Tryz.prog (w.alloc (.cells (Lib.byteCells l).toArray 5)) = .ok (.string ⟨l.toArray⟩) (w.alloc (.cells (Lib.byteCells l).toArray 5)) := by
  refine ow.conv_bytes (base := w.heap.size) (n := l.length) (e := 5) l ⟨by simp, .inr ⟨w.heap.size, l.length, (Lib.byteCells l).toArray, rfl, Nat.le_refl _, heap_alloc_new w _, Nat.le_refl _, by unfold maxLen; omega, by simp [Lib.byteCells_length], ?_⟩⟩ Tryz.underlying22 Tryz.underlying5 Tryz.underlying9
  rw [Nat.mul_one]
  exact List.take_of_length_le (Nat.le_of_eq (Lib.byteCells_length l))


theorem ext_drop (r : ByteArray) (p : Nat) (h : p ≤ r.size) : (r.extract p r.size).data.toList = r.data.toList.drop p := by
  rw [Lib.extract_data]
  exact List.take_of_length_le (by rw [List.length_drop]; exact Nat.le_refl _)
theorem ext_size (r : ByteArray) (p : Nat) (h : p ≤ r.size) : (r.extract p r.size).size = r.size - p := by
  have : (r.extract p r.size).size = (r.extract p r.size).data.toList.length := rfl
  rw [this, ext_drop r p h, List.length_drop]
  rfl
theorem str_first (s : ByteArray) (hj : 0 < s.size) (wx : World) : (Instr.index 9 (.string s) (.int .i64 0)).run Tryz.prog wx = .ok (.int .u8 ((s.data.toList.getD 0 0).toNat : Int)) wx := by
  have hc : s.data.toList.getD 0 0 = s[0]'hj := by
    rw [List.getD_eq_getElem?_getD, Array.getElem?_toList, Array.getElem?_eq_getElem (show 0 < s.data.size from hj)]
    rfl
  rw [run_index_string wx 9 s .i64 0 Tryz.underlying9, dif_pos ⟨by omega, by omega⟩, hc]
  rfl
/-- The size of a text. -/
def sz (v : Value) : Nat := match v with
  | .string s => s.size
  | _ => 0
theorem prefix_crlf (s : ByteArray) : Lib.hasPrefix s.data.toList (⟨#[13, 10]⟩ : ByteArray).data.toList = crlf s.data.toList := by
  unfold Lib.hasPrefix
  match h : s.data.toList with
  | [] => rfl
  | [a] => simp [crlf, List.isPrefixOf]
  | a :: b :: r =>
    rw [Bool.eq_iff_iff, List.isPrefixOf_iff_prefix, crlf_iff]
    constructor
    · rintro ⟨t, ht⟩
      exact ⟨t, ht.symm⟩
    · rintro ⟨t, ht⟩
      exact ⟨t, ht.symm⟩
set_option maxHeartbeats 1000000 in
theorem pre_any (s : ByteArray) (w : World) : Calls Tryz.prog 119 #[.string s, .string ⟨#[13, 10]⟩] w fun e w' => e = .returned (.bool (crlf s.data.toList)) ∧ w' = w := by
  have := Tryz.strings_HasPrefix s ⟨#[13, 10]⟩ w
  rw [prefix_crlf] at this
  exact this

end Go.Proofs.YtbokolpjdaamiaaGreatDoor.qu
