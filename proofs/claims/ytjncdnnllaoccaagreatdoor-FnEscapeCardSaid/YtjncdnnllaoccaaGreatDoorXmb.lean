/-
  Contracts of both XmlNameOK functions: whether a text is a name of XML.
-/
import Derived.Test.YtjncdnnllaoccaaGreatDoorXma
import Derived.Lib.Strings
namespace Go.Proofs.YtjncdnnllaoccaaGreatDoor.xm
open Go.RowKit
set_option linter.unusedVariables false

def gon (c : UInt8) : Bool := gonB (c.toNat : Int)
/-- A list of bytes is a name of XML. -/
def okName (l : List UInt8) : Bool := decide (1 ≤ l.length ∧ l.length ≤ 40) && letB ((l.getD 0 0).toNat : Int) && l.all gon

theorem take_snoc (s : ByteArray) (k : Nat) (h : k < s.size) : s.data.toList.take (k + 1) = s.data.toList.take k ++ [s[k]] := by
  have hl : k < s.data.toList.length := by rw [← Lib.size_eq]; exact h
  rw [List.take_succ_eq_append_getElem hl]
  rfl
theorem take_all (s : ByteArray) (k : Nat) (h : s.size ≤ k) : s.data.toList.take k = s.data.toList := List.take_of_length_le (by rw [← Lib.size_eq]; exact h)
theorem all_step {s : ByteArray} {p : UInt8 → Bool} {k : Nat} (h : k < s.size) (ha : (s.data.toList.take k).all p = true) (hp : p s[k] = true) : (s.data.toList.take (k + 1)).all p = true := by
  rw [take_snoc s k h, List.all_append, ha]; simp [hp]
theorem all_no {s : ByteArray} {p : UInt8 → Bool} {k : Nat} (h : k < s.size) (hp : p s[k] = false) : s.data.toList.all p = false := by
  cases hc : s.data.toList.all p
  · rfl
  · have hm : s[k] ∈ s.data.toList := by
      have hl : k < s.data.toList.length := by rw [← Lib.size_eq]; exact h
      have : s[k] = s.data.toList[k] := rfl
      rw [this]; exact List.getElem_mem hl
    rw [List.all_eq_true.1 hc _ hm] at hp; cases hp
theorem head_at (s : ByteArray) (h : 0 < s.size) : s.data.toList.getD 0 0 = s[0] := by
  have hl : 0 < s.data.toList.length := by rw [← Lib.size_eq]; exact h
  rw [List.getD_eq_getElem?_getD, List.getElem?_eq_getElem hl]
  rfl
theorem no_size {s : ByteArray} (h : s.size = 0 ∨ 40 < s.size) : okName s.data.toList = false := by
  have : ¬ (1 ≤ s.data.toList.length ∧ s.data.toList.length ≤ 40) := by rw [← Lib.size_eq]; omega
  unfold okName; rw [decide_eq_false this]; rfl
theorem no_head {s : ByteArray} (h : 0 < s.size) (hb : letB ((s[0]'h).toNat : Int) = false) : okName s.data.toList = false := by
  unfold okName; rw [head_at s h, hb]; simp
theorem no_byte {s : ByteArray} {k : Nat} (h : k < s.size) (hb : gon s[k] = false) : okName s.data.toList = false := by
  unfold okName; rw [all_no h hb]; simp
theorem yes_name {s : ByteArray} (h0 : 0 < s.size) (h1 : s.size ≤ 40) (hb : letB ((s[0]'h0).toNat : Int) = true) (ha : s.data.toList.all gon = true) : okName s.data.toList = true := by
  have : 1 ≤ s.data.toList.length ∧ s.data.toList.length ≤ 40 := by rw [← Lib.size_eq]; omega
  unfold okName; rw [head_at s h0, hb, ha]; simp only [this]; rfl

set_option maxHeartbeats 400000 in
theorem begins_any (c : Int) (w : World) : Calls Tryz.prog 29 #[.int .u8 c] w fun e w' => e = .returned (.bool (letB c)) ∧ w' = w := by
  go_enter Tryz.func29, Tryz.ntmps29
  go_wp2
  all_goals (go_ret; exact ⟨ret_bool (by rw [Bool.eq_iff_iff]; simp [letB] <;> omega), rfl⟩)
set_option maxHeartbeats 400000 in
theorem isDigit_any (c : Int) (w : World) : Calls Tryz.prog 60 #[.int .u8 c] w fun e w' => e = .returned (.bool (digB c)) ∧ w' = w := by
  go_enter Tryz.func60, Tryz.ntmps60
  go_wp2
  all_goals (go_ret; exact ⟨ret_bool (by simp [digB] <;> omega), rfl⟩)
set_option maxHeartbeats 400000 in
theorem letter_any (c : Int) (w : World) : Calls Tryz.prog 123 #[.int .u8 c] w fun e w' => e = .returned (.bool (letB c)) ∧ w' = w := by
  go_enter Tryz.func123, Tryz.ntmps123
  go_wp2
  all_goals (go_ret; exact ⟨ret_bool (by rw [Bool.eq_iff_iff]; simp [letB] <;> omega), rfl⟩)
set_option maxHeartbeats 400000 in
theorem more_any (c : Int) (w : World) : Calls Tryz.prog 124 #[.int .u8 c] w fun e w' => e = .returned (.bool (morB c)) ∧ w' = w := by
  go_enter Tryz.func124, Tryz.ntmps124
  go_wp2
  all_goals (go_ret; exact ⟨ret_bool (by rw [Bool.eq_iff_iff]; simp [morB] <;> omega), rfl⟩)

set_option maxHeartbeats 400000 in
theorem goes_any (c : Int) (w : World) : Calls Tryz.prog 30 #[.int .u8 c] w fun e w' => e = .returned (.bool (gonB c)) ∧ w' = w := by
  cases hl : letB c
  case true =>
    go_enter Tryz.func30, Tryz.ntmps30
    go_wp2_with fail
    refine (begins_any c _).mono ?_
    rintro e w' ⟨rfl, rfl⟩
    rw [hl]
    go_wp2
    go_ret
    exact ⟨ret_bool (by simp [gonB, hl]), rfl⟩
  cases hd : digB c
  case true =>
    go_enter Tryz.func30, Tryz.ntmps30
    go_wp2_with fail
    refine (begins_any c _).mono ?_
    rintro e w' ⟨rfl, rfl⟩
    rw [hl]
    go_wp2_with fail
    refine (isDigit_any c _).mono ?_
    rintro e w' ⟨rfl, rfl⟩
    rw [hd]
    go_wp2
    go_ret
    exact ⟨ret_bool (by simp [digB] at hd; symm; simp [gonB, morB]; omega), rfl⟩
  go_enter Tryz.func30, Tryz.ntmps30
  go_wp2_with fail
  refine (begins_any c _).mono ?_
  rintro e w' ⟨rfl, rfl⟩
  rw [hl]
  go_wp2_with fail
  refine (isDigit_any c _).mono ?_
  rintro e w' ⟨rfl, rfl⟩
  rw [hd]
  go_wp2
  all_goals (go_ret; exact ⟨ret_bool (by simp [digB] at hd; rw [Bool.eq_iff_iff]; simp [gonB, hl, morB]; omega), rfl⟩)

set_option maxHeartbeats 1000000 in
theorem impl_name (s : ByteArray) (w : World) (hs : s.size ≤ 1048576) :
    Calls Tryz.prog 11 #[.string s] w fun e w' => e = .returned (.bool (okName s.data.toList)) ∧ w' = w := by
  by_cases h0 : s.size = 0
  · have b0 : ((s.size : Int) == 0) = true := beq_iff_eq.2 (by omega)
    go_enter Tryz.func11, Tryz.ntmps11
    go_wp2
    go_ret
    exact ⟨ret_bool (no_size (.inl h0)).symm, rfl⟩
  have b0 : ((s.size : Int) == 0) = false := beq_eq_false_iff_ne.2 (by omega)
  by_cases h4 : 40 < s.size
  · have h4' : (40 : Int) < (s.size : Int) := by omega
    go_enter Tryz.func11, Tryz.ntmps11
    go_wp2
    go_ret
    exact ⟨ret_bool (no_size (.inr h4)).symm, rfl⟩
  have h4' : (s.size : Int) ≤ 40 := by omega
  have hp : 0 < s.size := by omega
  cases hl : letB ((s[0]'hp).toNat : Int)
  case false =>
    go_enter Tryz.func11, Tryz.ntmps11
    go_wp2_with fail
    refine (begins_any _ _).mono ?_
    rintro e w' ⟨rfl, rfl⟩
    rw [hl]
    go_wp2
    go_ret
    exact ⟨ret_bool (no_head hp hl).symm, rfl⟩
  go_enter Tryz.func11, Tryz.ntmps11
  go_wp2_with fail
  refine (begins_any _ _).mono ?_
  rintro e w' ⟨rfl, rfl⟩
  rw [hl]
  go_wp2
  go_loop [20] (fun i => ∃ k : Nat, k ≤ s.size ∧ i = .int .i64 k ∧ (s.data.toList.take k).all gon = true) (fun i => s.size - (intOf i).toNat)
  case atStart => exact ⟨0, Nat.zero_le _, rfl, rfl⟩
  case round =>
    obtain ⟨k, hk, rfl, hg⟩ := hrel
    have HG : Hid ((s.data.toList.take k).all gon = true) := hg
    clear hg
    by_cases hlt : k < s.size
    · cases hc : gon s[k]
      · go_wp2_with fail
        refine (goes_any _ _).mono ?_
        rintro e w' ⟨rfl, rfl⟩
        rw [show gonB (((s[k]'hlt).toNat : Nat) : Int) = false from hc]
        go_wp2
        go_ret
        exact ⟨ret_bool (no_byte hlt hc).symm, rfl⟩
      · go_wp2_with fail
        refine (goes_any _ _).mono ?_
        rintro e w' ⟨rfl, rfl⟩
        rw [show gonB (((s[k]'hlt).toNat : Nat) : Int) = true from hc]
        go_wp2
        go_round
        case rel => exact ⟨k + 1, by omega, by go_num, all_step hlt HG.out hc⟩
        case measure => simp [intOf]; omega
    · go_wp2
      go_ret
      exact ⟨ret_bool (yes_name hp (by omega) hl (by rw [← take_all s k (by omega)]; exact HG.out)).symm, rfl⟩
set_option maxHeartbeats 1000000 in
theorem spec_name (s : ByteArray) (w : World) (hs : s.size ≤ 1048576) :
    Calls Tryz.prog 125 #[.string s] w fun e w' => e = .returned (.bool (okName s.data.toList)) ∧ w' = w := by
  by_cases hb : 65536 < s.size
  · have hb' : (65536 : Int) < (s.size : Int) := by omega
    go_enter Tryz.func125, Tryz.ntmps125
    go_wp2
    go_ret
    exact ⟨ret_bool (no_size (by omega)).symm, rfl⟩
  have hb' : (s.size : Int) ≤ 65536 := by omega
  by_cases h4 : s.size = 0 ∨ 40 < s.size
  · go_enter Tryz.func125, Tryz.ntmps125
    go_wp2_with fail
    refine (ut.in_any _ _ _ _).mono ?_
    rintro e w' ⟨rfl, rfl⟩
    rw [show ut.inB (s.size : Int) 1 40 = false by simp [ut.inB]; omega]
    go_wp2
    go_ret
    exact ⟨ret_bool (no_size h4).symm, rfl⟩
  have h1 : 0 < s.size := by omega
  go_enter Tryz.func125, Tryz.ntmps125
  go_wp2_with fail
  refine (ut.in_any _ _ _ _).mono ?_
  rintro e w' ⟨rfl, rfl⟩
  rw [show ut.inB (s.size : Int) 1 40 = true by simp [ut.inB]; omega]
  go_wp2
  go_loop [3] (fun i => ∃ k : Nat, k ≤ s.size ∧ i = .int .i64 k ∧ (s.data.toList.take k).all gon = true ∧ (k = 0 ∨ letB ((s[0]'h1).toNat : Int) = true)) (fun i => s.size - (intOf i).toNat)
  case atStart => exact ⟨0, Nat.zero_le _, rfl, rfl, .inl rfl⟩
  case round =>
    obtain ⟨k, hk, rfl, hg, hh⟩ := hrel
    have HG : Hid ((s.data.toList.take k).all gon = true) := hg
    have HH : Hid (k = 0 ∨ letB ((s[0]'h1).toNat : Int) = true) := hh
    clear hg hh
    by_cases hlt : k < s.size
    · cases hl : letB ((s[k]'hlt).toNat : Int)
      · by_cases hk0 : k = 0
        · subst hk0
          go_wp2_with fail
          refine (letter_any _ _).mono ?_
          rintro e w' ⟨rfl, rfl⟩
          rw [hl]
          go_wp2
          go_ret
          exact ⟨ret_bool (no_head h1 hl).symm, rfl⟩
        · have b0 : ((k : Int) == 0) = false := beq_eq_false_iff_ne.2 (by omega)
          have HL : Hid (letB ((s[k]'hlt).toNat : Int) = false) := hl
          cases hm : morB ((s[k]'hlt).toNat : Int)
          · go_wp2_with fail
            refine (letter_any _ _).mono ?_
            rintro e w' ⟨rfl, rfl⟩
            rw [hl]
            go_wp2_with fail
            refine (more_any _ _).mono ?_
            rintro e w' ⟨rfl, rfl⟩
            rw [hm]
            go_wp2
            go_ret
            exact ⟨ret_bool (by symm; exact no_byte hlt (by show gonB _ = false; rw [gonB, HL.out, hm]; rfl)), rfl⟩
          · go_wp2_with fail
            refine (letter_any _ _).mono ?_
            rintro e w' ⟨rfl, rfl⟩
            rw [hl]
            go_wp2_with fail
            refine (more_any _ _).mono ?_
            rintro e w' ⟨rfl, rfl⟩
            rw [hm]
            go_wp2
            go_round
            case rel => exact ⟨k + 1, by omega, by go_num, all_step hlt HG.out (by show gonB _ = true; rw [gonB, hm]; simp), .inr (HH.out.resolve_left hk0)⟩
            case measure => simp [intOf]; omega
      · have HL : Hid (letB ((s[k]'hlt).toNat : Int) = true) := hl
        go_wp2_with fail
        refine (letter_any _ _).mono ?_
        rintro e w' ⟨rfl, rfl⟩
        rw [hl]
        go_wp2
        go_round
        case rel => exact ⟨k + 1, by omega, by go_num, all_step hlt HG.out (by show gonB _ = true; rw [gonB, HL.out]; simp), .inr (by by_cases hk0 : k = 0; subst hk0; exact HL.out; exact HH.out.resolve_left hk0)⟩
        case measure => simp [intOf]; omega
    · go_wp2
      go_ret
      exact ⟨ret_bool (yes_name h1 (by omega) (HH.out.resolve_left (by omega)) (by rw [← take_all s k (by omega)]; exact HG.out)).symm, rfl⟩
end Go.Proofs.YtjncdnnllaoccaaGreatDoor.xm
