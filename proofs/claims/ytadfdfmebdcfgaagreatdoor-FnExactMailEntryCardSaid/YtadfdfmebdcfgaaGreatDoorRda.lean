/-
  Contracts of the functions that read a few digits, and that hold a text against a form.
-/
import Derived.Test.YtadfdfmebdcfgaaGreatDoorRdf
import Derived.Test.YtadfdfmebdcfgaaGreatDoorOwn
import Derived.Test.YtadfdfmebdcfgaaGreatDoorRows
import Derived.Below
import Derived.WalkLawsBesides
import Derived.Deep.QuietTactic
import Derived.BigQuiet
import Derived.BigRegion
namespace Go.Proofs.YtadfdfmebdcfgaaGreatDoor.rd
open Go.RowKit
set_option linter.unusedVariables false

theorem len_eq (s : ByteArray) : s.data.toList.length = s.size := rfl
theorem at_eq (s : ByteArray) (k : Nat) (h : k < s.size) : s.data.toList[k]'h = s[k]'h := rfl
theorem getD_eq (s : ByteArray) (k : Nat) (h : k < s.size) : s.data.toList.getD k 0 = s[k]'h := by
  rw [List.getD_eq_getElem?_getD, List.getElem?_eq_getElem (show k < s.data.toList.length from h)]
  rfl

set_option maxHeartbeats 400000 in
theorem isD_any (b : UInt8) (w : World) : Calls Tryz.prog 45 #[.int .u8 (b.toNat : Int)] w fun e w' => e = .returned (.bool (isD b)) ∧ w' = w := by
  by_cases h : 48 ≤ (b.toNat : Int)
  · go_enter Tryz.func45, Tryz.ntmps45
    go_wp2
    all_goals (go_ret; exact ⟨by simp [isD, h], rfl⟩)
  · have h' : decide (48 ≤ (b.toNat : Int)) = false := decide_eq_false h
    go_enter Tryz.func45, Tryz.ntmps45
    go_wp2
    all_goals (go_ret; exact ⟨by rw [show isD b = false from decide_eq_false (by omega)]; rfl, rfl⟩)

set_option maxHeartbeats 1000000 in
theorem num_any (s : ByteArray) (hs : s.size ≤ 4) (hd : dgs s.data.toList = true) (w : World) :
    Calls Tryz.prog 165 #[.string s] w fun e w' => e = .returned (.int .i64 (num s.data.toList)) ∧ w' = w := by
  have HD : Hid (dgs s.data.toList = true) := hd
  clear hd
  go_enter Tryz.func165, Tryz.ntmps165
  go_wp2
  go_loop [3, 4, 7] (fun n _ c => ∃ k : Nat, k ≤ s.size ∧ c = .int .i64 k ∧ n = .int .i64 (num (s.data.toList.take k))) (fun _ _ c => s.size - (intOf c).toNat)
  case atStart => exact ⟨0, Nat.zero_le _, rfl, rfl⟩
  case round =>
    obtain ⟨k, hk, rfl, rfl⟩ := hrel
    have dk : dgs (s.data.toList.take k) = true := dgs_iff.2 fun b hb => dgs_iff.1 HD.out b (List.mem_of_mem_take hb)
    have n0 := num_lo dk
    have n1 := num_hi dk (by rw [List.length_take]; omega)
    clear dk
    by_cases hlt : k < s.size
    · have hb := isD_iff.1 (dgs_iff.1 HD.out (s[k]'hlt) (by rw [← at_eq s k hlt]; exact List.getElem_mem hlt))
      have hn : num (s.data.toList.take (k + 1)) = 10 * num (s.data.toList.take k) + (((s[k]'hlt).toNat : Int) - 48) := by rw [take_more hlt, num_snoc, at_eq s k hlt]
      have HN : Hid (num (s.data.toList.take (k + 1)) = 10 * num (s.data.toList.take k) + (((s[k]'hlt).toNat : Int) - 48)) := hn
      clear hn
      obtain ⟨hb1, hb2⟩ := hb
      generalize num (s.data.toList.take k) = N at n0 n1 HN ⊢
      go_wp2
      go_round
      case rel => exact ⟨k + 1, by omega, by go_num, by rw [HN.out]⟩
      case measure => simp [intOf]; omega
    · have e : s.data.toList.take k = s.data.toList := List.take_of_length_le (by rw [len_eq]; omega)
      rw [e]
      go_wp2
      go_ret
      exact ⟨rfl, rfl⟩

set_option maxHeartbeats 1000000 in
theorem nb_any (s : ByteArray) (hs : s.size ≤ 4) (w : World) :
    Calls Tryz.prog 82 #[.string s] w fun e w' => e = .returned (.int .i64 (nb s.data.toList)) ∧ w' = w := by
  go_enter Tryz.func82, Tryz.ntmps82
  go_wp2
  go_loop [3, 4] (fun n c => ∃ k : Nat, k ≤ s.size ∧ c = .int .i64 k ∧ dgs (s.data.toList.take k) = true ∧ n = .int .i64 (num (s.data.toList.take k))) (fun _ c => s.size - (intOf c).toNat)
  case atStart => exact ⟨0, Nat.zero_le _, rfl, rfl, rfl⟩
  case round =>
    obtain ⟨k, hk, rfl, dk, rfl⟩ := hrel
    have n0 := num_lo dk
    have n1 := num_hi dk (by rw [List.length_take]; omega)
    have DK : Hid (dgs (s.data.toList.take k) = true) := dk
    clear dk
    by_cases hlt : k < s.size
    · have hn : num (s.data.toList.take (k + 1)) = 10 * num (s.data.toList.take k) + (((s[k]'hlt).toNat : Int) - 48) := by rw [take_more hlt, num_snoc, at_eq s k hlt]
      have hdg : dgs (s.data.toList.take (k + 1)) = isD (s[k]'hlt) := by rw [take_more hlt, dgs_snoc, DK.out, at_eq s k hlt]; rfl
      have HN : Hid (num (s.data.toList.take (k + 1)) = 10 * num (s.data.toList.take k) + (((s[k]'hlt).toNat : Int) - 48) ∧ dgs (s.data.toList.take (k + 1)) = isD (s[k]'hlt)) := ⟨hn, hdg⟩
      clear hn hdg
      have hno : Hid (isD (s[k]'hlt) = false → nb s.data.toList = -1) := fun hf => by
        apply nb_no
        cases e : dgs s.data.toList
        · rfl
        · have := dgs_iff.1 e (s[k]'hlt) (by rw [← at_eq s k hlt]; exact List.getElem_mem hlt)
          rw [hf] at this
          cases this
      generalize num (s.data.toList.take k) = N at n0 n1 HN ⊢
      by_cases c1 : ((s[k]'hlt).toNat : Int) < 48
      · go_wp2
        go_ret
        exact ⟨by rw [hno.out (isD_no.2 (.inl c1))]; rfl, rfl⟩
      have b1 : decide (((s[k]'hlt).toNat : Int) < 48) = false := decide_eq_false c1
      by_cases c2 : 57 < ((s[k]'hlt).toNat : Int)
      · go_wp2
        go_ret
        exact ⟨by rw [hno.out (isD_no.2 (.inr c2))]; rfl, rfl⟩
      have b2 : decide (57 < ((s[k]'hlt).toNat : Int)) = false := decide_eq_false c2
      have c1' : 48 ≤ ((s[k]'hlt).toNat : Int) := by omega
      have c2' : ((s[k]'hlt).toNat : Int) ≤ 57 := by omega
      clear c1 c2
      go_wp2
      go_round
      case rel => exact ⟨k + 1, by omega, by go_num, by rw [HN.out.2]; exact isD_iff.2 ⟨c1', c2'⟩, by rw [HN.out.1]; go_num⟩
      case measure => simp [intOf]; omega
    · have e : s.data.toList.take k = s.data.toList := List.take_of_length_le (by rw [len_eq]; omega)
      rw [e] at DK ⊢
      go_wp2
      go_ret
      exact ⟨by rw [nb_yes DK.out]; rfl, rfl⟩
end Go.Proofs.YtadfdfmebdcfgaaGreatDoor.rd
