/-
  The contract of the specification's LongestLine.
-/
import Derived.Test.YtpbmofofigkpjaaDoorLop
import Derived.Test.YtpbmofofigkpjaaDoorRows
import Derived.WalkKit
import Derived.WalkLawsBesides
namespace Go.Proofs.YtpbmofofigkpjaaDoor.ln
open Go.RowKit
set_option linter.unusedVariables false

theorem drop_at (s : ByteArray) (i : Nat) (h : i < s.size) : s.data.toList.drop i = s[i] :: s.data.toList.drop (i + 1) := by
  rw [List.drop_eq_getElem_cons (by simpa using h)]
  rfl
theorem crlf_yes {s : ByteArray} {i : Nat} (h : i + 1 < s.size) (h1 : ((s[i]'(by omega)).toNat : Int) = 13) (h2 : ((s[i + 1]'h).toNat : Int) = 10) : s.data.toList.drop i = 13 :: 10 :: s.data.toList.drop (i + 2) := by
  rw [drop_at s i (by omega), drop_at s (i + 1) h]
  have e1 : s[i] = 13 := by rw [← UInt8.toNat_inj]; exact Int.ofNat.inj h1
  have e2 : s[i + 1] = 10 := by rw [← UInt8.toNat_inj]; exact Int.ofNat.inj h2
  rw [e1, e2]
theorem crlf_no {s : ByteArray} {i : Nat} (h : i < s.size) (hx : ((s[i]'h).toNat : Int) ≠ 13 ∨ s.size ≤ i + 1 ∨ ∃ h1 : i + 1 < s.size, ((s[i + 1]'h1).toNat : Int) ≠ 10) : qu.crlf (s.data.toList.drop i) = false := by
  rw [Bool.eq_false_iff]
  intro hc
  obtain ⟨r, hr⟩ := qu.crlf_iff.1 hc
  rw [drop_at s i h] at hr
  have e1 : s[i] = 13 := (List.cons.inj hr).1
  have e2 := (List.cons.inj hr).2
  rcases hx with hx | hx | ⟨h1, hx⟩
  · rw [e1] at hx; exact hx rfl
  · rw [List.drop_eq_nil_of_le (by rw [← Lib.size_eq]; omega)] at e2
    cases e2
  · rw [drop_at s (i + 1) h1] at e2
    have e3 : s[i + 1] = 10 := (List.cons.inj e2).1
    rw [e3] at hx
    exact hx rfl
def lret (s : ByteArray) : Int := if s.size ≤ 65536 then (ll s.data.toList : Int) else 0

set_option maxHeartbeats 2000000 in
set_option maxRecDepth 100000 in
theorem spec_any (s : ByteArray) (w : World) (hs : s.size ≤ maxLen) :
    Calls Tryd.prog 13 #[.string s] w fun e w' => e = .returned (.int .i64 (lret s)) ∧ w' = w := by
  unfold maxLen at hs
  by_cases h : s.size ≤ 65536
  case neg =>
    have h' : (65536 : Int) < (s.size : Int) := by omega
    have HL : Hid (lret s = 0) := if_neg h
    go_enter Tryd.func13, Tryd.ntmps13
    go_wp2
    go_ret
    exact ⟨by rw [HL.out]; rfl, rfl⟩
  have h' : (s.size : Int) ≤ 65536 := by omega
  have HL : Hid (lret s = (ll s.data.toList : Int)) := if_pos h
  go_enter Tryd.func13, Tryd.ntmps13
  go_wp2
  go_loop [3, 4, 5] (fun b w i => ∃ k wd best : Nat, k ≤ s.size ∧ i = .int .i64 k ∧ w = .int .i64 wd ∧ b = .int .i64 best ∧ wd ≤ k ∧ best ≤ k ∧ qu.llw wd best (s.data.toList.drop k) = ll s.data.toList) (fun _ _ i => s.size - (intOf i).toNat)
  case atStart => exact ⟨0, 0, 0, Nat.zero_le _, rfl, rfl, rfl, Nat.le_refl _, Nat.le_refl _, rfl⟩
  case round =>
    obtain ⟨k, wd, best, hk, rfl, rfl, rfl, hwd, hbe, hg⟩ := hrel
    have HG : Hid (qu.llw wd best (s.data.toList.drop k) = ll s.data.toList) := hg
    clear hg
    have b1 : (wd : Int) ≤ 65536 := by omega
    have b2 : (best : Int) ≤ 65536 := by omega
    by_cases hlt : k < s.size
    case neg =>
      have hlt' : (s.size : Int) ≤ (k : Int) := by omega
      have HE : Hid (best = ll s.data.toList) := by have := HG.out; rw [List.drop_eq_nil_of_le (by rw [← Lib.size_eq]; omega), qu.llw_nil] at this; exact this
      go_wp2
      go_ret
      exact ⟨by rw [HL.out, ← HE.out]; rfl, rfl⟩
    have hlt' : (k : Int) < (s.size : Int) := by omega
    by_cases hc : ((s[k]'hlt).toNat : Int) = 13
    · have d1 : (((s[k]'hlt).toNat : Int) == 13) = true := beq_iff_eq.2 hc
      have HC : Hid (((s[k]'hlt).toNat : Int) = 13) := hc
      clear hc
      by_cases h2 : k + 1 < s.size
      · have d2 : decide ((k : Int) + 1 < (s.size : Int)) = true := decide_eq_true (by omega)
        by_cases hc2 : ((s[k + 1]'h2).toNat : Int) = 10
        · have d3 : (((s[k + 1]'h2).toNat : Int) == 10) = true := beq_iff_eq.2 hc2
          have HC2 : Hid (((s[k + 1]'h2).toNat : Int) = 10) := hc2
          clear hc2
          go_wp2
          go_round
          case rel => exact ⟨k + 2, 0, best, by omega, by go_num, rfl, rfl, by omega, by omega, by have := HG.out; rw [crlf_yes h2 HC.out HC2.out, qu.llw_crlf] at this; exact this⟩
          case measure => simp [intOf]; omega
        · have d3 : (((s[k + 1]'h2).toNat : Int) == 10) = false := beq_eq_false_iff_ne.2 hc2
          have HN : Hid (qu.llw (wd + 1) (max best (wd + 1)) (s.data.toList.drop (k + 1)) = ll s.data.toList) := by
            have h1 := HG.out
            have h3 := crlf_no hlt (.inr (.inr ⟨h2, hc2⟩))
            rw [drop_at s k hlt] at h1 h3
            rw [qu.llw_no h3] at h1
            exact h1
          go_wp2
          go_round
          case rel => exact ⟨k + 1, wd + 1, max best (wd + 1), by omega, by go_num, by go_num, by go_num, by omega, by omega, HN.out⟩
          case measure => simp [intOf]; omega
      · have d2 : decide ((k : Int) + 1 < (s.size : Int)) = false := decide_eq_false (by omega)
        have HN : Hid (qu.llw (wd + 1) (max best (wd + 1)) (s.data.toList.drop (k + 1)) = ll s.data.toList) := by
          have h1 := HG.out
          have h3 := crlf_no hlt (.inr (.inl (by omega)))
          rw [drop_at s k hlt] at h1 h3
          rw [qu.llw_no h3] at h1
          exact h1
        go_wp2
        go_round
        case rel => exact ⟨k + 1, wd + 1, max best (wd + 1), by omega, by go_num, by go_num, by go_num, by omega, by omega, HN.out⟩
        case measure => simp [intOf]; omega
    · have d1 : (((s[k]'hlt).toNat : Int) == 13) = false := beq_eq_false_iff_ne.2 hc
      have HN : Hid (qu.llw (wd + 1) (max best (wd + 1)) (s.data.toList.drop (k + 1)) = ll s.data.toList) := by
        have h1 := HG.out
        have h3 := crlf_no hlt (.inl hc)
        rw [drop_at s k hlt] at h1 h3
        rw [qu.llw_no h3] at h1
        exact h1
      go_wp2
      go_round
      case rel => exact ⟨k + 1, wd + 1, max best (wd + 1), by omega, by go_num, by go_num, by go_num, by omega, by omega, HN.out⟩
      case measure => simp [intOf]; omega
end Go.Proofs.YtpbmofofigkpjaaDoor.ln
