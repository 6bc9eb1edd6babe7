/-
  The contract of the specification's l03Plain: whether a text stays as it is in a field.
-/
import Derived.Test.YtpbmofofigkpjaaDoorEnw
import Derived.Test.YtpbmofofigkpjaaDoorSvw
namespace Go.Proofs.YtpbmofofigkpjaaDoor.hd
open Go.RowKit
set_option linter.unusedVariables false

theorem at_some (s : ByteArray) (k : Nat) (h : k < s.size) : s.data.toList[k]? = some s[k] := by
  rw [List.getElem?_eq_getElem (by simpa using h)]; rfl
theorem byte_is {c : UInt8} {n : Nat} (hn : n < 256) (h : (c.toNat : Int) = n) : c = UInt8.ofNat n := by
  rw [← UInt8.toNat_inj, UInt8.toNat_ofNat']; omega
theorem sign_at {s : ByteArray} {k : Nat} (h : k + 1 < s.size) (h1 : ((s[k]'(by omega)).toNat : Int) = 61) (h2 : ((s[k + 1]'h).toNat : Int) = 63) : Lib.contains s.data.toList sign = true := by
  rw [contains_iff]
  refine ⟨k, ?_, ?_⟩
  · rw [at_some s k (by omega), byte_is (n := 61) (by decide) h1]; rfl
  · rw [at_some s (k + 1) h, byte_is (n := 63) (by decide) h2]; rfl
/-- No sign begins ahead of a place. -/
def Clear (s : ByteArray) (k : Nat) : Prop := ∀ j, j < k → ¬ (s.data.toList[j]? = some 61 ∧ s.data.toList[j + 1]? = some 63)
theorem clear_step {s : ByteArray} {k : Nat} (hc : Clear s k) (h : k + 1 < s.size) (hx : ((s[k]'(by omega)).toNat : Int) ≠ 61 ∨ ((s[k + 1]'h).toNat : Int) ≠ 63) : Clear s (k + 1) := by
  intro j hj
  by_cases e : j = k
  · subst e
    rw [at_some s j (by omega), at_some s (j + 1) h]
    rintro ⟨h1, h2⟩
    rcases hx with hx | hx
    · rw [Option.some.inj h1] at hx; exact hx rfl
    · rw [Option.some.inj h2] at hx; exact hx rfl
  · exact hc j (by omega)
theorem clear_end {s : ByteArray} {k : Nat} (hc : Clear s k) (h : s.size ≤ k + 1) : Lib.contains s.data.toList sign = false := by
  rw [Bool.eq_false_iff]
  intro hx
  obtain ⟨j, h1, h2⟩ := (contains_iff _).1 hx
  have : j + 1 < s.size := by rw [Lib.size_eq]; exact (List.getElem?_eq_some_iff.1 h2).1
  exact hc j (by omega) ⟨h1, h2⟩

set_option maxHeartbeats 1000000 in
set_option maxRecDepth 100000 in
theorem plain_any (s : ByteArray) (w : World) (hs : s.size ≤ 65536) :
    Calls Tryd.prog 69 #[.string s] w fun e w' => sv.Says (Plain s.data.toList) e ∧ w' = w := by
  by_cases hsafe : Safe s.data.toList
  case neg =>
    go_enter Tryd.func69, Tryd.ntmps69
    go_wp2_with fail
    refine (sv.spec_any s _ (by unfold maxLen; omega)).mono ?_
    rintro e w' ⟨h1, rfl⟩
    obtain rfl := sv.says_false h1 hsafe
    go_wp2
    go_ret
    exact ⟨sv.says_no (fun x => hsafe x.1), rfl⟩
  have HS : Hid (Safe s.data.toList) := hsafe
  clear hsafe
  go_enter Tryd.func69, Tryd.ntmps69
  go_wp2_with fail
  refine (sv.spec_any s _ (by unfold maxLen; omega)).mono ?_
  rintro e w' ⟨h1, rfl⟩
  obtain rfl := sv.says_true h1 HS.out
  clear h1
  go_wp2
  go_loop [3] (fun i => ∃ k : Nat, k ≤ s.size ∧ i = .int .i64 k ∧ Clear s k) (fun i => s.size - (intOf i).toNat)
  case atStart => exact ⟨0, Nat.zero_le _, rfl, fun j hj => absurd hj (Nat.not_lt_zero _)⟩
  case round =>
    obtain ⟨k, hk, rfl, hg⟩ := hrel
    have HG : Hid (Clear s k) := hg
    clear hg
    by_cases hlt : k + 1 < s.size
    · have hlt' : (k : Int) + 1 < (s.size : Int) := by omega
      have hk0 : k < s.size := by omega
      by_cases c1 : ((s[k]'hk0).toNat : Int) = 61
      · have d1 : (((s[k]'hk0).toNat : Int) == 61) = true := beq_iff_eq.2 c1
        have H1 : Hid (((s[k]'hk0).toNat : Int) = 61) := c1
        clear c1
        by_cases c2 : ((s[k + 1]'hlt).toNat : Int) = 63
        · have d2 : (((s[k + 1]'hlt).toNat : Int) == 63) = true := beq_iff_eq.2 c2
          have H2 : Hid (((s[k + 1]'hlt).toNat : Int) = 63) := c2
          clear c2
          go_wp2
          go_ret
          exact ⟨sv.says_no (fun x => by have := x.2; rw [sign_at hlt H1.out H2.out] at this; cases this), rfl⟩
        · have d2 : (((s[k + 1]'hlt).toNat : Int) == 63) = false := beq_eq_false_iff_ne.2 c2
          go_wp2
          go_round
          case rel => exact ⟨k + 1, by omega, by go_num, clear_step HG.out hlt (.inr c2)⟩
          case measure => simp [intOf]; omega
      · have d1 : (((s[k]'hk0).toNat : Int) == 61) = false := beq_eq_false_iff_ne.2 c1
        go_wp2
        go_round
        case rel => exact ⟨k + 1, by omega, by go_num, clear_step HG.out hlt (.inl c1)⟩
        case measure => simp [intOf]; omega
    · have hlt' : (s.size : Int) ≤ (k : Int) + 1 := by omega
      go_wp2
      go_ret
      exact ⟨sv.says_yes ⟨HS.out, clear_end HG.out (by omega)⟩, rfl⟩
end Go.Proofs.YtpbmofofigkpjaaDoor.hd
