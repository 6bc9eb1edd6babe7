/-
  Contracts of the function that holds a text against a form, and of those that read a zone.
-/
import Derived.Test.YtadfdfmebdcfgaaGreatDoorRda
import Derived.Test.YtadfdfmebdcfgaaGreatDoorDwa
namespace Go.Proofs.YtadfdfmebdcfgaaGreatDoor.rd
open Go.RowKit
set_option linter.unusedVariables false

theorem ok1_eq {s f : ByteArray} {k : Nat} (h1 : k < s.size) (h2 : k < f.size) : ok1 s.data.toList f.data.toList k = if (f[k]'h2) = 48 then isD (s[k]'h1) else (s[k]'h1) == (f[k]'h2) := by
  unfold ok1
  rw [getD_eq s k h1, getD_eq f k h2]
theorem u8_nat {a b : UInt8} : a = b ↔ (a.toNat : Int) = (b.toNat : Int) := by
  constructor
  · intro h; rw [h]
  · intro h; exact UInt8.toNat_inj.1 (by omega)

/-- A world behind some draws. -/
def Drawn (w w' : World) : Prop := ∃ m, w' = w.drewN m
theorem drawn_more {w w' : World} (h : Drawn w w') (n : Nat) : Drawn w (w'.drewN n) := by
  obtain ⟨m, rfl⟩ := h
  exact ⟨_, World.drewN_drewN _ _ _⟩
theorem drawn_below {w w' : World} (h : Drawn w w') : Below w.heap.size w w' := by
  obtain ⟨m, rfl⟩ := h
  exact ⟨rfl, rfl, rfl, Nat.le_refl _, fun _ _ => rfl⟩
set_option maxHeartbeats 2000000 in
set_option maxRecDepth 100000 in
theorem hf_any (s f : ByteArray) (hs : s.size ≤ 1048576) (w : World) :
    Calls Tryz.prog 164 #[.string s, .string f] w fun e w' => e = .returned (.bool (hf s.data.toList f.data.toList)) ∧ Drawn w w' := by
  by_cases hl : s.size = f.size
  rotate_left
  · have hl' : ((s.size : Int) == (f.size : Int)) = false := beq_eq_false_iff_ne.2 (by omega)
    rw [hf_no (by rw [len_eq, len_eq]; exact hl)]
    clear hl
    go_enter Tryz.func164, Tryz.ntmps164
    go_wp2
    go_ret
    exact ⟨rfl, ⟨0, rfl⟩⟩
  have hl' : ((s.size : Int) == (f.size : Int)) = true := beq_iff_eq.2 (by omega)
  have HL : Hid (s.size = f.size) := hl
  go_enter Tryz.func164, Tryz.ntmps164
  go_wp2
  go_loopw [5, 13] (fun _ c wr => ∃ k : Nat, k ≤ s.size ∧ c = .int .i64 k ∧ Drawn w wr ∧ ∀ j, j < k → ok1 s.data.toList f.data.toList j = true) (fun _ c _ => s.size - (intOf c).toNat)
  case atStart => exact ⟨0, Nat.zero_le _, rfl, ⟨0, rfl⟩, fun j hj => absurd hj (Nat.not_lt_zero _)⟩
  case round =>
    obtain ⟨k, hk, rfl, hdr, hg⟩ := hrel
    have DR : Hid (Drawn w wr) := hdr
    clear hdr
    have HG : Hid (∀ j, j < k → ok1 s.data.toList f.data.toList j = true) := hg
    clear hg hl
    by_cases hlt : k < s.size
    · have hlf : k < f.size := by have := HL.out; omega
      have hlt' : (k : Int) < (s.size : Int) := by omega
      have hlf' : (k : Int) < (f.size : Int) := by omega
      have h1 := ok1_eq hlt hlf
      have step : ok1 s.data.toList f.data.toList k = true → ∀ j, j < k + 1 → ok1 s.data.toList f.data.toList j = true := fun h j hj => by
        by_cases e : j = k
        · subst e; exact h
        · exact HG.out j (by omega)
      have STEP : Hid (ok1 s.data.toList f.data.toList k = true → ∀ j, j < k + 1 → ok1 s.data.toList f.data.toList j = true) := step
      clear step
      by_cases c1 : (f[k]'hlf) = 48
      · have d1 : (((f[k]'hlf).toNat : Int) == 48) = true := beq_iff_eq.2 (by rw [c1]; rfl)
        have d1' : (((f[k]'hlf).toNat : Int) != 48) = false := by rw [bne, d1]; rfl
        rw [if_pos c1] at h1
        cases c2 : isD (s[k]'hlt)
        · have HB : Hid (hf s.data.toList f.data.toList = false) := hf_bad (k := k) hlt (by rw [h1]; exact c2)
          clear h1 c1
          go_wp2_with fail
          go_quiet ((go_at_call 45; exact Calls.quiet_of_same (isD_any _ _)))
          go_wp2
          go_ret
          exact ⟨by rw [HB.out]; rfl, drawn_more DR.out _⟩
        · have HK : Hid (ok1 s.data.toList f.data.toList k = true) := (show ok1 s.data.toList f.data.toList k = true from by rw [h1]; exact c2)
          clear h1 c1
          go_wp2_with fail
          go_quiet ((go_at_call 45; exact Calls.quiet_of_same (isD_any _ _)))
          go_wp2
          go_roundw
          case rel => exact ⟨k + 1, by omega, by go_num, drawn_more DR.out _, STEP.out HK.out⟩
          case measure => simp [intOf]; omega
      · have d1 : (((f[k]'hlf).toNat : Int) == 48) = false := beq_eq_false_iff_ne.2 (fun h => c1 (u8_nat.2 (by rw [h]; rfl)))
        have d1' : (((f[k]'hlf).toNat : Int) != 48) = true := by rw [bne, d1]; rfl
        rw [if_neg c1] at h1
        by_cases c2 : (s[k]'hlt) = (f[k]'hlf)
        · have d2 : (((s[k]'hlt).toNat : Int) == ((f[k]'hlf).toNat : Int)) = true := beq_iff_eq.2 (by rw [c2])
          have d2' : (((s[k]'hlt).toNat : Int) != ((f[k]'hlf).toNat : Int)) = false := by rw [bne, d2]; rfl
          have HK : Hid (ok1 s.data.toList f.data.toList k = true) := (show ok1 s.data.toList f.data.toList k = true from by rw [h1, c2]; simp)
          clear h1 c1 c2
          go_wp2_with fail
          go_quiet (fail)
          go_wp2
          go_roundw
          case rel => exact ⟨k + 1, by omega, by go_num, drawn_more DR.out _, STEP.out HK.out⟩
          case measure => simp [intOf]; omega
        · have d2 : (((s[k]'hlt).toNat : Int) == ((f[k]'hlf).toNat : Int)) = false := beq_eq_false_iff_ne.2 (fun h => c2 (u8_nat.2 h))
          have d2' : (((s[k]'hlt).toNat : Int) != ((f[k]'hlf).toNat : Int)) = true := by rw [bne, d2]; rfl
          have HB : Hid (hf s.data.toList f.data.toList = false) := hf_bad (k := k) hlt (by rw [h1]; simpa using c2)
          clear h1 c1 c2
          go_wp2_with fail
          go_quiet (fail)
          go_wp2
          go_ret
          exact ⟨by rw [HB.out]; rfl, drawn_more DR.out _⟩
    · have HB : Hid (hf s.data.toList f.data.toList = true) := hf_iff.2 ⟨HL.out, fun j hj => HG.out j (by have hj' : j < s.size := hj; omega)⟩
      have hge : (f.size : Int) ≤ (k : Int) := by have := HL.out; omega
      have hge' : (s.size : Int) ≤ (k : Int) := by omega
      go_wp2
      go_ret
      exact ⟨by rw [HB.out]; rfl, DR.out⟩
end Go.Proofs.YtadfdfmebdcfgaaGreatDoor.rd
