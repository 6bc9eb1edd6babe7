/-
  A text written in great letters: both functions.
-/
import Derived.Test.YtejmfffapkmjoaaDoorUpp
namespace Go.Proofs.YtejmfffapkmjoaaDoor.up
open Go.RowKit
set_option linter.unusedVariables false

set_option maxHeartbeats 2000000 in
set_option maxRecDepth 100000 in
theorem spec_upper (s : ByteArray) (w : World) (hs : s.size ≤ 1048576) :
    Calls Tryd.prog 19 #[.string s] w fun e w' => e = .returned (.string ⟨(lower s.data.toList).toArray⟩) ∧ Below w.heap.size w w' := by
  have hcv := Lib.run_convert_string_bytes (P := Tryd.prog) w 9 57 5 s Tryd.underlying9 Tryd.underlying57 Tryd.underlying5
  have HM0 : Hid (Mid w (Lib.bytesWorld w 5 s) s (grownCap w s.size 0 5) 0) := mid_start w s (by unfold maxLen; omega)
  generalize grownCap w s.size 0 5 = cap at hcv HM0
  generalize Lib.bytesWorld w 5 s = W0 at hcv HM0
  go_enter Tryd.func19, Tryd.ntmps19
  go_wp2
  go_loopw [4] (fun i wr => ∃ k : Nat, k ≤ s.size ∧ i = .int .i64 k ∧ Mid w wr s cap k) (fun i _ => s.size - (intOf i).toNat)
  case atStart => exact ⟨0, Nat.zero_le _, rfl, HM0.out⟩
  case round =>
    clear hcv HM0
    obtain ⟨k, hk, rfl, hmid⟩ := hrel
    have HM : Hid (Mid w wr s cap k) := hmid
    by_cases hlt : k < s.size
    · have hlt' : (k : Int) < (s.size : Int) := by omega
      have c0 := hmid.cell hlt
      have f0 := hmid.free hlt
      clear hmid
      by_cases h1 : 97 ≤ ((s[k]'hlt).toNat : Int)
      · have d1 : decide (97 ≤ ((s[k]'hlt).toNat : Int)) = true := decide_eq_true h1
        by_cases h2 : ((s[k]'hlt).toNat : Int) ≤ 122
        · have d2 : decide (((s[k]'hlt).toNat : Int) ≤ 122) = true := decide_eq_true h2
          have hw := u8_add h1 h2
          have HN : Hid (Mid w (wr.setCell ⟨w.heap.size, k, none⟩ (.int .u8 (((s[k]'hlt).toNat : Int) - 32))) s cap (k + 1)) := HM.out.great hlt h1 h2
          go_wp2
          go_roundw
          case rel => exact ⟨k + 1, by omega, by go_num, HN.out⟩
          case measure => simp [intOf]; omega
        · have d2 : decide (((s[k]'hlt).toNat : Int) ≤ 122) = false := decide_eq_false h2
          have HN : Hid (Mid w wr s cap (k + 1)) := HM.out.other hlt (fun h => h2 h.2)
          go_wp2
          go_roundw
          case rel => exact ⟨k + 1, by omega, by go_num, HN.out⟩
          case measure => simp [intOf]; omega
      · have d1 : decide (97 ≤ ((s[k]'hlt).toNat : Int)) = false := decide_eq_false h1
        have HN : Hid (Mid w wr s cap (k + 1)) := HM.out.other hlt (fun h => h1 h.1)
        go_wp2
        go_roundw
        case rel => exact ⟨k + 1, by omega, by go_num, HN.out⟩
        case measure => simp [intOf]; omega
    · have hlt' : ¬ (k : Int) < (s.size : Int) := by omega
      have htx := hmid.text (by omega)
      clear hmid
      go_wp2
      go_ret
      exact ⟨rfl, HM.out.2⟩
set_option maxHeartbeats 2000000 in
set_option maxRecDepth 100000 in
theorem impl_upper (s : ByteArray) (w : World) (hs : s.size ≤ 1048576) :
    Calls Tryd.prog 32 #[.string s] w fun e w' => e = .returned (.string ⟨(lower s.data.toList).toArray⟩) ∧ Below w.heap.size w w' := by
  have hcv := Lib.run_convert_string_bytes (P := Tryd.prog) w 9 57 5 s Tryd.underlying9 Tryd.underlying57 Tryd.underlying5
  have HM0 : Hid (Mid w (Lib.bytesWorld w 5 s) s (grownCap w s.size 0 5) 0) := mid_start w s (by unfold maxLen; omega)
  generalize grownCap w s.size 0 5 = cap at hcv HM0
  generalize Lib.bytesWorld w 5 s = W0 at hcv HM0
  go_enter Tryd.func32, Tryd.ntmps32
  go_wp2
  go_loopw [10] (fun i wr => ∃ k : Nat, k ≤ s.size ∧ i = .int .i64 k ∧ Mid w wr s cap k) (fun i _ => s.size - (intOf i).toNat)
  case atStart => exact ⟨0, Nat.zero_le _, rfl, HM0.out⟩
  case round =>
    clear hcv HM0
    obtain ⟨k, hk, rfl, hmid⟩ := hrel
    have HM : Hid (Mid w wr s cap k) := hmid
    by_cases hlt : k < s.size
    · have hlt' : (k : Int) < (s.size : Int) := by omega
      have c0 := hmid.cell hlt
      have f0 := hmid.free hlt
      clear hmid
      by_cases h1 : 97 ≤ ((s[k]'hlt).toNat : Int)
      · have d1 : decide (97 ≤ ((s[k]'hlt).toNat : Int)) = true := decide_eq_true h1
        by_cases h2 : ((s[k]'hlt).toNat : Int) ≤ 122
        · have d2 : decide (((s[k]'hlt).toNat : Int) ≤ 122) = true := decide_eq_true h2
          have hw1 : IntKind.u8.wrap (((s[k]'hlt).toNat : Int) - 97) = ((s[k]'hlt).toNat : Int) - 97 := by
            have h256 : (2 : Int) ^ IntKind.u8.bits = 256 := rfl
            unfold IntKind.wrap
            simp only [h256, show IntKind.u8.signed = false from rfl, Bool.false_and, Bool.false_eq_true, if_false]
            omega
          have hw2 : IntKind.u8.wrap (((s[k]'hlt).toNat : Int) - 97 + 65) = ((s[k]'hlt).toNat : Int) - 32 := by
            rw [show ((s[k]'hlt).toNat : Int) - 97 + 65 = ((s[k]'hlt).toNat : Int) - 32 from by omega]
            exact u8_add h1 h2
          have HN : Hid (Mid w (wr.setCell ⟨w.heap.size, k, none⟩ (.int .u8 (((s[k]'hlt).toNat : Int) - 32))) s cap (k + 1)) := HM.out.great hlt h1 h2
          go_wp2
          go_roundw
          case rel =>
            refine ⟨k + 1, by omega, by go_num, ?_⟩
            first | exact HN.out | (rw [show ((s[k]'hlt).toNat : Int) - 97 + 65 = ((s[k]'hlt).toNat : Int) - 32 from by omega]; exact HN.out)
          case measure => simp [intOf]; omega
        · have d2 : decide (((s[k]'hlt).toNat : Int) ≤ 122) = false := decide_eq_false h2
          have HN : Hid (Mid w wr s cap (k + 1)) := HM.out.other hlt (fun h => h2 h.2)
          go_wp2
          go_roundw
          case rel => exact ⟨k + 1, by omega, by go_num, HN.out⟩
          case measure => simp [intOf]; omega
      · have d1 : decide (97 ≤ ((s[k]'hlt).toNat : Int)) = false := decide_eq_false h1
        have HN : Hid (Mid w wr s cap (k + 1)) := HM.out.other hlt (fun h => h1 h.1)
        go_wp2
        go_roundw
        case rel => exact ⟨k + 1, by omega, by go_num, HN.out⟩
        case measure => simp [intOf]; omega
    · have hlt' : ¬ (k : Int) < (s.size : Int) := by omega
      have htx := hmid.text (by omega)
      clear hmid
      go_wp2
      go_ret
      exact ⟨rfl, HM.out.2⟩
end Go.Proofs.YtejmfffapkmjoaaDoor.up
