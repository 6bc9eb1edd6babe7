/-
  The contract of the specification's CivilOK.
-/
import Derived.Test.YtadfdfmebdcfgaaGreatDoorDwc
namespace Go.Proofs.YtadfdfmebdcfgaaGreatDoor.dw
open Go.RowKit
open dt
set_option linter.unusedVariables false

theorem in_if {n a b : Int} {x : Bool} (h : inB n a b = x) (w : World) : Calls Tryz.prog 55 #[.int .i64 n, .int .i64 a, .int .i64 b] w fun e w' => e = .returned (.bool x) ∧ w' = w := by
  subst h
  exact in_any n a b w
set_option maxHeartbeats 4000000 in
set_option maxRecDepth 100000 in
theorem spec_ok (y m d h i s : Int) (w : World) : Calls Tryz.prog 84 #[C6 y m d h i s] w fun e w' => Tells (Ok y m d h i s) w e w' := by
  unfold C6
  by_cases c1 : 1970 ≤ y ∧ y ≤ 2099
  rotate_left
  · have x : ¬ Ok y m d h i s := fun z => by obtain ⟨z1, z2, z3, z4, z5, z6, z7, z8, z9, z10, z11, z12⟩ := z; omega
    have HX : Hid (¬ Ok y m d h i s) := x
    clear x
    have b1 : inB y 1970 2099 = false := decide_eq_false c1
    clear c1
    go_enter Tryz.func84, Tryz.ntmps84
    go_wp2_with fail
    go_quiet ((first | (go_at_call 55; exact Calls.quiet_of_same (in_any _ _ _ _))))
    go_wp2
    go_ret
    exact tells_no HX.out (bel_drew (bel_box _ _) _)
  have b1 : inB y 1970 2099 = true := decide_eq_true c1
  have n1 : 1970 ≤ y := c1.1
  have n2 : y ≤ 2099 := c1.2
  by_cases c2 : 1 ≤ m ∧ m ≤ 12
  rotate_left
  · have x : ¬ Ok y m d h i s := fun z => by obtain ⟨z1, z2, z3, z4, z5, z6, z7, z8, z9, z10, z11, z12⟩ := z; omega
    have HX : Hid (¬ Ok y m d h i s) := x
    clear x
    have b2 : inB m 1 12 = false := decide_eq_false c2
    clear c2
    go_enter Tryz.func84, Tryz.ntmps84
    go_wp2_with fail
    go_quiet ((first | (go_at_call 55; exact Calls.quiet_of_same (in_any _ _ _ _))))
    go_wp2
    go_ret
    exact tells_no HX.out (bel_drew (bel_box _ _) _)
  have b2 : inB m 1 12 = true := decide_eq_true c2
  by_cases c3 : 1 ≤ d ∧ d ≤ (dm y m)
  rotate_left
  · have x : ¬ Ok y m d h i s := fun z => by obtain ⟨z1, z2, z3, z4, z5, z6, z7, z8, z9, z10, z11, z12⟩ := z; omega
    have HX : Hid (¬ Ok y m d h i s) := x
    clear x
    have b3 : inB d 1 (dm y m) = false := decide_eq_false c3
    clear c3
    go_enter Tryz.func84, Tryz.ntmps84
    go_wp2_with fail
    go_quiet ((first | (go_at_call 55; exact Calls.quiet_of_same (in_any _ _ _ _)) | (go_at_call 137; exact Calls.quiet_of_same (spec_dm y m n1 n2 _))))
    go_wp2
    go_ret
    exact tells_no HX.out (bel_drew (bel_box _ _) _)
  have b3 : inB d 1 (dm y m) = true := decide_eq_true c3
  by_cases c4 : 0 ≤ h ∧ h ≤ 23
  rotate_left
  · have x : ¬ Ok y m d h i s := fun z => by obtain ⟨z1, z2, z3, z4, z5, z6, z7, z8, z9, z10, z11, z12⟩ := z; omega
    have HX : Hid (¬ Ok y m d h i s) := x
    clear x
    have b4 : inB h 0 23 = false := decide_eq_false c4
    clear c4
    go_enter Tryz.func84, Tryz.ntmps84
    go_wp2_with fail
    go_quiet ((first | (go_at_call 55; exact Calls.quiet_of_same (in_any _ _ _ _)) | (go_at_call 137; exact Calls.quiet_of_same (spec_dm y m n1 n2 _))))
    go_wp2
    go_ret
    exact tells_no HX.out (bel_drew (bel_box _ _) _)
  have b4 : inB h 0 23 = true := decide_eq_true c4
  by_cases c5 : 0 ≤ i ∧ i ≤ 59
  rotate_left
  · have x : ¬ Ok y m d h i s := fun z => by obtain ⟨z1, z2, z3, z4, z5, z6, z7, z8, z9, z10, z11, z12⟩ := z; omega
    have HX : Hid (¬ Ok y m d h i s) := x
    clear x
    have b5 : inB i 0 59 = false := decide_eq_false c5
    clear c5
    go_enter Tryz.func84, Tryz.ntmps84
    go_wp2_with fail
    go_quiet ((first | (go_at_call 55; exact Calls.quiet_of_same (in_any _ _ _ _)) | (go_at_call 137; exact Calls.quiet_of_same (spec_dm y m n1 n2 _))))
    go_wp2
    go_ret
    exact tells_no HX.out (bel_drew (bel_box _ _) _)
  have b5 : inB i 0 59 = true := decide_eq_true c5
  by_cases c6 : 0 ≤ s ∧ s ≤ 59
  rotate_left
  · have x : ¬ Ok y m d h i s := fun z => by obtain ⟨z1, z2, z3, z4, z5, z6, z7, z8, z9, z10, z11, z12⟩ := z; omega
    have HX : Hid (¬ Ok y m d h i s) := x
    clear x
    have b6 : inB s 0 59 = false := decide_eq_false c6
    clear c6
    go_enter Tryz.func84, Tryz.ntmps84
    go_wp2_with fail
    go_quiet ((first | (go_at_call 55; exact Calls.quiet_of_same (in_any _ _ _ _)) | (go_at_call 137; exact Calls.quiet_of_same (spec_dm y m n1 n2 _))))
    go_wp2
    go_ret
    exact tells_no HX.out (bel_drew (bel_box _ _) _)
  have b6 : inB s 0 59 = true := decide_eq_true c6
  have HX : Hid (Ok y m d h i s) := ⟨n1, n2, by omega, by omega, by omega, by omega, by omega, by omega, by omega, by omega, by omega, by omega⟩
  clear c1 c2 c3 c4 c5 c6
  go_enter Tryz.func84, Tryz.ntmps84
  go_wp2_with fail
  go_quiet ((first | (go_at_call 55; exact Calls.quiet_of_same (in_any _ _ _ _)) | (go_at_call 137; exact Calls.quiet_of_same (spec_dm y m n1 n2 _))))
  go_wp2
  go_ret
  exact tells_yes HX.out (bel_drew (bel_box _ _) _)
end Go.Proofs.YtadfdfmebdcfgaaGreatDoor.dw
