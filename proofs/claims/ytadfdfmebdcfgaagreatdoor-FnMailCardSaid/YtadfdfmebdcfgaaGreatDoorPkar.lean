/-
  Contracts of both CivilOK functions: whether a calendar is right.
-/
import Derived.Test.YtadfdfmebdcfgaaGreatDoorPkaq
import Derived.Deep.QuietTactic
import Derived.BigQuiet
import Derived.BigRegion

namespace Go.Proofs.YtadfdfmebdcfgaaGreatDoor.dw
open Go.RowKit
open dt
set_option linter.unusedVariables false

/-- An answer that says whether something holds, in new memory alone. -/
def Tells (p : Prop) (w : World) (e : Ending) (w' : World) : Prop := ∃ b : Bool, e = .returned (.bool b) ∧ (b = true ↔ p) ∧ Below w.heap.size w w'
theorem tells_no {p : Prop} {w w' : World} (h : ¬ p) (hb : Below w.heap.size w w') : Tells p w (.returned (.bool false)) w' := ⟨false, rfl, ⟨fun x => (by cases x), fun x => absurd x h⟩, hb⟩
theorem tells_yes {p : Prop} {w w' : World} (h : p) (hb : Below w.heap.size w w') : Tells p w (.returned (.bool true)) w' := ⟨true, rfl, ⟨fun _ => h, fun _ => rfl⟩, hb⟩
theorem bel_box (w : World) (o : Obj) : Below w.heap.size w (w.alloc o) := (Below.refl _ w).alloc (Nat.le_refl _) _
theorem bel_drew {w v : World} (h : Below w.heap.size w v) (n : Nat) : Below w.heap.size w (v.drewN n) := ⟨h.os, h.tape, h.output, h.size, h.block⟩

set_option maxHeartbeats 4000000 in
set_option maxRecDepth 100000 in
theorem impl_ok (y m d h i s : Int) (w : World) : Calls Tryz.prog 121 #[C6 y m d h i s] w fun e w' => Tells (Ok y m d h i s) w e w' := by
  unfold C6
  by_cases c1 : y < 1970
  · have x : ¬ Ok y m d h i s := fun z => by obtain ⟨z1, z2, z3, z4, z5, z6, _⟩ := z; omega
    have HX : Hid (¬ Ok y m d h i s) := x
    clear x
    have d1 : decide (y < 1970) = true := decide_eq_true c1
    go_enter Tryz.func121, Tryz.ntmps121
    go_wp2
    go_ret
    exact tells_no HX.out (bel_box _ _)
  have bc1 : decide (y < 1970) = false := decide_eq_false c1
  by_cases c2 : 2099 < y
  · have x : ¬ Ok y m d h i s := fun z => by obtain ⟨z1, z2, z3, z4, z5, z6, _⟩ := z; omega
    have HX : Hid (¬ Ok y m d h i s) := x
    clear x
    have d1 : decide (2099 < y) = true := decide_eq_true c2
    go_enter Tryz.func121, Tryz.ntmps121
    go_wp2
    go_ret
    exact tells_no HX.out (bel_box _ _)
  have bc2 : decide (2099 < y) = false := decide_eq_false c2
  have n1 : 1970 ≤ y := by omega
  have n2 : y ≤ 2099 := by omega
  by_cases c3 : m < 1
  · have x : ¬ Ok y m d h i s := fun z => by obtain ⟨z1, z2, z3, z4, z5, z6, _⟩ := z; omega
    have HX : Hid (¬ Ok y m d h i s) := x
    clear x
    have d1 : decide (m < 1) = true := decide_eq_true c3
    go_enter Tryz.func121, Tryz.ntmps121
    go_wp2
    go_ret
    exact tells_no HX.out (bel_box _ _)
  have bc3 : decide (m < 1) = false := decide_eq_false c3
  by_cases c4 : 12 < m
  · have x : ¬ Ok y m d h i s := fun z => by obtain ⟨z1, z2, z3, z4, z5, z6, _⟩ := z; omega
    have HX : Hid (¬ Ok y m d h i s) := x
    clear x
    have d1 : decide (12 < m) = true := decide_eq_true c4
    go_enter Tryz.func121, Tryz.ntmps121
    go_wp2
    go_ret
    exact tells_no HX.out (bel_box _ _)
  have bc4 : decide (12 < m) = false := decide_eq_false c4
  by_cases c5 : d < 1
  · have x : ¬ Ok y m d h i s := fun z => by obtain ⟨z1, z2, z3, z4, z5, z6, _⟩ := z; omega
    have HX : Hid (¬ Ok y m d h i s) := x
    clear x
    have d1 : decide (d < 1) = true := decide_eq_true c5
    go_enter Tryz.func121, Tryz.ntmps121
    go_wp2
    go_quiet (fail)
    go_wp2
    go_ret
    exact tells_no HX.out (bel_drew (bel_box _ _) _)
  have bc5 : decide (d < 1) = false := decide_eq_false c5
  by_cases c6 : dm y m < d
  · have x : ¬ Ok y m d h i s := fun z => by obtain ⟨z1, z2, z3, z4, z5, z6, _⟩ := z; omega
    have HX : Hid (¬ Ok y m d h i s) := x
    clear x
    have d1 : decide (dm y m < d) = true := decide_eq_true c6
    have HC : Hid (dm y m < d) := c6
    go_enter Tryz.func121, Tryz.ntmps121
    go_wp2_with fail
    go_quiet ((go_at_call 143; exact Calls.quiet_of_same (impl_dm y m n1 n2 _)))
    go_wp2
    go_ret
    exact tells_no HX.out (bel_drew (bel_box _ _) _)
  have bc6 : decide (dm y m < d) = false := decide_eq_false c6
  by_cases e1 : 0 ≤ h
  rotate_left
  · have x : ¬ Ok y m d h i s := fun z => by obtain ⟨z1, z2, z3, z4, z5, z6, z7, z8, z9, z10, z11, z12⟩ := z; omega
    have HX : Hid (¬ Ok y m d h i s) := x
    clear x
    have d1 : decide (0 ≤ h) = false := decide_eq_false e1
    go_enter Tryz.func121, Tryz.ntmps121
    go_wp2_with fail
    go_quiet ((go_at_call 143; exact Calls.quiet_of_same (impl_dm y m n1 n2 _)))
    go_wp2
    go_ret
    exact tells_no HX.out (bel_drew (bel_box _ _) _)
  have be1 : decide (0 ≤ h) = true := decide_eq_true e1
  by_cases e2 : h < 24
  rotate_left
  · have x : ¬ Ok y m d h i s := fun z => by obtain ⟨z1, z2, z3, z4, z5, z6, z7, z8, z9, z10, z11, z12⟩ := z; omega
    have HX : Hid (¬ Ok y m d h i s) := x
    clear x
    have d1 : decide (h < 24) = false := decide_eq_false e2
    go_enter Tryz.func121, Tryz.ntmps121
    go_wp2_with fail
    go_quiet ((go_at_call 143; exact Calls.quiet_of_same (impl_dm y m n1 n2 _)))
    go_wp2
    go_ret
    exact tells_no HX.out (bel_drew (bel_box _ _) _)
  have be2 : decide (h < 24) = true := decide_eq_true e2
  by_cases e3 : 0 ≤ i
  rotate_left
  · have x : ¬ Ok y m d h i s := fun z => by obtain ⟨z1, z2, z3, z4, z5, z6, z7, z8, z9, z10, z11, z12⟩ := z; omega
    have HX : Hid (¬ Ok y m d h i s) := x
    clear x
    have d1 : decide (0 ≤ i) = false := decide_eq_false e3
    go_enter Tryz.func121, Tryz.ntmps121
    go_wp2_with fail
    go_quiet ((go_at_call 143; exact Calls.quiet_of_same (impl_dm y m n1 n2 _)))
    go_wp2
    go_ret
    exact tells_no HX.out (bel_drew (bel_box _ _) _)
  have be3 : decide (0 ≤ i) = true := decide_eq_true e3
  by_cases e4 : i < 60
  rotate_left
  · have x : ¬ Ok y m d h i s := fun z => by obtain ⟨z1, z2, z3, z4, z5, z6, z7, z8, z9, z10, z11, z12⟩ := z; omega
    have HX : Hid (¬ Ok y m d h i s) := x
    clear x
    have d1 : decide (i < 60) = false := decide_eq_false e4
    go_enter Tryz.func121, Tryz.ntmps121
    go_wp2_with fail
    go_quiet ((go_at_call 143; exact Calls.quiet_of_same (impl_dm y m n1 n2 _)))
    go_wp2
    go_ret
    exact tells_no HX.out (bel_drew (bel_box _ _) _)
  have be4 : decide (i < 60) = true := decide_eq_true e4
  by_cases e5 : 0 ≤ s
  rotate_left
  · have x : ¬ Ok y m d h i s := fun z => by obtain ⟨z1, z2, z3, z4, z5, z6, z7, z8, z9, z10, z11, z12⟩ := z; omega
    have HX : Hid (¬ Ok y m d h i s) := x
    clear x
    have d1 : decide (0 ≤ s) = false := decide_eq_false e5
    go_enter Tryz.func121, Tryz.ntmps121
    go_wp2_with fail
    go_quiet ((go_at_call 143; exact Calls.quiet_of_same (impl_dm y m n1 n2 _)))
    go_wp2
    go_ret
    exact tells_no HX.out (bel_drew (bel_box _ _) _)
  have be5 : decide (0 ≤ s) = true := decide_eq_true e5
  by_cases e6 : s < 60
  rotate_left
  · have x : ¬ Ok y m d h i s := fun z => by obtain ⟨z1, z2, z3, z4, z5, z6, z7, z8, z9, z10, z11, z12⟩ := z; omega
    have HX : Hid (¬ Ok y m d h i s) := x
    clear x
    have d1 : decide (s < 60) = false := decide_eq_false e6
    go_enter Tryz.func121, Tryz.ntmps121
    go_wp2_with fail
    go_quiet ((go_at_call 143; exact Calls.quiet_of_same (impl_dm y m n1 n2 _)))
    go_wp2
    go_ret
    exact tells_no HX.out (bel_drew (bel_box _ _) _)
  have be6 : decide (s < 60) = true := decide_eq_true e6
  have HX : Hid (Ok y m d h i s) := ⟨n1, n2, by omega, by omega, by omega, by omega, by omega, by omega, by omega, by omega, by omega, by omega⟩
  go_enter Tryz.func121, Tryz.ntmps121
  go_wp2_with fail
  go_quiet ((go_at_call 143; exact Calls.quiet_of_same (impl_dm y m n1 n2 _)))
  go_wp2
  go_ret
  exact tells_yes HX.out (bel_drew (bel_box _ _) _)
end Go.Proofs.YtadfdfmebdcfgaaGreatDoor.dw
