/-
  The contract of the specification's ReadQuoted at a text of any length.
-/
import Derived.Test.YtcnbnnllhinoeaaDoorSun
import Derived.Test.YtcnbnnllhinoeaaDoorIuo
namespace Go.Proofs.YtcnbnnllhinoeaaDoor.qu
open Go.RowKit
set_option linter.unusedVariables false

set_option maxHeartbeats 1000000 in
set_option maxRecDepth 100000 in
theorem specGet_any (s : ByteArray) (w : World) (hs : s.size ≤ maxLen) :
    Calls Tryd.prog 9 #[.string s] w fun e w' => Got s w.heap.size e w' ∧ Below w.heap.size w w' := by
  unfold maxLen at hs
  by_cases hl : s.size ≤ 65536
  · have hd : decide (65536 < (s.size : Int)) = false := decide_eq_false (by omega)
    have hl' : (s.size : Int) ≤ 65536 := by omega
    have HR : Hid (ul s = (uq s.data.toList).getD [] ∧ uc s = (if (uq s.data.toList).isSome then 0 else 3)) := ⟨if_pos hl, if_pos hl⟩
    go_enter Tryd.func9, Tryd.ntmps9
    go_wp2_with fail
    refine (specUn_any s _ hl).mono ?_
    rintro e w1 ⟨⟨v, rfl, hown⟩, hb⟩
    cases hdec : uq s.data.toList with
    | none =>
      have HX : Hid (ul s = [] ∧ uc s = 3) := by
        obtain ⟨h1, h2⟩ := HR.out
        rw [hdec] at h1 h2
        exact ⟨h1, h2⟩
      rw [hdec] at hown
      simp only [Option.isSome_none]
      clear HR hdec
      have hsz := hb.size
      go_wp2
      go_ret2
      exact ⟨⟨_, by rw [HX.out.2]; rfl, by rw [HX.out.1]; exact ow.own_base (ow.own_empty _ _) hsz⟩, hb.alloc hsz _⟩
    | some o =>
      have HX : Hid (ul s = o ∧ uc s = 0) := by
        obtain ⟨h1, h2⟩ := HR.out
        rw [hdec] at h1 h2
        exact ⟨h1, h2⟩
      rw [hdec] at hown
      simp only [Option.isSome_some, Option.getD_some] at hown ⊢
      clear HR hdec
      go_wp2
      go_ret2
      exact ⟨⟨_, by rw [HX.out.2]; rfl, by rw [HX.out.1]; exact hown⟩, hb⟩
  · have hd : (65536 : Int) < (s.size : Int) := by omega
    have HX : Hid (ul s = [] ∧ uc s = 2) := ⟨if_neg hl, if_neg hl⟩
    go_enter Tryd.func9, Tryd.ntmps9
    go_wp2
    go_ret2
    exact ⟨⟨_, by rw [HX.out.2]; rfl, by rw [HX.out.1]; exact ow.own_empty _ _⟩, (Below.refl _ _).alloc (Nat.le_refl _) _⟩
end Go.Proofs.YtcnbnnllhinoeaaDoor.qu
