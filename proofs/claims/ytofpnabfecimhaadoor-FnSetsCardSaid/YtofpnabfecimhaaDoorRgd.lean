/-
  Both SetHas functions.
-/
import Derived.Test.YtofpnabfecimhaaDoorRgc
import Derived.Test.YtofpnabfecimhaaDoorGrw
namespace Go.Proofs.YtofpnabfecimhaaDoor.rg
open Go.RowKit
set_option linter.unusedVariables false

def end1 (a top : Int) : Int := if a = 0 then top else a
def Hit (r : Pr) (n top : Int) : Prop := min (end1 r.1 top) (end1 r.2 top) ≤ n ∧ n ≤ max (end1 r.1 top) (end1 r.2 top)
def Has (ps : List Pr) (n top : Int) : Prop := ∃ j, j < ps.length ∧ Hit (ps.getD j no) n top
def dHas (ps : List Pr) (n top : Int) : Decidable (Has ps n top) := @decidable_of_iff _ (∃ j, ∃ _ : j < ps.length, min (end1 (ps.getD j no).1 top) (end1 (ps.getD j no).2 top) ≤ n ∧ n ≤ max (end1 (ps.getD j no).1 top) (end1 (ps.getD j no).2 top)) ⟨fun ⟨j, h, x⟩ => ⟨j, h, x⟩, fun ⟨j, h, x⟩ => ⟨j, h, x⟩⟩ inferInstance
def hasB (ps : List Pr) (n top : Int) : Bool := @decide (Has ps n top) (dHas ps n top)
theorem hasB_no {ps : List Pr} {n top : Int} (h : ¬ Has ps n top) : hasB ps n top = false := ow.df h
theorem hasB_yes {ps : List Pr} {n top : Int} (h : Has ps n top) : hasB ps n top = true := ow.dt h
def NoneTo (ps : List Pr) (n top : Int) (k : Nat) : Prop := ∀ j, j < k → ¬ Hit (ps.getD j no) n top
theorem none_step {ps : List Pr} {n top : Int} {k : Nat} (h : NoneTo ps n top k) (hk : ¬ Hit (ps.getD k no) n top) : NoneTo ps n top (k + 1) := by
  intro j hj
  by_cases e : j = k
  · subst e; exact hk
  · exact h j (by omega)

theorem in_says (n a b : Int) (w : World) : Calls Tryd.prog 17 #[.int .i64 n, .int .i64 a, .int .i64 b] w fun e w' => (∃ B : Bool, e = .returned (.bool B) ∧ Hid (B = true ↔ (a ≤ n ∧ n ≤ b))) ∧ w' = w :=
  (in_any n a b w).mono fun e w' ⟨he, hw⟩ => ⟨⟨_, he, (show _ ↔ _ from by simp)⟩, hw⟩
end Go.Proofs.YtofpnabfecimhaaDoor.rg
