/-
  The specification's test of boxes, as a code.
-/
import Derived.Test.YtbhjinhedbgmnabBwd
namespace Go.Proofs.Ytbhjinhedbgmnab.sm
open Go.RowKit Go.WideShapes
open st bx
set_option linter.unusedVariables false

def cod (xs : List Bx) : Int := if xs.length ≤ 4096 then (if sok xs = true then 0 else 1) else 2
def Caps (v : Value) (xs : List Bx) (vs : Nat → Value × Value) : Prop := (∀ a n c, v = .slice a n c → n ≤ c) ∧ ∀ j, j < xs.length → ∀ a n c, (vs j).2 = .slice a n c → n ≤ c

set_option maxHeartbeats 2000000 in
set_option maxRecDepth 100000 in
theorem code_any (v : Value) (xs : List Bx) (vs : Nat → Value × Value) (w : World) (h : BoxesAt w v xs vs) (hs : bx.Smalls xs) (hc : Caps v xs vs) :
    Calls Try.prog 29 #[v] w fun e w' => e = .returned (.int .i64 (cod xs)) ∧ Below w.heap.size w w' := by
  have HA : Hid (BoxesAt w v xs vs) := h
  have HC : Hid (Caps v xs vs) := hc
  have HS : Hid (bx.Smalls xs) := hs
  obtain ⟨⟨a, cap, rfl, _⟩, _⟩ := h
  have hl := hs.1
  have H2 : Hid (¬ xs.length ≤ 4096 → cod xs = 2) := fun h => by simp [cod, h]
  have H1 : Hid (xs.length ≤ 4096 → sok xs = false → cod xs = 1) := fun h h2 => by simp [cod, h, h2]
  have H0 : Hid (xs.length ≤ 4096 → sok xs = true → cod xs = 0) := fun h h2 => by simp [cod, h, h2]
  clear hs hc
  generalize cod xs = R at H2 H1 H0 ⊢
  by_cases g1 : 4096 < xs.length
  · have g1' : (4096 : Int) < (xs.length : Int) := by omega
    have HR : Hid (R = 2) := H2.out (by omega)
    go_enter Try.func29, Try.ntmps29
    go_wp2
    go_ret
    exact ⟨by rw [HR.out]; rfl, Below.refl _ _⟩
  have g1' : (xs.length : Int) ≤ 4096 := by omega
  have hle : xs.length ≤ 4096 := by omega
  go_enter Try.func29, Try.ntmps29
  go_wp2_with fail
  refine (spec_sok _ xs vs w HA.out HS.out HC.out.1 HC.out.2).mono ?_
  rintro e w1 ⟨rfl, b1⟩
  clear HA HC
  generalize sok xs = sx at H1 H0 ⊢
  cases sx
  · have HR : Hid (R = 1) := H1.out hle (by trivial)
    go_wp2
    go_ret
    exact ⟨by rw [HR.out]; rfl, b1⟩
  · have HR : Hid (R = 0) := H0.out hle (by trivial)
    go_wp2
    go_ret
    exact ⟨by rw [HR.out]; rfl, b1⟩

end Go.Proofs.Ytbhjinhedbgmnab.sm
