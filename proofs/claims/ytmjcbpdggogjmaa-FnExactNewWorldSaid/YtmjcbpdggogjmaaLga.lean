/-
  A log as an argument: opened; measured and copied by the law's own functions; both LogOK functions.
-/
import Derived.Test.YtmjcbpdggogjmaaOwn
import Derived.Test.YtmjcbpdggogjmaaRows
import Derived.WalkKit
import Derived.WalkLawsBesides
import Derived.ProofKit
import Derived.OpenShut
import Derived.ChangeOld
import Derived.Below
import Derived.Deep.Fields
import Derived.Lib.SmallJoins
namespace Go.Proofs.Ytmjcbpdggogjmaa.lg
open Go.ChangeShapes Go.WideShapes Go.ChangeAt Go.RowKit Go.Deep Go.Joins
set_option linter.unusedVariables false

/-- A log of room r, data d, of which s bytes are sure. -/
def LV (r : Int) (d : ByteArray) (s : Int) : Value := .agg #[.int .i64 r, .string d, .int .i64 s]
/-- A number that an int can be. -/
def In (z : Int) : Prop := -9223372036854775808 ≤ z ∧ z ≤ 9223372036854775807
/-- What LogOK says. -/
def ok (r : Int) (n : Nat) (s : Int) : Bool := decide (0 ≤ r ∧ r ≤ 60000 ∧ (n : Int) ≤ r ∧ 0 ≤ s ∧ s ≤ (n : Int))
theorem in_of_wf {z : Int} (h : (Lit.int .i64 z).wf = true) : In z := by
  have h1 : IntKind.i64.min = -9223372036854775808 := rfl
  have h2 : IntKind.i64.max = 9223372036854775807 := rfl
  simp [Lit.wf, h1, h2] at h
  exact ⟨by omega, by omega⟩
/-- A log that lies as a variable. -/
def LiesL (w : World) (b : Nat) (T : TypeId) (r : Int) (d : ByteArray) (s : Int) : Prop := w.heap[b]? = some (.cells #[.int .i64 r, .string d, .int .i64 s] T (0, 0))
section
variable {w w' : World} {b : Nat} {T : TypeId} {r : Int} {d : ByteArray} {s : Int}
theorem LiesL.c0 (h : LiesL w b T r d s) : w.cell? ⟨b, 0, none⟩ = some (.int .i64 r) := by rw [cell_of_row w _ _ _ _ _ h]; rfl
theorem LiesL.c1 (h : LiesL w b T r d s) : w.cell? ⟨b, 0 + 1, none⟩ = some (.string d) := by rw [cell_of_row w _ _ _ _ _ h]; rfl
theorem LiesL.c2 (h : LiesL w b T r d s) : w.cell? ⟨b, 0 + 2, none⟩ = some (.int .i64 s) := by rw [cell_of_row w _ _ _ _ _ h]; rfl
theorem LiesL.lt (h : LiesL w b T r d s) : b < w.heap.size := World.block_lt_of_cell? w _ h.c0
theorem LiesL.keep (h : LiesL w b T r d s) (hb : Below w.heap.size w w') : LiesL w' b T r d s := (hb.block b h.lt).trans h
theorem lies_new (w : World) (T : TypeId) (r : Int) (d : ByteArray) (s : Int) : LiesL (w.alloc (.cells #[.int .i64 r, .string d, .int .i64 s] T)) w.heap.size T r d s := by show (w.heap.push _)[w.heap.size]? = _; simp
end
theorem new_below (w : World) (T : TypeId) (cs : Array Value) : Below w.heap.size w (w.alloc (.cells cs T)) := (Below.refl _ _).alloc (Nat.le_refl _) _


set_option maxHeartbeats 1000000 in
set_option maxRecDepth 100000 in
theorem eqLog_same (r : Int) (d : ByteArray) (s : Int) (w : World) : Calls Try.prog 20 #[LV r d s, LV r d s] w fun e w' => e = .returned (.bool true) ∧ Below w.heap.size w w' := by
  unfold LV
  have hb := ((Below.refl w.heap.size w).alloc (Nat.le_refl _) (.cells #[.int .i64 r, .string d, .int .i64 s] 23)).alloc (by simp) (.cells #[.int .i64 r, .string d, .int .i64 s] 23)
  have h0 : (r != r) = false := by simp
  have h2 : (s != s) = false := by simp
  go_enter Try.func20, Try.ntmps20
  go_wp2
  go_ret
  exact ⟨rfl, hb⟩


theorem spec_in (n a b : Int) (w : World) : Calls Try.prog 9 #[.int .i64 n, .int .i64 a, .int .i64 b] w fun e w' => e = .returned (.bool (decide (a ≤ n ∧ n ≤ b))) ∧ w' = w := by
  by_cases h0 : a ≤ n
  · by_cases h1 : n ≤ b
    · rw [decide_eq_true ⟨h0, h1⟩]
      go_enter Try.func9, Try.ntmps9
      go_wp2
      go_ret
      exact ⟨rfl, rfl⟩
    · rw [decide_eq_false (by omega)]
      go_enter Try.func9, Try.ntmps9
      go_wp2
      go_ret
      exact ⟨rfl, rfl⟩
  · rw [decide_eq_false (by omega)]
    go_enter Try.func9, Try.ntmps9
    go_wp2
    go_ret
    exact ⟨rfl, rfl⟩

end Go.Proofs.Ytmjcbpdggogjmaa.lg
