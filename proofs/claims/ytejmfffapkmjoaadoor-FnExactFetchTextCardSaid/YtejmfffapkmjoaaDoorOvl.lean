/-
  A stored mail as an argument: opened; measured and copied by the law's own functions.
-/
import Derived.Test.YtejmfffapkmjoaaDoorOwn
import Derived.Test.YtejmfffapkmjoaaDoorRows
import Derived.WalkKit
import Derived.WalkLawsBesides
import Derived.ProofKit
import Derived.OpenShut
import Derived.ChangeOld
import Derived.Below
import Derived.Deep.Fields
import Derived.Lib.SmallJoins
namespace Go.Proofs.YtejmfffapkmjoaaDoor.sm1
open Go.ChangeShapes Go.WideShapes Go.ChangeAt Go.RowKit Go.Deep Go.Joins
set_option linter.unusedVariables false

/-- A stored mail as a value. -/
def SV (u f : Int) (t : ByteArray) : Value := .agg #[.int .i64 u, .int .i64 f, .string t]
/-- A number that an int can be. -/
def In (z : Int) : Prop := -9223372036854775808 ≤ z ∧ z ≤ 9223372036854775807
theorem in_of_wf {z : Int} (h : (Lit.int .i64 z).wf = true) : In z := by
  have := bounds_i64 h
  exact this
section
variable {H : Type} {enc : TypeId × Value → H} {w : World} {base : Nat} {spare : Nat → Bool} {held : Bool}
set_option maxRecDepth 100000 in
theorem open_stored {r : Reach} {b0 : Nat} {v : Value} {d : DataW H} {p : List MemPlace} (hv : Value.okWide Tryd.prog w r b0 23 v) (h : DataW.Trod enc Tryd.prog w base spare held 23 v d p) :
    ∃ (u f : Int) (t : ByteArray), v = SV u f t ∧ In u ∧ In f ∧ t.size ≤ maxLen := by
  obtain ⟨v0, v1, v2, y0, y1, y2, n, rfl, _, _, t0, t1, t2⟩ := open_agg3 Tryd.underlying23 (by kernel_rfl) (by kernel_rfl) hv h
  obtain ⟨z0, e0, _, f0⟩ := DataW.trod_int Tryd.underlying3 t0
  obtain ⟨z1, e1, _, f1⟩ := DataW.trod_int Tryd.underlying3 t1
  obtain ⟨s2, e2, _, f2⟩ := DataW.trod_string Tryd.underlying9 t2
  simp only [List.cons.injEq, and_true] at e0 e1 e2
  subst e0 e1 e2
  exact ⟨z0, z1, s2, rfl, in_of_wf f0, in_of_wf f1, f2⟩
end
set_option maxHeartbeats 1000000 in
theorem szStored_any (u f : Int) (t : ByteArray) (w : World) (hh : t.size ≤ maxLen) :
    Calls Tryd.prog 4 #[.agg #[.int .i64 u, .int .i64 f, .string t], .int .i64 1048576] w fun r w' => (∃ z : Int, r = .returned (.int .i64 z) ∧ -1 ≤ z ∧ z ≤ 1048576 ∧ (0 ≤ z → t.size ≤ 1048576)) ∧ Below w.heap.size w w' := by
  unfold maxLen at hh
  have hbw : Below w.heap.size w (w.alloc (.cells #[.int .i64 u, .int .i64 f, .string t] 23)) := (Below.refl _ _).alloc (Nat.le_refl _) _
  by_cases g0 : (1048576 : Int) - (t.size : Int) < 0
  · go_enter Tryd.func4, Tryd.ntmps4
    go_wp2
    go_ret
    exact ⟨⟨-1, rfl, by omega, by omega, by omega⟩, hbw⟩
  · go_enter Tryd.func4, Tryd.ntmps4
    go_wp2
    go_ret
    exact ⟨⟨_, rfl, by omega, by omega, fun _ => by omega⟩, hbw⟩
set_option maxHeartbeats 1000000 in
set_option maxRecDepth 100000 in
theorem toStored_any (u f : Int) (t : ByteArray) (w : World) : Calls Tryd.prog 7 #[.agg #[.int .i64 u, .int .i64 f, .string t]] w fun r w' => r = .returned (.agg #[.int .i64 u, .int .i64 f, .string t]) ∧ Below w.heap.size w w' := by
  go_enter Tryd.func7, Tryd.ntmps7
  go_wp2
  refine bodyPost_ret (v := .agg #[.int .i64 u, .int .i64 f, .string t]) (by simp [results, Tryd.results7, go_sem]) rfl ⟨rfl, ?_⟩
  exact (((Below.refl _ w).alloc (Nat.le_refl _) _).alloc (by simp) _).alloc (by simp; omega) _
theorem cell3 (w : World) (xs : Array Value) (t : TypeId) (j : Nat) (u : Value) (h : xs[j]? = some u) : (w.alloc (.cells xs t)).cell? ⟨w.heap.size, j, none⟩ = some u := by
  have := ow.cell_new w xs.toList t j u (by simpa using h)
  simpa using this
end Go.Proofs.YtejmfffapkmjoaaDoor.sm1
