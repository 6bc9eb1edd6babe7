/-
  Names of flags: plain facts, the program's search for a name, and the specification's names.
-/
import Derived.Test.YtejmfffapkmjoaaDoorSml
import Derived.Test.YtejmfffapkmjoaaDoorSpl
import Derived.Test.YtejmfffapkmjoaaDoorTab
import Derived.Test.YtejmfffapkmjoaaDoorGrw
namespace Go.Proofs.YtejmfffapkmjoaaDoor.fg
open Go.RowKit
open lo sl sp gr
set_option linter.unusedVariables false

/-- The name of a flag. -/
def fn (k : Nat) : ByteArray := ⟨(tb.fls.getD k []).toArray⟩
def pw : Nat → Int
  | 0 => 1
  | 1 => 2
  | 2 => 4
  | 3 => 8
  | 4 => 16
  | _ => 0
/-- The flag of a name among the first ones, 0 of none. -/
def flg (l : ByteArray) : Nat → Int
  | 0 => 0
  | k + 1 => if sameB l (fn k) = true then pw k else flg l k
theorem apart : ∀ j, j < 5 → ∀ k, k < 5 → lower (tb.fls.getD j []) = lower (tb.fls.getD k []) → j = k := by decide
theorem one_name {l : ByteArray} {j k : Nat} (hj : j < 5) (hk : k < 5) (h : sameB l (fn j) = true) (h' : sameB l (fn k) = true) : j = k := by
  have e1 : lower l.data.toList = lower (tb.fls.getD j []) := of_decide_eq_true h
  have e2 : lower l.data.toList = lower (tb.fls.getD k []) := of_decide_eq_true h'
  exact apart j hj k hk (e1.symm.trans e2)
theorem flg_none {l : ByteArray} : ∀ k, (∀ j, j < k → sameB l (fn j) = false) → flg l k = 0
  | 0, _ => rfl
  | k + 1, h => by
    rw [flg, if_neg (by rw [h k (by omega)]; simp)]
    exact flg_none k (fun j hj => h j (by omega))
theorem flg_before {l : ByteArray} {k : Nat} (hk : k < 5) (h : sameB l (fn k) = true) : ∀ m, m ≤ k → flg l m = 0 := by
  intro m hm
  refine flg_none m (fun j hj => ?_)
  cases e : sameB l (fn j)
  · rfl
  · exact absurd (one_name (by omega) hk e h) (by omega)
theorem flg_one {l : ByteArray} {k : Nat} (hk : k < 5) (h : sameB l (fn k) = true) : ∀ m, k < m → m ≤ 5 → flg l m = pw k
  | 0, h1, _ => absurd h1 (by omega)
  | m + 1, h1, h2 => by
    rw [flg]
    by_cases e : k = m
    · subst e
      rw [if_pos h]
    · rw [if_neg (by intro y; exact e (one_name hk (by omega) h y))]
      exact flg_one hk h m (by omega) (by omega)
theorem pw_pos : ∀ k, k < 5 → pw k ≠ 0 := by decide
theorem fn_size : ∀ k, k < 5 → (fn k).size ≤ 9 := by decide
theorem fls_len : tb.fls.length = 5 := rfl
theorem cells_fls : (tb.fls.map fun l => Value.string ⟨l.toArray⟩) = [.string (fn 0), .string (fn 1), .string (fn 2), .string (fn 3), .string (fn 4)] := rfl

theorem ix0 (wx : World) : (Instr.index 80 (.agg (tb.fls.map fun l => Value.string ⟨l.toArray⟩).toArray) (.int .i64 0)).run Tryd.prog wx = .ok (.string (fn 0)) wx := by kernel_rfl
theorem ix1 (wx : World) : (Instr.index 80 (.agg (tb.fls.map fun l => Value.string ⟨l.toArray⟩).toArray) (.int .i64 1)).run Tryd.prog wx = .ok (.string (fn 1)) wx := by kernel_rfl
theorem ix2 (wx : World) : (Instr.index 80 (.agg (tb.fls.map fun l => Value.string ⟨l.toArray⟩).toArray) (.int .i64 2)).run Tryd.prog wx = .ok (.string (fn 2)) wx := by kernel_rfl
theorem ix3 (wx : World) : (Instr.index 80 (.agg (tb.fls.map fun l => Value.string ⟨l.toArray⟩).toArray) (.int .i64 3)).run Tryd.prog wx = .ok (.string (fn 3)) wx := by kernel_rfl
theorem ix4 (wx : World) : (Instr.index 80 (.agg (tb.fls.map fun l => Value.string ⟨l.toArray⟩).toArray) (.int .i64 4)).run Tryd.prog wx = .ok (.string (fn 4)) wx := by kernel_rfl
end Go.Proofs.YtejmfffapkmjoaaDoor.fg
