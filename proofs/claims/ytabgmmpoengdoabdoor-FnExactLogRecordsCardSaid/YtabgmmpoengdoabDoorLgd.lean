/-
  Both LogSync functions.
-/
import Derived.Test.YtabgmmpoengdoabDoorLgc
namespace Go.Proofs.YtabgmmpoengdoabDoor.lg
open Go.ChangeShapes Go.WideShapes Go.ChangeAt Go.RowKit Go.Deep Go.Joins
set_option linter.unusedVariables false

/-- What LogSync answers. -/
def sync (r : Int) (d : ByteArray) (s : Int) : Value := if ok r d.size s = true then RV r d d.size 0 else RV 0 ⟨#[]⟩ 0 1
theorem sync_form (r : Int) (d : ByteArray) (s : Int) : ∃ (r' : Int) (d' : ByteArray) (s' c : Int), sync r d s = RV r' d' s' c := by
  unfold sync
  split
  · exact ⟨_, _, _, _, rfl⟩
  · exact ⟨_, _, _, _, rfl⟩
/-- Two variables of a log, the second empty, as a call lays them. -/
theorem two_new (w : World) (T : TypeId) (r : Int) (d : ByteArray) (s : Int) :
    B3 ((w.alloc (.cells #[.int .i64 r, .string d, .int .i64 s] T)).alloc (.cells #[.int .i64 0, .string ⟨#[]⟩, .int .i64 0] T)) w.heap.size T (.int .i64 r) (.string d) (.int .i64 s) ∧
    B3 ((w.alloc (.cells #[.int .i64 r, .string d, .int .i64 s] T)).alloc (.cells #[.int .i64 0, .string ⟨#[]⟩, .int .i64 0] T)) (w.heap.size + 1) T (.int .i64 0) (.string ⟨#[]⟩) (.int .i64 0) ∧
    Below w.heap.size w ((w.alloc (.cells #[.int .i64 r, .string d, .int .i64 s] T)).alloc (.cells #[.int .i64 0, .string ⟨#[]⟩, .int .i64 0] T)) := by
  refine ⟨(b3_new w T (.int .i64 r) (.string d) (.int .i64 s)).keep (new_below _ T _), ?_, (new_below w _ _).trans ((new_below _ _ _).mono (by simp))⟩
  have h := b3_new (w.alloc (.cells #[.int .i64 r, .string d, .int .i64 s] T)) T (.int .i64 0) (.string ⟨#[]⟩) (.int .i64 0)
  rw [show (w.alloc (.cells #[.int .i64 r, .string d, .int .i64 s] T)).heap.size = w.heap.size + 1 from by simp] at h
  exact h


set_option maxHeartbeats 1000000 in
set_option maxRecDepth 100000 in
theorem l08Sync_any (r : Int) (d : ByteArray) (s : Int) (w : World) : Calls Tryd.prog 30 #[LV r d s] w fun e w' => e = .returned (LV r d d.size) ∧ Below w.heap.size w w' := by
  unfold LV
  go_enter Tryd.func30, Tryd.ntmps30
  go_wp2
  refine bodyPost_ret (v := .agg #[.int .i64 r, .string d, .int .i64 d.size]) (by simp [results, Tryd.results30, go_sem]) rfl ⟨rfl, ?_⟩
  first
    | exact ((Below.refl _ w).alloc (Nat.le_refl _) _).alloc (by simp) _

end Go.Proofs.YtabgmmpoengdoabDoor.lg
