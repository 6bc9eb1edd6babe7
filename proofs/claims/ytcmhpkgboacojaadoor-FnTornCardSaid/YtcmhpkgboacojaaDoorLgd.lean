/-
  Both LogSync functions.
-/
import Derived.Test.YtcmhpkgboacojaaDoorLgc
namespace Go.Proofs.YtcmhpkgboacojaaDoor.lg
open Go.ChangeShapes Go.WideShapes Go.ChangeAt Go.RowKit Go.Deep Go.Joins
set_option linter.unusedVariables false

/-- What LogSync answers. -/
def sync (r : Int) (d : ByteArray) (s : Int) : Value := if ok r d.size s = true then RV r d d.size 0 else RV 0 ⟨#[]⟩ 0 1
theorem sync_form (r : Int) (d : ByteArray) (s : Int) : ∃ (r' : Int) (d' : ByteArray) (s' c : Int), sync r d s = RV r' d' s' c := by
  unfold sync
  split
  · exact ⟨_, _, _, _, rfl⟩
  · exact ⟨_, _, _, _, rfl⟩
/-- Two variables of a log, the second empty, as a call lays them. -/
theorem two_new (w : World) (T : TypeId) (r : Int) (d : ByteArray) (s : Int) :
    B3 ((w.alloc (.cells #[.int .i64 r, .string d, .int .i64 s] T)).alloc (.cells #[.int .i64 0, .string ⟨#[]⟩, .int .i64 0] T)) w.heap.size T (.int .i64 r) (.string d) (.int .i64 s) ∧
    B3 ((w.alloc (.cells #[.int .i64 r, .string d, .int .i64 s] T)).alloc (.cells #[.int .i64 0, .string ⟨#[]⟩, .int .i64 0] T)) (w.heap.size + 1) T (.int .i64 0) (.string ⟨#[]⟩) (.int .i64 0) ∧
    Below w.heap.size w ((w.alloc (.cells #[.int .i64 r, .string d, .int .i64 s] T)).alloc (.cells #[.int .i64 0, .string ⟨#[]⟩, .int .i64 0] T)) := by
  refine ⟨(b3_new w T (.int .i64 r) (.string d) (.int .i64 s)).keep (new_below _ T _), ?_, (new_below w _ _).trans ((new_below _ _ _).mono (by simp))⟩
  have h := b3_new (w.alloc (.cells #[.int .i64 r, .string d, .int .i64 s] T)) T (.int .i64 0) (.string ⟨#[]⟩) (.int .i64 0)
  rw [show (w.alloc (.cells #[.int .i64 r, .string d, .int .i64 s] T)).heap.size = w.heap.size + 1 from by simp] at h
  exact h

set_option maxHeartbeats 1000000 in
set_option maxRecDepth 100000 in
theorem impl_sync (r : Int) (d : ByteArray) (s : Int) (w : World) (hr : In r) (hd : d.size ≤ 1048576) (hs : In s) :
    Calls Tryd.prog 25 #[LV r d s] w fun e w' => e = .returned (sync r d s) ∧ Below w.heap.size w w' := by
  obtain ⟨A1, R1, b1⟩ := two_new w 28 r d s
  have hk : sync r d s = if ok r d.size s = true then RV r d d.size 0 else RV 0 ⟨#[]⟩ 0 1 := rfl
  have HO := fun W => impl_ok r d s W hr (Nat.le_trans hd (by unfold maxLen; omega)) hs
  have HC := fun W => cut_any r d s d.size W (Nat.le_refl _) hd
  have he : d.extract 0 d.size = d := ByteArray.extract_zero_size
  rw [he] at HC
  clear he
  generalize ok r d.size s = o at hk HO
  have HO' : Hid _ := HO
  have HC' : Hid _ := HC
  clear HO HC hr hs
  unfold LV
  by_cases ho : o = true
  · subst ho
    rw [hk, if_pos rfl]
    clear hk
    unfold RV LV
    go_enter Tryd.func25, Tryd.ntmps25
    go_wp2_with fail
    generalize (w.alloc (.cells #[.int .i64 r, .string d, .int .i64 s] 28)).alloc (.cells #[.int .i64 0, .string ⟨#[]⟩, .int .i64 0] 28) = w1 at A1 R1 b1 ⊢
    refine (HO'.out w1).mono ?_
    rintro e w2 ⟨rfl, k2⟩
    have A2 := A1.keep k2
    have R2 := R1.keep k2
    have b2 := b1.trans (k2.mono b1.size)
    clear A1 R1 k2 b1
    have a0 := A2.c0
    have a1 := A2.c1
    have a1' := A2.c1'
    have a2' := A2.c2'
    go_wp2_with fail
    refine (HC'.out w2).mono ?_
    rintro e w3 ⟨rfl, k3⟩
    unfold LV
    have R3 := R2.keep k3
    have b3 := b2.trans (k3.mono b2.size)
    clear A2 R2 b2 a0 a1 a1' a2' k3
    have r0 := R3.c0
    have r1 := R3.c1'
    have r2 := R3.c2'
    have f0 := R3.f 0
    have f1 := R3.f 1
    have f2 := R3.f 2
    go_wp2
    have A5 := R3.put (a' := .int .i64 r) (b' := .string d) (c' := .int .i64 d.size)
    have b5 := put_below (g := w.heap.size + 1) (a := .int .i64 r) (b := .string d) (c := .int .i64 d.size) b3 (by omega)
    change bodyPost _ _ _ _ _ (lg.put w3 (w.heap.size + 1) (.int .i64 r) (.string d) (.int .i64 d.size))
    generalize lg.put _ _ _ _ _ = W5 at A5 b5 ⊢
    have d0 := A5.c0
    have d1 := A5.c1
    have d2 := A5.c2
    exact bodyPost_ret (v := .tuple #[.agg #[.int .i64 r, .string d, .int .i64 d.size], .int .i64 0]) (by simp [results, Tryd.results25, go_sem, d0, d1, d2]) rfl ⟨rfl, b5⟩
  · obtain rfl : o = false := by simpa using ho
    rw [hk, if_neg (by simp)]
    clear hk ho
    unfold RV LV
    go_enter Tryd.func25, Tryd.ntmps25
    go_wp2_with fail
    generalize (w.alloc (.cells #[.int .i64 r, .string d, .int .i64 s] 28)).alloc (.cells #[.int .i64 0, .string ⟨#[]⟩, .int .i64 0] 28) = w1 at A1 R1 b1 ⊢
    refine (HO'.out w1).mono ?_
    rintro e w3 ⟨rfl, k2⟩
    have R3 := R1.keep k2
    have b3 := b1.trans (k2.mono b1.size)
    clear A1 R1 k2 b1
    have r0 := R3.c0
    have r1 := R3.c1'
    have r2 := R3.c2'
    have f0 := R3.f 0
    have f1 := R3.f 1
    have f2 := R3.f 2
    go_wp2
    have A5 := R3.put (a' := .int .i64 0) (b' := .string ⟨#[]⟩) (c' := .int .i64 0)
    have b5 := put_below (g := w.heap.size + 1) (a := .int .i64 0) (b := .string ⟨#[]⟩) (c := .int .i64 0) b3 (by omega)
    change bodyPost _ _ _ _ _ (lg.put w3 (w.heap.size + 1) (.int .i64 0) (.string ⟨#[]⟩) (.int .i64 0))
    generalize lg.put _ _ _ _ _ = W5 at A5 b5 ⊢
    have d0 := A5.c0
    have d1 := A5.c1
    have d2 := A5.c2
    exact bodyPost_ret (v := .tuple #[.agg #[.int .i64 0, .string ⟨#[]⟩, .int .i64 0], .int .i64 1]) (by simp [results, Tryd.results25, go_sem, d0, d1, d2]) rfl ⟨rfl, b5⟩

set_option maxHeartbeats 1000000 in
set_option maxRecDepth 100000 in
theorem l08Sync_any (r : Int) (d : ByteArray) (s : Int) (w : World) : Calls Tryd.prog 46 #[LV r d s] w fun e w' => e = .returned (LV r d d.size) ∧ Below w.heap.size w w' := by
  unfold LV
  go_enter Tryd.func46, Tryd.ntmps46
  go_wp2
  refine bodyPost_ret (v := .agg #[.int .i64 r, .string d, .int .i64 d.size]) (by simp [results, Tryd.results46, go_sem]) rfl ⟨rfl, ?_⟩
  first
    | exact ((Below.refl _ w).alloc (Nat.le_refl _) _).alloc (by simp) _

end Go.Proofs.YtcmhpkgboacojaaDoor.lg
