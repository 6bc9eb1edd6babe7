/-
  Both LogCrash functions.
-/
import Derived.Test.YtcmhpkgboacojaaDoorLgd
namespace Go.Proofs.YtcmhpkgboacojaaDoor.lg
open Go.ChangeShapes Go.WideShapes Go.ChangeAt Go.RowKit Go.Deep Go.Joins
set_option linter.unusedVariables false

/-- How many bytes a crash leaves. -/
def left (n : Nat) (s keep : Int) : Nat := (s + min (max keep 0) ((n : Int) - s)).toNat
/-- What LogCrash answers. -/
def crash (r : Int) (d : ByteArray) (s keep : Int) : Value := if ok r d.size s = true then RV r (d.extract 0 (left d.size s keep)) (left d.size s keep) 0 else RV 0 ⟨#[]⟩ 0 1
theorem crash_form (r : Int) (d : ByteArray) (s keep : Int) : ∃ (r' : Int) (d' : ByteArray) (s' c : Int), crash r d s keep = RV r' d' s' c := by
  unfold crash
  split
  · exact ⟨_, _, _, _, rfl⟩
  · exact ⟨_, _, _, _, rfl⟩
theorem left_le {r : Int} {n : Nat} {s : Int} (keep : Int) (h : ok r n s = true) : left n s keep ≤ n ∧ ((left n s keep : Nat) : Int) = s + min (max keep 0) ((n : Int) - s) ∧ ((left n s keep : Nat) : Int) = s + max 0 (min keep ((n : Int) - s)) := by
  have h := of_decide_eq_true h
  unfold left
  omega

set_option maxHeartbeats 1000000 in
set_option maxRecDepth 100000 in
theorem impl_crash (r : Int) (d : ByteArray) (s keep : Int) (w : World) (hr : In r) (hd : d.size ≤ 1048576) (hs : In s) (hk : In keep) :
    Calls Tryd.prog 26 #[LV r d s, .int .i64 keep] w fun e w' => e = .returned (crash r d s keep) ∧ Below w.heap.size w w' := by
  obtain ⟨A1, R1, b1⟩ := two_new w 28 r d s
  have HO := fun W => impl_ok r d s W hr (Nat.le_trans hd (by unfold maxLen; omega)) hs
  unfold crash LV
  by_cases ho : ok r d.size s = true
  · obtain ⟨hkx, hk1, hk2⟩ := left_le keep ho
    have ho2 := of_decide_eq_true ho
    rw [if_pos ho]
    rw [ho] at HO
    have HC := fun W => cut_any r d s (left d.size s keep) W hkx hd
    have HO' : Hid _ := HO
    clear HO hr hs
    generalize left d.size s keep = K at hkx hk1 hk2 HC ⊢
    have HC' : Hid _ := HC
    clear HC ho
    unfold RV LV
    go_enter Tryd.func26, Tryd.ntmps26
    go_wp2_with fail
    generalize (w.alloc (.cells #[.int .i64 r, .string d, .int .i64 s] 28)).alloc (.cells #[.int .i64 0, .string ⟨#[]⟩, .int .i64 0] 28) = w1 at A1 R1 b1 ⊢
    refine (HO'.out w1).mono ?_
    rintro e w2 ⟨rfl, k2⟩
    have A2 := A1.keep k2
    have R2 := R1.keep k2
    have b2 := b1.trans (k2.mono b1.size)
    clear A1 R1 k2 b1
    have a0 := A2.c0
    have a1 := A2.c1
    have a2 := A2.c2
    have a1' := A2.c1'
    have a2' := A2.c2'
    go_wp2_with fail
    rw [← hk1]
    clear hk1 hk2
    refine (HC'.out w2).mono ?_
    rintro e w3 ⟨rfl, k3⟩
    unfold LV
    have R3 := R2.keep k3
    have b3 := b2.trans (k3.mono b2.size)
    clear A2 R2 b2 a0 a1 a2 a1' a2' k3
    have r0 := R3.c0
    have r1 := R3.c1'
    have r2 := R3.c2'
    have f0 := R3.f 0
    have f1 := R3.f 1
    have f2 := R3.f 2
    go_wp2
    have A5 := R3.put (a' := .int .i64 r) (b' := .string (d.extract 0 K)) (c' := .int .i64 K)
    have b5 := put_below (g := w.heap.size + 1) (a := .int .i64 r) (b := .string (d.extract 0 K)) (c := .int .i64 K) b3 (by omega)
    change bodyPost _ _ _ _ _ (lg.put w3 (w.heap.size + 1) (.int .i64 r) (.string (d.extract 0 K)) (.int .i64 K))
    generalize lg.put _ _ _ _ _ = W5 at A5 b5 ⊢
    have d0 := A5.c0
    have d1 := A5.c1
    have d2 := A5.c2
    exact bodyPost_ret (v := .tuple #[.agg #[.int .i64 r, .string (d.extract 0 K), .int .i64 K], .int .i64 0]) (by simp [results, Tryd.results26, go_sem, d0, d1, d2]) rfl ⟨rfl, b5⟩
  · have ho' : ok r d.size s = false := by simpa using ho
    rw [ho'] at HO
    rw [if_neg ho]
    have HO' : Hid _ := HO
    clear HO ho ho' hr hs
    unfold RV LV
    go_enter Tryd.func26, Tryd.ntmps26
    go_wp2_with fail
    generalize (w.alloc (.cells #[.int .i64 r, .string d, .int .i64 s] 28)).alloc (.cells #[.int .i64 0, .string ⟨#[]⟩, .int .i64 0] 28) = w1 at A1 R1 b1 ⊢
    refine (HO'.out w1).mono ?_
    rintro e w3 ⟨rfl, k2⟩
    have R3 := R1.keep k2
    have b3 := b1.trans (k2.mono b1.size)
    clear A1 R1 k2 b1
    have r0 := R3.c0
    have r1 := R3.c1'
    have r2 := R3.c2'
    have f0 := R3.f 0
    have f1 := R3.f 1
    have f2 := R3.f 2
    go_wp2
    have A5 := R3.put (a' := .int .i64 0) (b' := .string ⟨#[]⟩) (c' := .int .i64 0)
    have b5 := put_below (g := w.heap.size + 1) (a := .int .i64 0) (b := .string ⟨#[]⟩) (c := .int .i64 0) b3 (by omega)
    change bodyPost _ _ _ _ _ (lg.put w3 (w.heap.size + 1) (.int .i64 0) (.string ⟨#[]⟩) (.int .i64 0))
    generalize lg.put _ _ _ _ _ = W5 at A5 b5 ⊢
    have d0 := A5.c0
    have d1 := A5.c1
    have d2 := A5.c2
    exact bodyPost_ret (v := .tuple #[.agg #[.int .i64 0, .string ⟨#[]⟩, .int .i64 0], .int .i64 1]) (by simp [results, Tryd.results26, go_sem, d0, d1, d2]) rfl ⟨rfl, b5⟩


end Go.Proofs.YtcmhpkgboacojaaDoor.lg
