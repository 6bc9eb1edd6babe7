/-
  Both LogAppend functions.
-/
import Derived.Test.YtcmhpkgboacojaaDoorLgh
import Derived.Test.YtcmhpkgboacojaaDoorLgp
import Derived.Deep.RegionWith
namespace Go.Proofs.YtcmhpkgboacojaaDoor.lg
open Go.ChangeShapes Go.WideShapes Go.ChangeAt Go.RowKit Go.Deep Go.Joins
set_option linter.unusedVariables false

/-- What is answered to a record that is not too long, at a log that is right. -/
def app1 (r : Int) (d : ByteArray) (s : Int) (x : ByteArray) : Value := if r < (d.size : Int) + 7 + x.size then RV r d s 7 else RV r (d ++ fr x) s 0
/-- What LogAppend answers. -/
def app (r : Int) (d : ByteArray) (s : Int) (x : ByteArray) : Value :=
  if 65536 < x.size then RV 0 ⟨#[]⟩ 0 2 else if ok r d.size s = false then RV 0 ⟨#[]⟩ 0 1 else if 1 ≤ x.size ∧ x.size ≤ 20000 then app1 r d s x else RV r d s 4
theorem app_form (r : Int) (d : ByteArray) (s : Int) (x : ByteArray) : ∃ (r' : Int) (d' : ByteArray) (s' c : Int), app r d s x = RV r' d' s' c := by
  unfold app
  split
  · exact ⟨_, _, _, _, rfl⟩
  · split
    · exact ⟨_, _, _, _, rfl⟩
    · split
      · unfold app1
        split
        · exact ⟨_, _, _, _, rfl⟩
        · exact ⟨_, _, _, _, rfl⟩
      · exact ⟨_, _, _, _, rfl⟩

theorem isLen_any (n : Int) (w : World) : Calls Tryd.prog 38 #[.int .i64 n] w fun e w' => e = .returned (.bool (decide (1 ≤ n ∧ n ≤ 20000))) ∧ w' = w := by
  by_cases h0 : 1 ≤ n
  · by_cases h1 : n ≤ 20000
    · rw [decide_eq_true ⟨h0, h1⟩]
      go_enter Tryd.func38, Tryd.ntmps38
      go_wp2
      go_ret
      exact ⟨rfl, rfl⟩
    · rw [decide_eq_false (by omega)]
      go_enter Tryd.func38, Tryd.ntmps38
      go_wp2
      go_ret
      exact ⟨rfl, rfl⟩
  · rw [decide_eq_false (by omega)]
    go_enter Tryd.func38, Tryd.ntmps38
    go_wp2
    go_ret
    exact ⟨rfl, rfl⟩

set_option maxHeartbeats 2000000 in
set_option maxRecDepth 100000 in
theorem impl_app (r : Int) (d : ByteArray) (s : Int) (x : ByteArray) (w : World) (hr : In r) (hd : d.size ≤ 1048576) (hs : In s) (hx : x.size ≤ 1048576) :
    Calls Tryd.prog 19 #[LV r d s, .string x] w fun e w' => e = .returned (app r d s x) ∧ Below w.heap.size w w' := by
  obtain ⟨A1, R1, b1⟩ := two_new w 28 r d s
  have HO := fun W => impl_ok r d s W hr (Nat.le_trans hd (by unfold maxLen; omega)) hs
  have HP := fun W => copied_any r d s W hd
  have HN := fun W => isLen_any x.size W
  unfold app LV
  have HP' : Hid _ := HP
  clear HP
  by_cases h0 : 65536 < x.size
  · rw [if_pos h0]
    unfold RV LV
    clear HO HN HP'
    go_enter Tryd.func19, Tryd.ntmps19
    go_wp2
    refine bodyPost_ret (v := .tuple #[.agg #[.int .i64 0, .string ⟨#[]⟩, .int .i64 0], .int .i64 2]) (by simp [results, Tryd.results19, go_sem]) rfl ⟨rfl, b1⟩
  rw [if_neg h0]
  by_cases ho : ok r d.size s = false
  · rw [ho] at HO
    rw [if_pos ho]
    have HO' : Hid _ := HO
    clear HO ho hr hs HN HP'
    unfold RV LV
    go_enter Tryd.func19, Tryd.ntmps19
    go_wp2_with fail
    generalize (w.alloc (.cells #[.int .i64 r, .string d, .int .i64 s] 28)).alloc (.cells #[.int .i64 0, .string ⟨#[]⟩, .int .i64 0] 28) = w1 at A1 R1 b1 ⊢
    refine (HO'.out w1).mono ?_
    rintro e w3 ⟨rfl, k2⟩
    have R3 := R1.keep k2
    have b3 := b1.trans (k2.mono b1.size)
    clear A1 R1 k2 b1
    have r0 := R3.c0
    have r1 := R3.c1'
    have r2 := R3.c2'
    have f0 := R3.f 0
    have f1 := R3.f 1
    have f2 := R3.f 2
    go_wp2
    have A5 := R3.put (a' := .int .i64 0) (b' := .string ⟨#[]⟩) (c' := .int .i64 0)
    have b5 := put_below (g := w.heap.size + 1) (a := .int .i64 0) (b := .string ⟨#[]⟩) (c := .int .i64 0) b3 (by omega)
    change bodyPost _ _ _ _ _ (lg.put w3 (w.heap.size + 1) (.int .i64 0) (.string ⟨#[]⟩) (.int .i64 0))
    generalize lg.put _ _ _ _ _ = W5 at A5 b5 ⊢
    have d0 := A5.c0
    have d1 := A5.c1
    have d2 := A5.c2
    exact bodyPost_ret (v := .tuple #[.agg #[.int .i64 0, .string ⟨#[]⟩, .int .i64 0], .int .i64 1]) (by simp [results, Tryd.results19, go_sem, d0, d1, d2]) rfl ⟨rfl, b5⟩
  have ho1 : ok r d.size s = true := by simpa using ho
  rw [if_neg ho]
  rw [ho1] at HO
  have ho2 := of_decide_eq_true ho1
  have HO' : Hid _ := HO
  clear HO ho ho1 hr hs
  by_cases h1 : 1 ≤ x.size ∧ x.size ≤ 20000
  · rw [if_pos h1]
    rw [decide_eq_true (show 1 ≤ (x.size : Int) ∧ (x.size : Int) ≤ 20000 from by omega)] at HN
    have HN' : Hid _ := HN
    clear HN
    obtain ⟨h11, h12⟩ := h1
    unfold app1
    by_cases h2 : r < (d.size : Int) + 7 + x.size
    · rw [if_pos h2]
      unfold RV LV
      go_enter Tryd.func19, Tryd.ntmps19
      go_wp2_with fail
      generalize (w.alloc (.cells #[.int .i64 r, .string d, .int .i64 s] 28)).alloc (.cells #[.int .i64 0, .string ⟨#[]⟩, .int .i64 0] 28) = w1 at A1 R1 b1 ⊢
      refine (HO'.out w1).mono ?_
      rintro e w2 ⟨rfl, k2⟩
      have A2 := A1.keep k2
      have R2 := R1.keep k2
      have b2 := b1.trans (k2.mono b1.size)
      clear A1 R1 k2 b1
      have a0 := A2.c0
      have a1 := A2.c1
      have a2 := A2.c2
      have a1' := A2.c1'
      have a2' := A2.c2'
      go_wp2_with fail
      refine (HN'.out w2).mono ?_
      rintro e w3 ⟨rfl, rfl⟩
      go_wp2_with fail
      refine (HP'.out w3).mono ?_
      rintro e w4 ⟨rfl, k3⟩
      unfold LV
      have R3 := R2.keep k3
      have b3 := b2.trans (k3.mono b2.size)
      clear A2 R2 b2 a0 a1 a2 a1' a2' k3
      have r0 := R3.c0
      have r1 := R3.c1'
      have r2 := R3.c2'
      have f0 := R3.f 0
      have f1 := R3.f 1
      have f2 := R3.f 2
      go_wp2
      have A5 := R3.put (a' := .int .i64 r) (b' := .string d) (c' := .int .i64 s)
      have b5 := put_below (g := w.heap.size + 1) (a := .int .i64 r) (b := .string d) (c := .int .i64 s) b3 (by omega)
      change bodyPost _ _ _ _ _ (lg.put w4 (w.heap.size + 1) (.int .i64 r) (.string d) (.int .i64 s))
      generalize lg.put _ _ _ _ _ = W5 at A5 b5 ⊢
      have d0 := A5.c0
      have d1 := A5.c1
      have d2 := A5.c2
      exact bodyPost_ret (v := .tuple #[.agg #[.int .i64 r, .string d, .int .i64 s], .int .i64 7]) (by simp [results, Tryd.results19, go_sem, d0, d1, d2]) rfl ⟨rfl, b5⟩
    · rw [if_neg h2]
      have HT := fun W => recordText_any x W h12
      have hfs := fr_size x
      generalize fr x = f at HT hfs ⊢
      have HT' : Hid _ := HT
      have m1 : (9223372036854775807 < d.size + f.size) = False := eq_false (by omega)
      clear HT
      unfold RV LV
      clear hfs HP'
      go_enter Tryd.func19, Tryd.ntmps19
      go_wp2_with fail
      generalize (w.alloc (.cells #[.int .i64 r, .string d, .int .i64 s] 28)).alloc (.cells #[.int .i64 0, .string ⟨#[]⟩, .int .i64 0] 28) = w1 at A1 R1 b1 ⊢
      refine (HO'.out w1).mono ?_
      rintro e w2 ⟨rfl, k2⟩
      have A2 := A1.keep k2
      have R2 := R1.keep k2
      have b2 := b1.trans (k2.mono b1.size)
      clear A1 R1 k2 b1
      have a0 := A2.c0
      have a1 := A2.c1
      have a2 := A2.c2
      have a1' := A2.c1'
      have a2' := A2.c2'
      go_wp2_with fail
      refine (HN'.out w2).mono ?_
      rintro e w3 ⟨rfl, rfl⟩
      have HA3 : Hid (B3 w3 w.heap.size 28 (.int .i64 r) (.string d) (.int .i64 s)) := A2
      have HR3 : Hid (B3 w3 (w.heap.size + 1) 28 (.int .i64 0) (.string ⟨#[]⟩) (.int .i64 0)) := R2
      have HB3 : Hid (Below w.heap.size w w3) := b2
      clear A2 R2 b2
      have g1 := HA3.out.f 1
      go_wp2_with fail
      go_region_with (go_at_call 39; refine (HT'.out _).mono ?_; rintro e w4 ⟨rfl, k4⟩; have A4 : B3 w4 w.heap.size 28 (.int .i64 r) (.string d) (.int .i64 s) := B3.keep (w := w3.drew) HA3.out k4; have HR4 : Hid (B3 w4 (w.heap.size + 1) 28 (.int .i64 0) (.string ⟨#[]⟩) (.int .i64 0)) := B3.keep (w := w3.drew) HR3.out k4; have HB4 : Hid (Below w.heap.size w w4) := HB3.out.drew.trans (k4.mono HB3.out.size); have y0 := A4.c0; have y1 := A4.c1; have y1' := A4.c1'; have y2 := A4.c2; have y2' := A4.c2'; have z1 := A4.f 1; have v0 := HR4.out.c0; have v1 := HR4.out.c1'; have v2 := HR4.out.c2'; have v3 := HR4.out.f 0; have v4 := HR4.out.f 1; have v5 := HR4.out.f 2; clear A4 k4)
      all_goals (try go_wp2)
      all_goals
        have A5 := (HR4.out.other (g' := w.heap.size) 1 (.string (d ++ f)) (by omega)).put (a' := .int .i64 r) (b' := .string (d ++ f)) (c' := .int .i64 s)
        have b5 := put_below (g := w.heap.size + 1) (a := .int .i64 r) (b := .string (d ++ f)) (c := .int .i64 s) (HB4.out.setCell (p := ⟨w.heap.size, 1, none⟩) (Nat.le_refl _) (.string (d ++ f))) (by omega)
        change bodyPost _ _ _ _ _ (lg.put (w4.setCell ⟨w.heap.size, 1, none⟩ (.string (d ++ f))) (w.heap.size + 1) (.int .i64 r) (.string (d ++ f)) (.int .i64 s))
        generalize lg.put _ _ _ _ _ = W5 at A5 b5 ⊢
        have d0 := A5.c0
        have d1 := A5.c1
        have d2 := A5.c2
        exact bodyPost_ret (v := .tuple #[.agg #[.int .i64 r, .string (d ++ f), .int .i64 s], .int .i64 0]) (by simp [results, Tryd.results19, go_sem, d0, d1, d2]) rfl ⟨rfl, b5⟩
  · rw [if_neg h1]
    rw [decide_eq_false (show ¬ (1 ≤ (x.size : Int) ∧ (x.size : Int) ≤ 20000) from by omega)] at HN
    have HN' : Hid _ := HN
    clear HN h1
    unfold RV LV
    go_enter Tryd.func19, Tryd.ntmps19
    go_wp2_with fail
    generalize (w.alloc (.cells #[.int .i64 r, .string d, .int .i64 s] 28)).alloc (.cells #[.int .i64 0, .string ⟨#[]⟩, .int .i64 0] 28) = w1 at A1 R1 b1 ⊢
    refine (HO'.out w1).mono ?_
    rintro e w2 ⟨rfl, k2⟩
    have A2 := A1.keep k2
    have R2 := R1.keep k2
    have b2 := b1.trans (k2.mono b1.size)
    clear A1 R1 k2 b1
    have a0 := A2.c0
    have a1 := A2.c1
    have a2 := A2.c2
    have a1' := A2.c1'
    have a2' := A2.c2'
    go_wp2_with fail
    refine (HN'.out w2).mono ?_
    rintro e w3 ⟨rfl, rfl⟩
    go_wp2_with fail
    refine (HP'.out w3).mono ?_
    rintro e w4 ⟨rfl, k3⟩
    unfold LV
    have R3 := R2.keep k3
    have b3 := b2.trans (k3.mono b2.size)
    clear A2 R2 b2 a0 a1 a2 a1' a2' k3
    have r0 := R3.c0
    have r1 := R3.c1'
    have r2 := R3.c2'
    have f0 := R3.f 0
    have f1 := R3.f 1
    have f2 := R3.f 2
    go_wp2
    have A5 := R3.put (a' := .int .i64 r) (b' := .string d) (c' := .int .i64 s)
    have b5 := put_below (g := w.heap.size + 1) (a := .int .i64 r) (b := .string d) (c := .int .i64 s) b3 (by omega)
    change bodyPost _ _ _ _ _ (lg.put w4 (w.heap.size + 1) (.int .i64 r) (.string d) (.int .i64 s))
    generalize lg.put _ _ _ _ _ = W5 at A5 b5 ⊢
    have d0 := A5.c0
    have d1 := A5.c1
    have d2 := A5.c2
    exact bodyPost_ret (v := .tuple #[.agg #[.int .i64 r, .string d, .int .i64 s], .int .i64 4]) (by simp [results, Tryd.results19, go_sem, d0, d1, d2]) rfl ⟨rfl, b5⟩

set_option maxHeartbeats 1000000 in
set_option maxRecDepth 100000 in
theorem l08Append_any (r : Int) (d : ByteArray) (s : Int) (x : ByteArray) (w : World) (hd : d.size ≤ 1048576) (hr : In r) (hx : x.size ≤ 20000) :
    Calls Tryd.prog 41 #[LV r d s, .string x] w fun e w' => e = .returned (app1 r d s x) ∧ Below w.heap.size w w' := by
  obtain ⟨A1, R1, b1⟩ := two_new w 28 r d s
  have HT := fun W => l08Frame_any x W hx
  have hfs := fr_size x
  have hap : app1 r d s x = if r < (d.size : Int) + 7 + x.size then RV r d s 7 else RV r (d ++ fr x) s 0 := rfl
  rw [hap]
  clear hap
  generalize fr x = f at HT hfs ⊢
  have HT' : Hid _ := HT
  have m1 : (9223372036854775807 < d.size + f.size) = False := eq_false (by omega)
  have h2' : (r < (d.size : Int) + 7 + x.size) = (r < (d.size : Int) + f.size) := propext ⟨fun h => by omega, fun h => by omega⟩
  simp only [h2']
  clear HT h2'
  unfold LV
  by_cases h2 : r < (d.size : Int) + f.size
  · rw [if_pos h2]
    unfold RV LV
    go_enter Tryd.func41, Tryd.ntmps41
    go_wp2_with fail
    generalize (w.alloc (.cells #[.int .i64 r, .string d, .int .i64 s] 28)).alloc (.cells #[.int .i64 0, .string ⟨#[]⟩, .int .i64 0] 28) = w1 at A1 R1 b1 ⊢
    refine (HT'.out w1).mono ?_
    rintro e w3 ⟨rfl, k2⟩
    have A2 := A1.keep k2
    have R3 := R1.keep k2
    have b3 := b1.trans (k2.mono b1.size)
    clear A1 R1 k2 b1
    have a0 := A2.c0
    have a1 := A2.c1
    have a2 := A2.c2
    have a1' := A2.c1'
    have a2' := A2.c2'
    have r0 := R3.c0
    have r1 := R3.c1'
    have r2 := R3.c2'
    have f0 := R3.f 0
    have f1 := R3.f 1
    have f2 := R3.f 2
    go_wp2
    have A5 := R3.put (a' := .int .i64 r) (b' := .string d) (c' := .int .i64 s)
    have b5 := put_below (g := w.heap.size + 1) (a := .int .i64 r) (b := .string d) (c := .int .i64 s) b3 (by omega)
    change bodyPost _ _ _ _ _ (lg.put w3 (w.heap.size + 1) (.int .i64 r) (.string d) (.int .i64 s))
    generalize lg.put _ _ _ _ _ = W5 at A5 b5 ⊢
    have d0 := A5.c0
    have d1 := A5.c1
    have d2 := A5.c2
    exact bodyPost_ret (v := .tuple #[.agg #[.int .i64 r, .string d, .int .i64 s], .int .i64 7]) (by simp [results, Tryd.results41, go_sem, d0, d1, d2]) rfl ⟨rfl, b5⟩
  · rw [if_neg h2]
    unfold RV LV
    go_enter Tryd.func41, Tryd.ntmps41
    go_wp2_with fail
    generalize (w.alloc (.cells #[.int .i64 r, .string d, .int .i64 s] 28)).alloc (.cells #[.int .i64 0, .string ⟨#[]⟩, .int .i64 0] 28) = w1 at A1 R1 b1 ⊢
    refine (HT'.out w1).mono ?_
    rintro e w4 ⟨rfl, k2⟩
    have A2 := A1.keep k2
    have R3 := R1.keep k2
    have b3 := b1.trans (k2.mono b1.size)
    clear A1 R1 k2 b1
    have a0 := A2.c0
    have a1 := A2.c1
    have a2 := A2.c2
    have a1' := A2.c1'
    have a2' := A2.c2'
    have g1 := A2.f 1
    have r0 := R3.c0
    have r1 := R3.c1'
    have r2 := R3.c2'
    have f0 := R3.f 0
    have f1 := R3.f 1
    have f2 := R3.f 2
    go_wp2
    have A5 := (R3.other (g' := w.heap.size) 1 (.string (d ++ f)) (by omega)).put (a' := .int .i64 r) (b' := .string (d ++ f)) (c' := .int .i64 s)
    have b5 := put_below (g := w.heap.size + 1) (a := .int .i64 r) (b := .string (d ++ f)) (c := .int .i64 s) (b3.setCell (p := ⟨w.heap.size, 1, none⟩) (Nat.le_refl _) (.string (d ++ f))) (by omega)
    change bodyPost _ _ _ _ _ (lg.put (w4.setCell ⟨w.heap.size, 1, none⟩ (.string (d ++ f))) (w.heap.size + 1) (.int .i64 r) (.string (d ++ f)) (.int .i64 s))
    generalize lg.put _ _ _ _ _ = W5 at A5 b5 ⊢
    have d0 := A5.c0
    have d1 := A5.c1
    have d2 := A5.c2
    exact bodyPost_ret (v := .tuple #[.agg #[.int .i64 r, .string (d ++ f), .int .i64 s], .int .i64 0]) (by simp [results, Tryd.results41, go_sem, d0, d1, d2]) rfl ⟨rfl, b5⟩

set_option maxHeartbeats 1000000 in
set_option maxRecDepth 100000 in
theorem spec_app (r : Int) (d : ByteArray) (s : Int) (x : ByteArray) (w : World) (hr : In r) (hd : d.size ≤ 1048576) (hs : In s) (hx : x.size ≤ 1048576) :
    Calls Tryd.prog 20 #[LV r d s, .string x] w fun e w' => e = .returned (app r d s x) ∧ Below w.heap.size w w' := by
  obtain ⟨A1, R1, b1⟩ := two_new w 28 r d s
  have HO := fun W => spec_ok r d s W hr (Nat.le_trans hd (by unfold maxLen; omega)) hs
  have HN := fun W => spec_in x.size 1 20000 W
  unfold app LV
  by_cases h0 : 65536 < x.size
  · rw [if_pos h0]
    unfold RV LV
    clear HO HN
    go_enter Tryd.func20, Tryd.ntmps20
    go_wp2
    refine bodyPost_ret (v := .tuple #[.agg #[.int .i64 0, .string ⟨#[]⟩, .int .i64 0], .int .i64 2]) (by simp [results, Tryd.results20, go_sem]) rfl ⟨rfl, b1⟩
  rw [if_neg h0]
  by_cases ho : ok r d.size s = false
  · rw [ho] at HO
    rw [if_pos ho]
    have HO' : Hid _ := HO
    clear HO ho hr hs HN
    unfold RV LV
    go_enter Tryd.func20, Tryd.ntmps20
    go_wp2_with fail
    generalize (w.alloc (.cells #[.int .i64 r, .string d, .int .i64 s] 28)).alloc (.cells #[.int .i64 0, .string ⟨#[]⟩, .int .i64 0] 28) = w1 at A1 R1 b1 ⊢
    refine (HO'.out w1).mono ?_
    rintro e w3 ⟨rfl, k2⟩
    have R3 := R1.keep k2
    have b3 := b1.trans (k2.mono b1.size)
    clear A1 R1 k2 b1
    have r0 := R3.c0
    have r1 := R3.c1'
    have r2 := R3.c2'
    have f0 := R3.f 0
    have f1 := R3.f 1
    have f2 := R3.f 2
    go_wp2
    have A5 := R3.put (a' := .int .i64 0) (b' := .string ⟨#[]⟩) (c' := .int .i64 0)
    have b5 := put_below (g := w.heap.size + 1) (a := .int .i64 0) (b := .string ⟨#[]⟩) (c := .int .i64 0) b3 (by omega)
    change bodyPost _ _ _ _ _ (lg.put w3 (w.heap.size + 1) (.int .i64 0) (.string ⟨#[]⟩) (.int .i64 0))
    generalize lg.put _ _ _ _ _ = W5 at A5 b5 ⊢
    have d0 := A5.c0
    have d1 := A5.c1
    have d2 := A5.c2
    exact bodyPost_ret (v := .tuple #[.agg #[.int .i64 0, .string ⟨#[]⟩, .int .i64 0], .int .i64 1]) (by simp [results, Tryd.results20, go_sem, d0, d1, d2]) rfl ⟨rfl, b5⟩
  have ho1 : ok r d.size s = true := by simpa using ho
  rw [if_neg ho]
  rw [ho1] at HO
  have ho2 := of_decide_eq_true ho1
  have HO' : Hid _ := HO
  clear HO ho ho1 hs
  by_cases h1 : 1 ≤ x.size ∧ x.size ≤ 20000
  · rw [if_pos h1]
    rw [decide_eq_true (show 1 ≤ (x.size : Int) ∧ (x.size : Int) ≤ 20000 from by omega)] at HN
    have HN' : Hid _ := HN
    obtain ⟨h11, h12⟩ := h1
    have HA := fun W => l08Append_any r d s x W hd hr h12
    clear HN hr
    obtain ⟨r', d', s', c, hf⟩ : ∃ (r' : Int) (d' : ByteArray) (s' c : Int), app1 r d s x = RV r' d' s' c := by
      unfold app1
      split
      · exact ⟨_, _, _, _, rfl⟩
      · exact ⟨_, _, _, _, rfl⟩
    rw [hf] at HA ⊢
    have HA' : Hid _ := HA
    clear HA hf
    unfold RV LV
    go_enter Tryd.func20, Tryd.ntmps20
    go_wp2_with fail
    generalize (w.alloc (.cells #[.int .i64 r, .string d, .int .i64 s] 28)).alloc (.cells #[.int .i64 0, .string ⟨#[]⟩, .int .i64 0] 28) = w1 at A1 R1 b1 ⊢
    refine (HO'.out w1).mono ?_
    rintro e w2 ⟨rfl, k2⟩
    have A2 := A1.keep k2
    have R2 := R1.keep k2
    have b2 := b1.trans (k2.mono b1.size)
    clear A1 R1 k2 b1
    have a0 := A2.c0
    have a1 := A2.c1
    have a2 := A2.c2
    have a1' := A2.c1'
    have a2' := A2.c2'
    go_wp2_with fail
    refine (HN'.out w2).mono ?_
    rintro e w3 ⟨rfl, rfl⟩
    go_wp2_with fail
    refine (HA'.out w3).mono ?_
    rintro e w4 ⟨rfl, k3⟩
    unfold RV LV
    have R3 := R2.keep k3
    have b3 := b2.trans (k3.mono b2.size)
    clear A2 R2 b2 a0 a1 a2 a1' a2' k3
    have r0 := R3.c0
    have r1 := R3.c1'
    have r2 := R3.c2'
    have f0 := R3.f 0
    have f1 := R3.f 1
    have f2 := R3.f 2
    go_wp2
    have A5 := R3.put (a' := .int .i64 r') (b' := .string d') (c' := .int .i64 s')
    have b5 := put_below (g := w.heap.size + 1) (a := .int .i64 r') (b := .string d') (c := .int .i64 s') b3 (by omega)
    change bodyPost _ _ _ _ _ (lg.put w4 (w.heap.size + 1) (.int .i64 r') (.string d') (.int .i64 s'))
    generalize lg.put _ _ _ _ _ = W5 at A5 b5 ⊢
    have d0 := A5.c0
    have d1 := A5.c1
    have d2 := A5.c2
    exact bodyPost_ret (v := .tuple #[.agg #[.int .i64 r', .string d', .int .i64 s'], .int .i64 c]) (by simp [results, Tryd.results20, go_sem, d0, d1, d2]) rfl ⟨rfl, b5⟩
  · rw [if_neg h1]
    rw [decide_eq_false (show ¬ (1 ≤ (x.size : Int) ∧ (x.size : Int) ≤ 20000) from by omega)] at HN
    have HN' : Hid _ := HN
    clear HN h1
    unfold RV LV
    go_enter Tryd.func20, Tryd.ntmps20
    go_wp2_with fail
    generalize (w.alloc (.cells #[.int .i64 r, .string d, .int .i64 s] 28)).alloc (.cells #[.int .i64 0, .string ⟨#[]⟩, .int .i64 0] 28) = w1 at A1 R1 b1 ⊢
    refine (HO'.out w1).mono ?_
    rintro e w2 ⟨rfl, k2⟩
    have A2 := A1.keep k2
    have R2 := R1.keep k2
    have b2 := b1.trans (k2.mono b1.size)
    clear A1 R1 k2 b1
    have a0 := A2.c0
    have a1 := A2.c1
    have a2 := A2.c2
    have a1' := A2.c1'
    have a2' := A2.c2'
    go_wp2_with fail
    refine (HN'.out w2).mono ?_
    rintro e w3 ⟨rfl, rfl⟩
    have R3 := R2
    have b3 := b2
    clear R2 b2
    have r0 := R3.c0
    have r1 := R3.c1'
    have r2 := R3.c2'
    have f0 := R3.f 0
    have f1 := R3.f 1
    have f2 := R3.f 2
    go_wp2
    have A5 := R3.put (a' := .int .i64 r) (b' := .string d) (c' := .int .i64 s)
    have b5 := put_below (g := w.heap.size + 1) (a := .int .i64 r) (b := .string d) (c := .int .i64 s) b3 (by omega)
    change bodyPost _ _ _ _ _ (lg.put w3 (w.heap.size + 1) (.int .i64 r) (.string d) (.int .i64 s))
    generalize lg.put _ _ _ _ _ = W5 at A5 b5 ⊢
    have d0 := A5.c0
    have d1 := A5.c1
    have d2 := A5.c2
    exact bodyPost_ret (v := .tuple #[.agg #[.int .i64 r, .string d, .int .i64 s], .int .i64 4]) (by simp [results, Tryd.results20, go_sem, d0, d1, d2]) rfl ⟨rfl, b5⟩
end Go.Proofs.YtcmhpkgboacojaaDoor.lg
