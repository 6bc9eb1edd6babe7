/-
  Both LogRepair functions.
-/
import Derived.Test.YtcmhpkgboacojaaDoorLgo
import Derived.Test.YtcmhpkgboacojaaDoorLgp
namespace Go.Proofs.YtcmhpkgboacojaaDoor.lg
open Go.RowKit
open er
open ky (OwnT TextsAt own_texts texts_below)
set_option linter.unusedVariables false

/-- What is answered at a log that is right. -/
def rep1 (r : Int) (d : ByteArray) (s : Int) : Value := if (recs d).2.2 = 8 then RV r d s 8 else RV r (d.extract 0 (recs d).2.1) (recs d).2.1 0
/-- What LogRepair answers. -/
def repair (r : Int) (d : ByteArray) (s : Int) : Value := if ok r d.size s = true then rep1 r d s else RV 0 ⟨#[]⟩ 0 1
theorem repair_form (r : Int) (d : ByteArray) (s : Int) : ∃ (r' : Int) (d' : ByteArray) (s' c : Int), repair r d s = RV r' d' s' c := by
  unfold repair rep1
  split
  · split
    · exact ⟨_, _, _, _, rfl⟩
    · exact ⟨_, _, _, _, rfl⟩
  · exact ⟨_, _, _, _, rfl⟩

set_option maxHeartbeats 1000000 in
set_option maxRecDepth 100000 in
theorem isWrong (p code : Nat) (w : World) (c b : Addr) (ca cb : Array Value) (ta tb : TypeId) (hE : Errs w c b ca cb ta tb) (hcd : code = 0 ∨ code = 18 ∨ code = 8) :
    Calls Tryd.prog 33 #[fault c b p code, EV b] w fun e w' => e = .returned (.bool (decide (code = 8))) ∧ Below w.heap.size w w' := by
  rcases hcd with rfl | rfl | rfl
  · exact is_nil b w
  · exact is_other p c b ca cb ta tb w hE.hne hE.ha hE.hb
  · exact is_same p b w
set_option maxHeartbeats 1000000 in
set_option maxRecDepth 100000 in
theorem impl_repair (r : Int) (d : ByteArray) (s : Int) (w : World) (c b : Addr) (ca cb : Array Value) (ta tb : TypeId) (hr : In r) (hd : d.size ≤ 1048576) (hs : In s) (hE : Errs w c b ca cb ta tb) :
    Calls Tryd.prog 15 #[LV r d s] w fun e w' => e = .returned (repair r d s) ∧ Below w.heap.size w w' := by
  obtain ⟨A1, R1, b1⟩ := two_new w 28 r d s
  have HO := fun W => impl_ok r d s W hr (Nat.le_trans hd (by unfold maxLen; omega)) hs
  have HE : Hid (Errs w c b ca cb ta tb) := hE
  clear hE hr hs
  unfold repair rep1 LV
  by_cases ho : ok r d.size s = true
  · rw [if_pos ho]
    rw [ho] at HO
    have HO' : Hid _ := HO
    obtain ⟨hple, _, hcd⟩ := recs_le d
    have HR : Hid (∀ W, Errs W c b ca cb ta tb → Calls Tryd.prog 29 #[.string d] W fun e w' => (∃ v, e = .returned (.tuple #[v, .int .i64 (recs d).2.1, fault c b (recs d).2.1 (recs d).2.2])) ∧ Below W.heap.size W w') := fun W hW => (recordsOf_any d W c b ca cb ta tb hd hW).mono fun e w' ⟨⟨v, h1, _⟩, h2⟩ => ⟨⟨v, h1⟩, h2⟩
    have HW := fun (W : World) (hW : Errs W c b ca cb ta tb) => isWrong (recs d).2.1 (recs d).2.2 W c b ca cb ta tb hW hcd
    have HC := fun W => cut_any r d s (recs d).2.1 W hple hd
    clear HO ho hcd
    obtain ⟨⟨L, P, Q⟩, hRR⟩ : ∃ R, recs d = R := ⟨_, rfl⟩
    rw [hRR] at HR HW HC hple ⊢
    clear hRR
    simp only at HR HW HC hple ⊢
    generalize fault c b P Q = FF at HR HW
    have HC' : Hid _ := HC
    clear HC
    unfold EV at HW
    by_cases hq : Q = 8
    · rw [if_pos hq]
      rw [decide_eq_true hq] at HW
      have HW' : Hid _ := HW
      have HP : Hid _ := fun W => copied_any r d s W hd
      clear HW hq HC'
      unfold RV LV
      go_enter Tryd.func15, Tryd.ntmps15
      go_wp2_with fail
      generalize (w.alloc (.cells #[.int .i64 r, .string d, .int .i64 s] 28)).alloc (.cells #[.int .i64 0, .string ⟨#[]⟩, .int .i64 0] 28) = w1 at A1 R1 b1 ⊢
      refine (HO'.out w1).mono ?_
      rintro e w2 ⟨rfl, k2⟩
      have A2 := A1.keep k2
      have R2 := R1.keep k2
      have b2 := b1.trans (k2.mono b1.size)
      clear A1 R1 k2 b1
      have a1 := A2.c1
      go_wp2_with fail
      refine (HR.out w2 (HE.out.keep b2)).mono ?_
      rintro e w3 ⟨⟨v, rfl⟩, k3⟩
      have A3 := A2.keep k3
      have R3 := R2.keep k3
      have b3 := b2.trans (k3.mono b2.size)
      clear A2 R2 k3 b2 a1
      have hw3 := (HE.out.keep b3).hw
      unfold EV at hw3
      go_wp2_with fail
      refine (HW'.out w3 (HE.out.keep b3)).mono ?_
      rintro e w4 ⟨rfl, k4⟩
      have A4 := A3.keep k4
      have R4 := R3.keep k4
      have b4 := b3.trans (k4.mono b3.size)
      clear A3 R3 k4 b3 hw3
      have a0 := A4.c0
      have a1 := A4.c1'
      have a2 := A4.c2'
      go_wp2_with fail
      refine (HP.out w4).mono ?_
      rintro e w5 ⟨rfl, k5⟩
      unfold LV
      have R5 := R4.keep k5
      have b5 := b4.trans (k5.mono b4.size)
      clear A4 R4 b4 k5 a0 a1 a2
      have r0 := R5.c0
      have r1 := R5.c1'
      have r2 := R5.c2'
      have f0 := R5.f 0
      have f1 := R5.f 1
      have f2 := R5.f 2
      go_wp2
      have A5 := R5.put (a' := .int .i64 r) (b' := .string d) (c' := .int .i64 s)
      have b6 := put_below (g := w.heap.size + 1) (a := .int .i64 r) (b := .string d) (c := .int .i64 s) b5 (by omega)
      change bodyPost _ _ _ _ _ (lg.put w5 (w.heap.size + 1) (.int .i64 r) (.string d) (.int .i64 s))
      generalize lg.put _ _ _ _ _ = W5 at A5 b6 ⊢
      have d0 := A5.c0
      have d1 := A5.c1
      have d2 := A5.c2
      exact bodyPost_ret (v := .tuple #[.agg #[.int .i64 r, .string d, .int .i64 s], .int .i64 8]) (by simp [results, Tryd.results15, go_sem, d0, d1, d2]) rfl ⟨rfl, b6⟩
    · rw [if_neg hq]
      rw [decide_eq_false hq] at HW
      have HW' : Hid _ := HW
      clear HW hq
      unfold RV LV
      go_enter Tryd.func15, Tryd.ntmps15
      go_wp2_with fail
      generalize (w.alloc (.cells #[.int .i64 r, .string d, .int .i64 s] 28)).alloc (.cells #[.int .i64 0, .string ⟨#[]⟩, .int .i64 0] 28) = w1 at A1 R1 b1 ⊢
      refine (HO'.out w1).mono ?_
      rintro e w2 ⟨rfl, k2⟩
      have A2 := A1.keep k2
      have R2 := R1.keep k2
      have b2 := b1.trans (k2.mono b1.size)
      clear A1 R1 k2 b1
      have a1 := A2.c1
      go_wp2_with fail
      refine (HR.out w2 (HE.out.keep b2)).mono ?_
      rintro e w3 ⟨⟨v, rfl⟩, k3⟩
      have A3 := A2.keep k3
      have R3 := R2.keep k3
      have b3 := b2.trans (k3.mono b2.size)
      clear A2 R2 k3 b2 a1
      have hw3 := (HE.out.keep b3).hw
      unfold EV at hw3
      go_wp2_with fail
      refine (HW'.out w3 (HE.out.keep b3)).mono ?_
      rintro e w4 ⟨rfl, k4⟩
      have A4 := A3.keep k4
      have R4 := R3.keep k4
      have b4 := b3.trans (k4.mono b3.size)
      clear A3 R3 k4 b3 hw3
      have a0 := A4.c0
      have a1 := A4.c1'
      have a2 := A4.c2'
      go_wp2_with fail
      refine (HC'.out w4).mono ?_
      rintro e w5 ⟨rfl, k5⟩
      unfold LV
      have R5 := R4.keep k5
      have b5 := b4.trans (k5.mono b4.size)
      clear A4 R4 b4 k5 a0 a1 a2
      have r0 := R5.c0
      have r1 := R5.c1'
      have r2 := R5.c2'
      have f0 := R5.f 0
      have f1 := R5.f 1
      have f2 := R5.f 2
      go_wp2
      have A5 := R5.put (a' := .int .i64 r) (b' := .string (d.extract 0 P)) (c' := .int .i64 P)
      have b6 := put_below (g := w.heap.size + 1) (a := .int .i64 r) (b := .string (d.extract 0 P)) (c := .int .i64 P) b5 (by omega)
      change bodyPost _ _ _ _ _ (lg.put w5 (w.heap.size + 1) (.int .i64 r) (.string (d.extract 0 P)) (.int .i64 P))
      generalize lg.put _ _ _ _ _ = W5 at A5 b6 ⊢
      have d0 := A5.c0
      have d1 := A5.c1
      have d2 := A5.c2
      exact bodyPost_ret (v := .tuple #[.agg #[.int .i64 r, .string (d.extract 0 P), .int .i64 P], .int .i64 0]) (by simp [results, Tryd.results15, go_sem, d0, d1, d2]) rfl ⟨rfl, b6⟩
  · have ho' : ok r d.size s = false := by simpa using ho
    rw [ho'] at HO
    rw [if_neg ho]
    have HO' : Hid _ := HO
    clear HO ho ho'
    unfold RV LV
    go_enter Tryd.func15, Tryd.ntmps15
    go_wp2_with fail
    generalize (w.alloc (.cells #[.int .i64 r, .string d, .int .i64 s] 28)).alloc (.cells #[.int .i64 0, .string ⟨#[]⟩, .int .i64 0] 28) = w1 at A1 R1 b1 ⊢
    refine (HO'.out w1).mono ?_
    rintro e w3 ⟨rfl, k2⟩
    have R3 := R1.keep k2
    have b3 := b1.trans (k2.mono b1.size)
    clear A1 R1 k2 b1
    have r0 := R3.c0
    have r1 := R3.c1'
    have r2 := R3.c2'
    have f0 := R3.f 0
    have f1 := R3.f 1
    have f2 := R3.f 2
    go_wp2
    have A5 := R3.put (a' := .int .i64 0) (b' := .string ⟨#[]⟩) (c' := .int .i64 0)
    have b5 := put_below (g := w.heap.size + 1) (a := .int .i64 0) (b := .string ⟨#[]⟩) (c := .int .i64 0) b3 (by omega)
    change bodyPost _ _ _ _ _ (lg.put w3 (w.heap.size + 1) (.int .i64 0) (.string ⟨#[]⟩) (.int .i64 0))
    generalize lg.put _ _ _ _ _ = W5 at A5 b5 ⊢
    have d0 := A5.c0
    have d1 := A5.c1
    have d2 := A5.c2
    exact bodyPost_ret (v := .tuple #[.agg #[.int .i64 0, .string ⟨#[]⟩, .int .i64 0], .int .i64 1]) (by simp [results, Tryd.results15, go_sem, d0, d1, d2]) rfl ⟨rfl, b5⟩

set_option maxHeartbeats 1000000 in
set_option maxRecDepth 100000 in
theorem l08Repair_any (r : Int) (d : ByteArray) (s : Int) (w : World) (hd : d.size ≤ 1048576) :
    Calls Tryd.prog 32 #[LV r d s] w fun e w' => e = .returned (rep1 r d s) ∧ Below w.heap.size w w' := by
  obtain ⟨A1, R1, b1⟩ := two_new w 28 r d s
  obtain ⟨hple, _, hcd⟩ := recs_le d
  have HR : Hid (∀ W, Calls Tryd.prog 28 #[.string d] W fun e w' => (∃ v, e = .returned (.tuple #[v, .int .i64 (recs d).2.1, .int .i64 (recs d).2.2])) ∧ Below W.heap.size W w') := fun W => (l08Records_any d W hd).mono fun e w' ⟨⟨v, h1, _⟩, h2⟩ => ⟨⟨v, h1⟩, h2⟩
  unfold rep1 LV
  obtain ⟨⟨L, P, Q⟩, hRR⟩ : ∃ R, recs d = R := ⟨_, rfl⟩
  rw [hRR] at HR hple hcd ⊢
  clear hRR
  simp only at HR hple hcd ⊢
  by_cases hq : Q = 8
  · subst hq
    rw [if_pos rfl]
    clear hcd
    unfold RV LV
    go_enter Tryd.func32, Tryd.ntmps32
    go_wp2_with fail
    generalize (w.alloc (.cells #[.int .i64 r, .string d, .int .i64 s] 28)).alloc (.cells #[.int .i64 0, .string ⟨#[]⟩, .int .i64 0] 28) = w1 at A1 R1 b1 ⊢
    refine (HR.out w1).mono ?_
    rintro e w3 ⟨⟨v, rfl⟩, k2⟩
    have A3 := A1.keep k2
    have R3 := R1.keep k2
    have b3 := b1.trans (k2.mono b1.size)
    clear A1 R1 k2 b1
    have a0 := A3.c0
    have a1 := A3.c1'
    have a2 := A3.c2'
    have r0 := R3.c0
    have r1 := R3.c1'
    have r2 := R3.c2'
    have f0 := R3.f 0
    have f1 := R3.f 1
    have f2 := R3.f 2
    go_wp2
    have A5 := R3.put (a' := .int .i64 r) (b' := .string d) (c' := .int .i64 s)
    have b5 := put_below (g := w.heap.size + 1) (a := .int .i64 r) (b := .string d) (c := .int .i64 s) b3 (by omega)
    change bodyPost _ _ _ _ _ (lg.put w3 (w.heap.size + 1) (.int .i64 r) (.string d) (.int .i64 s))
    generalize lg.put _ _ _ _ _ = W5 at A5 b5 ⊢
    have d0 := A5.c0
    have d1 := A5.c1
    have d2 := A5.c2
    exact bodyPost_ret (v := .tuple #[.agg #[.int .i64 r, .string d, .int .i64 s], .int .i64 8]) (by simp [results, Tryd.results32, go_sem, d0, d1, d2]) rfl ⟨rfl, b5⟩
  · rw [if_neg hq]
    have hq' : ((Q : Int) == 8) = false := by simp; omega
    have hsz : (d.extract 0 P).size = P := by rw [size_ex (by omega) hple]; omega
    have HS := fun W => l08Sync_any r (d.extract 0 P) s W
    rw [hsz] at HS
    have HS' : Hid _ := HS
    clear HS hcd hsz
    unfold RV LV
    go_enter Tryd.func32, Tryd.ntmps32
    go_wp2_with fail
    generalize (w.alloc (.cells #[.int .i64 r, .string d, .int .i64 s] 28)).alloc (.cells #[.int .i64 0, .string ⟨#[]⟩, .int .i64 0] 28) = w1 at A1 R1 b1 ⊢
    refine (HR.out w1).mono ?_
    rintro e w3 ⟨⟨v, rfl⟩, k2⟩
    have A3 := A1.keep k2
    have R3 := R1.keep k2
    have b3 := b1.trans (k2.mono b1.size)
    clear A1 R1 k2 b1
    have A4 := A3.put1 (.string (d.extract 0 P))
    have R4 := R3.other (g' := w.heap.size) 1 (.string (d.extract 0 P)) (by omega)
    have b4 := b3.setCell (p := ⟨w.heap.size, 1, none⟩) (Nat.le_refl _) (.string (d.extract 0 P))
    have a0 := A3.c0
    have a1 := A3.c1
    have a1' := A3.c1'
    have a2 := A3.c2
    have a2' := A3.c2'
    have g1 := A3.f 1
    go_wp2_with fail
    generalize w3.setCell ⟨w.heap.size, 1, none⟩ (.string (d.extract 0 P)) = w4 at A4 R4 b4 ⊢
    refine (HS'.out w4).mono ?_
    rintro e w5 ⟨rfl, k5⟩
    unfold LV
    have R5 := R4.keep k5
    have b5 := b4.trans (k5.mono b4.size)
    clear A3 R3 b3 A4 R4 b4 k5 a0 a1 a1' a2 a2' g1
    have r0 := R5.c0
    have r1 := R5.c1'
    have r2 := R5.c2'
    have f0 := R5.f 0
    have f1 := R5.f 1
    have f2 := R5.f 2
    go_wp2
    have A5 := R5.put (a' := .int .i64 r) (b' := .string (d.extract 0 P)) (c' := .int .i64 P)
    have b6 := put_below (g := w.heap.size + 1) (a := .int .i64 r) (b := .string (d.extract 0 P)) (c := .int .i64 P) b5 (by omega)
    change bodyPost _ _ _ _ _ (lg.put w5 (w.heap.size + 1) (.int .i64 r) (.string (d.extract 0 P)) (.int .i64 P))
    generalize lg.put _ _ _ _ _ = W5 at A5 b6 ⊢
    have d0 := A5.c0
    have d1 := A5.c1
    have d2 := A5.c2
    exact bodyPost_ret (v := .tuple #[.agg #[.int .i64 r, .string (d.extract 0 P), .int .i64 P], .int .i64 0]) (by simp [results, Tryd.results32, go_sem, d0, d1, d2]) rfl ⟨rfl, b6⟩

set_option maxHeartbeats 1000000 in
set_option maxRecDepth 100000 in
theorem spec_repair (r : Int) (d : ByteArray) (s : Int) (w : World) (hr : In r) (hd : d.size ≤ 1048576) (hs : In s) :
    Calls Tryd.prog 14 #[LV r d s] w fun e w' => e = .returned (repair r d s) ∧ Below w.heap.size w w' := by
  obtain ⟨A1, R1, b1⟩ := two_new w 28 r d s
  have HO := fun W => spec_ok r d s W hr (Nat.le_trans hd (by unfold maxLen; omega)) hs
  have HA := fun W => l08Repair_any r d s W hd
  clear hr hs
  unfold repair
  by_cases ho : ok r d.size s = true
  · rw [if_pos ho]
    rw [ho] at HO
    have HO' : Hid _ := HO
    obtain ⟨r', d', s', c', hf⟩ : ∃ (r' : Int) (d' : ByteArray) (s' c : Int), rep1 r d s = RV r' d' s' c := by
      unfold rep1
      split
      · exact ⟨_, _, _, _, rfl⟩
      · exact ⟨_, _, _, _, rfl⟩
    rw [hf] at HA ⊢
    have HA' : Hid _ := HA
    clear HA HO ho hf
    unfold RV LV
    go_enter Tryd.func14, Tryd.ntmps14
    go_wp2_with fail
    generalize (w.alloc (.cells #[.int .i64 r, .string d, .int .i64 s] 28)).alloc (.cells #[.int .i64 0, .string ⟨#[]⟩, .int .i64 0] 28) = w1 at A1 R1 b1 ⊢
    refine (HO'.out w1).mono ?_
    rintro e w2 ⟨rfl, k2⟩
    have A2 := A1.keep k2
    have R2 := R1.keep k2
    have b2 := b1.trans (k2.mono b1.size)
    clear A1 R1 k2 b1
    have a0 := A2.c0
    have a1 := A2.c1'
    have a2 := A2.c2'
    go_wp2_with fail
    refine (HA'.out w2).mono ?_
    rintro e w3 ⟨rfl, k3⟩
    unfold RV LV
    have R3 := R2.keep k3
    have b3 := b2.trans (k3.mono b2.size)
    clear A2 R2 b2 k3 a0 a1 a2
    have r0 := R3.c0
    have r1 := R3.c1'
    have r2 := R3.c2'
    have f0 := R3.f 0
    have f1 := R3.f 1
    have f2 := R3.f 2
    go_wp2
    have A5 := R3.put (a' := .int .i64 r') (b' := .string d') (c' := .int .i64 s')
    have b5 := put_below (g := w.heap.size + 1) (a := .int .i64 r') (b := .string d') (c := .int .i64 s') b3 (by omega)
    change bodyPost _ _ _ _ _ (lg.put w3 (w.heap.size + 1) (.int .i64 r') (.string d') (.int .i64 s'))
    generalize lg.put _ _ _ _ _ = W5 at A5 b5 ⊢
    have d0 := A5.c0
    have d1 := A5.c1
    have d2 := A5.c2
    exact bodyPost_ret (v := .tuple #[.agg #[.int .i64 r', .string d', .int .i64 s'], .int .i64 c']) (by simp [results, Tryd.results14, go_sem, d0, d1, d2]) rfl ⟨rfl, b5⟩
  · have ho' : ok r d.size s = false := by simpa using ho
    rw [ho'] at HO
    rw [if_neg ho]
    have HO' : Hid _ := HO
    clear HO ho ho' HA
    unfold RV LV
    go_enter Tryd.func14, Tryd.ntmps14
    go_wp2_with fail
    generalize (w.alloc (.cells #[.int .i64 r, .string d, .int .i64 s] 28)).alloc (.cells #[.int .i64 0, .string ⟨#[]⟩, .int .i64 0] 28) = w1 at A1 R1 b1 ⊢
    refine (HO'.out w1).mono ?_
    rintro e w3 ⟨rfl, k2⟩
    have R3 := R1.keep k2
    have b3 := b1.trans (k2.mono b1.size)
    clear A1 R1 k2 b1
    have r0 := R3.c0
    have r1 := R3.c1'
    have r2 := R3.c2'
    have f0 := R3.f 0
    have f1 := R3.f 1
    have f2 := R3.f 2
    go_wp2
    have A5 := R3.put (a' := .int .i64 0) (b' := .string ⟨#[]⟩) (c' := .int .i64 0)
    have b5 := put_below (g := w.heap.size + 1) (a := .int .i64 0) (b := .string ⟨#[]⟩) (c := .int .i64 0) b3 (by omega)
    change bodyPost _ _ _ _ _ (lg.put w3 (w.heap.size + 1) (.int .i64 0) (.string ⟨#[]⟩) (.int .i64 0))
    generalize lg.put _ _ _ _ _ = W5 at A5 b5 ⊢
    have d0 := A5.c0
    have d1 := A5.c1
    have d2 := A5.c2
    exact bodyPost_ret (v := .tuple #[.agg #[.int .i64 0, .string ⟨#[]⟩, .int .i64 0], .int .i64 1]) (by simp [results, Tryd.results14, go_sem, d0, d1, d2]) rfl ⟨rfl, b5⟩
end Go.Proofs.YtcmhpkgboacojaaDoor.lg
