/-
  The contract of the program's reading of words of another number or form.
-/
import Derived.Test.YtbfppgoehgdnlaaDoorRdn
import Derived.Test.YtbfppgoehgdnlaaDoorDwf
namespace Go.Proofs.YtbfppgoehgdnlaaDoor.rd
open Go.RowKit
open dt
set_option linter.unusedVariables false
/-- What is answered where words don't serve. -/
def noW : Value := .tuple #[C6 0 0 0 0 0 0, .string ⟨#[]⟩, .bool false]
set_option maxHeartbeats 2000000 in
set_option maxRecDepth 100000 in
theorem words_len (w : World) (a : Option Addr) (n c : Nat) (h : n ≠ 5) (hn : n ≤ 1048576) : Calls Tryd.prog 45 #[.slice a n c] w fun e w' => e = .returned noW ∧ Below w.heap.size w w' := by
  have d5 : ((n : Int) != 5) = true := bne_iff_ne.2 (by omega)
  have d5' : ((n : Int) == 5) = false := beq_eq_false_iff_ne.2 (by omega)
  unfold noW C6
  go_enter Tryd.func45, Tryd.ntmps45
  go_wp2
  refine bodyPost_ret (v := .tuple #[.agg #[.int .i64 0, .int .i64 0, .int .i64 0, .int .i64 0, .int .i64 0, .int .i64 0], .string ⟨#[]⟩, .bool false]) (by simp [results, Tryd.results45, go_sem]) rfl ⟨rfl, dw.bel_box _ _⟩
set_option maxHeartbeats 4000000 in
set_option maxRecDepth 100000 in
theorem words_form (w : World) (b : Nat) (D M Y C Z : ByteArray) (L : Five w b D M Y C Z) (hD : D.size ≤ 65536) (hY : Y.size ≤ 65536) (hC : C.size ≤ 65536) (h : formI D.data.toList Y.data.toList C.data.toList = false) :
    Calls Tryd.prog 45 #[.slice (some ⟨b, 0, none⟩) 5 5] w fun e w' => e = .returned noW ∧ Below w.heap.size w w' := by
  have H1 : Hid (∀ w, Calls Tryd.prog 30 #[.string D, .string ⟨#[48]⟩] w fun e w' => e = .returned (.bool (hf D.data.toList [48])) ∧ Drawn w w') := fun w => hf_any D ⟨#[48]⟩ (by omega) w
  have H2 : Hid (∀ w, Calls Tryd.prog 30 #[.string D, .string ⟨#[48, 48]⟩] w fun e w' => e = .returned (.bool (hf D.data.toList [48, 48])) ∧ Drawn w w') := fun w => hf_any D ⟨#[48, 48]⟩ (by omega) w
  have H3 : Hid (∀ w, Calls Tryd.prog 30 #[.string Y, .string ⟨#[48, 48, 48, 48]⟩] w fun e w' => e = .returned (.bool (hf Y.data.toList F4)) ∧ Drawn w w') := fun w => hf_any Y ⟨#[48, 48, 48, 48]⟩ (by omega) w
  have H4 : Hid (∀ w, Calls Tryd.prog 30 #[.string C, .string ⟨#[48, 48, 58, 48, 48, 58, 48, 48]⟩] w fun e w' => e = .returned (.bool (hf C.data.toList F8)) ∧ Drawn w w') := fun w => hf_any C ⟨#[48, 48, 58, 48, 48, 58, 48, 48]⟩ (by omega) w
  unfold formI at h
  generalize hf D.data.toList [48] = t1 at H1 h
  generalize hf D.data.toList [48, 48] = t2 at H2 h
  generalize hf Y.data.toList F4 = t3 at H3 h
  generalize hf C.data.toList F8 = t4 at H4 h
  unfold noW C6
  go_enter Tryd.func45, Tryd.ntmps45
  go_upto_region 3 with fail
  have F0 := L.below (dw.bel_box w (.cells #[.int .i64 0, .int .i64 0, .int .i64 0, .int .i64 0, .int .i64 0, .int .i64 0] 34))
  have L0 := dw.lies_new w 0 0 0 0 0 0
  have b0 := dw.bel_box w (.cells #[.int .i64 0, .int .i64 0, .int .i64 0, .int .i64 0, .int .i64 0, .int .i64 0] 34)
  generalize w.alloc _ = w0 at F0 L0 b0 ⊢
  have q0 := F0.c0
  have q2 := F0.c2
  have q3 := F0.c3
  go_quiet (fail)
  have L1 := L0.below (drawn_below ⟨nq, rfl⟩)
  have b1 := b0.trans ((drawn_below (w := w0) ⟨nq, rfl⟩).mono b0.size)
  generalize w0.drewN nq = w1 at L1 b1 ⊢
  clear q0 q2 q3 F0 L0 b0 L
  go_wp2_with fail
  refine (H1.out _).mono ?_
  rintro e w2 ⟨rfl, dr2⟩
  have L2 := L1.below (drawn_below dr2)
  have b2 := b1.trans ((drawn_below dr2).mono b1.size)
  clear L1 b1 dr2 H1
  cases t1
  · go_wp2_with fail
    refine (H2.out _).mono ?_
    rintro e w3 ⟨rfl, dr3⟩
    have L3 := L2.below (drawn_below dr3)
    have b3 := b2.trans ((drawn_below dr3).mono b2.size)
    clear L2 b2 dr3 H2
    cases t2
    · have r0 := L3.c0
      have r1 := L3.c1
      have r2 := L3.c2
      have r3 := L3.c3
      have r4 := L3.c4
      have r5 := L3.c5
      have f0 : w3.frozen? ⟨w.heap.size, 0, none⟩ = false := frozen_of_row _ _ _ _ _ L3
      have f1 : w3.frozen? ⟨w.heap.size, 0 + 1, none⟩ = false := frozen_of_row _ _ _ _ _ L3
      have f2 : w3.frozen? ⟨w.heap.size, 0 + 2, none⟩ = false := frozen_of_row _ _ _ _ _ L3
      have f3 : w3.frozen? ⟨w.heap.size, 0 + 3, none⟩ = false := frozen_of_row _ _ _ _ _ L3
      have f4 : w3.frozen? ⟨w.heap.size, 0 + 4, none⟩ = false := frozen_of_row _ _ _ _ _ L3
      have f5 : w3.frozen? ⟨w.heap.size, 0 + 5, none⟩ = false := frozen_of_row _ _ _ _ _ L3
      go_wp2
      have L8 := dw.put6_lies (y := 0) (m := 0) (d := 0) (h := 0) (i := 0) (s := 0) L3
      have b8 := dw.put6_below (y := 0) (m := 0) (d := 0) (h := 0) (i := 0) (s := 0) b3 (Nat.le_refl _)
      clear r0 r1 r2 r3 r4 r5 f0 f1 f2 f3 f4 f5 L3 b3
      unfold dw.put6 at L8 b8
      generalize hX : World.setCell _ _ _ = X at L8 b8 ⊢
      clear hX
      have c0 := L8.c0
      have c1 := L8.c1
      have c2 := L8.c2
      have c3 := L8.c3
      have c4 := L8.c4
      have c5 := L8.c5
      simp only [Nat.zero_add] at c1 c2 c3 c4 c5
      exact bodyPost_ret (v := .tuple #[.agg #[.int .i64 0, .int .i64 0, .int .i64 0, .int .i64 0, .int .i64 0, .int .i64 0], .string ⟨#[]⟩, .bool false]) (by simp [results, Tryd.results45, go_sem, c0, c1, c2, c3, c4, c5]) rfl ⟨rfl, b8⟩
    · go_wp2_with fail
      refine (H3.out _).mono ?_
      rintro e w4 ⟨rfl, dr4⟩
      have L4 := L3.below (drawn_below dr4)
      have b4 := b3.trans ((drawn_below dr4).mono b3.size)
      clear L3 b3 dr4 H3
      cases t3
      · have r0 := L4.c0
        have r1 := L4.c1
        have r2 := L4.c2
        have r3 := L4.c3
        have r4 := L4.c4
        have r5 := L4.c5
        have f0 : w4.frozen? ⟨w.heap.size, 0, none⟩ = false := frozen_of_row _ _ _ _ _ L4
        have f1 : w4.frozen? ⟨w.heap.size, 0 + 1, none⟩ = false := frozen_of_row _ _ _ _ _ L4
        have f2 : w4.frozen? ⟨w.heap.size, 0 + 2, none⟩ = false := frozen_of_row _ _ _ _ _ L4
        have f3 : w4.frozen? ⟨w.heap.size, 0 + 3, none⟩ = false := frozen_of_row _ _ _ _ _ L4
        have f4 : w4.frozen? ⟨w.heap.size, 0 + 4, none⟩ = false := frozen_of_row _ _ _ _ _ L4
        have f5 : w4.frozen? ⟨w.heap.size, 0 + 5, none⟩ = false := frozen_of_row _ _ _ _ _ L4
        go_wp2
        have L8 := dw.put6_lies (y := 0) (m := 0) (d := 0) (h := 0) (i := 0) (s := 0) L4
        have b8 := dw.put6_below (y := 0) (m := 0) (d := 0) (h := 0) (i := 0) (s := 0) b4 (Nat.le_refl _)
        clear r0 r1 r2 r3 r4 r5 f0 f1 f2 f3 f4 f5 L4 b4
        unfold dw.put6 at L8 b8
        generalize hX : World.setCell _ _ _ = X at L8 b8 ⊢
        clear hX
        have c0 := L8.c0
        have c1 := L8.c1
        have c2 := L8.c2
        have c3 := L8.c3
        have c4 := L8.c4
        have c5 := L8.c5
        simp only [Nat.zero_add] at c1 c2 c3 c4 c5
        exact bodyPost_ret (v := .tuple #[.agg #[.int .i64 0, .int .i64 0, .int .i64 0, .int .i64 0, .int .i64 0, .int .i64 0], .string ⟨#[]⟩, .bool false]) (by simp [results, Tryd.results45, go_sem, c0, c1, c2, c3, c4, c5]) rfl ⟨rfl, b8⟩
      · obtain rfl : t4 = false := by simpa using h
        go_wp2_with fail
        refine (H4.out _).mono ?_
        rintro e w5 ⟨rfl, dr5⟩
        have L5 := L4.below (drawn_below dr5)
        have b5 := b4.trans ((drawn_below dr5).mono b4.size)
        clear L4 b4 dr5 H4
        have r0 := L5.c0
        have r1 := L5.c1
        have r2 := L5.c2
        have r3 := L5.c3
        have r4 := L5.c4
        have r5 := L5.c5
        have f0 : w5.frozen? ⟨w.heap.size, 0, none⟩ = false := frozen_of_row _ _ _ _ _ L5
        have f1 : w5.frozen? ⟨w.heap.size, 0 + 1, none⟩ = false := frozen_of_row _ _ _ _ _ L5
        have f2 : w5.frozen? ⟨w.heap.size, 0 + 2, none⟩ = false := frozen_of_row _ _ _ _ _ L5
        have f3 : w5.frozen? ⟨w.heap.size, 0 + 3, none⟩ = false := frozen_of_row _ _ _ _ _ L5
        have f4 : w5.frozen? ⟨w.heap.size, 0 + 4, none⟩ = false := frozen_of_row _ _ _ _ _ L5
        have f5 : w5.frozen? ⟨w.heap.size, 0 + 5, none⟩ = false := frozen_of_row _ _ _ _ _ L5
        go_wp2
        have L8 := dw.put6_lies (y := 0) (m := 0) (d := 0) (h := 0) (i := 0) (s := 0) L5
        have b8 := dw.put6_below (y := 0) (m := 0) (d := 0) (h := 0) (i := 0) (s := 0) b5 (Nat.le_refl _)
        clear r0 r1 r2 r3 r4 r5 f0 f1 f2 f3 f4 f5 L5 b5
        unfold dw.put6 at L8 b8
        generalize hX : World.setCell _ _ _ = X at L8 b8 ⊢
        clear hX
        have c0 := L8.c0
        have c1 := L8.c1
        have c2 := L8.c2
        have c3 := L8.c3
        have c4 := L8.c4
        have c5 := L8.c5
        simp only [Nat.zero_add] at c1 c2 c3 c4 c5
        exact bodyPost_ret (v := .tuple #[.agg #[.int .i64 0, .int .i64 0, .int .i64 0, .int .i64 0, .int .i64 0, .int .i64 0], .string ⟨#[]⟩, .bool false]) (by simp [results, Tryd.results45, go_sem, c0, c1, c2, c3, c4, c5]) rfl ⟨rfl, b8⟩
  · go_wp2_with fail
    refine (H3.out _).mono ?_
    rintro e w3 ⟨rfl, dr3⟩
    have L3 := L2.below (drawn_below dr3)
    have b3 := b2.trans ((drawn_below dr3).mono b2.size)
    clear L2 b2 dr3 H3
    cases t3
    · have r0 := L3.c0
      have r1 := L3.c1
      have r2 := L3.c2
      have r3 := L3.c3
      have r4 := L3.c4
      have r5 := L3.c5
      have f0 : w3.frozen? ⟨w.heap.size, 0, none⟩ = false := frozen_of_row _ _ _ _ _ L3
      have f1 : w3.frozen? ⟨w.heap.size, 0 + 1, none⟩ = false := frozen_of_row _ _ _ _ _ L3
      have f2 : w3.frozen? ⟨w.heap.size, 0 + 2, none⟩ = false := frozen_of_row _ _ _ _ _ L3
      have f3 : w3.frozen? ⟨w.heap.size, 0 + 3, none⟩ = false := frozen_of_row _ _ _ _ _ L3
      have f4 : w3.frozen? ⟨w.heap.size, 0 + 4, none⟩ = false := frozen_of_row _ _ _ _ _ L3
      have f5 : w3.frozen? ⟨w.heap.size, 0 + 5, none⟩ = false := frozen_of_row _ _ _ _ _ L3
      go_wp2
      have L8 := dw.put6_lies (y := 0) (m := 0) (d := 0) (h := 0) (i := 0) (s := 0) L3
      have b8 := dw.put6_below (y := 0) (m := 0) (d := 0) (h := 0) (i := 0) (s := 0) b3 (Nat.le_refl _)
      clear r0 r1 r2 r3 r4 r5 f0 f1 f2 f3 f4 f5 L3 b3
      unfold dw.put6 at L8 b8
      generalize hX : World.setCell _ _ _ = X at L8 b8 ⊢
      clear hX
      have c0 := L8.c0
      have c1 := L8.c1
      have c2 := L8.c2
      have c3 := L8.c3
      have c4 := L8.c4
      have c5 := L8.c5
      simp only [Nat.zero_add] at c1 c2 c3 c4 c5
      exact bodyPost_ret (v := .tuple #[.agg #[.int .i64 0, .int .i64 0, .int .i64 0, .int .i64 0, .int .i64 0, .int .i64 0], .string ⟨#[]⟩, .bool false]) (by simp [results, Tryd.results45, go_sem, c0, c1, c2, c3, c4, c5]) rfl ⟨rfl, b8⟩
    · obtain rfl : t4 = false := by simpa using h
      go_wp2_with fail
      refine (H4.out _).mono ?_
      rintro e w4 ⟨rfl, dr4⟩
      have L4 := L3.below (drawn_below dr4)
      have b4 := b3.trans ((drawn_below dr4).mono b3.size)
      clear L3 b3 dr4 H4
      have r0 := L4.c0
      have r1 := L4.c1
      have r2 := L4.c2
      have r3 := L4.c3
      have r4 := L4.c4
      have r5 := L4.c5
      have f0 : w4.frozen? ⟨w.heap.size, 0, none⟩ = false := frozen_of_row _ _ _ _ _ L4
      have f1 : w4.frozen? ⟨w.heap.size, 0 + 1, none⟩ = false := frozen_of_row _ _ _ _ _ L4
      have f2 : w4.frozen? ⟨w.heap.size, 0 + 2, none⟩ = false := frozen_of_row _ _ _ _ _ L4
      have f3 : w4.frozen? ⟨w.heap.size, 0 + 3, none⟩ = false := frozen_of_row _ _ _ _ _ L4
      have f4 : w4.frozen? ⟨w.heap.size, 0 + 4, none⟩ = false := frozen_of_row _ _ _ _ _ L4
      have f5 : w4.frozen? ⟨w.heap.size, 0 + 5, none⟩ = false := frozen_of_row _ _ _ _ _ L4
      go_wp2
      have L8 := dw.put6_lies (y := 0) (m := 0) (d := 0) (h := 0) (i := 0) (s := 0) L4
      have b8 := dw.put6_below (y := 0) (m := 0) (d := 0) (h := 0) (i := 0) (s := 0) b4 (Nat.le_refl _)
      clear r0 r1 r2 r3 r4 r5 f0 f1 f2 f3 f4 f5 L4 b4
      unfold dw.put6 at L8 b8
      generalize hX : World.setCell _ _ _ = X at L8 b8 ⊢
      clear hX
      have c0 := L8.c0
      have c1 := L8.c1
      have c2 := L8.c2
      have c3 := L8.c3
      have c4 := L8.c4
      have c5 := L8.c5
      simp only [Nat.zero_add] at c1 c2 c3 c4 c5
      exact bodyPost_ret (v := .tuple #[.agg #[.int .i64 0, .int .i64 0, .int .i64 0, .int .i64 0, .int .i64 0, .int .i64 0], .string ⟨#[]⟩, .bool false]) (by simp [results, Tryd.results45, go_sem, c0, c1, c2, c3, c4, c5]) rfl ⟨rfl, b8⟩
end Go.Proofs.YtbfppgoehgdnlaaDoor.rd
