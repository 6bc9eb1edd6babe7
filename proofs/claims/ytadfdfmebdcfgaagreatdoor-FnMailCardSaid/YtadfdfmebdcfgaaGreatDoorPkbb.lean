/-
  The contract of the program's reading of five words with a day of one digit.
  The contract of the program's reading of words of another number or form.
-/
import Derived.Test.YtadfdfmebdcfgaaGreatDoorPkba
import Derived.Deep.DeepCutAuto
import Derived.Test.YtadfdfmebdcfgaaGreatDoorPkat

namespace Go.Proofs.YtadfdfmebdcfgaaGreatDoor.rd
open Go.RowKit
open dt
set_option linter.unusedVariables false
set_option maxHeartbeats 8000000 in
set_option maxRecDepth 100000 in
theorem words_one (w : World) (b : Nat) (D M Y C Z : ByteArray) (L : Five w b D M Y C Z) (hT : td.TN w) (h1 : hf D.data.toList [48] = true) (h3 : hf Y.data.toList F4 = true) (h4 : hf C.data.toList F8 = true) :
    Calls Tryz.prog 119 #[.slice (some ⟨b, 0, none⟩) 5 5] w fun e w' => e = .returned (.tuple #[C6 (num Y.data.toList) (mon M.data.toList) (num D.data.toList) (num (g C.data.toList 0 2)) (num (g C.data.toList 3 2)) (num (g C.data.toList 6 2)), .string Z, .bool true]) ∧ Below w.heap.size w w' := by
  obtain ⟨d1, d2⟩ := one_dgs h1
  obtain ⟨y1, y2⟩ := four_dgs h3
  obtain ⟨e0, e1, e2, e3⟩ := eight_dgs h4
  have sD : D.size = 1 := d2
  have sY : Y.size = 4 := y2
  have sC : C.size = 8 := e0
  have H1 : Hid (∀ w, Calls Tryz.prog 164 #[.string D, .string ⟨#[48]⟩] w fun e w' => e = .returned (.bool true) ∧ Drawn w w') := fun w => by
    have := hf_any D ⟨#[48]⟩ (by omega) w
    rw [show (⟨#[48]⟩ : ByteArray).data.toList = [48] from rfl, h1] at this
    exact this
  have H3 : Hid (∀ w, Calls Tryz.prog 164 #[.string Y, .string ⟨#[48, 48, 48, 48]⟩] w fun e w' => e = .returned (.bool true) ∧ Drawn w w') := fun w => by
    have := hf_any Y ⟨#[48, 48, 48, 48]⟩ (by omega) w
    rw [show (⟨#[48, 48, 48, 48]⟩ : ByteArray).data.toList = F4 from rfl, h3] at this
    exact this
  have H4 : Hid (∀ w, Calls Tryz.prog 164 #[.string C, .string ⟨#[48, 48, 58, 48, 48, 58, 48, 48]⟩] w fun e w' => e = .returned (.bool true) ∧ Drawn w w') := fun w => by
    have := hf_any C ⟨#[48, 48, 58, 48, 48, 58, 48, 48]⟩ (by omega) w
    rw [show (⟨#[48, 48, 58, 48, 48, 58, 48, 48]⟩ : ByteArray).data.toList = F8 from rfl, h4] at this
    exact this
  have HY : Hid (∀ w, Calls Tryz.prog 165 #[.string Y] w fun e w' => e = .returned (.int .i64 (num Y.data.toList)) ∧ w' = w) := fun w => num_any Y (by omega) y1 w
  have HD : Hid (∀ w, Calls Tryz.prog 165 #[.string D] w fun e w' => e = .returned (.int .i64 (num D.data.toList)) ∧ w' = w) := fun w => num_any D (by omega) d1 w
  have HM : Hid (∀ w', Below w.heap.size w w' → ∀ k : Nat, Calls Tryz.prog 166 #[.string M] w' fun e w'' => e = .returned (.int .i64 (mon M.data.toList)) ∧ w'' = w') := fun w' hb _ => month_any M w' (td.keepS hT hb)
  have HC : Hid (∀ (w : World) (b : Nat) (y m d h0 i0 s0 : Int), dw.Lies w b y m d h0 i0 s0 → Calls Tryz.prog 167 #[.pointer (some ⟨b, 0, none⟩), .string C] w fun e w' => e = .returned (.tuple #[]) ∧ dw.Lies w' b y m d (num (g C.data.toList 0 2)) (num (g C.data.toList 3 2)) (num (g C.data.toList 6 2)) ∧ ∀ B, B ≤ b → Below B w w') := fun w b y m d h0 i0 s0 L => by
    have q1 : (C.extract 0 2).data.toList = g C.data.toList 0 2 := ext_list C 0 2
    have q2 : (C.extract 3 5).data.toList = g C.data.toList 3 2 := ext_list C 3 5
    have q3 : (C.extract 6 8).data.toList = g C.data.toList 6 2 := ext_list C 6 8
    have := clock_any w b y m d h0 i0 s0 C L (by omega) (by omega) (by rw [q1]; exact e1) (by rw [q2]; exact e2) (by rw [q3]; exact e3)
    rw [q1, q2, q3] at this
    exact this
  generalize num Y.data.toList = y at HY ⊢
  generalize mon M.data.toList = m at HM ⊢
  generalize num D.data.toList = d at HD ⊢
  generalize num (g C.data.toList 0 2) = h at HC ⊢
  generalize num (g C.data.toList 3 2) = i at HC ⊢
  generalize num (g C.data.toList 6 2) = sc at HC ⊢
  clear d1 d2 y1 y2 e0 e1 e2 e3 h1 h3 h4 hT
  have hbl : b < w.heap.size := (Array.getElem?_eq_some_iff.1 L).1
  go_enter Tryz.func119, Tryz.ntmps119
  go_upto_region 3 with fail
  have F0 := L.below (dw.bel_box w (.cells #[.int .i64 0, .int .i64 0, .int .i64 0, .int .i64 0, .int .i64 0, .int .i64 0] 99))
  have L0 := dw.lies_new w 0 0 0 0 0 0
  have b0 := dw.bel_box w (.cells #[.int .i64 0, .int .i64 0, .int .i64 0, .int .i64 0, .int .i64 0, .int .i64 0] 99)
  generalize w.alloc _ = w0 at F0 L0 b0 ⊢
  have q0 := F0.c0
  have q2 := F0.c2
  have q3 := F0.c3
  go_quiet (fail)
  have F1 := F0.below (drawn_below ⟨nq, rfl⟩)
  have L1 := L0.below (drawn_below ⟨nq, rfl⟩)
  have b1 := b0.trans ((drawn_below (w := w0) ⟨nq, rfl⟩).mono b0.size)
  generalize w0.drewN nq = w1 at F1 L1 b1 ⊢
  clear q0 q2 q3 F0 L0 b0 L
  go_wp2_with fail
  refine (H1.out _).mono ?_
  rintro e w2 ⟨rfl, dr2⟩
  go_wp2_with fail
  refine (H3.out _).mono ?_
  rintro e w4 ⟨rfl, dr4⟩
  go_wp2_with fail
  refine (H4.out _).mono ?_
  rintro e w5 ⟨rfl, dr5⟩
  have bb : Below w1.heap.size w1 w5 := by
    have a2 := drawn_below dr2
    have a4 := a2.trans ((drawn_below dr4).mono a2.size)
    exact a4.trans ((drawn_below dr5).mono a4.size)
  have F5 := F1.below bb
  have L5 := L1.below bb
  have b5 := b1.trans (bb.mono b1.size)
  clear dr2 dr4 dr5 bb F1 L1 b1 H1 H3 H4
  have q1 := F5.c1
  have q1' : ∀ o, (w5.alloc o).cell? ⟨b, 1, none⟩ = some (.string M) := fun o => (F5.below (dw.bel_box w5 o)).c1
  have hbl5 : b < w5.heap.size := (Array.getElem?_eq_some_iff.1 F5).1
  have hne5 : ¬ b = w5.heap.size := by omega
  go_upto_region 6 with fail
  go_cut [8] (fun p wx => p = .pointer (some ⟨w5.heap.size, 0, none⟩) ∧ wx = (w5.alloc (.cells #[.int .i64 y, .int .i64 m, .int .i64 d, .int .i64 0, .int .i64 0, .int .i64 0] 99)).drew)
  case first =>
    have HM1 : Hid (Calls Tryz.prog 166 #[.string M] w5.drew fun e w'' => e = .returned (.int .i64 m) ∧ w'' = w5.drew) := HM.out _ b5.drew 0
    have HM2 : Hid (∀ o, Calls Tryz.prog 166 #[.string M] (w5.alloc o).drew fun e w'' => e = .returned (.int .i64 m) ∧ w'' = (w5.alloc o).drew) := fun o => HM.out _ (b5.alloc b5.size o).drew 0
    go_region_with (first | (go_at_call_of 165 Y; refine (HY.out _).mono ?_; rintro e w' ⟨rfl, rfl⟩) | (go_at_call_of 165 D; refine (HD.out _).mono ?_; rintro e w' ⟨rfl, rfl⟩) | (go_at_call 166; first | (refine (HM2.out _).mono ?_; rintro e w' ⟨rfl, rfl⟩) | (refine HM1.out.mono ?_; rintro e w' ⟨rfl, rfl⟩)))
    all_goals (try go_wp2_with fail)
    all_goals go_meet
    all_goals exact ⟨rfl, rfl⟩
  case rest =>
    obtain ⟨rfl, rfl⟩ := hcut
    go_at_K
    clear HY HD HM q1 q1'
    have L6 := lies_drew8 w5 y m d 0 0 0
    have bx : Below w5.heap.size w5 (w5.alloc (.cells #[.int .i64 y, .int .i64 m, .int .i64 d, .int .i64 0, .int .i64 0, .int .i64 0] 99)).drew := (dw.bel_box w5 _).drew
    have F6 := F5.below bx
    have R6 := L5.below bx
    have hlt0 : w.heap.size < w5.heap.size := (Array.getElem?_eq_some_iff.1 L5).1
    have b6 := b5.trans (bx.mono b5.size)
    have hp : w5.heap.size < (w5.alloc (.cells #[.int .i64 y, .int .i64 m, .int .i64 d, .int .i64 0, .int .i64 0, .int .i64 0] 99)).drew.heap.size := (Array.getElem?_eq_some_iff.1 L6).1
    generalize (w5.alloc _).drew = w6 at L6 F6 R6 b6 hp ⊢
    clear bx
    go_wp2_with fail
    refine (HC.out _ _ y m d 0 0 0 L6).mono ?_
    rintro e w7 ⟨rfl, L7, bb7⟩
    have F7 := F6.belowB (bb7 _ (Nat.le_refl _)) hbl5
    have R7 : dw.Lies w7 w.heap.size 0 0 0 0 0 0 := ((bb7 _ (Nat.le_refl _)).block _ hlt0).trans R6
    have b7 := b6.trans (bb7 _ (Nat.le_of_lt hlt0))
    clear L6 F6 R6 bb7 b6 HC F5 L5
    have r0 := R7.c0
    have r1 := R7.c1
    have r2 := R7.c2
    have r3 := R7.c3
    have r4 := R7.c4
    have r5 := R7.c5
    have f0 : w7.frozen? ⟨w.heap.size, 0, none⟩ = false := frozen_of_row _ _ _ _ _ R7
    have f1 : w7.frozen? ⟨w.heap.size, 0 + 1, none⟩ = false := frozen_of_row _ _ _ _ _ R7
    have f2 : w7.frozen? ⟨w.heap.size, 0 + 2, none⟩ = false := frozen_of_row _ _ _ _ _ R7
    have f3 : w7.frozen? ⟨w.heap.size, 0 + 3, none⟩ = false := frozen_of_row _ _ _ _ _ R7
    have f4 : w7.frozen? ⟨w.heap.size, 0 + 4, none⟩ = false := frozen_of_row _ _ _ _ _ R7
    have f5 : w7.frozen? ⟨w.heap.size, 0 + 5, none⟩ = false := frozen_of_row _ _ _ _ _ R7
    have l0 := L7.c0
    have l1 := L7.c1
    have l2 := L7.c2
    have l3 := L7.c3
    have l4 := L7.c4
    have l5 := L7.c5
    have q4 := F7.c4
    go_wp2_with fail
    go_region
    have L8 := dw.put6_lies (y := y) (m := m) (d := d) (h := h) (i := i) (s := sc) R7
    have b8 := dw.put6_below (y := y) (m := m) (d := d) (h := h) (i := i) (s := sc) b7 (Nat.le_refl _)
    clear r0 r1 r2 r3 r4 r5 f0 f1 f2 f3 f4 f5 l0 l1 l2 l3 l4 l5 q4 R7 b7 L7 F7
    go_wp2
    unfold dw.put6 at L8 b8
    generalize hX : World.setCell _ _ _ = X at L8 b8 ⊢
    clear hX
    have c0 := L8.c0
    have c1 := L8.c1
    have c2 := L8.c2
    have c3 := L8.c3
    have c4 := L8.c4
    have c5 := L8.c5
    simp only [Nat.zero_add] at c1 c2 c3 c4 c5
    unfold C6
    refine bodyPost_ret (v := .tuple #[.agg #[.int .i64 y, .int .i64 m, .int .i64 d, .int .i64 h, .int .i64 i, .int .i64 sc], .string Z, .bool true]) (by simp [results, Tryz.results119, go_sem, c0, c1, c2, c3, c4, c5]) rfl ⟨rfl, b8.drew⟩
end Go.Proofs.YtadfdfmebdcfgaaGreatDoor.rd

namespace Go.Proofs.YtadfdfmebdcfgaaGreatDoor.rd
open Go.RowKit
open dt
set_option linter.unusedVariables false
/-- What is answered where words don't serve. -/
def noW : Value := .tuple #[C6 0 0 0 0 0 0, .string ⟨#[]⟩, .bool false]
set_option maxHeartbeats 2000000 in
set_option maxRecDepth 100000 in
theorem words_len (w : World) (a : Option Addr) (n c : Nat) (h : n ≠ 5) (hn : n ≤ 1048576) : Calls Tryz.prog 119 #[.slice a n c] w fun e w' => e = .returned noW ∧ Below w.heap.size w w' := by
  have d5 : ((n : Int) != 5) = true := bne_iff_ne.2 (by omega)
  have d5' : ((n : Int) == 5) = false := beq_eq_false_iff_ne.2 (by omega)
  unfold noW C6
  go_enter Tryz.func119, Tryz.ntmps119
  go_wp2
  refine bodyPost_ret (v := .tuple #[.agg #[.int .i64 0, .int .i64 0, .int .i64 0, .int .i64 0, .int .i64 0, .int .i64 0], .string ⟨#[]⟩, .bool false]) (by simp [results, Tryz.results119, go_sem]) rfl ⟨rfl, dw.bel_box _ _⟩
set_option maxHeartbeats 4000000 in
set_option maxRecDepth 100000 in
theorem words_form (w : World) (b : Nat) (D M Y C Z : ByteArray) (L : Five w b D M Y C Z) (hD : D.size ≤ 65536) (hY : Y.size ≤ 65536) (hC : C.size ≤ 65536) (h : formI D.data.toList Y.data.toList C.data.toList = false) :
    Calls Tryz.prog 119 #[.slice (some ⟨b, 0, none⟩) 5 5] w fun e w' => e = .returned noW ∧ Below w.heap.size w w' := by
  have H1 : Hid (∀ w, Calls Tryz.prog 164 #[.string D, .string ⟨#[48]⟩] w fun e w' => e = .returned (.bool (hf D.data.toList [48])) ∧ Drawn w w') := fun w => hf_any D ⟨#[48]⟩ (by omega) w
  have H2 : Hid (∀ w, Calls Tryz.prog 164 #[.string D, .string ⟨#[48, 48]⟩] w fun e w' => e = .returned (.bool (hf D.data.toList [48, 48])) ∧ Drawn w w') := fun w => hf_any D ⟨#[48, 48]⟩ (by omega) w
  have H3 : Hid (∀ w, Calls Tryz.prog 164 #[.string Y, .string ⟨#[48, 48, 48, 48]⟩] w fun e w' => e = .returned (.bool (hf Y.data.toList F4)) ∧ Drawn w w') := fun w => hf_any Y ⟨#[48, 48, 48, 48]⟩ (by omega) w
  have H4 : Hid (∀ w, Calls Tryz.prog 164 #[.string C, .string ⟨#[48, 48, 58, 48, 48, 58, 48, 48]⟩] w fun e w' => e = .returned (.bool (hf C.data.toList F8)) ∧ Drawn w w') := fun w => hf_any C ⟨#[48, 48, 58, 48, 48, 58, 48, 48]⟩ (by omega) w
  unfold formI at h
  generalize hf D.data.toList [48] = t1 at H1 h
  generalize hf D.data.toList [48, 48] = t2 at H2 h
  generalize hf Y.data.toList F4 = t3 at H3 h
  generalize hf C.data.toList F8 = t4 at H4 h
  unfold noW C6
  go_enter Tryz.func119, Tryz.ntmps119
  go_upto_region 3 with fail
  have F0 := L.below (dw.bel_box w (.cells #[.int .i64 0, .int .i64 0, .int .i64 0, .int .i64 0, .int .i64 0, .int .i64 0] 99))
  have L0 := dw.lies_new w 0 0 0 0 0 0
  have b0 := dw.bel_box w (.cells #[.int .i64 0, .int .i64 0, .int .i64 0, .int .i64 0, .int .i64 0, .int .i64 0] 99)
  generalize w.alloc _ = w0 at F0 L0 b0 ⊢
  have q0 := F0.c0
  have q2 := F0.c2
  have q3 := F0.c3
  go_quiet (fail)
  have L1 := L0.below (drawn_below ⟨nq, rfl⟩)
  have b1 := b0.trans ((drawn_below (w := w0) ⟨nq, rfl⟩).mono b0.size)
  generalize w0.drewN nq = w1 at L1 b1 ⊢
  clear q0 q2 q3 F0 L0 b0 L
  go_wp2_with fail
  refine (H1.out _).mono ?_
  rintro e w2 ⟨rfl, dr2⟩
  have L2 := L1.below (drawn_below dr2)
  have b2 := b1.trans ((drawn_below dr2).mono b1.size)
  clear L1 b1 dr2 H1
  cases t1
  · go_wp2_with fail
    refine (H2.out _).mono ?_
    rintro e w3 ⟨rfl, dr3⟩
    have L3 := L2.below (drawn_below dr3)
    have b3 := b2.trans ((drawn_below dr3).mono b2.size)
    clear L2 b2 dr3 H2
    cases t2
    · have r0 := L3.c0
      have r1 := L3.c1
      have r2 := L3.c2
      have r3 := L3.c3
      have r4 := L3.c4
      have r5 := L3.c5
      have f0 : w3.frozen? ⟨w.heap.size, 0, none⟩ = false := frozen_of_row _ _ _ _ _ L3
      have f1 : w3.frozen? ⟨w.heap.size, 0 + 1, none⟩ = false := frozen_of_row _ _ _ _ _ L3
      have f2 : w3.frozen? ⟨w.heap.size, 0 + 2, none⟩ = false := frozen_of_row _ _ _ _ _ L3
      have f3 : w3.frozen? ⟨w.heap.size, 0 + 3, none⟩ = false := frozen_of_row _ _ _ _ _ L3
      have f4 : w3.frozen? ⟨w.heap.size, 0 + 4, none⟩ = false := frozen_of_row _ _ _ _ _ L3
      have f5 : w3.frozen? ⟨w.heap.size, 0 + 5, none⟩ = false := frozen_of_row _ _ _ _ _ L3
      go_wp2
      have L8 := dw.put6_lies (y := 0) (m := 0) (d := 0) (h := 0) (i := 0) (s := 0) L3
      have b8 := dw.put6_below (y := 0) (m := 0) (d := 0) (h := 0) (i := 0) (s := 0) b3 (Nat.le_refl _)
      clear r0 r1 r2 r3 r4 r5 f0 f1 f2 f3 f4 f5 L3 b3
      unfold dw.put6 at L8 b8
      generalize hX : World.setCell _ _ _ = X at L8 b8 ⊢
      clear hX
      have c0 := L8.c0
      have c1 := L8.c1
      have c2 := L8.c2
      have c3 := L8.c3
      have c4 := L8.c4
      have c5 := L8.c5
      simp only [Nat.zero_add] at c1 c2 c3 c4 c5
      exact bodyPost_ret (v := .tuple #[.agg #[.int .i64 0, .int .i64 0, .int .i64 0, .int .i64 0, .int .i64 0, .int .i64 0], .string ⟨#[]⟩, .bool false]) (by simp [results, Tryz.results119, go_sem, c0, c1, c2, c3, c4, c5]) rfl ⟨rfl, b8⟩
    · go_wp2_with fail
      refine (H3.out _).mono ?_
      rintro e w4 ⟨rfl, dr4⟩
      have L4 := L3.below (drawn_below dr4)
      have b4 := b3.trans ((drawn_below dr4).mono b3.size)
      clear L3 b3 dr4 H3
      cases t3
      · have r0 := L4.c0
        have r1 := L4.c1
        have r2 := L4.c2
        have r3 := L4.c3
        have r4 := L4.c4
        have r5 := L4.c5
        have f0 : w4.frozen? ⟨w.heap.size, 0, none⟩ = false := frozen_of_row _ _ _ _ _ L4
        have f1 : w4.frozen? ⟨w.heap.size, 0 + 1, none⟩ = false := frozen_of_row _ _ _ _ _ L4
        have f2 : w4.frozen? ⟨w.heap.size, 0 + 2, none⟩ = false := frozen_of_row _ _ _ _ _ L4
        have f3 : w4.frozen? ⟨w.heap.size, 0 + 3, none⟩ = false := frozen_of_row _ _ _ _ _ L4
        have f4 : w4.frozen? ⟨w.heap.size, 0 + 4, none⟩ = false := frozen_of_row _ _ _ _ _ L4
        have f5 : w4.frozen? ⟨w.heap.size, 0 + 5, none⟩ = false := frozen_of_row _ _ _ _ _ L4
        go_wp2
        have L8 := dw.put6_lies (y := 0) (m := 0) (d := 0) (h := 0) (i := 0) (s := 0) L4
        have b8 := dw.put6_below (y := 0) (m := 0) (d := 0) (h := 0) (i := 0) (s := 0) b4 (Nat.le_refl _)
        clear r0 r1 r2 r3 r4 r5 f0 f1 f2 f3 f4 f5 L4 b4
        unfold dw.put6 at L8 b8
        generalize hX : World.setCell _ _ _ = X at L8 b8 ⊢
        clear hX
        have c0 := L8.c0
        have c1 := L8.c1
        have c2 := L8.c2
        have c3 := L8.c3
        have c4 := L8.c4
        have c5 := L8.c5
        simp only [Nat.zero_add] at c1 c2 c3 c4 c5
        exact bodyPost_ret (v := .tuple #[.agg #[.int .i64 0, .int .i64 0, .int .i64 0, .int .i64 0, .int .i64 0, .int .i64 0], .string ⟨#[]⟩, .bool false]) (by simp [results, Tryz.results119, go_sem, c0, c1, c2, c3, c4, c5]) rfl ⟨rfl, b8⟩
      · obtain rfl : t4 = false := by simpa using h
        go_wp2_with fail
        refine (H4.out _).mono ?_
        rintro e w5 ⟨rfl, dr5⟩
        have L5 := L4.below (drawn_below dr5)
        have b5 := b4.trans ((drawn_below dr5).mono b4.size)
        clear L4 b4 dr5 H4
        have r0 := L5.c0
        have r1 := L5.c1
        have r2 := L5.c2
        have r3 := L5.c3
        have r4 := L5.c4
        have r5 := L5.c5
        have f0 : w5.frozen? ⟨w.heap.size, 0, none⟩ = false := frozen_of_row _ _ _ _ _ L5
        have f1 : w5.frozen? ⟨w.heap.size, 0 + 1, none⟩ = false := frozen_of_row _ _ _ _ _ L5
        have f2 : w5.frozen? ⟨w.heap.size, 0 + 2, none⟩ = false := frozen_of_row _ _ _ _ _ L5
        have f3 : w5.frozen? ⟨w.heap.size, 0 + 3, none⟩ = false := frozen_of_row _ _ _ _ _ L5
        have f4 : w5.frozen? ⟨w.heap.size, 0 + 4, none⟩ = false := frozen_of_row _ _ _ _ _ L5
        have f5 : w5.frozen? ⟨w.heap.size, 0 + 5, none⟩ = false := frozen_of_row _ _ _ _ _ L5
        go_wp2
        have L8 := dw.put6_lies (y := 0) (m := 0) (d := 0) (h := 0) (i := 0) (s := 0) L5
        have b8 := dw.put6_below (y := 0) (m := 0) (d := 0) (h := 0) (i := 0) (s := 0) b5 (Nat.le_refl _)
        clear r0 r1 r2 r3 r4 r5 f0 f1 f2 f3 f4 f5 L5 b5
        unfold dw.put6 at L8 b8
        generalize hX : World.setCell _ _ _ = X at L8 b8 ⊢
        clear hX
        have c0 := L8.c0
        have c1 := L8.c1
        have c2 := L8.c2
        have c3 := L8.c3
        have c4 := L8.c4
        have c5 := L8.c5
        simp only [Nat.zero_add] at c1 c2 c3 c4 c5
        exact bodyPost_ret (v := .tuple #[.agg #[.int .i64 0, .int .i64 0, .int .i64 0, .int .i64 0, .int .i64 0, .int .i64 0], .string ⟨#[]⟩, .bool false]) (by simp [results, Tryz.results119, go_sem, c0, c1, c2, c3, c4, c5]) rfl ⟨rfl, b8⟩
  · go_wp2_with fail
    refine (H3.out _).mono ?_
    rintro e w3 ⟨rfl, dr3⟩
    have L3 := L2.below (drawn_below dr3)
    have b3 := b2.trans ((drawn_below dr3).mono b2.size)
    clear L2 b2 dr3 H3
    cases t3
    · have r0 := L3.c0
      have r1 := L3.c1
      have r2 := L3.c2
      have r3 := L3.c3
      have r4 := L3.c4
      have r5 := L3.c5
      have f0 : w3.frozen? ⟨w.heap.size, 0, none⟩ = false := frozen_of_row _ _ _ _ _ L3
      have f1 : w3.frozen? ⟨w.heap.size, 0 + 1, none⟩ = false := frozen_of_row _ _ _ _ _ L3
      have f2 : w3.frozen? ⟨w.heap.size, 0 + 2, none⟩ = false := frozen_of_row _ _ _ _ _ L3
      have f3 : w3.frozen? ⟨w.heap.size, 0 + 3, none⟩ = false := frozen_of_row _ _ _ _ _ L3
      have f4 : w3.frozen? ⟨w.heap.size, 0 + 4, none⟩ = false := frozen_of_row _ _ _ _ _ L3
      have f5 : w3.frozen? ⟨w.heap.size, 0 + 5, none⟩ = false := frozen_of_row _ _ _ _ _ L3
      go_wp2
      have L8 := dw.put6_lies (y := 0) (m := 0) (d := 0) (h := 0) (i := 0) (s := 0) L3
      have b8 := dw.put6_below (y := 0) (m := 0) (d := 0) (h := 0) (i := 0) (s := 0) b3 (Nat.le_refl _)
      clear r0 r1 r2 r3 r4 r5 f0 f1 f2 f3 f4 f5 L3 b3
      unfold dw.put6 at L8 b8
      generalize hX : World.setCell _ _ _ = X at L8 b8 ⊢
      clear hX
      have c0 := L8.c0
      have c1 := L8.c1
      have c2 := L8.c2
      have c3 := L8.c3
      have c4 := L8.c4
      have c5 := L8.c5
      simp only [Nat.zero_add] at c1 c2 c3 c4 c5
      exact bodyPost_ret (v := .tuple #[.agg #[.int .i64 0, .int .i64 0, .int .i64 0, .int .i64 0, .int .i64 0, .int .i64 0], .string ⟨#[]⟩, .bool false]) (by simp [results, Tryz.results119, go_sem, c0, c1, c2, c3, c4, c5]) rfl ⟨rfl, b8⟩
    · obtain rfl : t4 = false := by simpa using h
      go_wp2_with fail
      refine (H4.out _).mono ?_
      rintro e w4 ⟨rfl, dr4⟩
      have L4 := L3.below (drawn_below dr4)
      have b4 := b3.trans ((drawn_below dr4).mono b3.size)
      clear L3 b3 dr4 H4
      have r0 := L4.c0
      have r1 := L4.c1
      have r2 := L4.c2
      have r3 := L4.c3
      have r4 := L4.c4
      have r5 := L4.c5
      have f0 : w4.frozen? ⟨w.heap.size, 0, none⟩ = false := frozen_of_row _ _ _ _ _ L4
      have f1 : w4.frozen? ⟨w.heap.size, 0 + 1, none⟩ = false := frozen_of_row _ _ _ _ _ L4
      have f2 : w4.frozen? ⟨w.heap.size, 0 + 2, none⟩ = false := frozen_of_row _ _ _ _ _ L4
      have f3 : w4.frozen? ⟨w.heap.size, 0 + 3, none⟩ = false := frozen_of_row _ _ _ _ _ L4
      have f4 : w4.frozen? ⟨w.heap.size, 0 + 4, none⟩ = false := frozen_of_row _ _ _ _ _ L4
      have f5 : w4.frozen? ⟨w.heap.size, 0 + 5, none⟩ = false := frozen_of_row _ _ _ _ _ L4
      go_wp2
      have L8 := dw.put6_lies (y := 0) (m := 0) (d := 0) (h := 0) (i := 0) (s := 0) L4
      have b8 := dw.put6_below (y := 0) (m := 0) (d := 0) (h := 0) (i := 0) (s := 0) b4 (Nat.le_refl _)
      clear r0 r1 r2 r3 r4 r5 f0 f1 f2 f3 f4 f5 L4 b4
      unfold dw.put6 at L8 b8
      generalize hX : World.setCell _ _ _ = X at L8 b8 ⊢
      clear hX
      have c0 := L8.c0
      have c1 := L8.c1
      have c2 := L8.c2
      have c3 := L8.c3
      have c4 := L8.c4
      have c5 := L8.c5
      simp only [Nat.zero_add] at c1 c2 c3 c4 c5
      exact bodyPost_ret (v := .tuple #[.agg #[.int .i64 0, .int .i64 0, .int .i64 0, .int .i64 0, .int .i64 0, .int .i64 0], .string ⟨#[]⟩, .bool false]) (by simp [results, Tryz.results119, go_sem, c0, c1, c2, c3, c4, c5]) rfl ⟨rfl, b8⟩
end Go.Proofs.YtadfdfmebdcfgaaGreatDoor.rd
