/-
  The contract of the program's ReadRfc3339.
-/
import Derived.Test.YtbfppgoehgdnlaaDoorRde
import Derived.Test.YtbfppgoehgdnlaaDoorRdg
import Derived.Deep.DeepCutAuto
namespace Go.Proofs.YtbfppgoehgdnlaaDoor.rd
open Go.RowKit
open dt
set_option linter.unusedVariables false
theorem g_ext (s : ByteArray) (i j : Nat) : (s.extract i j).data.toList = g s.data.toList i (j - i) := ext_list s i j
theorem tail_ext (s : ByteArray) (i : Nat) : (s.extract i s.size).data.toList = s.data.toList.drop i := by rw [ext_list, List.take_of_length_le (by simp)]
theorem ext_ext (s : ByteArray) (i j k : Nat) (h : i + k ≤ s.size) : ((s.extract i s.size).extract j k).data.toList = g s.data.toList (i + j) (k - j) := by
  rw [ext_list, tail_ext, List.drop_drop]
  rfl
/-- The zone's answer as the walk has it. -/
theorem dropWhile_le (p : UInt8 → Bool) (l : List UInt8) : (l.dropWhile p).length ≤ l.length := (List.dropWhile_sublist _).length_le
theorem fi_len (l : List UInt8) : (fi l).1.length ≤ l.length := by
  unfold fi
  split
  · exact Nat.le_trans (dropWhile_le _ _) (by rw [List.length_drop]; omega)
  · exact Nat.le_refl _

theorem lies_drew (w : World) (y m d h i s : Int) : dw.Lies (w.alloc (.cells #[.int .i64 y, .int .i64 m, .int .i64 d, .int .i64 h, .int .i64 i, .int .i64 s] 34)).drew w.heap.size y m d h i s := dw.lies_new w y m d h i s
set_option maxHeartbeats 4000000 in
set_option maxRecDepth 100000 in
theorem impl_39 (s : ByteArray) (hs : s.size ≤ 1048576) (w : World) : Calls Tryd.prog 11 #[.string s] w fun e w' => e = .returned (r3 s.data.toList) ∧ Below w.heap.size w w' := by
  by_cases hbig : 65536 < s.size
  · have hb : (65536 : Int) < (s.size : Int) := by omega
    rw [r3_long (by rw [len_eq]; exact hbig)]
    go_enter Tryd.func11, Tryd.ntmps11
    go_wp2
    go_ret2
    exact ⟨rfl, Below.refl _ _⟩
  have hb : (s.size : Int) ≤ 65536 := by omega
  rw [r3_else (by rw [len_eq]; exact hbig)]
  by_cases h19 : s.size < 19
  · rw [rdI_short (by rw [len_eq]; exact h19)]
    have d1 : decide ((s.size : Int) < 19) = true := decide_eq_true (by omega)
    go_enter Tryd.func11, Tryd.ntmps11
    go_wp2
    go_ret2
    exact ⟨rfl, Below.refl _ _⟩
  have d1 : decide ((s.size : Int) < 19) = false := decide_eq_false (by omega)
  have k19 : (19 : Int) ≤ (s.size : Int) := by omega
  have HH : Hid (∀ w, Calls Tryd.prog 30 #[.string (s.extract 0 19), .string ⟨#[48, 48, 48, 48, 45, 48, 48, 45, 48, 48, 84, 48, 48, 58, 48, 48, 58, 48, 48]⟩] w fun e w' => e = .returned (.bool (hf (s.data.toList.take 19) F19)) ∧ Drawn w w') := fun w => by
    have := hf_any (s.extract 0 19) ⟨#[48, 48, 48, 48, 45, 48, 48, 45, 48, 48, 84, 48, 48, 58, 48, 48, 58, 48, 48]⟩ (by rw [ext_size]; omega) w
    rw [ext_list] at this
    exact this
  cases hh : hf (s.data.toList.take 19) F19
  · rw [rdI_form hh]
    rw [hh] at HH
    go_enter Tryd.func11, Tryd.ntmps11
    go_wp2_with fail
    refine (HH.out _).mono ?_
    rintro e w1 ⟨rfl, b1⟩
    go_wp2
    go_ret2
    exact ⟨rfl, drawn_below b1⟩
  rw [hh] at HH
  have HW : Hid (∀ w, Calls Tryd.prog 31 #[.string (s.extract 19 s.size)] w fun e w' => e = .returned (.tuple #[.string ⟨(fi (s.data.toList.drop 19)).1.toArray⟩, .bool (fi (s.data.toList.drop 19)).2]) ∧ Below w.heap.size w w') := fun w => by
    have := frac_any (s.extract 19 s.size) (by rw [ext_size]; omega) w
    rw [tail_ext] at this
    exact this
  cases h3 : (fi (s.data.toList.drop 19)).2
  · rw [rdI_frac h3]
    rw [h3] at HW
    clear hh h3
    go_enter Tryd.func11, Tryd.ntmps11
    go_wp2_with fail
    refine (HH.out _).mono ?_
    rintro e w1 ⟨rfl, b1⟩
    go_wp2_with fail
    refine (HW.out _).mono ?_
    rintro e w2 ⟨rfl, b2⟩
    have b3 := (drawn_below b1).trans (b2.mono (drawn_below b1).size)
    clear b1 b2 HH HW
    go_wp2
    go_ret2
    exact ⟨rfl, b3⟩
  rw [h3] at HW
  obtain ⟨z, hz⟩ : ∃ z : ByteArray, z = ⟨(fi (s.data.toList.drop 19)).1.toArray⟩ := ⟨_, rfl⟩
  have hzl : z.data.toList = (fi (s.data.toList.drop 19)).1 := by rw [hz]
  have hzs : z.size ≤ 65536 := by
    rw [← len_eq, hzl]
    have := fi_len (s.data.toList.drop 19)
    rw [List.length_drop, len_eq] at this
    omega
  rw [← hz] at HW
  clear hz
  obtain ⟨g1, g2, g3, g4, g5, g6, _⟩ := parts (by rw [len_eq]; omega) hh
  have HN1 : Hid (∀ w, Calls Tryd.prog 33 #[.string (s.extract 0 4)] w fun e w' => e = .returned (.int .i64 (num (g s.data.toList 0 4))) ∧ w' = w) := fun w => by
    have := num_any (s.extract 0 4) (by rw [ext_size]; omega) (by rw [g_ext]; exact g1) w
    rw [g_ext] at this
    exact this
  have HN2 : Hid (∀ w, Calls Tryd.prog 33 #[.string (s.extract 5 7)] w fun e w' => e = .returned (.int .i64 (num (g s.data.toList 5 2))) ∧ w' = w) := fun w => by
    have := num_any (s.extract 5 7) (by rw [ext_size]; omega) (by rw [g_ext]; exact g2) w
    rw [g_ext] at this
    exact this
  have HN3 : Hid (∀ w, Calls Tryd.prog 33 #[.string (s.extract 8 10)] w fun e w' => e = .returned (.int .i64 (num (g s.data.toList 8 2))) ∧ w' = w) := fun w => by
    have := num_any (s.extract 8 10) (by rw [ext_size]; omega) (by rw [g_ext]; exact g3) w
    rw [g_ext] at this
    exact this
  have HCK : Hid (∀ (w : World) (b : Nat) (y m d h0 i0 s0 : Int), dw.Lies w b y m d h0 i0 s0 → Calls Tryd.prog 34 #[.pointer (some ⟨b, 0, none⟩), .string (s.extract 11 s.size)] w fun e w' => e = .returned (.tuple #[]) ∧ dw.Lies w' b y m d (num (g s.data.toList 11 2)) (num (g s.data.toList 14 2)) (num (g s.data.toList 17 2)) ∧ ∀ B, B ≤ b → Below B w w') := fun w b y m d h0 i0 s0 L => by
    have e1 : ((s.extract 11 s.size).extract 0 2).data.toList = g s.data.toList 11 2 := ext_ext s 11 0 2 (by omega)
    have e2 : ((s.extract 11 s.size).extract 3 5).data.toList = g s.data.toList 14 2 := ext_ext s 11 3 5 (by omega)
    have e3 : ((s.extract 11 s.size).extract 6 8).data.toList = g s.data.toList 17 2 := ext_ext s 11 6 8 (by omega)
    have := clock_any w b y m d h0 i0 s0 (s.extract 11 s.size) L (by rw [ext_size]; omega) (by rw [ext_size]; omega) (by rw [e1]; exact g4) (by rw [e2]; exact g5) (by rw [e3]; exact g6)
    rw [e1, e2, e3] at this
    exact this
  have HS : Hid (∀ w, Calls Tryd.prog 32 #[.string z, .string ⟨#[48, 48, 58, 48, 48]⟩] w fun e w' => e = .returned (zr (zc z.data.toList)) ∧ Drawn w w') := fun w => by
    have := sec_any z ⟨#[48, 48, 58, 48, 48]⟩ hzs (.inl rfl) w
    rw [← zi_colon]
    exact this
  have HR : Hid (∀ a, zx z.data.toList = some a → rdI s.data.toList = fin (num (g s.data.toList 0 4)) (num (g s.data.toList 5 2)) (num (g s.data.toList 8 2)) (num (g s.data.toList 11 2)) (num (g s.data.toList 14 2)) (num (g s.data.toList 17 2)) a) := fun a ha => rdI_fin (by rw [len_eq]; omega) hh h3 (by rw [← hzl]; exact ha)
  have HRN : Hid (zx z.data.toList = none → rdI s.data.toList = bad) := fun ha => rdI_zone (by rw [← hzl]; exact ha)
  generalize num (g s.data.toList 0 4) = y at HN1 HR ⊢
  generalize num (g s.data.toList 5 2) = m at HN2 HR ⊢
  generalize num (g s.data.toList 8 2) = d at HN3 HR ⊢
  generalize num (g s.data.toList 11 2) = h at HCK HR ⊢
  generalize num (g s.data.toList 14 2) = i at HCK HR ⊢
  generalize num (g s.data.toList 17 2) = sc at HCK HR ⊢
  generalize rdI s.data.toList = R at HR HRN ⊢
  clear g1 g2 g3 g4 g5 g6 hh h3 hzl
  have k11 : (11 : Int) ≤ (s.size : Int) := by omega
  have k10 : (10 : Int) ≤ (s.size : Int) := by omega
  have k7 : (7 : Int) ≤ (s.size : Int) := by omega
  have k4 : (4 : Int) ≤ (s.size : Int) := by omega
  by_cases hZ : z.data.toList = [90]
  · have dZ : (z.toList == [90]) = true := by rw [Lib.toList_data, hZ]; rfl
    have HR0 : Hid (R = fin y m d h i sc 0) := HR.out 0 (by rw [hZ]; exact zx_z)
    clear HR HRN hZ HS
    go_enter Tryd.func11, Tryd.ntmps11
    go_wp2_with fail
    refine (HH.out _).mono ?_
    rintro e w1 ⟨rfl, b1⟩
    go_wp2_with fail
    refine (HW.out _).mono ?_
    rintro e w2 ⟨rfl, b2⟩
    have b3 := (drawn_below b1).trans (b2.mono (drawn_below b1).size)
    clear b1 b2 HH HW
    go_upto_region 11 with fail
    go_cut [7] (fun p wx => p = .pointer (some ⟨w2.heap.size, 0, none⟩) ∧ wx = (w2.alloc (.cells #[.int .i64 y, .int .i64 m, .int .i64 d, .int .i64 0, .int .i64 0, .int .i64 0] 34)).drew)
    case first =>
      go_region_with (first | (go_at_call_of 33 (s.extract 0 4); refine (HN1.out _).mono ?_; rintro e w' ⟨rfl, rfl⟩) | (go_at_call_of 33 (s.extract 5 7); refine (HN2.out _).mono ?_; rintro e w' ⟨rfl, rfl⟩) | (go_at_call_of 33 (s.extract 8 10); refine (HN3.out _).mono ?_; rintro e w' ⟨rfl, rfl⟩))
      all_goals (try go_wp2_with fail)
      all_goals go_meet
      all_goals exact ⟨rfl, rfl⟩
    case rest =>
      obtain ⟨rfl, rfl⟩ := hcut
      go_at_K
      clear HN1 HN2 HN3
      have L := lies_drew w2 y m d 0 0 0
      have b4 := (b3.trans ((dw.bel_box w2 (.cells #[.int .i64 y, .int .i64 m, .int .i64 d, .int .i64 0, .int .i64 0, .int .i64 0] 34)).mono b3.size)).drew
      have hsz := b3.size
      generalize (w2.alloc _).drew = w3 at L b4 ⊢
      go_wp2_with fail
      refine (HCK.out _ _ y m d 0 0 0 L).mono ?_
      rintro e w4 ⟨rfl, L4, bb4⟩
      have b5 := b4.trans (bb4 _ hsz)
      clear L bb4 b4 hsz HCK
      have c0 := L4.c0
      have c1 := L4.c1
      have c2 := L4.c2
      have c3 := L4.c3
      have c4 := L4.c4
      have c5 := L4.c5
      go_wp2_with fail
      refine (dw.impl_ok y m d h i sc _).mono ?_
      rintro e w5 ⟨t, rfl, ht, b6⟩
      have L5 := L4.below b6
      have b7 := b5.trans (b6.mono b5.size)
      clear c0 c1 c2 c3 c4 c5 b5 b6 L4
      cases t
      · have HN : Hid (¬ Ok y m d h i sc) := fun k => by have := ht.2 k; cases this
        clear ht L5
        go_wp2
        go_ret2
        exact ⟨by rw [HR0.out, fin_no HN.out]; rfl, b7⟩
      have K : Hid (Ok y m d h i sc) := ht.1 rfl
      clear ht
      have c0 := L5.c0
      have c1 := L5.c1
      have c2 := L5.c2
      have c3 := L5.c3
      have c4 := L5.c4
      have c5 := L5.c5
      clear L5
      go_wp2_with fail
      refine (in_stamp y m d h i sc 0 K.out (by decide) (by decide) _).mono ?_
      rintro e w6 ⟨rfl, b8⟩
      obtain ⟨x, c, hx⟩ := fin_form y m d h i sc 0
      have HX : Hid (R = .tuple #[.int .i64 x, .int .i64 c]) := by rw [HR0.out, hx]; exact (rfl : Value.tuple #[.int .i64 x, .int .i64 c] = _)
      rw [hx]
      have b9 := b7.trans (b8.mono b7.size)
      clear c0 c1 c2 c3 c4 c5 b7 b8 hx HR0
      go_wp2
      go_ret2
      exact ⟨by rw [HX.out]; rfl, b9⟩
  have dZ : (z.toList == [90]) = false := by rw [Lib.toList_data]; exact beq_eq_false_iff_ne.2 hZ
  cases hz : zc z.data.toList with
  | none =>
    have HR0 : Hid (R = bad) := HRN.out (by rw [zx_c hZ]; exact hz)
    rw [hz] at HS
    clear HR HRN hZ hz
    go_enter Tryd.func11, Tryd.ntmps11
    go_wp2_with fail
    refine (HH.out _).mono ?_
    rintro e w1 ⟨rfl, b1⟩
    go_wp2_with fail
    refine (HW.out _).mono ?_
    rintro e w2 ⟨rfl, b2⟩
    have b3 := (drawn_below b1).trans (b2.mono (drawn_below b1).size)
    clear b1 b2 HH HW
    go_wp2_with fail
    refine (HS.out _).mono ?_
    rintro e w9 ⟨rfl, b9⟩
    have b10 := b3.trans ((drawn_below b9).mono b3.size)
    clear b9 b3 HS
    unfold zr
    go_upto_region 11 with fail
    go_cut [7] (fun p wx => p = .pointer (some ⟨w9.heap.size, 0, none⟩) ∧ wx = (w9.alloc (.cells #[.int .i64 y, .int .i64 m, .int .i64 d, .int .i64 0, .int .i64 0, .int .i64 0] 34)).drew)
    case first =>
      go_region_with (first | (go_at_call_of 33 (s.extract 0 4); refine (HN1.out _).mono ?_; rintro e w' ⟨rfl, rfl⟩) | (go_at_call_of 33 (s.extract 5 7); refine (HN2.out _).mono ?_; rintro e w' ⟨rfl, rfl⟩) | (go_at_call_of 33 (s.extract 8 10); refine (HN3.out _).mono ?_; rintro e w' ⟨rfl, rfl⟩))
      all_goals (try go_wp2_with fail)
      all_goals go_meet
      all_goals exact ⟨rfl, rfl⟩
    case rest =>
      obtain ⟨rfl, rfl⟩ := hcut
      go_at_K
      clear HN1 HN2 HN3
      have L := lies_drew w9 y m d 0 0 0
      have b4 := (b10.trans ((dw.bel_box w9 (.cells #[.int .i64 y, .int .i64 m, .int .i64 d, .int .i64 0, .int .i64 0, .int .i64 0] 34)).mono b10.size)).drew
      have hsz := b10.size
      generalize (w9.alloc _).drew = w3 at L b4 ⊢
      go_wp2_with fail
      refine (HCK.out _ _ y m d 0 0 0 L).mono ?_
      rintro e w4 ⟨rfl, L4, bb4⟩
      have b5 := b4.trans (bb4 _ hsz)
      clear L bb4 b4 hsz HCK
      clear L4
      go_wp2
      go_ret2
      exact ⟨by rw [HR0.out]; rfl, b5⟩
  | some a =>
    have HR0 : Hid (R = fin y m d h i sc a) := HR.out a (by rw [zx_c hZ]; exact hz)
    obtain ⟨a0, a1⟩ := zc_bound hz
    rw [hz] at HS
    clear HR HRN hZ hz
    go_enter Tryd.func11, Tryd.ntmps11
    go_wp2_with fail
    refine (HH.out _).mono ?_
    rintro e w1 ⟨rfl, b1⟩
    go_wp2_with fail
    refine (HW.out _).mono ?_
    rintro e w2 ⟨rfl, b2⟩
    have b3 := (drawn_below b1).trans (b2.mono (drawn_below b1).size)
    clear b1 b2 HH HW
    go_wp2_with fail
    refine (HS.out _).mono ?_
    rintro e w9 ⟨rfl, b9⟩
    have b10 := b3.trans ((drawn_below b9).mono b3.size)
    clear b9 b3 HS
    unfold zr
    go_upto_region 11 with fail
    go_cut [7] (fun p wx => p = .pointer (some ⟨w9.heap.size, 0, none⟩) ∧ wx = (w9.alloc (.cells #[.int .i64 y, .int .i64 m, .int .i64 d, .int .i64 0, .int .i64 0, .int .i64 0] 34)).drew)
    case first =>
      go_region_with (first | (go_at_call_of 33 (s.extract 0 4); refine (HN1.out _).mono ?_; rintro e w' ⟨rfl, rfl⟩) | (go_at_call_of 33 (s.extract 5 7); refine (HN2.out _).mono ?_; rintro e w' ⟨rfl, rfl⟩) | (go_at_call_of 33 (s.extract 8 10); refine (HN3.out _).mono ?_; rintro e w' ⟨rfl, rfl⟩))
      all_goals (try go_wp2_with fail)
      all_goals go_meet
      all_goals exact ⟨rfl, rfl⟩
    case rest =>
      obtain ⟨rfl, rfl⟩ := hcut
      go_at_K
      clear HN1 HN2 HN3
      have L := lies_drew w9 y m d 0 0 0
      have b4 := (b10.trans ((dw.bel_box w9 (.cells #[.int .i64 y, .int .i64 m, .int .i64 d, .int .i64 0, .int .i64 0, .int .i64 0] 34)).mono b10.size)).drew
      have hsz := b10.size
      generalize (w9.alloc _).drew = w3 at L b4 ⊢
      go_wp2_with fail
      refine (HCK.out _ _ y m d 0 0 0 L).mono ?_
      rintro e w4 ⟨rfl, L4, bb4⟩
      have b5 := b4.trans (bb4 _ hsz)
      clear L bb4 b4 hsz HCK
      have c0 := L4.c0
      have c1 := L4.c1
      have c2 := L4.c2
      have c3 := L4.c3
      have c4 := L4.c4
      have c5 := L4.c5
      go_wp2_with fail
      refine (dw.impl_ok y m d h i sc _).mono ?_
      rintro e w5 ⟨t, rfl, ht, b6⟩
      have L5 := L4.below b6
      have b7 := b5.trans (b6.mono b5.size)
      clear c0 c1 c2 c3 c4 c5 b5 b6 L4
      cases t
      · have HN : Hid (¬ Ok y m d h i sc) := fun k => by have := ht.2 k; cases this
        clear ht L5
        go_wp2
        go_ret2
        exact ⟨by rw [HR0.out, fin_no HN.out]; rfl, b7⟩
      have K : Hid (Ok y m d h i sc) := ht.1 rfl
      clear ht
      have c0 := L5.c0
      have c1 := L5.c1
      have c2 := L5.c2
      have c3 := L5.c3
      have c4 := L5.c4
      have c5 := L5.c5
      clear L5
      go_wp2_with fail
      refine (in_stamp y m d h i sc a K.out (a0) (a1) _).mono ?_
      rintro e w6 ⟨rfl, b8⟩
      obtain ⟨x, c, hx⟩ := fin_form y m d h i sc a
      have HX : Hid (R = .tuple #[.int .i64 x, .int .i64 c]) := by rw [HR0.out, hx]; exact (rfl : Value.tuple #[.int .i64 x, .int .i64 c] = _)
      rw [hx]
      have b9 := b7.trans (b8.mono b7.size)
      clear c0 c1 c2 c3 c4 c5 b7 b8 hx HR0
      go_wp2
      go_ret2
      exact ⟨by rw [HX.out]; rfl, b9⟩
end Go.Proofs.YtbfppgoehgdnlaaDoor.rd
