/-
  The contract of the specification's ReadRfc3339.
-/
import Derived.Test.YtbfppgoehgdnlaaDoorRde
import Derived.Test.YtbfppgoehgdnlaaDoorRdg
import Derived.Deep.DeepCutAuto
namespace Go.Proofs.YtbfppgoehgdnlaaDoor.rd
open Go.RowKit
open dt
set_option linter.unusedVariables false
theorem sg_ext (s : ByteArray) (i j : Nat) : (s.extract i j).data.toList = g s.data.toList i (j - i) := ext_list s i j
theorem stail_ext (s : ByteArray) (i : Nat) : (s.extract i s.size).data.toList = s.data.toList.drop i := by rw [ext_list, List.take_of_length_le (by simp)]
theorem slies_drew (w : World) (y m d h i s : Int) : dw.Lies (w.alloc (.cells #[.int .i64 y, .int .i64 m, .int .i64 d, .int .i64 h, .int .i64 i, .int .i64 s] 34)).drew w.heap.size y m d h i s := dw.lies_new w y m d h i s
theorem zc_len {z : List UInt8} (h : z.length ≠ 6) : zc z = none := by
  rw [← zi_colon]
  unfold zi
  rw [if_neg]
  rintro ⟨h1, h2⟩
  have := hf_len h2
  have h0 : z.length ≠ 0 := fun e => h1 (List.eq_nil_of_length_eq_zero e)
  simp [F5] at this
  omega
theorem zc_six (z : ByteArray) (h : z.size = 6) : zc z.data.toList = if z[3]'(by omega) = 58 then zn (z[0]'(by omega)) (z.extract 1 3).data.toList (z.extract 4 6).data.toList else none := by
  rw [ext_list, ext_list, ← getD_eq z 3 (by omega), ← getD_eq z 0 (by omega)]
  have hl : z.data.toList.length = 6 := h
  generalize z.data.toList = l at hl ⊢
  match l, hl with
  | [a, b, c, d, e, f], _ => rfl
theorem pre_iff (l : List UInt8) (h : 1 ≤ l.length) : Lib.hasPrefix l [46] = (l.getD 0 0 == 46) := by
  match l, h with
  | a :: l, _ =>
    unfold Lib.hasPrefix
    simp [List.isPrefixOf]
    rw [Bool.eq_iff_iff]
    simp
    exact eq_comm
theorem dbel {w v : World} {B : Nat} (h : Below B w v) (n : Nat) : Below B w (v.drewN n) := ⟨h.os, h.tape, h.output, h.size, h.block⟩
/-- Digits that stand at the beginning. -/
theorem drop_digits {l : List UInt8} : ∀ {k : Nat}, k ≤ l.length → (∀ j, j < k → isD (l.getD j 0) = true) → (k = l.length ∨ isD (l.getD k 0) = false) → l.dropWhile isD = l.drop k := by
  induction l with
  | nil => intro k hk _ _; simp
  | cons a l ih =>
    intro k hk hd he
    cases k with
    | zero =>
      rcases he with he | he
      · simp at he
      · rw [List.dropWhile_cons_of_neg (by simpa using he)]; rfl
    | succ k =>
      have h0 := hd 0 (by omega)
      rw [List.dropWhile_cons_of_pos (by simpa using h0)]
      refine ih (by simpa using hk) (fun j hj => by have := hd (j + 1) (by omega); simpa using this) ?_
      rcases he with he | he
      · left; simpa using he
      · right; simpa using he

set_option maxHeartbeats 8000000 in
set_option maxRecDepth 100000 in
theorem spec_39 (s : ByteArray) (hs : s.size ≤ 1048576) (w : World) : Calls Tryd.prog 10 #[.string s] w fun e w' => e = .returned (r3 s.data.toList) ∧ Below w.heap.size w w' := by
  by_cases hbig : 65536 < s.size
  · have hb : (65536 : Int) < (s.size : Int) := by omega
    rw [r3_long (by rw [len_eq]; exact hbig)]
    go_enter Tryd.func10, Tryd.ntmps10
    go_wp2
    go_ret2
    exact ⟨rfl, Below.refl _ _⟩
  have hb : (s.size : Int) ≤ 65536 := by omega
  rw [r3_else (by rw [len_eq]; exact hbig)]
  by_cases h20 : s.size < 20
  · rw [spec_sep (by rintro ⟨h1, _⟩; rw [len_eq] at h1; omega)]
    have d1 : decide ((s.size : Int) < 20) = true := decide_eq_true (by omega)
    go_enter Tryd.func10, Tryd.ntmps10
    go_wp2
    go_ret2
    exact ⟨rfl, Below.refl _ _⟩
  have d1 : decide ((s.size : Int) < 20) = false := decide_eq_false (by omega)
  have k20 : (20 : Int) ≤ (s.size : Int) := by omega
  have k4 : (4 : Int) < (s.size : Int) := by omega
  have k7 : (7 : Int) < (s.size : Int) := by omega
  have k10 : (10 : Int) < (s.size : Int) := by omega
  have k13 : (13 : Int) < (s.size : Int) := by omega
  have k16 : (16 : Int) < (s.size : Int) := by omega
  have n4 : 4 < s.size := by omega
  by_cases q4 : s[4]'n4 = 45
  rotate_left
  · rw [spec_sep (by rintro ⟨_, e1, e2, e3, e4, e5⟩; exact q4 (by rw [← getD_eq s 4 n4]; exact e1))]
    have e4 : (((s[4]'n4).toNat : Int) != 45) = true := bne_iff_ne.2 (fun e => q4 ((nat_of_beq (n := 45) (by decide)).2 e))
    clear q4
    go_enter Tryd.func10, Tryd.ntmps10
    go_wp2
    go_ret2
    exact ⟨rfl, Below.refl _ _⟩
  have e4 : (((s[4]'n4).toNat : Int) != 45) = false := by rw [q4]; rfl
  have n7 : 7 < s.size := by omega
  by_cases q7 : s[7]'n7 = 45
  rotate_left
  · rw [spec_sep (by rintro ⟨_, e1, e2, e3, e4, e5⟩; exact q7 (by rw [← getD_eq s 7 n7]; exact e2))]
    have e7 : (((s[7]'n7).toNat : Int) != 45) = true := bne_iff_ne.2 (fun e => q7 ((nat_of_beq (n := 45) (by decide)).2 e))
    clear q7
    go_enter Tryd.func10, Tryd.ntmps10
    go_wp2
    go_ret2
    exact ⟨rfl, Below.refl _ _⟩
  have e7 : (((s[7]'n7).toNat : Int) != 45) = false := by rw [q7]; rfl
  have n10 : 10 < s.size := by omega
  by_cases q10 : s[10]'n10 = 84
  rotate_left
  · rw [spec_sep (by rintro ⟨_, e1, e2, e3, e4, e5⟩; exact q10 (by rw [← getD_eq s 10 n10]; exact e3))]
    have e10 : (((s[10]'n10).toNat : Int) != 84) = true := bne_iff_ne.2 (fun e => q10 ((nat_of_beq (n := 84) (by decide)).2 e))
    clear q10
    go_enter Tryd.func10, Tryd.ntmps10
    go_wp2
    go_ret2
    exact ⟨rfl, Below.refl _ _⟩
  have e10 : (((s[10]'n10).toNat : Int) != 84) = false := by rw [q10]; rfl
  have n13 : 13 < s.size := by omega
  by_cases q13 : s[13]'n13 = 58
  rotate_left
  · rw [spec_sep (by rintro ⟨_, e1, e2, e3, e4, e5⟩; exact q13 (by rw [← getD_eq s 13 n13]; exact e4))]
    have e13 : (((s[13]'n13).toNat : Int) != 58) = true := bne_iff_ne.2 (fun e => q13 ((nat_of_beq (n := 58) (by decide)).2 e))
    clear q13
    go_enter Tryd.func10, Tryd.ntmps10
    go_wp2
    go_ret2
    exact ⟨rfl, Below.refl _ _⟩
  have e13 : (((s[13]'n13).toNat : Int) != 58) = false := by rw [q13]; rfl
  have n16 : 16 < s.size := by omega
  by_cases q16 : s[16]'n16 = 58
  rotate_left
  · rw [spec_sep (by rintro ⟨_, e1, e2, e3, e4, e5⟩; exact q16 (by rw [← getD_eq s 16 n16]; exact e5))]
    have e16 : (((s[16]'n16).toNat : Int) != 58) = true := bne_iff_ne.2 (fun e => q16 ((nat_of_beq (n := 58) (by decide)).2 e))
    clear q16
    go_enter Tryd.func10, Tryd.ntmps10
    go_wp2
    go_ret2
    exact ⟨rfl, Below.refl _ _⟩
  have e16 : (((s[16]'n16).toNat : Int) != 58) = false := by rw [q16]; rfl
  have hsep : sepOk s.data.toList := ⟨by rw [len_eq]; omega, by rw [getD_eq s 4 n4]; exact q4, by rw [getD_eq s 7 n7]; exact q7, by rw [getD_eq s 10 n10]; exact q10, by rw [getD_eq s 13 n13]; exact q13, by rw [getD_eq s 16 n16]; exact q16⟩
  clear q4 q7 q10 q13 q16
  obtain ⟨r, hr⟩ : ∃ r : ByteArray, s.extract 19 s.size = r := ⟨_, rfl⟩
  have rl : r.data.toList = s.data.toList.drop 19 := by rw [← hr, stail_ext]
  have rs : 1 ≤ r.size := by rw [← hr, ext_size]; omega
  have rs2 : r.size ≤ 65536 := by rw [← hr, ext_size]; omega
  have HRF : Hid ((fi r.data.toList).2 = false → rdI s.data.toList = bad) := fun h => spec_frac (by rw [← rl]; exact h)
  have HRN : Hid (∀ z, fi r.data.toList = (z, true) → zx z = none → rdI s.data.toList = bad) := fun z h hz => spec_zone (by rw [← rl, h]; exact hz)
  have HRS : Hid (∀ z a, fi r.data.toList = (z, true) → zx z = some a → rdI s.data.toList = fin (nb (g s.data.toList 0 4)) (nb (g s.data.toList 5 2)) (nb (g s.data.toList 8 2)) (nb (g s.data.toList 11 2)) (nb (g s.data.toList 14 2)) (nb (g s.data.toList 17 2)) a) := fun z a h hz => spec_fin hsep (by rw [← rl, h]) (by rw [← rl, h]; exact hz)
  have HN1 : Hid (∀ w, Calls Tryd.prog 27 #[.string (s.extract 0 4)] w fun e w' => e = .returned (.int .i64 (nb (g s.data.toList 0 4))) ∧ w' = w) := fun w => by
    have := nb_any (s.extract 0 4) (by rw [ext_size]; omega) w
    rw [sg_ext] at this
    exact this
  have HN2 : Hid (∀ w, Calls Tryd.prog 27 #[.string (s.extract 5 7)] w fun e w' => e = .returned (.int .i64 (nb (g s.data.toList 5 2))) ∧ w' = w) := fun w => by
    have := nb_any (s.extract 5 7) (by rw [ext_size]; omega) w
    rw [sg_ext] at this
    exact this
  have HN3 : Hid (∀ w, Calls Tryd.prog 27 #[.string (s.extract 8 10)] w fun e w' => e = .returned (.int .i64 (nb (g s.data.toList 8 2))) ∧ w' = w) := fun w => by
    have := nb_any (s.extract 8 10) (by rw [ext_size]; omega) w
    rw [sg_ext] at this
    exact this
  have HN4 : Hid (∀ w, Calls Tryd.prog 27 #[.string (s.extract 11 13)] w fun e w' => e = .returned (.int .i64 (nb (g s.data.toList 11 2))) ∧ w' = w) := fun w => by
    have := nb_any (s.extract 11 13) (by rw [ext_size]; omega) w
    rw [sg_ext] at this
    exact this
  have HN5 : Hid (∀ w, Calls Tryd.prog 27 #[.string (s.extract 14 16)] w fun e w' => e = .returned (.int .i64 (nb (g s.data.toList 14 2))) ∧ w' = w) := fun w => by
    have := nb_any (s.extract 14 16) (by rw [ext_size]; omega) w
    rw [sg_ext] at this
    exact this
  have HN6 : Hid (∀ w, Calls Tryd.prog 27 #[.string (s.extract 17 19)] w fun e w' => e = .returned (.int .i64 (nb (g s.data.toList 17 2))) ∧ w' = w) := fun w => by
    have := nb_any (s.extract 17 19) (by rw [ext_size]; omega) w
    rw [sg_ext] at this
    exact this
  generalize nb (g s.data.toList 0 4) = y at HN1 HRS ⊢
  generalize nb (g s.data.toList 5 2) = m at HN2 HRS ⊢
  generalize nb (g s.data.toList 8 2) = d at HN3 HRS ⊢
  generalize nb (g s.data.toList 11 2) = h at HN4 HRS ⊢
  generalize nb (g s.data.toList 14 2) = i at HN5 HRS ⊢
  generalize nb (g s.data.toList 17 2) = sc at HN6 HRS ⊢
  generalize rdI s.data.toList = R at HRF HRN HRS ⊢
  clear hsep rl
  have k19 : (19 : Int) ≤ (s.size : Int) := by omega
  have m4 : (4 : Int) ≤ (s.size : Int) := by omega
  have m7 : (7 : Int) ≤ (s.size : Int) := by omega
  have m10 : (10 : Int) ≤ (s.size : Int) := by omega
  have m13 : (13 : Int) ≤ (s.size : Int) := by omega
  have m16 : (16 : Int) ≤ (s.size : Int) := by omega
  have k17 : (17 : Int) ≤ (s.size : Int) := by omega
  go_enter Tryd.func10, Tryd.ntmps10
  go_upto_region 5 with fail
  go_cut [4] (fun p wx => p = .pointer (some ⟨w.heap.size, 0, none⟩) ∧ wx = (w.alloc (.cells #[.int .i64 y, .int .i64 m, .int .i64 d, .int .i64 h, .int .i64 i, .int .i64 sc] 34)).drew)
  case first =>
    go_region_with (first | (go_at_call_of 27 (s.extract 0 4); refine (HN1.out _).mono ?_; rintro e w' ⟨rfl, rfl⟩) | (go_at_call_of 27 (s.extract 5 7); refine (HN2.out _).mono ?_; rintro e w' ⟨rfl, rfl⟩) | (go_at_call_of 27 (s.extract 8 10); refine (HN3.out _).mono ?_; rintro e w' ⟨rfl, rfl⟩) | (go_at_call_of 27 (s.extract 11 13); refine (HN4.out _).mono ?_; rintro e w' ⟨rfl, rfl⟩) | (go_at_call_of 27 (s.extract 14 16); refine (HN5.out _).mono ?_; rintro e w' ⟨rfl, rfl⟩) | (go_at_call_of 27 (s.extract 17 19); refine (HN6.out _).mono ?_; rintro e w' ⟨rfl, rfl⟩))
    all_goals (try go_wp2_with fail)
    all_goals go_meet
    all_goals exact ⟨rfl, rfl⟩
  case rest =>
    obtain ⟨rfl, rfl⟩ := hcut
    go_at_K
    clear HN1 HN2 HN3 HN4 HN5 HN6 e4 e7 e10 e13 e16 k4 k7 k10 k13 k16 k17 m4 m7 m10 m13 m16
    have L := slies_drew w y m d h i sc
    have b1 : Below w.heap.size w (w.alloc (.cells #[.int .i64 y, .int .i64 m, .int .i64 d, .int .i64 h, .int .i64 i, .int .i64 sc] 34)).drew := (dw.bel_box w _).drew
    have hb0 : w.heap.size < (w.alloc (.cells #[.int .i64 y, .int .i64 m, .int .i64 d, .int .i64 h, .int .i64 i, .int .i64 sc] 34)).drew.heap.size := (Array.getElem?_eq_some_iff.1 L).1
    generalize (w.alloc _).drew = w1 at L b1 hb0 ⊢
    have c0 := L.c0
    have c1 := L.c1
    have c2 := L.c2
    have c3 := L.c3
    have c4 := L.c4
    have c5 := L.c5
    clear L hb0
    go_upto_region 7 with fail
    clear hr n4 n7 n10 n13 n16 k19 k20 d1 hb h20 hbig hs
    have r0 : 0 < r.size := rs
    have r0' : (0 : Int) < (r.size : Int) := by omega
    have hpre := pre_iff r.data.toList rs
    rw [getD_eq r 0 r0] at hpre
    cases hp : Lib.hasPrefix r.data.toList [46]
    · have d46 : (((r[0]'r0).toNat : Int) == 46) = false := by
        rw [hp] at hpre
        exact beq_eq_false_iff_ne.2 (fun e => by rw [(nat_of_beq (n := 46) (by decide)).2 e] at hpre; exact absurd hpre (by decide))
      have hfi := fi_no hp
      clear hpre hp
      by_cases hZ : r.data.toList = [90]
      · have dZ : (r.toList == [90]) = true := by rw [Lib.toList_data, hZ]; rfl
        have HE : Hid (R = fin y m d h i sc 0) := HRS.out _ 0 (hfi) (by rw [hZ]; exact zx_z)
        clear HRF HRN HRS hZ
        go_wp2_with fail
        refine (end_any y m d h i sc 0 (by decide) (by decide) _).mono ?_
        rintro e w6 ⟨rfl, b8⟩
        obtain ⟨x, c, hx⟩ := fin_form y m d h i sc 0
        have HX : Hid (R = .tuple #[.int .i64 x, .int .i64 c]) := by rw [HE.out, hx]; exact (rfl : Value.tuple #[.int .i64 x, .int .i64 c] = _)
        rw [hx]
        have b9 := b1.trans (b8.mono b1.size)
        clear c0 c1 c2 c3 c4 c5 b8 hx HE b1
        go_wp2
        go_ret2
        exact ⟨by rw [HX.out]; rfl, b9⟩
      have dZ : (r.toList == [90]) = false := by rw [Lib.toList_data]; exact beq_eq_false_iff_ne.2 hZ
      by_cases h6 : r.size = 6
      rotate_left
      · have HE : Hid (R = bad) := HRN.out _ (hfi) (by rw [zx_c hZ]; exact zc_len h6)
        have d6 : ((r.size : Int) != 6) = true := bne_iff_ne.2 (by omega)
        have d6' : ((r.size : Int) == 6) = false := beq_eq_false_iff_ne.2 (by omega)
        clear HRF HRN HRS hZ h6 c0 c1 c2 c3 c4 c5
        go_wp2
        go_ret2
        exact ⟨by rw [HE.out]; rfl, b1⟩
      have h3 : 3 < r.size := by omega
      have h0 : 0 < r.size := by omega
      have hsix := zc_six r h6
      have d6 : ((r.size : Int) != 6) = false := by rw [show (r.size : Int) = 6 by omega]; rfl
      have d6' : ((r.size : Int) == 6) = true := beq_iff_eq.2 (by omega)
      have z3 : (3 : Int) < (r.size : Int) := by omega
      have z0 : (0 : Int) < (r.size : Int) := by omega
      have z3' : (3 : Int) ≤ (r.size : Int) := by omega
      have z6' : (6 : Int) ≤ (r.size : Int) := by omega
      by_cases hc : r[3]'h3 = 58
      rotate_left
      · have HE : Hid (R = bad) := HRN.out _ (hfi) (by rw [zx_c hZ, hsix, if_neg hc])
        have d3 : (((r[3]'h3).toNat : Int) != 58) = true := bne_iff_ne.2 (fun e => hc ((nat_of_beq (n := 58) (by decide)).2 e))
        clear HRF HRN HRS hZ hsix hc c0 c1 c2 c3 c4 c5
        go_wp2
        go_ret2
        exact ⟨by rw [HE.out]; rfl, b1⟩
      have d3 : (((r[3]'h3).toNat : Int) != 58) = false := by rw [hc]; rfl
      rw [if_pos hc] at hsix
      have HZ : Hid (∀ w, Calls Tryd.prog 29 #[.int .u8 ((r[0]'h0).toNat : Int), .string (r.extract 1 3), .string (r.extract 4 6)] w fun e w' => e = .returned (zr (zc r.data.toList)) ∧ w' = w) := fun w => by
        rw [hsix]
        exact zone_any _ _ _ (by rw [ext_size]; omega) (by rw [ext_size]; omega) w
      clear hsix hc
      cases hz : zc r.data.toList with
      | none =>
        have HE : Hid (R = bad) := HRN.out _ (hfi) (by rw [zx_c hZ]; exact hz)
        rw [hz] at HZ
        unfold zr at HZ
        clear HRF HRN HRS hZ hz c0 c1 c2 c3 c4 c5
        go_wp2_with fail
        go_quiet ((go_at_call 29; exact Calls.quiet_of_same (HZ.out _)))
        go_wp2
        go_ret2
        exact ⟨by rw [HE.out]; rfl, dbel b1 _⟩
      | some a =>
        have HE : Hid (R = fin y m d h i sc a) := HRS.out _ a (hfi) (by rw [zx_c hZ]; exact hz)
        obtain ⟨a0, a1⟩ := zc_bound hz
        rw [hz] at HZ
        unfold zr at HZ
        clear HRF HRN HRS hZ hz
        go_wp2_with fail
        go_quiet ((go_at_call 29; exact Calls.quiet_of_same (HZ.out _)))
        have b1' := dbel b1 nq
        go_wp2_with fail
        refine (end_any y m d h i sc a a0 a1 _).mono ?_
        rintro e w6 ⟨rfl, b8⟩
        obtain ⟨x, c, hx⟩ := fin_form y m d h i sc a
        have HX : Hid (R = .tuple #[.int .i64 x, .int .i64 c]) := by rw [HE.out, hx]; exact (rfl : Value.tuple #[.int .i64 x, .int .i64 c] = _)
        rw [hx]
        have b9 := b1'.trans (b8.mono b1'.size)
        clear c0 c1 c2 c3 c4 c5 b8 hx HE b1 b1'
        go_wp2
        go_ret2
        exact ⟨by rw [HX.out]; rfl, b9⟩
    · have d46 : (((r[0]'r0).toNat : Int) == 46) = true := by
        rw [hp] at hpre
        have q : r[0]'r0 = 46 := beq_iff_eq.1 hpre.symm
        rw [q]; rfl
      have hfi := fi_yes hp
      clear hpre hp
      go_wp2_with fail
      go_loop [6] (fun c => ∃ k : Nat, 1 ≤ k ∧ k ≤ r.size ∧ c = .int .i64 k ∧ ∀ j, j < k - 1 → isD ((r.data.toList.drop 1).getD j 0) = true) (fun c => r.size - (intOf c).toNat)
      case atStart => exact ⟨1, Nat.le_refl _, rs, rfl, fun j hj => absurd hj (by omega)⟩
      case round =>
        obtain ⟨k, hk1, hk, rfl, hg⟩ := hrel
        have HG : Hid (∀ j, j < k - 1 → isD ((r.data.toList.drop 1).getD j 0) = true) := hg
        clear hg
        have kk : (1 : Int) ≤ (k : Int) := by omega
        have kk2 : (k : Int) ≤ (r.size : Int) := by omega
        by_cases hlt : k < r.size
        rotate_left
        · obtain rfl : k = r.size := by omega
          have hdw : (r.data.toList.drop 1).dropWhile isD = (r.data.toList.drop 1).drop (r.size - 1) := drop_digits (by rw [List.length_drop, len_eq]; omega) HG.out (.inl (by rw [List.length_drop, len_eq]))
          have dlt : decide ((r.size : Int) < (r.size : Int)) = false := decide_eq_false (by omega)
          clear HG
          by_cases h1 : r.size = 1
          · have HE : Hid (R = bad) := HRF.out (by rw [hfi, hdw, h1]; simp)
            have e1 : ((r.size : Int) == 1) = true := beq_iff_eq.2 (by omega)
            clear HRF HRN HRS hfi hdw h1 c0 c1 c2 c3 c4 c5
            go_wp2
            go_ret2
            exact ⟨by rw [HE.out]; rfl, b1⟩
          have e1 : ((r.size : Int) == 1) = false := beq_eq_false_iff_ne.2 (by omega)
          have hnil : (r.data.toList.drop 1).drop (r.size - 1) = [] := List.drop_eq_nil_of_le (by rw [List.length_drop, len_eq]; omega)
          have hfz : fi r.data.toList = ([], true) := by
            rw [hfi, hdw, hnil]
            congr 1
            rw [List.length_drop, len_eq]
            exact decide_eq_true (by simp; omega)
          have HE : Hid (R = bad) := HRN.out [] hfz rfl
          clear HRF HRN HRS hfi hdw h1 hnil hfz c0 c1 c2 c3 c4 c5
          go_wp2
          go_ret2
          exact ⟨by rw [HE.out]; rfl, b1⟩
        have dlt : decide ((k : Int) < (r.size : Int)) = true := decide_eq_true (by omega)
        have hgk : (r.data.toList.drop 1).getD (k - 1) 0 = r[k]'hlt := by
          rw [← getD_eq r k hlt, List.getD_eq_getElem?_getD, List.getD_eq_getElem?_getD, List.getElem?_drop, show 1 + (k - 1) = k by omega]
        by_cases q1 : ((r[k]'hlt).toNat : Int) < 48
        · have hno : isD ((r.data.toList.drop 1).getD (k - 1) 0) = false := by rw [hgk]; exact isD_no.2 (.inl q1)
          have dq1 : decide (48 ≤ ((r[k]'hlt).toNat : Int)) = false := decide_eq_false (by omega)
          have hdw : (r.data.toList.drop 1).dropWhile isD = (r.data.toList.drop 1).drop (k - 1) := drop_digits (by rw [List.length_drop, len_eq]; omega) HG.out (.inr hno)
          clear hgk q1 hno
          clear HG
          by_cases h1 : k = 1
          · have HE : Hid (R = bad) := HRF.out (by rw [hfi, hdw, h1]; simp)
            have e1 : ((k : Int) == 1) = true := beq_iff_eq.2 (by omega)
            clear HRF HRN HRS hfi hdw h1 c0 c1 c2 c3 c4 c5
            go_wp2
            go_ret2
            exact ⟨by rw [HE.out]; rfl, b1⟩
          have e1 : ((k : Int) == 1) = false := beq_eq_false_iff_ne.2 (by omega)
          obtain ⟨z, hzz⟩ : ∃ z : ByteArray, r.extract k r.size = z := ⟨_, rfl⟩
          have hzl : z.data.toList = (r.data.toList.drop 1).drop (k - 1) := by rw [← hzz, stail_ext, List.drop_drop, show 1 + (k - 1) = k by omega]
          have hfz : fi r.data.toList = (z.data.toList, true) := by
            rw [hfi, hdw, ← hzl]
            congr 1
            rw [hzl, List.length_drop, List.length_drop, len_eq]
            exact decide_eq_true (by omega)
          have hz5 : z.size ≤ 65536 := by rw [← hzz, ext_size]; omega
          clear hfi hdw hzl h1
          by_cases hZ : z.data.toList = [90]
          · have dZ : (z.toList == [90]) = true := by rw [Lib.toList_data, hZ]; rfl
            have HE : Hid (R = fin y m d h i sc 0) := HRS.out _ 0 (hfz) (by rw [hZ]; exact zx_z)
            clear HRF HRN HRS hZ
            go_wp2_with fail
            refine (end_any y m d h i sc 0 (by decide) (by decide) _).mono ?_
            rintro e w6 ⟨rfl, b8⟩
            obtain ⟨x, c, hx⟩ := fin_form y m d h i sc 0
            have HX : Hid (R = .tuple #[.int .i64 x, .int .i64 c]) := by rw [HE.out, hx]; exact (rfl : Value.tuple #[.int .i64 x, .int .i64 c] = _)
            rw [hx]
            have b9 := b1.trans (b8.mono b1.size)
            clear c0 c1 c2 c3 c4 c5 b8 hx HE b1
            go_wp2
            go_ret2
            exact ⟨by rw [HX.out]; rfl, b9⟩
          have dZ : (z.toList == [90]) = false := by rw [Lib.toList_data]; exact beq_eq_false_iff_ne.2 hZ
          by_cases h6 : z.size = 6
          rotate_left
          · have HE : Hid (R = bad) := HRN.out _ (hfz) (by rw [zx_c hZ]; exact zc_len h6)
            have d6 : ((z.size : Int) != 6) = true := bne_iff_ne.2 (by omega)
            have d6' : ((z.size : Int) == 6) = false := beq_eq_false_iff_ne.2 (by omega)
            clear HRF HRN HRS hZ h6 c0 c1 c2 c3 c4 c5
            go_wp2
            go_ret2
            exact ⟨by rw [HE.out]; rfl, b1⟩
          have h3 : 3 < z.size := by omega
          have h0 : 0 < z.size := by omega
          have hsix := zc_six z h6
          have d6 : ((z.size : Int) != 6) = false := by rw [show (z.size : Int) = 6 by omega]; rfl
          have d6' : ((z.size : Int) == 6) = true := beq_iff_eq.2 (by omega)
          have z3 : (3 : Int) < (z.size : Int) := by omega
          have z0 : (0 : Int) < (z.size : Int) := by omega
          have z3' : (3 : Int) ≤ (z.size : Int) := by omega
          have z6' : (6 : Int) ≤ (z.size : Int) := by omega
          by_cases hc : z[3]'h3 = 58
          rotate_left
          · have HE : Hid (R = bad) := HRN.out _ (hfz) (by rw [zx_c hZ, hsix, if_neg hc])
            have d3 : (((z[3]'h3).toNat : Int) != 58) = true := bne_iff_ne.2 (fun e => hc ((nat_of_beq (n := 58) (by decide)).2 e))
            clear HRF HRN HRS hZ hsix hc c0 c1 c2 c3 c4 c5
            go_wp2
            go_ret2
            exact ⟨by rw [HE.out]; rfl, b1⟩
          have d3 : (((z[3]'h3).toNat : Int) != 58) = false := by rw [hc]; rfl
          rw [if_pos hc] at hsix
          have HZ : Hid (∀ w, Calls Tryd.prog 29 #[.int .u8 ((z[0]'h0).toNat : Int), .string (z.extract 1 3), .string (z.extract 4 6)] w fun e w' => e = .returned (zr (zc z.data.toList)) ∧ w' = w) := fun w => by
            rw [hsix]
            exact zone_any _ _ _ (by rw [ext_size]; omega) (by rw [ext_size]; omega) w
          clear hsix hc
          cases hz : zc z.data.toList with
          | none =>
            have HE : Hid (R = bad) := HRN.out _ (hfz) (by rw [zx_c hZ]; exact hz)
            rw [hz] at HZ
            unfold zr at HZ
            clear HRF HRN HRS hZ hz c0 c1 c2 c3 c4 c5
            go_wp2_with fail
            go_quiet ((go_at_call 29; exact Calls.quiet_of_same (HZ.out _)))
            go_wp2
            go_ret2
            exact ⟨by rw [HE.out]; rfl, dbel b1 _⟩
          | some a =>
            have HE : Hid (R = fin y m d h i sc a) := HRS.out _ a (hfz) (by rw [zx_c hZ]; exact hz)
            obtain ⟨a0, a1⟩ := zc_bound hz
            rw [hz] at HZ
            unfold zr at HZ
            clear HRF HRN HRS hZ hz
            go_wp2_with fail
            go_quiet ((go_at_call 29; exact Calls.quiet_of_same (HZ.out _)))
            have b1' := dbel b1 nq
            go_wp2_with fail
            refine (end_any y m d h i sc a a0 a1 _).mono ?_
            rintro e w6 ⟨rfl, b8⟩
            obtain ⟨x, c, hx⟩ := fin_form y m d h i sc a
            have HX : Hid (R = .tuple #[.int .i64 x, .int .i64 c]) := by rw [HE.out, hx]; exact (rfl : Value.tuple #[.int .i64 x, .int .i64 c] = _)
            rw [hx]
            have b9 := b1'.trans (b8.mono b1'.size)
            clear c0 c1 c2 c3 c4 c5 b8 hx HE b1 b1'
            go_wp2
            go_ret2
            exact ⟨by rw [HX.out]; rfl, b9⟩
        have dq1 : decide (48 ≤ ((r[k]'hlt).toNat : Int)) = true := decide_eq_true (by omega)
        by_cases q2 : 57 < ((r[k]'hlt).toNat : Int)
        · have hno : isD ((r.data.toList.drop 1).getD (k - 1) 0) = false := by rw [hgk]; exact isD_no.2 (.inr q2)
          have dq2 : decide (((r[k]'hlt).toNat : Int) ≤ 57) = false := decide_eq_false (by omega)
          have hdw : (r.data.toList.drop 1).dropWhile isD = (r.data.toList.drop 1).drop (k - 1) := drop_digits (by rw [List.length_drop, len_eq]; omega) HG.out (.inr hno)
          clear hgk q2 q1 hno
          clear HG
          by_cases h1 : k = 1
          · have HE : Hid (R = bad) := HRF.out (by rw [hfi, hdw, h1]; simp)
            have e1 : ((k : Int) == 1) = true := beq_iff_eq.2 (by omega)
            clear HRF HRN HRS hfi hdw h1 c0 c1 c2 c3 c4 c5
            go_wp2
            go_ret2
            exact ⟨by rw [HE.out]; rfl, b1⟩
          have e1 : ((k : Int) == 1) = false := beq_eq_false_iff_ne.2 (by omega)
          obtain ⟨z, hzz⟩ : ∃ z : ByteArray, r.extract k r.size = z := ⟨_, rfl⟩
          have hzl : z.data.toList = (r.data.toList.drop 1).drop (k - 1) := by rw [← hzz, stail_ext, List.drop_drop, show 1 + (k - 1) = k by omega]
          have hfz : fi r.data.toList = (z.data.toList, true) := by
            rw [hfi, hdw, ← hzl]
            congr 1
            rw [hzl, List.length_drop, List.length_drop, len_eq]
            exact decide_eq_true (by omega)
          have hz5 : z.size ≤ 65536 := by rw [← hzz, ext_size]; omega
          clear hfi hdw hzl h1
          by_cases hZ : z.data.toList = [90]
          · have dZ : (z.toList == [90]) = true := by rw [Lib.toList_data, hZ]; rfl
            have HE : Hid (R = fin y m d h i sc 0) := HRS.out _ 0 (hfz) (by rw [hZ]; exact zx_z)
            clear HRF HRN HRS hZ
            go_wp2_with fail
            refine (end_any y m d h i sc 0 (by decide) (by decide) _).mono ?_
            rintro e w6 ⟨rfl, b8⟩
            obtain ⟨x, c, hx⟩ := fin_form y m d h i sc 0
            have HX : Hid (R = .tuple #[.int .i64 x, .int .i64 c]) := by rw [HE.out, hx]; exact (rfl : Value.tuple #[.int .i64 x, .int .i64 c] = _)
            rw [hx]
            have b9 := b1.trans (b8.mono b1.size)
            clear c0 c1 c2 c3 c4 c5 b8 hx HE b1
            go_wp2
            go_ret2
            exact ⟨by rw [HX.out]; rfl, b9⟩
          have dZ : (z.toList == [90]) = false := by rw [Lib.toList_data]; exact beq_eq_false_iff_ne.2 hZ
          by_cases h6 : z.size = 6
          rotate_left
          · have HE : Hid (R = bad) := HRN.out _ (hfz) (by rw [zx_c hZ]; exact zc_len h6)
            have d6 : ((z.size : Int) != 6) = true := bne_iff_ne.2 (by omega)
            have d6' : ((z.size : Int) == 6) = false := beq_eq_false_iff_ne.2 (by omega)
            clear HRF HRN HRS hZ h6 c0 c1 c2 c3 c4 c5
            go_wp2
            go_ret2
            exact ⟨by rw [HE.out]; rfl, b1⟩
          have h3 : 3 < z.size := by omega
          have h0 : 0 < z.size := by omega
          have hsix := zc_six z h6
          have d6 : ((z.size : Int) != 6) = false := by rw [show (z.size : Int) = 6 by omega]; rfl
          have d6' : ((z.size : Int) == 6) = true := beq_iff_eq.2 (by omega)
          have z3 : (3 : Int) < (z.size : Int) := by omega
          have z0 : (0 : Int) < (z.size : Int) := by omega
          have z3' : (3 : Int) ≤ (z.size : Int) := by omega
          have z6' : (6 : Int) ≤ (z.size : Int) := by omega
          by_cases hc : z[3]'h3 = 58
          rotate_left
          · have HE : Hid (R = bad) := HRN.out _ (hfz) (by rw [zx_c hZ, hsix, if_neg hc])
            have d3 : (((z[3]'h3).toNat : Int) != 58) = true := bne_iff_ne.2 (fun e => hc ((nat_of_beq (n := 58) (by decide)).2 e))
            clear HRF HRN HRS hZ hsix hc c0 c1 c2 c3 c4 c5
            go_wp2
            go_ret2
            exact ⟨by rw [HE.out]; rfl, b1⟩
          have d3 : (((z[3]'h3).toNat : Int) != 58) = false := by rw [hc]; rfl
          rw [if_pos hc] at hsix
          have HZ : Hid (∀ w, Calls Tryd.prog 29 #[.int .u8 ((z[0]'h0).toNat : Int), .string (z.extract 1 3), .string (z.extract 4 6)] w fun e w' => e = .returned (zr (zc z.data.toList)) ∧ w' = w) := fun w => by
            rw [hsix]
            exact zone_any _ _ _ (by rw [ext_size]; omega) (by rw [ext_size]; omega) w
          clear hsix hc
          cases hz : zc z.data.toList with
          | none =>
            have HE : Hid (R = bad) := HRN.out _ (hfz) (by rw [zx_c hZ]; exact hz)
            rw [hz] at HZ
            unfold zr at HZ
            clear HRF HRN HRS hZ hz c0 c1 c2 c3 c4 c5
            go_wp2_with fail
            go_quiet ((go_at_call 29; exact Calls.quiet_of_same (HZ.out _)))
            go_wp2
            go_ret2
            exact ⟨by rw [HE.out]; rfl, dbel b1 _⟩
          | some a =>
            have HE : Hid (R = fin y m d h i sc a) := HRS.out _ a (hfz) (by rw [zx_c hZ]; exact hz)
            obtain ⟨a0, a1⟩ := zc_bound hz
            rw [hz] at HZ
            unfold zr at HZ
            clear HRF HRN HRS hZ hz
            go_wp2_with fail
            go_quiet ((go_at_call 29; exact Calls.quiet_of_same (HZ.out _)))
            have b1' := dbel b1 nq
            go_wp2_with fail
            refine (end_any y m d h i sc a a0 a1 _).mono ?_
            rintro e w6 ⟨rfl, b8⟩
            obtain ⟨x, c, hx⟩ := fin_form y m d h i sc a
            have HX : Hid (R = .tuple #[.int .i64 x, .int .i64 c]) := by rw [HE.out, hx]; exact (rfl : Value.tuple #[.int .i64 x, .int .i64 c] = _)
            rw [hx]
            have b9 := b1'.trans (b8.mono b1'.size)
            clear c0 c1 c2 c3 c4 c5 b8 hx HE b1 b1'
            go_wp2
            go_ret2
            exact ⟨by rw [HX.out]; rfl, b9⟩
        have dq2 : decide (((r[k]'hlt).toNat : Int) ≤ 57) = true := decide_eq_true (by omega)
        have HS : Hid (∀ j, j < k + 1 - 1 → isD ((r.data.toList.drop 1).getD j 0) = true) := fun j hj => by
          by_cases e : j = k - 1
          · rw [e, hgk]; exact isD_iff.2 ⟨by omega, by omega⟩
          · exact HG.out j (by omega)
        clear hgk hfi
        go_wp2
        go_round
        case rel => exact ⟨k + 1, by omega, by omega, by go_num, HS.out⟩
        case measure => simp [intOf]; omega
end Go.Proofs.YtbfppgoehgdnlaaDoor.rd
