/-
  The specification's overview.
-/
import Derived.Test.YtglgaangkffbiaaDoorOvp
namespace Go.Proofs.YtglgaangkffbiaaDoor.ov
open Go.RowKit
open fa fo ml fp gr
set_option linter.unusedVariables false

theorem kp {W W' : World} {b j : Nat} {u : Value} (hb : Below W.heap.size W W') (h : W.cell? ⟨b, j, none⟩ = some u) : W'.cell? ⟨b, j, none⟩ = some u := (hb.cell (p := ⟨b, j, none⟩) (World.block_lt_of_cell? W _ h)).trans h
theorem ret_bool {a b : Bool} (h : a = b) : Ending.returned (.bool a) = .returned (.bool b) := by rw [h]
theorem names_new (w : World) (k : Nat) (h : k < 4) : (w.alloc (.cells #[.string ⟨#[83, 117, 98, 106, 101, 99, 116]⟩, .string ⟨#[70, 114, 111, 109]⟩, .string ⟨#[68, 97, 116, 101]⟩, .string ⟨#[77, 101, 115, 115, 97, 103, 101, 45, 73, 68]⟩] 9)).cell? ⟨w.heap.size, k, none⟩ = some (.string (nmAt k)) := by
  refine box_cell w _ _ k _ ?_
  match k, h with
  | 0, _ => rfl
  | 1, _ => rfl
  | 2, _ => rfl
  | 3, _ => rfl
theorem end_list {u n k : Nat} {ps : List Pr} {A : ByteArray} (h : A.data.toList = ov1 u ps 4) : A ++ (⟨#[9, 9]⟩ : ByteArray) ++ (⟨(Lib.decDigits n).toArray⟩ : ByteArray) ++ (⟨#[9]⟩ : ByteArray) ++ (⟨(Lib.decDigits k).toArray⟩ : ByteArray) = ⟨(ovT u n k ps).toArray⟩ := by
  apply ByteArray.ext
  rw [← Array.toList_inj, cat_list, cat_list, cat_list, cat_list, h]
  simp [ovT]

set_option maxHeartbeats 4000000 in
set_option maxRecDepth 100000 in
theorem specOv_any (u : Nat) (fl : Int) (s : ByteArray) (fs : List (B × B)) (b : B) (w : World) (hs : s.size ≤ 65536) (hu : u ≤ 1000) (hM : IsMail s.data.toList fs b) :
    Calls Tryd.prog 30 #[.agg #[.int .i64 (u : Int), .int .i64 fl, .string s]] w fun e w' => e = .returned (.string ⟨(ovT u s.size (tens b) (prs fs)).toArray⟩) ∧ Below w.heap.size w w' := by
  have HMA : Hid (IsMail s.data.toList fs b) := hM
  have hsI : (s.size : Int) ≤ 65536 := by omega
  have huI : (u : Int) ≤ 1000 := by omega
  have c0 := box_cell w #[.int .i64 (u : Int), .int .i64 fl, .string s] 32 0 _ rfl
  have c2 := box_cell w #[.int .i64 (u : Int), .int .i64 fl, .string s] 32 2 _ rfl
  have b0 : Below w.heap.size w (w.alloc (.cells #[.int .i64 (u : Int), .int .i64 fl, .string s] 32)) := (Below.refl _ _).alloc (Nat.le_refl _) _
  clear hM
  go_enter Tryd.func30, Tryd.ntmps30
  go_wp2_with fail
  generalize w.alloc _ = w0 at c0 c2 b0 ⊢
  have HW0 : Hid (w0.cell? ⟨w.heap.size, 0, none⟩ = some (.int .i64 (u : Int)) ∧ w0.cell? ⟨w.heap.size, 2, none⟩ = some (.string s) ∧ Below w.heap.size w w0) := ⟨c0, c2, b0⟩
  clear c0 c2 b0
  refine (specParse_any s w0 (by omega)).mono ?_
  rintro e w1 ⟨hr, hb1⟩
  rcases hr with ⟨fs', b', v, hpar, hfl, rfl, hfa⟩ | ⟨hno, _⟩
  case inr => exact absurd ⟨fs, b, HMA.out.2⟩ hno
  obtain ⟨rfl, rfl⟩ := par_of HMA.out hpar
  have hat := attrs_of hfa
  obtain ⟨a, cap, rfl⟩ := fields_form hfa
  obtain ⟨hbm, hbl⟩ := isMail_body HMA.out (by rw [← Lib.size_eq]; omega)
  obtain ⟨T, hT⟩ : ∃ T : ByteArray, T = ⟨b'.toArray⟩ := ⟨_, rfl⟩
  have hTl : T.data.toList = b' := by rw [hT]
  have hTs : T.size ≤ 65536 := by rw [Lib.size_eq, hTl]; exact hbl
  unfold MV
  rw [show tv b' = .string T from by rw [hT]; rfl]
  have HTL : Hid (T.data.toList = b') := hTl
  have bb1 : Below w1.heap.size w1 (w1.alloc (.cells #[.slice a fs'.length cap, .string T] 42)) := (Below.refl _ _).alloc (Nat.le_refl _) _
  have HW1 : Hid ((∀ W, Below w1.heap.size w1 W → W.cell? ⟨w.heap.size, 0, none⟩ = some (.int .i64 (u : Int)) ∧ W.cell? ⟨w.heap.size, 2, none⟩ = some (.string s)) ∧ Below w.heap.size w w1) := ⟨fun W hW => ⟨kp hW (kp hb1 HW0.out.1), kp hW (kp hb1 HW0.out.2.1)⟩, HW0.out.2.2.trans (hb1.mono HW0.out.2.2.size)⟩
  have m0 := b2.new w1 42 (.slice a fs'.length cap) (.string T)
  have hat1 := at_below hat bb1
  have d0 := (HW1.out.1 _ bb1).1
  clear hT hTl hpar hfl hfa hbm hbl hb1 HW0 hat
  go_wp2_with fail
  clear d0
  generalize w1.heap.size = P at m0 ⊢
  generalize w1.alloc _ = w2 at m0 hat1 bb1 ⊢
  have HW2 : Hid ((∀ W, Below w2.heap.size w2 W → W.cell? ⟨w.heap.size, 0, none⟩ = some (.int .i64 (u : Int)) ∧ W.cell? ⟨w.heap.size, 2, none⟩ = some (.string s)) ∧ Below w.heap.size w w2 ∧ b2.Box w2 P 42 (.slice a fs'.length cap) (.string T) ∧ AttrsAt w2 (.slice a fs'.length cap) (prs fs')) := ⟨fun W hW => HW1.out.1 W (bb1.trans (hW.mono bb1.size)), HW1.out.2.trans (bb1.mono HW1.out.2.size), m0, hat1⟩
  clear m0 hat1 bb1 HW1
  refine (dx.digs_any u (by omega) w2).mono ?_
  rintro e w3 ⟨rfl, hb3⟩
  have hD := dec_size (n := u) (by omega)
  have hDl : (⟨(Lib.decDigits u).toArray⟩ : ByteArray).data.toList = ov1 u (prs fs') 0 := rfl
  generalize (⟨(Lib.decDigits u).toArray⟩ : ByteArray) = D at hD hDl ⊢
  have HDL : Hid (D.data.toList = ov1 u (prs fs') 0) := hDl
  have HNM : Hid (∀ k, k < 4 → (w3.alloc (.cells #[.string ⟨#[83, 117, 98, 106, 101, 99, 116]⟩, .string ⟨#[70, 114, 111, 109]⟩, .string ⟨#[68, 97, 116, 101]⟩, .string ⟨#[77, 101, 115, 115, 97, 103, 101, 45, 73, 68]⟩] 9)).cell? ⟨w3.heap.size, k, none⟩ = some (.string (nmAt k))) := fun k hk => names_new w3 k hk
  have bb3 : Below w3.heap.size w3 (w3.alloc (.cells #[.string ⟨#[83, 117, 98, 106, 101, 99, 116]⟩, .string ⟨#[70, 114, 111, 109]⟩, .string ⟨#[68, 97, 116, 101]⟩, .string ⟨#[77, 101, 115, 115, 97, 103, 101, 45, 73, 68]⟩] 9)) := (Below.refl _ _).alloc (Nat.le_refl _) _
  have b34 := hb3.trans (bb3.mono hb3.size)
  clear hDl bb3
  go_wp2_with fail
  generalize w3.heap.size = PN at HNM ⊢
  generalize w3.alloc _ = w4 at HNM b34 ⊢
  have HW4 : Hid ((∀ W, Below w4.heap.size w4 W → W.cell? ⟨w.heap.size, 2, none⟩ = some (.string s)) ∧ Below w.heap.size w w4 ∧ b2.Box w4 P 42 (.slice a fs'.length cap) (.string T) ∧ AttrsAt w4 (.slice a fs'.length cap) (prs fs')) := ⟨fun W hW => (HW2.out.1 W (b34.trans (hW.mono b34.size))).2, HW2.out.2.1.trans (b34.mono HW2.out.2.1.size), HW2.out.2.2.1.below b34, at_below HW2.out.2.2.2 b34⟩
  clear b34 HW2 hb3
  go_loopw [5, 7] (fun q i wr => ∃ (k : Nat) (A : ByteArray), k ≤ 4 ∧ i = .int .i64 k ∧ q = .string A ∧ A.size ≤ 10 + 2001 * k ∧ Hid (A.data.toList = ov1 u (prs fs') k) ∧ Below w4.heap.size w4 wr) (fun _ i _ => 4 - (intOf i).toNat)
  case atStart => exact ⟨0, D, by omega, rfl, rfl, by omega, HDL, Below.refl _ _⟩
  case round =>
    obtain ⟨k, A, hk, rfl, rfl, hAz, HA, hbw⟩ := hrel
    by_cases hk4 : k < 4
    · have hk4' : (k : Int) < 4 := by omega
      have hk0 : (0 : Int) ≤ (k : Int) := by omega
      have cN := kp hbw (HNM.out k hk4)
      have hbx := HW4.out.2.2.1.below hbw
      have q0 := hbx.c0
      have q1 := hbx.c1
      have hatw := at_below HW4.out.2.2.2 hbw
      have hsm := small_of HMA.out
      have HFD : Hid (∀ W, Below wr.heap.size wr W → Calls Tryd.prog 51 #[.agg #[.slice a fs'.length cap, .string T], .string (nmAt k)] W fun e w' => e = .returned (.tuple #[.string (fv (prs fs') (nmAt k)), .bool (find (prs fs') (nmAt k)).isSome]) ∧ Below W.heap.size W w') := fun W hW => by
        rw [← fret]
        exact specField_any _ T (prs fs') (nmAt k) W (at_below hatw hW) hsm (by have := nm_size k; omega)
      have hfz := fv_size HMA.out (nmAt k)
      have HN : Hid ((A ++ (⟨#[9]⟩ ++ fv (prs fs') (nmAt k))).data.toList = ov1 u (prs fs') (k + 1)) := ov1_next HA.out
      clear hatw hsm hbx HA
      generalize (find (prs fs') (nmAt k)).isSome = is at HFD
      generalize fv (prs fs') (nmAt k) = V at HFD hfz HN
      generalize nmAt k = NM at cN HFD
      go_wp2_with fail
      have ne := ext_some wr
      have cN := fun z : Ext wr => gw_cell z cN
      have q0 := fun z : Ext wr => gw_cell z q0
      have q1 := fun z : Ext wr => gw_cell z q1
      refine region_lit (by kernel_rfl) (by kernel_rfl) ?_
      repeat (go_big_quiet_step ((go_at_call 51; exact grow_of (HFD.out _ (gw_below _)))))
      refine wpQuiet_nil ?_
      rintro W' ⟨z, rfl⟩
      have b3 := hbw.trans ((gw_below z).mono hbw.size)
      generalize gw z = W' at b3 ⊢
      clear cN q0 q1 hbw HFD
      go_wp2
      go_roundw
      case rel => exact ⟨k + 1, A ++ (⟨#[9]⟩ ++ V), by omega, by go_num, rfl, by rw [ByteArray.size_append, ByteArray.size_append]; have e1 : (⟨#[9]⟩ : ByteArray).size = 1 := rfl; omega, HN, b3⟩
      case measure => simp [intOf]; omega
    · have hk4' : (4 : Int) ≤ (k : Int) := by omega
      have HK4 : Hid (k = 4) := (show k = 4 by omega)
      have HA4 : Hid (A.data.toList = ov1 u (prs fs') 4) := (show _ = _ by rw [← HK4.out]; exact HA.out)
      have hAz4 : A.size ≤ 8014 := by omega
      have hbx := HW4.out.2.2.1.below hbw
      have c1 := hbx.c1
      have cS := HW4.out.1 _ hbw
      have HBW : Hid (Below w.heap.size w wr) := HW4.out.2.1.trans (hbw.mono HW4.out.2.1.size)
      clear hbx hbw HNM HW4
      go_wp2_with fail
      go_loopw [10, 11] (fun q i wx => ∃ k : Nat, k ≤ T.size ∧ i = .int .i64 k ∧ q = .int .i64 ((tens (T.data.toList.take k) : Nat) : Int) ∧ wx = wr) (fun _ i _ => T.size - (intOf i).toNat)
      case atStart => exact ⟨0, Nat.zero_le _, rfl, rfl, rfl⟩
      case round =>
        obtain ⟨k, hk, rfl, rfl, hwx⟩ := hrel
        subst hwx
        have hq : tens (T.data.toList.take k) ≤ 65536 := Nat.le_trans (tens_le _) (by rw [List.length_take]; omega)
        by_cases hlt : k < T.size
        · have hlt' : (k : Int) < (T.size : Int) := by omega
          have HT1 := tens_take T k hlt
          obtain ⟨q, hqe⟩ : ∃ q, q = tens (T.data.toList.take k) := ⟨_, rfl⟩
          rw [← hqe] at hq HT1 ⊢
          clear hqe
          by_cases h10 : ((T[k]'hlt).toNat : Int) = 10
          · have d10 : (((T[k]'hlt).toNat : Int) == 10) = true := beq_iff_eq.2 h10
            rw [if_pos h10] at HT1
            have HT2 : Hid (tens (T.data.toList.take (k + 1)) = q + 1) := HT1
            clear HT1 h10
            have HBIT : Hid (∀ W, Calls Tryd.prog 18 #[.bool true] W fun e w' => e = .returned (.int .i64 1) ∧ w' = W) := fun W => bit_any true W
            go_wp2_with (go_at_call 18; refine (HBIT.out _).mono ?_; rintro e w' ⟨rfl, rfl⟩)
            go_roundw
            case rel => exact ⟨k + 1, by omega, by go_num, by rw [HT2.out]; go_num, trivial⟩
            case measure => simp [intOf]; omega
          · have d10 : (((T[k]'hlt).toNat : Int) == 10) = false := beq_eq_false_iff_ne.2 h10
            rw [if_neg h10] at HT1
            have HT2 : Hid (tens (T.data.toList.take (k + 1)) = q) := HT1
            clear HT1
            have HBIT : Hid (∀ W, Calls Tryd.prog 18 #[.bool false] W fun e w' => e = .returned (.int .i64 0) ∧ w' = W) := fun W => bit_any false W
            go_wp2_with (go_at_call 18; refine (HBIT.out _).mono ?_; rintro e w' ⟨rfl, rfl⟩)
            go_roundw
            case rel => exact ⟨k + 1, by omega, by go_num, by rw [HT2.out], trivial⟩
            case measure => simp [intOf]; omega
        · have hlt' : ¬ (k : Int) < (T.size : Int) := by omega
          have e : tens (T.data.toList.take k) = tens b' := by rw [take_all T k (by omega), HTL.out]
          rw [e] at hq ⊢
          clear e
          have HE : Hid (A ++ (⟨#[9, 9]⟩ : ByteArray) ++ (⟨(Lib.decDigits s.size).toArray⟩ : ByteArray) ++ (⟨#[9]⟩ : ByteArray) ++ (⟨(Lib.decDigits (tens b')).toArray⟩ : ByteArray) = ⟨(ovT u s.size (tens b') (prs fs')).toArray⟩) := end_list HA4.out
          have hd1 := dec_size (n := s.size) (by omega)
          have hd2 := dec_size (n := tens b') (by omega)
          have HC1 : Hid (∀ W, Calls Tryd.prog 43 #[.int .i64 (s.size : Int)] W fun e w' => e = .returned (.string ⟨(Lib.decDigits s.size).toArray⟩) ∧ Below W.heap.size W w') := fun W => dx.digs_any s.size (by omega) W
          have HC2 : Hid (∀ W, Calls Tryd.prog 43 #[.int .i64 ((tens b' : Nat) : Int)] W fun e w' => e = .returned (.string ⟨(Lib.decDigits (tens b')).toArray⟩) ∧ Below W.heap.size W w') := fun W => dx.digs_any (tens b') (by omega) W
          generalize (⟨(Lib.decDigits s.size).toArray⟩ : ByteArray) = D1 at HE HC1 hd1
          generalize (⟨(Lib.decDigits (tens b')).toArray⟩ : ByteArray) = D2 at HE HC2 hd2
          generalize ((tens b' : Nat) : Int) = tb' at HC2 ⊢
          clear HA HA4 HTL hq
          go_wp2_with fail
          refine (HC1.out _).mono ?_
          rintro e w7 ⟨rfl, hb7⟩
          have HB7 : Hid (Below w.heap.size w w7) := HBW.out.trans (hb7.mono HBW.out.size)
          clear hb7 cS c1
          go_wp2_with fail
          refine (HC2.out _).mono ?_
          rintro e w8 ⟨rfl, hb8⟩
          have HB8 : Hid (Below w.heap.size w w8) := HB7.out.trans (hb8.mono HB7.out.size)
          clear hb8
          go_wp2
          go_ret
          exact ⟨by rw [← HE.out]; rfl, HB8.out⟩
set_option maxHeartbeats 1000000 in
theorem in_any (n a b : Int) (w : World) : Calls Tryd.prog 21 #[.int .i64 n, .int .i64 a, .int .i64 b] w fun e w' => e = .returned (.bool (decide (a ≤ n ∧ n ≤ b))) ∧ w' = w := by
  go_enter Tryd.func21, Tryd.ntmps21
  go_wp2
  all_goals (go_ret; exact ⟨ret_bool (by rw [Bool.eq_iff_iff]; simp; try omega), rfl⟩)
set_option maxHeartbeats 4000000 in
set_option maxRecDepth 100000 in
theorem specOl_any (u fl : Int) (s : ByteArray) (w : World) (hs : s.size ≤ 1048576) :
    Calls Tryd.prog 15 #[.agg #[.int .i64 u, .int .i64 fl, .string s]] w fun e w' => OvIs u s e ∧ Below w.heap.size w w' := by
  have hsI : (s.size : Int) ≤ 1048576 := by omega
  have c0 := box_cell w #[.int .i64 u, .int .i64 fl, .string s] 32 0 _ rfl
  have c1 := box_cell w #[.int .i64 u, .int .i64 fl, .string s] 32 1 _ rfl
  have c2 := box_cell w #[.int .i64 u, .int .i64 fl, .string s] 32 2 _ rfl
  have b0 : Below w.heap.size w (w.alloc (.cells #[.int .i64 u, .int .i64 fl, .string s] 32)) := (Below.refl _ _).alloc (Nat.le_refl _) _
  have HIN : Hid (∀ W, Calls Tryd.prog 21 #[.int .i64 u, .int .i64 1, .int .i64 1000] W fun e w' => e = .returned (.bool (decide (1 ≤ u ∧ u ≤ 1000))) ∧ w' = W) := fun W => in_any u 1 1000 W
  by_cases hu : 1 ≤ u ∧ u ≤ 1000
  case neg =>
    rw [decide_eq_false hu] at HIN
    have HU : Hid (¬ (1 ≤ u ∧ u ≤ 1000)) := hu
    clear hu
    go_enter Tryd.func15, Tryd.ntmps15
    go_wp2_with fail
    generalize w.alloc _ = w0 at c0 c1 c2 b0 ⊢
    refine (HIN.out _).mono ?_
    rintro e w' ⟨rfl, rfl⟩
    go_wp2
    go_ret2
    exact ⟨.inl ⟨HU.out, rfl⟩, b0⟩
  rw [decide_eq_true hu] at HIN
  have HU : Hid (1 ≤ u ∧ u ≤ 1000) := hu
  obtain ⟨n, rfl⟩ : ∃ n : Nat, u = (n : Int) := ⟨u.toNat, by omega⟩
  have hn : n ≤ 1000 := by omega
  clear hu
  go_enter Tryd.func15, Tryd.ntmps15
  go_wp2_with fail
  generalize w.alloc _ = w0 at c0 c1 c2 b0 ⊢
  refine (HIN.out _).mono ?_
  rintro e w' ⟨rfl, rfl⟩
  have HW0 : Hid (∀ W, Below w'.heap.size w' W → W.cell? ⟨w.heap.size, 0, none⟩ = some (.int .i64 (n : Int)) ∧ W.cell? ⟨w.heap.size, 1, none⟩ = some (.int .i64 fl) ∧ W.cell? ⟨w.heap.size, 2, none⟩ = some (.string s)) := fun W hW => ⟨kp hW c0, kp hW c1, kp hW c2⟩
  have HB0 : Hid (Below w.heap.size w w') := b0
  go_wp2_with fail
  clear c0 c1 c2 b0 HIN
  have HWH : Hid (Calls Tryd.prog 29 #[.string s] w' fun e w'' => (((¬ ∃ fs b, s.size ≤ 65536 ∧ IsMail s.data.toList fs b) ∧ e = .returned (.tuple #[noMV, .bool false])) ∨ (∃ fs b a n c, s.size ≤ 65536 ∧ IsMail s.data.toList fs b ∧ e = .returned (.tuple #[MV (.slice a n c) b, .bool true]))) ∧ Below w'.heap.size w' w'') := (show Calls _ _ _ _ _ by
    by_cases hbig : 65536 < s.size
    · exact (specBig_any s w' hbig hs).mono fun e w'' h => ⟨.inl ⟨fun ⟨_, _, h, _⟩ => by omega, h.1⟩, h.2⟩
    · refine (specWhole_any s w' (by omega)).mono fun e w'' h => ⟨?_, h.2⟩
      rcases h.1 with ⟨h1, h2⟩ | ⟨fs, b, a, n, c, h1, h2⟩
      · exact .inl ⟨fun ⟨fs, b, _, hh⟩ => h1 ⟨fs, b, hh⟩, h2⟩
      · exact .inr ⟨fs, b, a, n, c, by omega, h1, h2⟩)
  refine HWH.out.mono ?_
  rintro e w1 ⟨hr, hb1⟩
  have HB1 : Hid (Below w.heap.size w w1) := HB0.out.trans (hb1.mono HB0.out.size)
  rcases hr with ⟨hno, rfl⟩ | ⟨fs, b, a, ln, c, hsz, hmail, rfl⟩
  · have HNO : Hid (¬ ∃ fs b, s.size ≤ 65536 ∧ IsMail s.data.toList fs b) := hno
    clear hno hb1 HWH
    unfold noMV
    go_wp2
    go_ret2
    exact ⟨.inr (.inl ⟨HU.out, HNO.out, rfl⟩), HB1.out.alloc HB1.out.size _⟩
  · have HMA : Hid (IsMail s.data.toList fs b) := hmail
    obtain ⟨T, hT⟩ : ∃ T : ByteArray, T = ⟨b.toArray⟩ := ⟨_, rfl⟩
    unfold MV
    rw [show tv b = .string T from by rw [hT]; rfl]
    have bb1 : Below w1.heap.size w1 (w1.alloc (.cells #[.slice a ln c, .string T] 42)) := (Below.refl _ _).alloc (Nat.le_refl _) _
    have b12 := hb1.trans (bb1.mono hb1.size)
    have d0 := (HW0.out _ b12).1
    have d1 := (HW0.out _ b12).2.1
    have d2 := (HW0.out _ b12).2.2
    have HB2 : Hid (Below w.heap.size w (w1.alloc (.cells #[.slice a ln c, .string T] 42))) := HB1.out.alloc HB1.out.size _
    clear hmail hb1 HWH bb1 b12 hT
    go_wp2_with fail
    refine (specOv_any n fl s fs b _ hsz hn HMA.out).mono ?_
    rintro e w3 ⟨rfl, hb3⟩
    have HB3 : Hid (Below w.heap.size w w3) := HB2.out.trans (hb3.mono HB2.out.size)
    clear hb3 d0 d1 d2
    go_wp2
    go_ret2
    exact ⟨.inr (.inr ⟨HU.out, fs, b, hsz, HMA.out, rfl⟩), HB3.out⟩
end Go.Proofs.YtglgaangkffbiaaDoor.ov
