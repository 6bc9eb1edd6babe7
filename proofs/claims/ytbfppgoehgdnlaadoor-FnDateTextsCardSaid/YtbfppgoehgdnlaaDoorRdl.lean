/-
  The contract of the program's ReadRfc822 at a text of the right form with a day of the week and a zone of digits.
-/
import Derived.Test.YtbfppgoehgdnlaaDoorRdk
import Derived.Test.YtbfppgoehgdnlaaDoorShf
namespace Go.Proofs.YtbfppgoehgdnlaaDoor.rd
open Go.RowKit
open dt
set_option linter.unusedVariables false
/-- The first comma and blank stand behind three letters. -/
theorem index_three {a b c : UInt8} (r : List UInt8) (ha : a ≠ 44) (hb : b ≠ 44) (hc : c ≠ 44) : Lib.index (a :: b :: c :: 44 :: 32 :: r) [44, 32] = 3 := by
  have p1 : ([44, 32] : List UInt8).isPrefixOf (a :: b :: c :: 44 :: 32 :: r) = false := by simp [List.isPrefixOf, Ne.symm ha]
  have p2 : ([44, 32] : List UInt8).isPrefixOf (b :: c :: 44 :: 32 :: r) = false := by simp [List.isPrefixOf, Ne.symm hb]
  have p3 : ([44, 32] : List UInt8).isPrefixOf (c :: 44 :: 32 :: r) = false := by simp [List.isPrefixOf]
  have p4 : ([44, 32] : List UInt8).isPrefixOf (44 :: 32 :: r) = true := by simp [List.isPrefixOf]
  rw [Lib.index, p1, Lib.index, p2, Lib.index, p3, Lib.index, p4]
  rfl
theorem cut_three {a b c : UInt8} (r : List UInt8) (ha : a ≠ 44) (hb : b ≠ 44) (hc : c ≠ 44) : Lib.cut (a :: b :: c :: 44 :: 32 :: r) [44, 32] = ([a, b, c], r, true) := by
  unfold Lib.cut
  rw [index_three r ha hb hc]
  rfl
theorem list_of_five {s : ByteArray} {D M Y C Z : List UInt8} (h : wds [] s.data.toList = [D, M, Y, C, Z]) :
    Lib.countB s ⟨#[32]⟩ + 1 = 5 ∧ ((Lib.splitB ⟨#[32]⟩ 0 (Lib.countB s ⟨#[32]⟩) s).map Value.string).toArray = #[.string ⟨D.toArray⟩, .string ⟨M.toArray⟩, .string ⟨Y.toArray⟩, .string ⟨C.toArray⟩, .string ⟨Z.toArray⟩] := by
  have e := split_words s
  rw [h] at e
  have hl : (Lib.splitB ⟨#[32]⟩ 0 (Lib.countB s ⟨#[32]⟩) s).length = 5 := by
    have := congrArg List.length e
    simpa using this
  have hc := Lib.splitB_all ⟨#[32]⟩ (by decide) 0 _ s rfl
  refine ⟨by omega, ?_⟩
  generalize Lib.splitB ⟨#[32]⟩ 0 (Lib.countB s ⟨#[32]⟩) s = v at e hl
  match v, hl with
  | [p, q, r, t, u], _ =>
    simp only [List.map_cons, List.map_nil, List.cons.injEq, and_true] at e
    obtain ⟨e1, e2, e3, e4, e5⟩ := e
    rw [← e1, ← e2, ← e3, ← e4, ← e5]
    rfl

set_option maxHeartbeats 8000000 in
set_option maxRecDepth 100000 in
theorem impl_82_good (s : ByteArray) (hs : s.size ≤ 65536) (A R D M Y C Z : List UInt8) (n : Int) (w : World) (mx : Int) (hm : w.cell? ⟨2, 0, none⟩ = some (.int .i64 mx)) (hT : tb.TN w) (hTW : tb.TW w)
    (hcut : Lib.cut s.data.toList [44, 32] = (A, R, true)) (hR : R.length ≤ 65536) (hw : wds [] R = [D, M, Y, C, Z])
    (h1 : hf D [48] = false) (h2 : hf D [48, 48] = true) (h3 : hf Y F4 = true) (h4 : hf C F8 = true)
    (hok : Ok (num Y) (mon M) (num D) (num (g C 0 2)) (num (g C 3 2)) (num (g C 6 2))) (hst : st (num Y) (mon M) (num D) (num (g C 0 2)) (num (g C 3 2)) (num (g C 6 2)) = n) (hA : A = wnm n) (hz : zp Z = some 0) (hz1 : Z ≠ [71, 77, 84]) (hz2 : Z ≠ [85, 84]) (hzl : Z.length ≤ 65536) :
    Calls Tryd.prog 15 #[.string s] w fun e w' => e = .returned (.tuple #[.int .i64 n, .int .i64 0]) ∧ Below w.heap.size w w' := by
  have hb : (s.size : Int) ≤ 65536 := by omega
  obtain ⟨rb, hrb⟩ : ∃ rb : ByteArray, rb = ⟨R.toArray⟩ := ⟨_, rfl⟩
  have hrl : rb.data.toList = R := by rw [hrb]
  have hgl := World.block_lt_of_cell? _ _ hm
  have HC : Hid (Calls Tryd.prog 44 #[.string s, .string ⟨#[44, 32]⟩] w fun e w' => e = .returned (.tuple #[.string ⟨A.toArray⟩, .string rb, .bool true]) ∧ Drawn w w') := by
    show Calls _ _ _ _ _
    refine (Tryd.strings_Cut s ⟨#[44, 32]⟩ mx w (by omega) hm).mono ?_
    rintro e w' ⟨rfl, k, rfl⟩
    refine ⟨?_, k, rfl⟩
    rw [show (⟨#[44, 32]⟩ : ByteArray).data.toList = [44, 32] from rfl, hcut, hrb]
  obtain ⟨q1, q2⟩ := list_of_five (s := rb) (by rw [hrl]; exact hw)
  have HS : Hid (∀ w', Below w.heap.size w w' → Calls Tryd.prog 46 #[.string rb, .string ⟨#[32]⟩] w' fun e w'' => e = .returned (.slice (some ⟨w'.heap.size, 0, none⟩) 5 5) ∧ w'' = w'.alloc (.cells #[.string ⟨D.toArray⟩, .string ⟨M.toArray⟩, .string ⟨Y.toArray⟩, .string ⟨C.toArray⟩, .string ⟨Z.toArray⟩] 9)) := fun w' hb' => by
    refine (Tryd.strings_Split rb ⟨#[32]⟩ mx w' (by rw [← len_eq, hrl]; omega) ((hb'.cell (p := ⟨2, 0, none⟩) hgl).trans hm) (by decide)).mono ?_
    rintro e w'' ⟨rfl, rfl⟩
    exact ⟨by rw [q1], by rw [q2]⟩
  have HW : Hid (∀ w', Below w.heap.size w w' → ∀ b, Five w' b ⟨D.toArray⟩ ⟨M.toArray⟩ ⟨Y.toArray⟩ ⟨C.toArray⟩ ⟨Z.toArray⟩ → Calls Tryd.prog 45 #[.slice (some ⟨b, 0, none⟩) 5 5] w' fun e w'' => e = .returned (.tuple #[C6 (num Y) (mon M) (num D) (num (g C 0 2)) (num (g C 3 2)) (num (g C 6 2)), .string ⟨Z.toArray⟩, .bool true]) ∧ Below w'.heap.size w' w'') := fun w' hb' b L => words_good w' b _ _ _ _ _ L (tb.keepS hT hb') h1 h2 h3 h4
  have HN : Hid (∀ w', Below w.heap.size w w' → Calls Tryd.prog 47 #[C6 (num Y) (mon M) (num D) (num (g C 0 2)) (num (g C 3 2)) (num (g C 6 2))] w' fun e w'' => e = .returned (.string ⟨A.toArray⟩) ∧ Below w'.heap.size w' w'') := fun w' hb' => by
    have := week_any _ _ _ _ _ _ hok w' (tb.keepS hTW hb')
    rw [hst, ← hA] at this
    exact this
  have HZ : Hid (∀ w, Calls Tryd.prog 32 #[.string ⟨Z.toArray⟩, .string ⟨#[48, 48, 48, 48]⟩] w fun e w' => e = .returned (.tuple #[.int .i64 0, .bool true]) ∧ Drawn w w') := fun w => by
    have := sec_any ⟨Z.toArray⟩ ⟨#[48, 48, 48, 48]⟩ hzl (.inr rfl) w
    rw [show (⟨#[48, 48, 48, 48]⟩ : ByteArray).data.toList = F4 from rfl, show (⟨Z.toArray⟩ : ByteArray).data.toList = Z from by simp, zi_plain, hz] at this
    exact this
  have sb := st_bounds hok
  have HI : Hid (∀ w, Calls Tryd.prog 36 #[C6 (num Y) (mon M) (num D) (num (g C 0 2)) (num (g C 3 2)) (num (g C 6 2)), .int .i64 0] w fun e w' => e = .returned (.tuple #[.int .i64 n, .int .i64 0]) ∧ Below w.heap.size w w') := fun w => by
    have := in_stamp _ _ _ _ _ _ 0 hok (by decide) (by decide) w
    rw [fin_in hok (dw.in_yes (by omega) (by omega)), Int.sub_zero, hst] at this
    exact this
  have dz1 : ((⟨Z.toArray⟩ : ByteArray).toList == [71, 77, 84]) = false := by rw [Lib.toList_data]; exact beq_eq_false_iff_ne.2 (by simpa using hz1)
  have dz2 : ((⟨Z.toArray⟩ : ByteArray).toList == [85, 84]) = false := by rw [Lib.toList_data]; exact beq_eq_false_iff_ne.2 (by simpa using hz2)
  have OK1 : Hid (Ok (num Y) (mon M) (num D) (num (g C 0 2)) (num (g C 3 2)) (num (g C 6 2))) := hok
  clear hcut hw h1 h2 h3 h4 hok hst hA hz hz1 hz2 hT hTW hm q1 q2 hrl hrb sb
  generalize num Y = y at HW HN HI OK1
  generalize mon M = m at HW HN HI OK1
  generalize num D = d at HW HN HI OK1
  generalize num (g C 0 2) = h at HW HN HI OK1
  generalize num (g C 3 2) = i at HW HN HI OK1
  generalize num (g C 6 2) = sc at HW HN HI OK1
  generalize (⟨Z.toArray⟩ : ByteArray) = zb at HS HW HZ dz1 dz2
  generalize (⟨A.toArray⟩ : ByteArray) = ab at HC HN
  unfold C6 at HW HN HI
  go_enter Tryd.func15, Tryd.ntmps15
  go_wp2_with fail
  refine HC.out.mono ?_
  rintro e w1 ⟨rfl, dr1⟩
  have b1 := drawn_below dr1
  clear dr1 HC
  go_wp2_with fail
  refine (HS.out _ b1).mono ?_
  rintro e w2 ⟨rfl, rfl⟩
  have L2 : Five (w1.alloc (.cells #[.string ⟨D.toArray⟩, .string ⟨M.toArray⟩, .string ⟨Y.toArray⟩, .string ⟨C.toArray⟩, .string zb] 9)) w1.heap.size ⟨D.toArray⟩ ⟨M.toArray⟩ ⟨Y.toArray⟩ ⟨C.toArray⟩ zb := by
    show (w1.heap.push _)[w1.heap.size]? = _
    simp
  have b2 := b1.alloc b1.size (.cells #[.string ⟨D.toArray⟩, .string ⟨M.toArray⟩, .string ⟨Y.toArray⟩, .string ⟨C.toArray⟩, .string zb] 9)
  clear HS
  generalize w1.alloc _ = w2 at L2 b2 ⊢
  go_wp2_with fail
  refine (HW.out _ b2 _ L2).mono ?_
  rintro e w3 ⟨rfl, b3⟩
  have b4 := b2.trans (b3.mono b2.size)
  clear b3 HW L2
  go_wp2_with fail
  have LC := dw.lies_new w3 y m d h i sc
  have b5 := b4.alloc b4.size (.cells #[.int .i64 y, .int .i64 m, .int .i64 d, .int .i64 h, .int .i64 i, .int .i64 sc] 34)
  generalize w3.alloc _ = w4 at LC b5 ⊢
  clear b4
  have c0 := LC.c0
  have c1 := LC.c1
  have c2 := LC.c2
  have c3 := LC.c3
  have c4 := LC.c4
  have c5 := LC.c5
  go_wp2_with fail
  refine (dw.impl_ok y m d h i sc _).mono ?_
  rintro e w5 ⟨t, rfl, ht, b6⟩
  obtain rfl : t = true := ht.2 OK1.out
  have L5 := LC.below b6
  have b7 := b5.trans (b6.mono b5.size)
  clear c0 c1 c2 c3 c4 c5 b5 b6 LC ht
  have c0 := L5.c0
  have c1 := L5.c1
  have c2 := L5.c2
  have c3 := L5.c3
  have c4 := L5.c4
  have c5 := L5.c5
  go_wp2_with fail
  refine (HN.out _ b7).mono ?_
  rintro e w6 ⟨rfl, b8⟩
  have L6 := L5.below b8
  have b9 := b7.trans (b8.mono b7.size)
  clear c0 c1 c2 c3 c4 c5 b7 b8 L5 HN
  go_wp2_with fail
  refine (HZ.out _).mono ?_
  rintro e w7 ⟨rfl, dr⟩
  have L7 := L6.below (drawn_below dr)
  have b10 := b9.trans ((drawn_below dr).mono b9.size)
  clear L6 b9 dr HZ
  have c0 := L7.c0
  have c1 := L7.c1
  have c2 := L7.c2
  have c3 := L7.c3
  have c4 := L7.c4
  have c5 := L7.c5
  go_wp2_with fail
  refine (HI.out _).mono ?_
  rintro e w8 ⟨rfl, b11⟩
  have b12 := b10.trans (b11.mono b10.size)
  clear c0 c1 c2 c3 c4 c5 L7 b10 b11 HI
  go_wp2
  go_ret2
  exact ⟨rfl, b12⟩
end Go.Proofs.YtbfppgoehgdnlaaDoor.rd
