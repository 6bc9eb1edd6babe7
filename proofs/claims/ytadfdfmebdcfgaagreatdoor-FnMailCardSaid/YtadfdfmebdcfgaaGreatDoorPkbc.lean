/-
  The walks of the program's ReadRfc822, one a way, the callees' contracts as premises.
-/
import Derived.Test.YtadfdfmebdcfgaaGreatDoorPkba

namespace Go.Proofs.YtadfdfmebdcfgaaGreatDoor.rd
open Go.RowKit
open dt
set_option linter.unusedVariables false
set_option maxHeartbeats 4000000 in
set_option maxRecDepth 100000 in
theorem way_told_noW (s ab cb : ByteArray) (hb : (s.size : Int) ≤ 65536) (Q : Value → World → Prop) (w : World)
    (HC : Hid (Calls Tryz.prog 30 #[.string s, .string ⟨#[44, 32]⟩] w fun e w' => e = .returned (.tuple #[.string ab, .string cb, .bool true]) ∧ Drawn w w'))
    (HS : Hid (∀ w', Below w.heap.size w w' → Calls Tryz.prog 120 #[.string cb, .string ⟨#[32]⟩] w' fun e w'' => ∃ v, e = .returned v ∧ Below w'.heap.size w' w'' ∧ Q v w''))
    (HW : Hid (∀ w' v, Below w.heap.size w w' → Q v w' → Calls Tryz.prog 119 #[v] w' fun e w'' => e = .returned (.tuple #[.agg #[.int .i64 0, .int .i64 0, .int .i64 0, .int .i64 0, .int .i64 0, .int .i64 0], .string ⟨#[]⟩, .bool false]) ∧ Below w'.heap.size w' w''))
    : Calls Tryz.prog 68 #[.string s] w fun e w' => e = .returned (.tuple #[.int .i64 0, .int .i64 3]) ∧ Below w.heap.size w w' := by
  go_enter Tryz.func68, Tryz.ntmps68
  go_wp2_with fail
  refine HC.out.mono ?_
  rintro e w1 ⟨rfl, dr1⟩
  have b1 := drawn_below dr1
  clear dr1 HC
  go_wp2_with fail
  refine (HS.out _ b1).mono ?_
  rintro e w2 ⟨v, rfl, b2, hq⟩
  have b3 := b1.trans (b2.mono b1.size)
  clear HS b1 b2
  go_wp2_with fail
  refine (HW.out _ v b3 hq).mono ?_
  rintro e w3 ⟨rfl, b4⟩
  have b5 := b3.trans (b4.mono b3.size)
  clear b3 b4 HW hq
  go_wp2
  go_ret2
  exact ⟨rfl, b5.alloc b5.size _⟩
set_option maxHeartbeats 4000000 in
set_option maxRecDepth 100000 in
theorem way_told_notOk (s ab cb : ByteArray) (hb : (s.size : Int) ≤ 65536) (Q : Value → World → Prop) (w : World)
    (zb : ByteArray) (y m d h i sc : Int)
    (HC : Hid (Calls Tryz.prog 30 #[.string s, .string ⟨#[44, 32]⟩] w fun e w' => e = .returned (.tuple #[.string ab, .string cb, .bool true]) ∧ Drawn w w'))
    (HS : Hid (∀ w', Below w.heap.size w w' → Calls Tryz.prog 120 #[.string cb, .string ⟨#[32]⟩] w' fun e w'' => ∃ v, e = .returned v ∧ Below w'.heap.size w' w'' ∧ Q v w''))
    (HW : Hid (∀ w' v, Below w.heap.size w w' → Q v w' → Calls Tryz.prog 119 #[v] w' fun e w'' => e = .returned (.tuple #[.agg #[.int .i64 y, .int .i64 m, .int .i64 d, .int .i64 h, .int .i64 i, .int .i64 sc], .string zb, .bool true]) ∧ Below w'.heap.size w' w''))
    (K : Hid (¬ Ok y m d h i sc))
    : Calls Tryz.prog 68 #[.string s] w fun e w' => e = .returned (.tuple #[.int .i64 0, .int .i64 3]) ∧ Below w.heap.size w w' := by
  go_enter Tryz.func68, Tryz.ntmps68
  go_wp2_with fail
  refine HC.out.mono ?_
  rintro e w1 ⟨rfl, dr1⟩
  have b1 := drawn_below dr1
  clear dr1 HC
  go_wp2_with fail
  refine (HS.out _ b1).mono ?_
  rintro e w2 ⟨v, rfl, b2, hq⟩
  have b3 := b1.trans (b2.mono b1.size)
  clear HS b1 b2
  go_wp2_with fail
  refine (HW.out _ v b3 hq).mono ?_
  rintro e w3 ⟨rfl, b4⟩
  have b5 := b3.trans (b4.mono b3.size)
  clear b3 b4 HW hq
  go_wp2_with fail
  have LC := dw.lies_new w3 y m d h i sc
  have b6 := b5.alloc b5.size (.cells #[.int .i64 y, .int .i64 m, .int .i64 d, .int .i64 h, .int .i64 i, .int .i64 sc] 99)
  generalize w3.alloc _ = w4 at LC b6 ⊢
  clear b5
  have c0 := LC.c0
  have c1 := LC.c1
  have c2 := LC.c2
  have c3 := LC.c3
  have c4 := LC.c4
  have c5 := LC.c5
  go_wp2_with fail
  refine (dw.impl_ok y m d h i sc _).mono ?_
  rintro e w5 ⟨t, rfl, ht, b7⟩
  have L5 := LC.below b7
  have b8 := b6.trans (b7.mono b6.size)
  clear c0 c1 c2 c3 c4 c5 b6 b7 LC
  obtain rfl : t = false := by
    cases t
    · rfl
    · exact absurd (ht.1 rfl) K.out
  clear ht L5
  go_wp2
  go_ret2
  exact ⟨rfl, b8⟩
set_option maxHeartbeats 4000000 in
set_option maxRecDepth 100000 in
theorem way_told_day (s ab cb : ByteArray) (hb : (s.size : Int) ≤ 65536) (Q : Value → World → Prop) (w : World)
    (zb : ByteArray) (y m d h i sc : Int)
    (HC : Hid (Calls Tryz.prog 30 #[.string s, .string ⟨#[44, 32]⟩] w fun e w' => e = .returned (.tuple #[.string ab, .string cb, .bool true]) ∧ Drawn w w'))
    (HS : Hid (∀ w', Below w.heap.size w w' → Calls Tryz.prog 120 #[.string cb, .string ⟨#[32]⟩] w' fun e w'' => ∃ v, e = .returned v ∧ Below w'.heap.size w' w'' ∧ Q v w''))
    (HW : Hid (∀ w' v, Below w.heap.size w w' → Q v w' → Calls Tryz.prog 119 #[v] w' fun e w'' => e = .returned (.tuple #[.agg #[.int .i64 y, .int .i64 m, .int .i64 d, .int .i64 h, .int .i64 i, .int .i64 sc], .string zb, .bool true]) ∧ Below w'.heap.size w' w''))
    (K : Hid (Ok y m d h i sc))
    (nm : ByteArray) (HN : Hid (∀ w', Below w.heap.size w w' → Calls Tryz.prog 122 #[.agg #[.int .i64 y, .int .i64 m, .int .i64 d, .int .i64 h, .int .i64 i, .int .i64 sc]] w' fun e w'' => e = .returned (.string nm) ∧ Below w'.heap.size w' w'')) (dn : (ab.toList == nm.toList) = false)
    : Calls Tryz.prog 68 #[.string s] w fun e w' => e = .returned (.tuple #[.int .i64 0, .int .i64 3]) ∧ Below w.heap.size w w' := by
  have dn' : (ab.toList != nm.toList) = true := by rw [bne, dn]; rfl
  go_enter Tryz.func68, Tryz.ntmps68
  go_wp2_with fail
  refine HC.out.mono ?_
  rintro e w1 ⟨rfl, dr1⟩
  have b1 := drawn_below dr1
  clear dr1 HC
  go_wp2_with fail
  refine (HS.out _ b1).mono ?_
  rintro e w2 ⟨v, rfl, b2, hq⟩
  have b3 := b1.trans (b2.mono b1.size)
  clear HS b1 b2
  go_wp2_with fail
  refine (HW.out _ v b3 hq).mono ?_
  rintro e w3 ⟨rfl, b4⟩
  have b5 := b3.trans (b4.mono b3.size)
  clear b3 b4 HW hq
  go_wp2_with fail
  have LC := dw.lies_new w3 y m d h i sc
  have b6 := b5.alloc b5.size (.cells #[.int .i64 y, .int .i64 m, .int .i64 d, .int .i64 h, .int .i64 i, .int .i64 sc] 99)
  generalize w3.alloc _ = w4 at LC b6 ⊢
  clear b5
  have c0 := LC.c0
  have c1 := LC.c1
  have c2 := LC.c2
  have c3 := LC.c3
  have c4 := LC.c4
  have c5 := LC.c5
  go_wp2_with fail
  refine (dw.impl_ok y m d h i sc _).mono ?_
  rintro e w5 ⟨t, rfl, ht, b7⟩
  have L5 := LC.below b7
  have b8 := b6.trans (b7.mono b6.size)
  clear c0 c1 c2 c3 c4 c5 b6 b7 LC
  obtain rfl : t = true := ht.2 K.out
  clear ht
  have c0 := L5.c0
  have c1 := L5.c1
  have c2 := L5.c2
  have c3 := L5.c3
  have c4 := L5.c4
  have c5 := L5.c5
  go_wp2_with fail
  refine (HN.out _ b8).mono ?_
  rintro e w6 ⟨rfl, b9⟩
  have L6 := L5.below b9
  have b10 := b8.trans (b9.mono b8.size)
  clear c0 c1 c2 c3 c4 c5 b8 b9 L5 HN
  clear L6
  go_wp2
  go_ret2
  exact ⟨rfl, b10⟩
set_option maxHeartbeats 4000000 in
set_option maxRecDepth 100000 in
theorem way_told_GMT (s ab cb : ByteArray) (hb : (s.size : Int) ≤ 65536) (Q : Value → World → Prop) (w : World)
    (zb : ByteArray) (y m d h i sc : Int)
    (HC : Hid (Calls Tryz.prog 30 #[.string s, .string ⟨#[44, 32]⟩] w fun e w' => e = .returned (.tuple #[.string ab, .string cb, .bool true]) ∧ Drawn w w'))
    (HS : Hid (∀ w', Below w.heap.size w w' → Calls Tryz.prog 120 #[.string cb, .string ⟨#[32]⟩] w' fun e w'' => ∃ v, e = .returned v ∧ Below w'.heap.size w' w'' ∧ Q v w''))
    (HW : Hid (∀ w' v, Below w.heap.size w w' → Q v w' → Calls Tryz.prog 119 #[v] w' fun e w'' => e = .returned (.tuple #[.agg #[.int .i64 y, .int .i64 m, .int .i64 d, .int .i64 h, .int .i64 i, .int .i64 sc], .string zb, .bool true]) ∧ Below w'.heap.size w' w''))
    (K : Hid (Ok y m d h i sc))
    (nm : ByteArray) (HN : Hid (∀ w', Below w.heap.size w w' → Calls Tryz.prog 122 #[.agg #[.int .i64 y, .int .i64 m, .int .i64 d, .int .i64 h, .int .i64 i, .int .i64 sc]] w' fun e w'' => e = .returned (.string nm) ∧ Below w'.heap.size w' w'')) (dn : (ab.toList == nm.toList) = true)
    (dz1 : (zb.toList == [71, 77, 84]) = true)
    (x c : Int) (HI : Hid (∀ w, Calls Tryz.prog 124 #[.agg #[.int .i64 y, .int .i64 m, .int .i64 d, .int .i64 h, .int .i64 i, .int .i64 sc], .int .i64 0] w fun e w' => e = .returned (.tuple #[.int .i64 x, .int .i64 c]) ∧ Below w.heap.size w w'))
    : Calls Tryz.prog 68 #[.string s] w fun e w' => e = .returned (.tuple #[.int .i64 x, .int .i64 c]) ∧ Below w.heap.size w w' := by
  have dn' : (ab.toList != nm.toList) = false := by rw [bne, dn]; rfl
  go_enter Tryz.func68, Tryz.ntmps68
  go_wp2_with fail
  refine HC.out.mono ?_
  rintro e w1 ⟨rfl, dr1⟩
  have b1 := drawn_below dr1
  clear dr1 HC
  go_wp2_with fail
  refine (HS.out _ b1).mono ?_
  rintro e w2 ⟨v, rfl, b2, hq⟩
  have b3 := b1.trans (b2.mono b1.size)
  clear HS b1 b2
  go_wp2_with fail
  refine (HW.out _ v b3 hq).mono ?_
  rintro e w3 ⟨rfl, b4⟩
  have b5 := b3.trans (b4.mono b3.size)
  clear b3 b4 HW hq
  go_wp2_with fail
  have LC := dw.lies_new w3 y m d h i sc
  have b6 := b5.alloc b5.size (.cells #[.int .i64 y, .int .i64 m, .int .i64 d, .int .i64 h, .int .i64 i, .int .i64 sc] 99)
  generalize w3.alloc _ = w4 at LC b6 ⊢
  clear b5
  have c0 := LC.c0
  have c1 := LC.c1
  have c2 := LC.c2
  have c3 := LC.c3
  have c4 := LC.c4
  have c5 := LC.c5
  go_wp2_with fail
  refine (dw.impl_ok y m d h i sc _).mono ?_
  rintro e w5 ⟨t, rfl, ht, b7⟩
  have L5 := LC.below b7
  have b8 := b6.trans (b7.mono b6.size)
  clear c0 c1 c2 c3 c4 c5 b6 b7 LC
  obtain rfl : t = true := ht.2 K.out
  clear ht
  have c0 := L5.c0
  have c1 := L5.c1
  have c2 := L5.c2
  have c3 := L5.c3
  have c4 := L5.c4
  have c5 := L5.c5
  go_wp2_with fail
  refine (HN.out _ b8).mono ?_
  rintro e w6 ⟨rfl, b9⟩
  have L6 := L5.below b9
  have b10 := b8.trans (b9.mono b8.size)
  clear c0 c1 c2 c3 c4 c5 b8 b9 L5 HN
  have L7 := L6
  have b11 := b10
  clear L6 b10
  have c0 := L7.c0
  have c1 := L7.c1
  have c2 := L7.c2
  have c3 := L7.c3
  have c4 := L7.c4
  have c5 := L7.c5
  go_wp2_with fail
  refine (HI.out _).mono ?_
  rintro e w8 ⟨rfl, b12⟩
  have b13 := b11.trans (b12.mono b11.size)
  clear c0 c1 c2 c3 c4 c5 L7 b11 b12 HI
  go_wp2
  go_ret2
  exact ⟨rfl, b13⟩
set_option maxHeartbeats 4000000 in
set_option maxRecDepth 100000 in
theorem way_told_UT (s ab cb : ByteArray) (hb : (s.size : Int) ≤ 65536) (Q : Value → World → Prop) (w : World)
    (zb : ByteArray) (y m d h i sc : Int)
    (HC : Hid (Calls Tryz.prog 30 #[.string s, .string ⟨#[44, 32]⟩] w fun e w' => e = .returned (.tuple #[.string ab, .string cb, .bool true]) ∧ Drawn w w'))
    (HS : Hid (∀ w', Below w.heap.size w w' → Calls Tryz.prog 120 #[.string cb, .string ⟨#[32]⟩] w' fun e w'' => ∃ v, e = .returned v ∧ Below w'.heap.size w' w'' ∧ Q v w''))
    (HW : Hid (∀ w' v, Below w.heap.size w w' → Q v w' → Calls Tryz.prog 119 #[v] w' fun e w'' => e = .returned (.tuple #[.agg #[.int .i64 y, .int .i64 m, .int .i64 d, .int .i64 h, .int .i64 i, .int .i64 sc], .string zb, .bool true]) ∧ Below w'.heap.size w' w''))
    (K : Hid (Ok y m d h i sc))
    (nm : ByteArray) (HN : Hid (∀ w', Below w.heap.size w w' → Calls Tryz.prog 122 #[.agg #[.int .i64 y, .int .i64 m, .int .i64 d, .int .i64 h, .int .i64 i, .int .i64 sc]] w' fun e w'' => e = .returned (.string nm) ∧ Below w'.heap.size w' w'')) (dn : (ab.toList == nm.toList) = true)
    (dz1 : (zb.toList == [71, 77, 84]) = false) (dz2 : (zb.toList == [85, 84]) = true)
    (x c : Int) (HI : Hid (∀ w, Calls Tryz.prog 124 #[.agg #[.int .i64 y, .int .i64 m, .int .i64 d, .int .i64 h, .int .i64 i, .int .i64 sc], .int .i64 0] w fun e w' => e = .returned (.tuple #[.int .i64 x, .int .i64 c]) ∧ Below w.heap.size w w'))
    : Calls Tryz.prog 68 #[.string s] w fun e w' => e = .returned (.tuple #[.int .i64 x, .int .i64 c]) ∧ Below w.heap.size w w' := by
  have dn' : (ab.toList != nm.toList) = false := by rw [bne, dn]; rfl
  go_enter Tryz.func68, Tryz.ntmps68
  go_wp2_with fail
  refine HC.out.mono ?_
  rintro e w1 ⟨rfl, dr1⟩
  have b1 := drawn_below dr1
  clear dr1 HC
  go_wp2_with fail
  refine (HS.out _ b1).mono ?_
  rintro e w2 ⟨v, rfl, b2, hq⟩
  have b3 := b1.trans (b2.mono b1.size)
  clear HS b1 b2
  go_wp2_with fail
  refine (HW.out _ v b3 hq).mono ?_
  rintro e w3 ⟨rfl, b4⟩
  have b5 := b3.trans (b4.mono b3.size)
  clear b3 b4 HW hq
  go_wp2_with fail
  have LC := dw.lies_new w3 y m d h i sc
  have b6 := b5.alloc b5.size (.cells #[.int .i64 y, .int .i64 m, .int .i64 d, .int .i64 h, .int .i64 i, .int .i64 sc] 99)
  generalize w3.alloc _ = w4 at LC b6 ⊢
  clear b5
  have c0 := LC.c0
  have c1 := LC.c1
  have c2 := LC.c2
  have c3 := LC.c3
  have c4 := LC.c4
  have c5 := LC.c5
  go_wp2_with fail
  refine (dw.impl_ok y m d h i sc _).mono ?_
  rintro e w5 ⟨t, rfl, ht, b7⟩
  have L5 := LC.below b7
  have b8 := b6.trans (b7.mono b6.size)
  clear c0 c1 c2 c3 c4 c5 b6 b7 LC
  obtain rfl : t = true := ht.2 K.out
  clear ht
  have c0 := L5.c0
  have c1 := L5.c1
  have c2 := L5.c2
  have c3 := L5.c3
  have c4 := L5.c4
  have c5 := L5.c5
  go_wp2_with fail
  refine (HN.out _ b8).mono ?_
  rintro e w6 ⟨rfl, b9⟩
  have L6 := L5.below b9
  have b10 := b8.trans (b9.mono b8.size)
  clear c0 c1 c2 c3 c4 c5 b8 b9 L5 HN
  have L7 := L6
  have b11 := b10
  clear L6 b10
  have c0 := L7.c0
  have c1 := L7.c1
  have c2 := L7.c2
  have c3 := L7.c3
  have c4 := L7.c4
  have c5 := L7.c5
  go_wp2_with fail
  refine (HI.out _).mono ?_
  rintro e w8 ⟨rfl, b12⟩
  have b13 := b11.trans (b12.mono b11.size)
  clear c0 c1 c2 c3 c4 c5 L7 b11 b12 HI
  go_wp2
  go_ret2
  exact ⟨rfl, b13⟩
set_option maxHeartbeats 4000000 in
set_option maxRecDepth 100000 in
theorem way_told_none (s ab cb : ByteArray) (hb : (s.size : Int) ≤ 65536) (Q : Value → World → Prop) (w : World)
    (zb : ByteArray) (y m d h i sc : Int)
    (HC : Hid (Calls Tryz.prog 30 #[.string s, .string ⟨#[44, 32]⟩] w fun e w' => e = .returned (.tuple #[.string ab, .string cb, .bool true]) ∧ Drawn w w'))
    (HS : Hid (∀ w', Below w.heap.size w w' → Calls Tryz.prog 120 #[.string cb, .string ⟨#[32]⟩] w' fun e w'' => ∃ v, e = .returned v ∧ Below w'.heap.size w' w'' ∧ Q v w''))
    (HW : Hid (∀ w' v, Below w.heap.size w w' → Q v w' → Calls Tryz.prog 119 #[v] w' fun e w'' => e = .returned (.tuple #[.agg #[.int .i64 y, .int .i64 m, .int .i64 d, .int .i64 h, .int .i64 i, .int .i64 sc], .string zb, .bool true]) ∧ Below w'.heap.size w' w''))
    (K : Hid (Ok y m d h i sc))
    (nm : ByteArray) (HN : Hid (∀ w', Below w.heap.size w w' → Calls Tryz.prog 122 #[.agg #[.int .i64 y, .int .i64 m, .int .i64 d, .int .i64 h, .int .i64 i, .int .i64 sc]] w' fun e w'' => e = .returned (.string nm) ∧ Below w'.heap.size w' w'')) (dn : (ab.toList == nm.toList) = true)
    (dz1 : (zb.toList == [71, 77, 84]) = false) (dz2 : (zb.toList == [85, 84]) = false)
    (HZ : Hid (∀ w, Calls Tryz.prog 123 #[.string zb, .string ⟨#[48, 48, 48, 48]⟩] w fun e w' => e = .returned (.tuple #[.int .i64 0, .bool false]) ∧ Drawn w w'))
    : Calls Tryz.prog 68 #[.string s] w fun e w' => e = .returned (.tuple #[.int .i64 0, .int .i64 3]) ∧ Below w.heap.size w w' := by
  have dn' : (ab.toList != nm.toList) = false := by rw [bne, dn]; rfl
  go_enter Tryz.func68, Tryz.ntmps68
  go_wp2_with fail
  refine HC.out.mono ?_
  rintro e w1 ⟨rfl, dr1⟩
  have b1 := drawn_below dr1
  clear dr1 HC
  go_wp2_with fail
  refine (HS.out _ b1).mono ?_
  rintro e w2 ⟨v, rfl, b2, hq⟩
  have b3 := b1.trans (b2.mono b1.size)
  clear HS b1 b2
  go_wp2_with fail
  refine (HW.out _ v b3 hq).mono ?_
  rintro e w3 ⟨rfl, b4⟩
  have b5 := b3.trans (b4.mono b3.size)
  clear b3 b4 HW hq
  go_wp2_with fail
  have LC := dw.lies_new w3 y m d h i sc
  have b6 := b5.alloc b5.size (.cells #[.int .i64 y, .int .i64 m, .int .i64 d, .int .i64 h, .int .i64 i, .int .i64 sc] 99)
  generalize w3.alloc _ = w4 at LC b6 ⊢
  clear b5
  have c0 := LC.c0
  have c1 := LC.c1
  have c2 := LC.c2
  have c3 := LC.c3
  have c4 := LC.c4
  have c5 := LC.c5
  go_wp2_with fail
  refine (dw.impl_ok y m d h i sc _).mono ?_
  rintro e w5 ⟨t, rfl, ht, b7⟩
  have L5 := LC.below b7
  have b8 := b6.trans (b7.mono b6.size)
  clear c0 c1 c2 c3 c4 c5 b6 b7 LC
  obtain rfl : t = true := ht.2 K.out
  clear ht
  have c0 := L5.c0
  have c1 := L5.c1
  have c2 := L5.c2
  have c3 := L5.c3
  have c4 := L5.c4
  have c5 := L5.c5
  go_wp2_with fail
  refine (HN.out _ b8).mono ?_
  rintro e w6 ⟨rfl, b9⟩
  have L6 := L5.below b9
  have b10 := b8.trans (b9.mono b8.size)
  clear c0 c1 c2 c3 c4 c5 b8 b9 L5 HN
  go_wp2_with fail
  refine (HZ.out _).mono ?_
  rintro e w7 ⟨rfl, dr⟩
  have L7 := L6.below (drawn_below dr)
  have b11 := b10.trans ((drawn_below dr).mono b10.size)
  clear L6 b10 dr HZ
  clear L7
  go_wp2
  go_ret2
  exact ⟨rfl, b11⟩
set_option maxHeartbeats 4000000 in
set_option maxRecDepth 100000 in
theorem way_told_some (s ab cb : ByteArray) (hb : (s.size : Int) ≤ 65536) (Q : Value → World → Prop) (w : World)
    (zb : ByteArray) (y m d h i sc : Int)
    (HC : Hid (Calls Tryz.prog 30 #[.string s, .string ⟨#[44, 32]⟩] w fun e w' => e = .returned (.tuple #[.string ab, .string cb, .bool true]) ∧ Drawn w w'))
    (HS : Hid (∀ w', Below w.heap.size w w' → Calls Tryz.prog 120 #[.string cb, .string ⟨#[32]⟩] w' fun e w'' => ∃ v, e = .returned v ∧ Below w'.heap.size w' w'' ∧ Q v w''))
    (HW : Hid (∀ w' v, Below w.heap.size w w' → Q v w' → Calls Tryz.prog 119 #[v] w' fun e w'' => e = .returned (.tuple #[.agg #[.int .i64 y, .int .i64 m, .int .i64 d, .int .i64 h, .int .i64 i, .int .i64 sc], .string zb, .bool true]) ∧ Below w'.heap.size w' w''))
    (K : Hid (Ok y m d h i sc))
    (nm : ByteArray) (HN : Hid (∀ w', Below w.heap.size w w' → Calls Tryz.prog 122 #[.agg #[.int .i64 y, .int .i64 m, .int .i64 d, .int .i64 h, .int .i64 i, .int .i64 sc]] w' fun e w'' => e = .returned (.string nm) ∧ Below w'.heap.size w' w'')) (dn : (ab.toList == nm.toList) = true)
    (dz1 : (zb.toList == [71, 77, 84]) = false) (dz2 : (zb.toList == [85, 84]) = false)
    (a : Int)
    (HZ : Hid (∀ w, Calls Tryz.prog 123 #[.string zb, .string ⟨#[48, 48, 48, 48]⟩] w fun e w' => e = .returned (.tuple #[.int .i64 a, .bool true]) ∧ Drawn w w'))
    (x c : Int) (HI : Hid (∀ w, Calls Tryz.prog 124 #[.agg #[.int .i64 y, .int .i64 m, .int .i64 d, .int .i64 h, .int .i64 i, .int .i64 sc], .int .i64 a] w fun e w' => e = .returned (.tuple #[.int .i64 x, .int .i64 c]) ∧ Below w.heap.size w w'))
    : Calls Tryz.prog 68 #[.string s] w fun e w' => e = .returned (.tuple #[.int .i64 x, .int .i64 c]) ∧ Below w.heap.size w w' := by
  have dn' : (ab.toList != nm.toList) = false := by rw [bne, dn]; rfl
  go_enter Tryz.func68, Tryz.ntmps68
  go_wp2_with fail
  refine HC.out.mono ?_
  rintro e w1 ⟨rfl, dr1⟩
  have b1 := drawn_below dr1
  clear dr1 HC
  go_wp2_with fail
  refine (HS.out _ b1).mono ?_
  rintro e w2 ⟨v, rfl, b2, hq⟩
  have b3 := b1.trans (b2.mono b1.size)
  clear HS b1 b2
  go_wp2_with fail
  refine (HW.out _ v b3 hq).mono ?_
  rintro e w3 ⟨rfl, b4⟩
  have b5 := b3.trans (b4.mono b3.size)
  clear b3 b4 HW hq
  go_wp2_with fail
  have LC := dw.lies_new w3 y m d h i sc
  have b6 := b5.alloc b5.size (.cells #[.int .i64 y, .int .i64 m, .int .i64 d, .int .i64 h, .int .i64 i, .int .i64 sc] 99)
  generalize w3.alloc _ = w4 at LC b6 ⊢
  clear b5
  have c0 := LC.c0
  have c1 := LC.c1
  have c2 := LC.c2
  have c3 := LC.c3
  have c4 := LC.c4
  have c5 := LC.c5
  go_wp2_with fail
  refine (dw.impl_ok y m d h i sc _).mono ?_
  rintro e w5 ⟨t, rfl, ht, b7⟩
  have L5 := LC.below b7
  have b8 := b6.trans (b7.mono b6.size)
  clear c0 c1 c2 c3 c4 c5 b6 b7 LC
  obtain rfl : t = true := ht.2 K.out
  clear ht
  have c0 := L5.c0
  have c1 := L5.c1
  have c2 := L5.c2
  have c3 := L5.c3
  have c4 := L5.c4
  have c5 := L5.c5
  go_wp2_with fail
  refine (HN.out _ b8).mono ?_
  rintro e w6 ⟨rfl, b9⟩
  have L6 := L5.below b9
  have b10 := b8.trans (b9.mono b8.size)
  clear c0 c1 c2 c3 c4 c5 b8 b9 L5 HN
  go_wp2_with fail
  refine (HZ.out _).mono ?_
  rintro e w7 ⟨rfl, dr⟩
  have L7 := L6.below (drawn_below dr)
  have b11 := b10.trans ((drawn_below dr).mono b10.size)
  clear L6 b10 dr HZ
  have c0 := L7.c0
  have c1 := L7.c1
  have c2 := L7.c2
  have c3 := L7.c3
  have c4 := L7.c4
  have c5 := L7.c5
  go_wp2_with fail
  refine (HI.out _).mono ?_
  rintro e w8 ⟨rfl, b12⟩
  have b13 := b11.trans (b12.mono b11.size)
  clear c0 c1 c2 c3 c4 c5 L7 b11 b12 HI
  go_wp2
  go_ret2
  exact ⟨rfl, b13⟩
set_option maxHeartbeats 4000000 in
set_option maxRecDepth 100000 in
theorem way_plain_noW (s ab cb : ByteArray) (hb : (s.size : Int) ≤ 65536) (Q : Value → World → Prop) (w : World)
    (HC : Hid (Calls Tryz.prog 30 #[.string s, .string ⟨#[44, 32]⟩] w fun e w' => e = .returned (.tuple #[.string ab, .string cb, .bool false]) ∧ Drawn w w'))
    (HS : Hid (∀ w', Below w.heap.size w w' → Calls Tryz.prog 120 #[.string s, .string ⟨#[32]⟩] w' fun e w'' => ∃ v, e = .returned v ∧ Below w'.heap.size w' w'' ∧ Q v w''))
    (HW : Hid (∀ w' v, Below w.heap.size w w' → Q v w' → Calls Tryz.prog 119 #[v] w' fun e w'' => e = .returned (.tuple #[.agg #[.int .i64 0, .int .i64 0, .int .i64 0, .int .i64 0, .int .i64 0, .int .i64 0], .string ⟨#[]⟩, .bool false]) ∧ Below w'.heap.size w' w''))
    : Calls Tryz.prog 68 #[.string s] w fun e w' => e = .returned (.tuple #[.int .i64 0, .int .i64 3]) ∧ Below w.heap.size w w' := by
  go_enter Tryz.func68, Tryz.ntmps68
  go_wp2_with fail
  refine HC.out.mono ?_
  rintro e w1 ⟨rfl, dr1⟩
  have b1 := drawn_below dr1
  clear dr1 HC
  go_wp2_with fail
  refine (HS.out _ b1).mono ?_
  rintro e w2 ⟨v, rfl, b2, hq⟩
  have b3 := b1.trans (b2.mono b1.size)
  clear HS b1 b2
  go_wp2_with fail
  refine (HW.out _ v b3 hq).mono ?_
  rintro e w3 ⟨rfl, b4⟩
  have b5 := b3.trans (b4.mono b3.size)
  clear b3 b4 HW hq
  go_wp2
  go_ret2
  exact ⟨rfl, b5.alloc b5.size _⟩
set_option maxHeartbeats 4000000 in
set_option maxRecDepth 100000 in
theorem way_plain_notOk (s ab cb : ByteArray) (hb : (s.size : Int) ≤ 65536) (Q : Value → World → Prop) (w : World)
    (zb : ByteArray) (y m d h i sc : Int)
    (HC : Hid (Calls Tryz.prog 30 #[.string s, .string ⟨#[44, 32]⟩] w fun e w' => e = .returned (.tuple #[.string ab, .string cb, .bool false]) ∧ Drawn w w'))
    (HS : Hid (∀ w', Below w.heap.size w w' → Calls Tryz.prog 120 #[.string s, .string ⟨#[32]⟩] w' fun e w'' => ∃ v, e = .returned v ∧ Below w'.heap.size w' w'' ∧ Q v w''))
    (HW : Hid (∀ w' v, Below w.heap.size w w' → Q v w' → Calls Tryz.prog 119 #[v] w' fun e w'' => e = .returned (.tuple #[.agg #[.int .i64 y, .int .i64 m, .int .i64 d, .int .i64 h, .int .i64 i, .int .i64 sc], .string zb, .bool true]) ∧ Below w'.heap.size w' w''))
    (K : Hid (¬ Ok y m d h i sc))
    : Calls Tryz.prog 68 #[.string s] w fun e w' => e = .returned (.tuple #[.int .i64 0, .int .i64 3]) ∧ Below w.heap.size w w' := by
  go_enter Tryz.func68, Tryz.ntmps68
  go_wp2_with fail
  refine HC.out.mono ?_
  rintro e w1 ⟨rfl, dr1⟩
  have b1 := drawn_below dr1
  clear dr1 HC
  go_wp2_with fail
  refine (HS.out _ b1).mono ?_
  rintro e w2 ⟨v, rfl, b2, hq⟩
  have b3 := b1.trans (b2.mono b1.size)
  clear HS b1 b2
  go_wp2_with fail
  refine (HW.out _ v b3 hq).mono ?_
  rintro e w3 ⟨rfl, b4⟩
  have b5 := b3.trans (b4.mono b3.size)
  clear b3 b4 HW hq
  go_wp2_with fail
  have LC := dw.lies_new w3 y m d h i sc
  have b6 := b5.alloc b5.size (.cells #[.int .i64 y, .int .i64 m, .int .i64 d, .int .i64 h, .int .i64 i, .int .i64 sc] 99)
  generalize w3.alloc _ = w4 at LC b6 ⊢
  clear b5
  have c0 := LC.c0
  have c1 := LC.c1
  have c2 := LC.c2
  have c3 := LC.c3
  have c4 := LC.c4
  have c5 := LC.c5
  go_wp2_with fail
  refine (dw.impl_ok y m d h i sc _).mono ?_
  rintro e w5 ⟨t, rfl, ht, b7⟩
  have L5 := LC.below b7
  have b8 := b6.trans (b7.mono b6.size)
  clear c0 c1 c2 c3 c4 c5 b6 b7 LC
  obtain rfl : t = false := by
    cases t
    · rfl
    · exact absurd (ht.1 rfl) K.out
  clear ht L5
  go_wp2
  go_ret2
  exact ⟨rfl, b8⟩
set_option maxHeartbeats 4000000 in
set_option maxRecDepth 100000 in
theorem way_plain_GMT (s ab cb : ByteArray) (hb : (s.size : Int) ≤ 65536) (Q : Value → World → Prop) (w : World)
    (zb : ByteArray) (y m d h i sc : Int)
    (HC : Hid (Calls Tryz.prog 30 #[.string s, .string ⟨#[44, 32]⟩] w fun e w' => e = .returned (.tuple #[.string ab, .string cb, .bool false]) ∧ Drawn w w'))
    (HS : Hid (∀ w', Below w.heap.size w w' → Calls Tryz.prog 120 #[.string s, .string ⟨#[32]⟩] w' fun e w'' => ∃ v, e = .returned v ∧ Below w'.heap.size w' w'' ∧ Q v w''))
    (HW : Hid (∀ w' v, Below w.heap.size w w' → Q v w' → Calls Tryz.prog 119 #[v] w' fun e w'' => e = .returned (.tuple #[.agg #[.int .i64 y, .int .i64 m, .int .i64 d, .int .i64 h, .int .i64 i, .int .i64 sc], .string zb, .bool true]) ∧ Below w'.heap.size w' w''))
    (K : Hid (Ok y m d h i sc))
    (dz1 : (zb.toList == [71, 77, 84]) = true)
    (x c : Int) (HI : Hid (∀ w, Calls Tryz.prog 124 #[.agg #[.int .i64 y, .int .i64 m, .int .i64 d, .int .i64 h, .int .i64 i, .int .i64 sc], .int .i64 0] w fun e w' => e = .returned (.tuple #[.int .i64 x, .int .i64 c]) ∧ Below w.heap.size w w'))
    : Calls Tryz.prog 68 #[.string s] w fun e w' => e = .returned (.tuple #[.int .i64 x, .int .i64 c]) ∧ Below w.heap.size w w' := by
  go_enter Tryz.func68, Tryz.ntmps68
  go_wp2_with fail
  refine HC.out.mono ?_
  rintro e w1 ⟨rfl, dr1⟩
  have b1 := drawn_below dr1
  clear dr1 HC
  go_wp2_with fail
  refine (HS.out _ b1).mono ?_
  rintro e w2 ⟨v, rfl, b2, hq⟩
  have b3 := b1.trans (b2.mono b1.size)
  clear HS b1 b2
  go_wp2_with fail
  refine (HW.out _ v b3 hq).mono ?_
  rintro e w3 ⟨rfl, b4⟩
  have b5 := b3.trans (b4.mono b3.size)
  clear b3 b4 HW hq
  go_wp2_with fail
  have LC := dw.lies_new w3 y m d h i sc
  have b6 := b5.alloc b5.size (.cells #[.int .i64 y, .int .i64 m, .int .i64 d, .int .i64 h, .int .i64 i, .int .i64 sc] 99)
  generalize w3.alloc _ = w4 at LC b6 ⊢
  clear b5
  have c0 := LC.c0
  have c1 := LC.c1
  have c2 := LC.c2
  have c3 := LC.c3
  have c4 := LC.c4
  have c5 := LC.c5
  go_wp2_with fail
  refine (dw.impl_ok y m d h i sc _).mono ?_
  rintro e w5 ⟨t, rfl, ht, b7⟩
  have L5 := LC.below b7
  have b8 := b6.trans (b7.mono b6.size)
  clear c0 c1 c2 c3 c4 c5 b6 b7 LC
  obtain rfl : t = true := ht.2 K.out
  clear ht
  have L6 := L5
  have b10 := b8
  clear L5 b8
  have L7 := L6
  have b11 := b10
  clear L6 b10
  have c0 := L7.c0
  have c1 := L7.c1
  have c2 := L7.c2
  have c3 := L7.c3
  have c4 := L7.c4
  have c5 := L7.c5
  go_wp2_with fail
  refine (HI.out _).mono ?_
  rintro e w8 ⟨rfl, b12⟩
  have b13 := b11.trans (b12.mono b11.size)
  clear c0 c1 c2 c3 c4 c5 L7 b11 b12 HI
  go_wp2
  go_ret2
  exact ⟨rfl, b13⟩
set_option maxHeartbeats 4000000 in
set_option maxRecDepth 100000 in
theorem way_plain_UT (s ab cb : ByteArray) (hb : (s.size : Int) ≤ 65536) (Q : Value → World → Prop) (w : World)
    (zb : ByteArray) (y m d h i sc : Int)
    (HC : Hid (Calls Tryz.prog 30 #[.string s, .string ⟨#[44, 32]⟩] w fun e w' => e = .returned (.tuple #[.string ab, .string cb, .bool false]) ∧ Drawn w w'))
    (HS : Hid (∀ w', Below w.heap.size w w' → Calls Tryz.prog 120 #[.string s, .string ⟨#[32]⟩] w' fun e w'' => ∃ v, e = .returned v ∧ Below w'.heap.size w' w'' ∧ Q v w''))
    (HW : Hid (∀ w' v, Below w.heap.size w w' → Q v w' → Calls Tryz.prog 119 #[v] w' fun e w'' => e = .returned (.tuple #[.agg #[.int .i64 y, .int .i64 m, .int .i64 d, .int .i64 h, .int .i64 i, .int .i64 sc], .string zb, .bool true]) ∧ Below w'.heap.size w' w''))
    (K : Hid (Ok y m d h i sc))
    (dz1 : (zb.toList == [71, 77, 84]) = false) (dz2 : (zb.toList == [85, 84]) = true)
    (x c : Int) (HI : Hid (∀ w, Calls Tryz.prog 124 #[.agg #[.int .i64 y, .int .i64 m, .int .i64 d, .int .i64 h, .int .i64 i, .int .i64 sc], .int .i64 0] w fun e w' => e = .returned (.tuple #[.int .i64 x, .int .i64 c]) ∧ Below w.heap.size w w'))
    : Calls Tryz.prog 68 #[.string s] w fun e w' => e = .returned (.tuple #[.int .i64 x, .int .i64 c]) ∧ Below w.heap.size w w' := by
  go_enter Tryz.func68, Tryz.ntmps68
  go_wp2_with fail
  refine HC.out.mono ?_
  rintro e w1 ⟨rfl, dr1⟩
  have b1 := drawn_below dr1
  clear dr1 HC
  go_wp2_with fail
  refine (HS.out _ b1).mono ?_
  rintro e w2 ⟨v, rfl, b2, hq⟩
  have b3 := b1.trans (b2.mono b1.size)
  clear HS b1 b2
  go_wp2_with fail
  refine (HW.out _ v b3 hq).mono ?_
  rintro e w3 ⟨rfl, b4⟩
  have b5 := b3.trans (b4.mono b3.size)
  clear b3 b4 HW hq
  go_wp2_with fail
  have LC := dw.lies_new w3 y m d h i sc
  have b6 := b5.alloc b5.size (.cells #[.int .i64 y, .int .i64 m, .int .i64 d, .int .i64 h, .int .i64 i, .int .i64 sc] 99)
  generalize w3.alloc _ = w4 at LC b6 ⊢
  clear b5
  have c0 := LC.c0
  have c1 := LC.c1
  have c2 := LC.c2
  have c3 := LC.c3
  have c4 := LC.c4
  have c5 := LC.c5
  go_wp2_with fail
  refine (dw.impl_ok y m d h i sc _).mono ?_
  rintro e w5 ⟨t, rfl, ht, b7⟩
  have L5 := LC.below b7
  have b8 := b6.trans (b7.mono b6.size)
  clear c0 c1 c2 c3 c4 c5 b6 b7 LC
  obtain rfl : t = true := ht.2 K.out
  clear ht
  have L6 := L5
  have b10 := b8
  clear L5 b8
  have L7 := L6
  have b11 := b10
  clear L6 b10
  have c0 := L7.c0
  have c1 := L7.c1
  have c2 := L7.c2
  have c3 := L7.c3
  have c4 := L7.c4
  have c5 := L7.c5
  go_wp2_with fail
  refine (HI.out _).mono ?_
  rintro e w8 ⟨rfl, b12⟩
  have b13 := b11.trans (b12.mono b11.size)
  clear c0 c1 c2 c3 c4 c5 L7 b11 b12 HI
  go_wp2
  go_ret2
  exact ⟨rfl, b13⟩
set_option maxHeartbeats 4000000 in
set_option maxRecDepth 100000 in
theorem way_plain_none (s ab cb : ByteArray) (hb : (s.size : Int) ≤ 65536) (Q : Value → World → Prop) (w : World)
    (zb : ByteArray) (y m d h i sc : Int)
    (HC : Hid (Calls Tryz.prog 30 #[.string s, .string ⟨#[44, 32]⟩] w fun e w' => e = .returned (.tuple #[.string ab, .string cb, .bool false]) ∧ Drawn w w'))
    (HS : Hid (∀ w', Below w.heap.size w w' → Calls Tryz.prog 120 #[.string s, .string ⟨#[32]⟩] w' fun e w'' => ∃ v, e = .returned v ∧ Below w'.heap.size w' w'' ∧ Q v w''))
    (HW : Hid (∀ w' v, Below w.heap.size w w' → Q v w' → Calls Tryz.prog 119 #[v] w' fun e w'' => e = .returned (.tuple #[.agg #[.int .i64 y, .int .i64 m, .int .i64 d, .int .i64 h, .int .i64 i, .int .i64 sc], .string zb, .bool true]) ∧ Below w'.heap.size w' w''))
    (K : Hid (Ok y m d h i sc))
    (dz1 : (zb.toList == [71, 77, 84]) = false) (dz2 : (zb.toList == [85, 84]) = false)
    (HZ : Hid (∀ w, Calls Tryz.prog 123 #[.string zb, .string ⟨#[48, 48, 48, 48]⟩] w fun e w' => e = .returned (.tuple #[.int .i64 0, .bool false]) ∧ Drawn w w'))
    : Calls Tryz.prog 68 #[.string s] w fun e w' => e = .returned (.tuple #[.int .i64 0, .int .i64 3]) ∧ Below w.heap.size w w' := by
  go_enter Tryz.func68, Tryz.ntmps68
  go_wp2_with fail
  refine HC.out.mono ?_
  rintro e w1 ⟨rfl, dr1⟩
  have b1 := drawn_below dr1
  clear dr1 HC
  go_wp2_with fail
  refine (HS.out _ b1).mono ?_
  rintro e w2 ⟨v, rfl, b2, hq⟩
  have b3 := b1.trans (b2.mono b1.size)
  clear HS b1 b2
  go_wp2_with fail
  refine (HW.out _ v b3 hq).mono ?_
  rintro e w3 ⟨rfl, b4⟩
  have b5 := b3.trans (b4.mono b3.size)
  clear b3 b4 HW hq
  go_wp2_with fail
  have LC := dw.lies_new w3 y m d h i sc
  have b6 := b5.alloc b5.size (.cells #[.int .i64 y, .int .i64 m, .int .i64 d, .int .i64 h, .int .i64 i, .int .i64 sc] 99)
  generalize w3.alloc _ = w4 at LC b6 ⊢
  clear b5
  have c0 := LC.c0
  have c1 := LC.c1
  have c2 := LC.c2
  have c3 := LC.c3
  have c4 := LC.c4
  have c5 := LC.c5
  go_wp2_with fail
  refine (dw.impl_ok y m d h i sc _).mono ?_
  rintro e w5 ⟨t, rfl, ht, b7⟩
  have L5 := LC.below b7
  have b8 := b6.trans (b7.mono b6.size)
  clear c0 c1 c2 c3 c4 c5 b6 b7 LC
  obtain rfl : t = true := ht.2 K.out
  clear ht
  have L6 := L5
  have b10 := b8
  clear L5 b8
  go_wp2_with fail
  refine (HZ.out _).mono ?_
  rintro e w7 ⟨rfl, dr⟩
  have L7 := L6.below (drawn_below dr)
  have b11 := b10.trans ((drawn_below dr).mono b10.size)
  clear L6 b10 dr HZ
  clear L7
  go_wp2
  go_ret2
  exact ⟨rfl, b11⟩
set_option maxHeartbeats 4000000 in
set_option maxRecDepth 100000 in
theorem way_plain_some (s ab cb : ByteArray) (hb : (s.size : Int) ≤ 65536) (Q : Value → World → Prop) (w : World)
    (zb : ByteArray) (y m d h i sc : Int)
    (HC : Hid (Calls Tryz.prog 30 #[.string s, .string ⟨#[44, 32]⟩] w fun e w' => e = .returned (.tuple #[.string ab, .string cb, .bool false]) ∧ Drawn w w'))
    (HS : Hid (∀ w', Below w.heap.size w w' → Calls Tryz.prog 120 #[.string s, .string ⟨#[32]⟩] w' fun e w'' => ∃ v, e = .returned v ∧ Below w'.heap.size w' w'' ∧ Q v w''))
    (HW : Hid (∀ w' v, Below w.heap.size w w' → Q v w' → Calls Tryz.prog 119 #[v] w' fun e w'' => e = .returned (.tuple #[.agg #[.int .i64 y, .int .i64 m, .int .i64 d, .int .i64 h, .int .i64 i, .int .i64 sc], .string zb, .bool true]) ∧ Below w'.heap.size w' w''))
    (K : Hid (Ok y m d h i sc))
    (dz1 : (zb.toList == [71, 77, 84]) = false) (dz2 : (zb.toList == [85, 84]) = false)
    (a : Int)
    (HZ : Hid (∀ w, Calls Tryz.prog 123 #[.string zb, .string ⟨#[48, 48, 48, 48]⟩] w fun e w' => e = .returned (.tuple #[.int .i64 a, .bool true]) ∧ Drawn w w'))
    (x c : Int) (HI : Hid (∀ w, Calls Tryz.prog 124 #[.agg #[.int .i64 y, .int .i64 m, .int .i64 d, .int .i64 h, .int .i64 i, .int .i64 sc], .int .i64 a] w fun e w' => e = .returned (.tuple #[.int .i64 x, .int .i64 c]) ∧ Below w.heap.size w w'))
    : Calls Tryz.prog 68 #[.string s] w fun e w' => e = .returned (.tuple #[.int .i64 x, .int .i64 c]) ∧ Below w.heap.size w w' := by
  go_enter Tryz.func68, Tryz.ntmps68
  go_wp2_with fail
  refine HC.out.mono ?_
  rintro e w1 ⟨rfl, dr1⟩
  have b1 := drawn_below dr1
  clear dr1 HC
  go_wp2_with fail
  refine (HS.out _ b1).mono ?_
  rintro e w2 ⟨v, rfl, b2, hq⟩
  have b3 := b1.trans (b2.mono b1.size)
  clear HS b1 b2
  go_wp2_with fail
  refine (HW.out _ v b3 hq).mono ?_
  rintro e w3 ⟨rfl, b4⟩
  have b5 := b3.trans (b4.mono b3.size)
  clear b3 b4 HW hq
  go_wp2_with fail
  have LC := dw.lies_new w3 y m d h i sc
  have b6 := b5.alloc b5.size (.cells #[.int .i64 y, .int .i64 m, .int .i64 d, .int .i64 h, .int .i64 i, .int .i64 sc] 99)
  generalize w3.alloc _ = w4 at LC b6 ⊢
  clear b5
  have c0 := LC.c0
  have c1 := LC.c1
  have c2 := LC.c2
  have c3 := LC.c3
  have c4 := LC.c4
  have c5 := LC.c5
  go_wp2_with fail
  refine (dw.impl_ok y m d h i sc _).mono ?_
  rintro e w5 ⟨t, rfl, ht, b7⟩
  have L5 := LC.below b7
  have b8 := b6.trans (b7.mono b6.size)
  clear c0 c1 c2 c3 c4 c5 b6 b7 LC
  obtain rfl : t = true := ht.2 K.out
  clear ht
  have L6 := L5
  have b10 := b8
  clear L5 b8
  go_wp2_with fail
  refine (HZ.out _).mono ?_
  rintro e w7 ⟨rfl, dr⟩
  have L7 := L6.below (drawn_below dr)
  have b11 := b10.trans ((drawn_below dr).mono b10.size)
  clear L6 b10 dr HZ
  have c0 := L7.c0
  have c1 := L7.c1
  have c2 := L7.c2
  have c3 := L7.c3
  have c4 := L7.c4
  have c5 := L7.c5
  go_wp2_with fail
  refine (HI.out _).mono ?_
  rintro e w8 ⟨rfl, b12⟩
  have b13 := b11.trans (b12.mono b11.size)
  clear c0 c1 c2 c3 c4 c5 L7 b11 b12 HI
  go_wp2
  go_ret2
  exact ⟨rfl, b13⟩
end Go.Proofs.YtadfdfmebdcfgaaGreatDoor.rd
