/-
  The contract of the specification's reader of one rune: it answers what the model's decoding gives.
  Contracts of impl.isRight and of the specification's ValidText: whether a text is right, and of at most 65536 bytes.
-/
import Derived.Test.YtmckekflpdaklaaGreatDoorPkab
import Derived.Test.YtmckekflpdaklaaGreatDoorPkaa
import Derived.Test.YtmckekflpdaklaaGreatDoorRows
import Derived.WalkKit
import Derived.WalkLawsBesides

namespace Go.Proofs.YtmckekflpdaklaaGreatDoor.ut
open Go.RowKit
set_option linter.unusedVariables false

set_option maxHeartbeats 1000000 in
set_option maxRecDepth 100000 in
theorem rune_3a (s : ByteArray) (k : Nat) (w : World) (hs : s.size ≤ 1048576) (hk : k < s.size) (b : 224 ≤ ((s[k]'hk).toNat : Int)) (b2 : ((s[k]'hk).toNat : Int) ≤ 239) (h1 : k + 1 < s.size) (h2 : k + 2 < s.size) (c1 : 128 ≤ ((s[k + 1]'h1).toNat : Int)) (c1' : ((s[k + 1]'h1).toNat : Int) ≤ 191) (c2 : 128 ≤ ((s[k + 2]'h2).toNat : Int)) (c2' : ((s[k + 2]'h2).toNat : Int) ≤ 191) (g : (((((s[k]'hk).toNat : Int) - 224) * 64 + ((s[k + 1]'h1).toNat : Int) - 128) * 64 + ((s[k + 2]'h2).toNat : Int) - 128) < 2048) :
    Calls Tryz.prog 73 #[.string s, .int .i64 k] w fun e w' => RuneRet s k e ∧ w' = w := by
  have u0 : ((s[k]'hk).toNat : Int) ≤ 255 := by have := UInt8.toNat_lt (s[k]'hk); omega
  have u1 : ((s[k + 1]'h1).toNat : Int) ≤ 255 := by have := UInt8.toNat_lt (s[k + 1]'h1); omega
  have u2 : ((s[k + 2]'h2).toNat : Int) ≤ 255 := by have := UInt8.toNat_lt (s[k + 2]'h2); omega
  go_enter Tryz.func73, Tryz.ntmps73
  go_wp2_with (first | go_in)
  refine wp_loop_rounds 3 ?_
  rw [rounds_succ]
  go_wp2_with (first | go_in)
  rw [rounds_succ]
  go_wp2_with (first | go_in)
  rw [rounds_succ]
  go_wp2_with (first | go_in)
  all_goals go_ret3
  all_goals exact ⟨r_bad (b_size3 hk h1 h2 b b2 c1 c1' c2 c2' (by omega)), rfl⟩
set_option maxHeartbeats 1000000 in
set_option maxRecDepth 100000 in
theorem rune_3b (s : ByteArray) (k : Nat) (w : World) (hs : s.size ≤ 1048576) (hk : k < s.size) (b : 224 ≤ ((s[k]'hk).toNat : Int)) (b2 : ((s[k]'hk).toNat : Int) ≤ 239) (h1 : k + 1 < s.size) (h2 : k + 2 < s.size) (c1 : 128 ≤ ((s[k + 1]'h1).toNat : Int)) (c1' : ((s[k + 1]'h1).toNat : Int) ≤ 191) (c2 : 128 ≤ ((s[k + 2]'h2).toNat : Int)) (c2' : ((s[k + 2]'h2).toNat : Int) ≤ 191) (g : 2048 ≤ (((((s[k]'hk).toNat : Int) - 224) * 64 + ((s[k + 1]'h1).toNat : Int) - 128) * 64 + ((s[k + 2]'h2).toNat : Int) - 128)) (g2 : (((((s[k]'hk).toNat : Int) - 224) * 64 + ((s[k + 1]'h1).toNat : Int) - 128) * 64 + ((s[k + 2]'h2).toNat : Int) - 128) ≤ 55295) :
    Calls Tryz.prog 73 #[.string s, .int .i64 k] w fun e w' => RuneRet s k e ∧ w' = w := by
  have u0 : ((s[k]'hk).toNat : Int) ≤ 255 := by have := UInt8.toNat_lt (s[k]'hk); omega
  have u1 : ((s[k + 1]'h1).toNat : Int) ≤ 255 := by have := UInt8.toNat_lt (s[k + 1]'h1); omega
  have u2 : ((s[k + 2]'h2).toNat : Int) ≤ 255 := by have := UInt8.toNat_lt (s[k + 2]'h2); omega
  go_enter Tryz.func73, Tryz.ntmps73
  go_wp2_with (first | go_in)
  refine wp_loop_rounds 3 ?_
  rw [rounds_succ]
  go_wp2_with (first | go_in)
  rw [rounds_succ]
  go_wp2_with (first | go_in)
  rw [rounds_succ]
  go_wp2_with (first | go_in)
  all_goals go_ret3
  all_goals exact ⟨r_ok3 hk h1 h2 b b2 c1 c1' c2 c2' (by omega) (by omega), rfl⟩
set_option maxHeartbeats 1000000 in
set_option maxRecDepth 100000 in
theorem rune_3c (s : ByteArray) (k : Nat) (w : World) (hs : s.size ≤ 1048576) (hk : k < s.size) (b : 224 ≤ ((s[k]'hk).toNat : Int)) (b2 : ((s[k]'hk).toNat : Int) ≤ 239) (h1 : k + 1 < s.size) (h2 : k + 2 < s.size) (c1 : 128 ≤ ((s[k + 1]'h1).toNat : Int)) (c1' : ((s[k + 1]'h1).toNat : Int) ≤ 191) (c2 : 128 ≤ ((s[k + 2]'h2).toNat : Int)) (c2' : ((s[k + 2]'h2).toNat : Int) ≤ 191) (g : 55295 < (((((s[k]'hk).toNat : Int) - 224) * 64 + ((s[k + 1]'h1).toNat : Int) - 128) * 64 + ((s[k + 2]'h2).toNat : Int) - 128)) (g2 : (((((s[k]'hk).toNat : Int) - 224) * 64 + ((s[k + 1]'h1).toNat : Int) - 128) * 64 + ((s[k + 2]'h2).toNat : Int) - 128) < 57344) :
    Calls Tryz.prog 73 #[.string s, .int .i64 k] w fun e w' => RuneRet s k e ∧ w' = w := by
  have u0 : ((s[k]'hk).toNat : Int) ≤ 255 := by have := UInt8.toNat_lt (s[k]'hk); omega
  have u1 : ((s[k + 1]'h1).toNat : Int) ≤ 255 := by have := UInt8.toNat_lt (s[k + 1]'h1); omega
  have u2 : ((s[k + 2]'h2).toNat : Int) ≤ 255 := by have := UInt8.toNat_lt (s[k + 2]'h2); omega
  have x16411 : decide ((((((s[k]'hk).toNat : Int) - 224) * 64 + ((s[k + 1]'h1).toNat : Int) - 128) * 64 + ((s[k + 2]'h2).toNat : Int) - 128) ≤ 55295) = false := decide_eq_false (by omega)
  have x16408 : decide (57344 ≤ (((((s[k]'hk).toNat : Int) - 224) * 64 + ((s[k + 1]'h1).toNat : Int) - 128) * 64 + ((s[k + 2]'h2).toNat : Int) - 128)) = false := decide_eq_false (by omega)
  go_enter Tryz.func73, Tryz.ntmps73
  go_wp2_with (first | go_in)
  refine wp_loop_rounds 3 ?_
  rw [rounds_succ]
  go_wp2_with (first | go_in)
  rw [rounds_succ]
  go_wp2_with (first | go_in)
  rw [rounds_succ]
  go_wp2_with (first | go_in)
  all_goals go_ret3
  all_goals exact ⟨r_bad (b_size3 hk h1 h2 b b2 c1 c1' c2 c2' (by omega)), rfl⟩
set_option maxHeartbeats 1000000 in
set_option maxRecDepth 100000 in
theorem rune_3d (s : ByteArray) (k : Nat) (w : World) (hs : s.size ≤ 1048576) (hk : k < s.size) (b : 224 ≤ ((s[k]'hk).toNat : Int)) (b2 : ((s[k]'hk).toNat : Int) ≤ 239) (h1 : k + 1 < s.size) (h2 : k + 2 < s.size) (c1 : 128 ≤ ((s[k + 1]'h1).toNat : Int)) (c1' : ((s[k + 1]'h1).toNat : Int) ≤ 191) (c2 : 128 ≤ ((s[k + 2]'h2).toNat : Int)) (c2' : ((s[k + 2]'h2).toNat : Int) ≤ 191) (g : 57344 ≤ (((((s[k]'hk).toNat : Int) - 224) * 64 + ((s[k + 1]'h1).toNat : Int) - 128) * 64 + ((s[k + 2]'h2).toNat : Int) - 128)) :
    Calls Tryz.prog 73 #[.string s, .int .i64 k] w fun e w' => RuneRet s k e ∧ w' = w := by
  have u0 : ((s[k]'hk).toNat : Int) ≤ 255 := by have := UInt8.toNat_lt (s[k]'hk); omega
  have u1 : ((s[k + 1]'h1).toNat : Int) ≤ 255 := by have := UInt8.toNat_lt (s[k + 1]'h1); omega
  have u2 : ((s[k + 2]'h2).toNat : Int) ≤ 255 := by have := UInt8.toNat_lt (s[k + 2]'h2); omega
  have x16411 : decide ((((((s[k]'hk).toNat : Int) - 224) * 64 + ((s[k + 1]'h1).toNat : Int) - 128) * 64 + ((s[k + 2]'h2).toNat : Int) - 128) ≤ 55295) = false := decide_eq_false (by omega)
  have y16491 : decide ((((((s[k]'hk).toNat : Int) - 224) * 64 + ((s[k + 1]'h1).toNat : Int) - 128) * 64 + ((s[k + 2]'h2).toNat : Int) - 128) ≤ 1114111) = true := decide_eq_true (by omega)
  go_enter Tryz.func73, Tryz.ntmps73
  go_wp2_with (first | go_in)
  refine wp_loop_rounds 3 ?_
  rw [rounds_succ]
  go_wp2_with (first | go_in)
  rw [rounds_succ]
  go_wp2_with (first | go_in)
  rw [rounds_succ]
  go_wp2_with (first | go_in)
  all_goals go_ret3
  all_goals exact ⟨r_ok3 hk h1 h2 b b2 c1 c1' c2 c2' (by omega) (by omega), rfl⟩
set_option maxHeartbeats 1000000 in
set_option maxRecDepth 100000 in
theorem rune_4a (s : ByteArray) (k : Nat) (w : World) (hs : s.size ≤ 1048576) (hk : k < s.size) (b : 240 ≤ ((s[k]'hk).toNat : Int)) (b2 : ((s[k]'hk).toNat : Int) ≤ 244) (h1 : k + 1 < s.size) (h2 : k + 2 < s.size) (h3 : k + 3 < s.size) (c1 : 128 ≤ ((s[k + 1]'h1).toNat : Int)) (c1' : ((s[k + 1]'h1).toNat : Int) ≤ 191) (c2 : 128 ≤ ((s[k + 2]'h2).toNat : Int)) (c2' : ((s[k + 2]'h2).toNat : Int) ≤ 191) (c3 : 128 ≤ ((s[k + 3]'h3).toNat : Int)) (c3' : ((s[k + 3]'h3).toNat : Int) ≤ 191) (g : ((((((s[k]'hk).toNat : Int) - 240) * 64 + ((s[k + 1]'h1).toNat : Int) - 128) * 64 + ((s[k + 2]'h2).toNat : Int) - 128) * 64 + ((s[k + 3]'h3).toNat : Int) - 128) < 65536) :
    Calls Tryz.prog 73 #[.string s, .int .i64 k] w fun e w' => RuneRet s k e ∧ w' = w := by
  have u0 : ((s[k]'hk).toNat : Int) ≤ 255 := by have := UInt8.toNat_lt (s[k]'hk); omega
  have u1 : ((s[k + 1]'h1).toNat : Int) ≤ 255 := by have := UInt8.toNat_lt (s[k + 1]'h1); omega
  have u2 : ((s[k + 2]'h2).toNat : Int) ≤ 255 := by have := UInt8.toNat_lt (s[k + 2]'h2); omega
  have u3 : ((s[k + 3]'h3).toNat : Int) ≤ 255 := by have := UInt8.toNat_lt (s[k + 3]'h3); omega
  go_enter Tryz.func73, Tryz.ntmps73
  go_wp2_with (first | go_in)
  refine wp_loop_rounds 4 ?_
  rw [rounds_succ]
  go_wp2_with (first | go_in)
  rw [rounds_succ]
  go_wp2_with (first | go_in)
  rw [rounds_succ]
  go_wp2_with (first | go_in)
  rw [rounds_succ]
  go_wp2_with (first | go_in)
  all_goals go_ret3
  all_goals exact ⟨r_bad (b_size4 hk h1 h2 h3 b b2 c1 c1' c2 c2' c3 c3' (by omega)), rfl⟩
set_option maxHeartbeats 1000000 in
set_option maxRecDepth 100000 in
theorem rune_4b (s : ByteArray) (k : Nat) (w : World) (hs : s.size ≤ 1048576) (hk : k < s.size) (b : 240 ≤ ((s[k]'hk).toNat : Int)) (b2 : ((s[k]'hk).toNat : Int) ≤ 244) (h1 : k + 1 < s.size) (h2 : k + 2 < s.size) (h3 : k + 3 < s.size) (c1 : 128 ≤ ((s[k + 1]'h1).toNat : Int)) (c1' : ((s[k + 1]'h1).toNat : Int) ≤ 191) (c2 : 128 ≤ ((s[k + 2]'h2).toNat : Int)) (c2' : ((s[k + 2]'h2).toNat : Int) ≤ 191) (c3 : 128 ≤ ((s[k + 3]'h3).toNat : Int)) (c3' : ((s[k + 3]'h3).toNat : Int) ≤ 191) (g : 65536 ≤ ((((((s[k]'hk).toNat : Int) - 240) * 64 + ((s[k + 1]'h1).toNat : Int) - 128) * 64 + ((s[k + 2]'h2).toNat : Int) - 128) * 64 + ((s[k + 3]'h3).toNat : Int) - 128)) (g2 : ((((((s[k]'hk).toNat : Int) - 240) * 64 + ((s[k + 1]'h1).toNat : Int) - 128) * 64 + ((s[k + 2]'h2).toNat : Int) - 128) * 64 + ((s[k + 3]'h3).toNat : Int) - 128) ≤ 1114111) :
    Calls Tryz.prog 73 #[.string s, .int .i64 k] w fun e w' => RuneRet s k e ∧ w' = w := by
  have u0 : ((s[k]'hk).toNat : Int) ≤ 255 := by have := UInt8.toNat_lt (s[k]'hk); omega
  have u1 : ((s[k + 1]'h1).toNat : Int) ≤ 255 := by have := UInt8.toNat_lt (s[k + 1]'h1); omega
  have u2 : ((s[k + 2]'h2).toNat : Int) ≤ 255 := by have := UInt8.toNat_lt (s[k + 2]'h2); omega
  have u3 : ((s[k + 3]'h3).toNat : Int) ≤ 255 := by have := UInt8.toNat_lt (s[k + 3]'h3); omega
  have x18978 : decide (((((((s[k]'hk).toNat : Int) - 240) * 64 + ((s[k + 1]'h1).toNat : Int) - 128) * 64 + ((s[k + 2]'h2).toNat : Int) - 128) * 64 + ((s[k + 3]'h3).toNat : Int) - 128) ≤ 55295) = false := decide_eq_false (by omega)
  have y19058 : decide (((((((s[k]'hk).toNat : Int) - 240) * 64 + ((s[k + 1]'h1).toNat : Int) - 128) * 64 + ((s[k + 2]'h2).toNat : Int) - 128) * 64 + ((s[k + 3]'h3).toNat : Int) - 128) ≤ 1114111) = true := decide_eq_true (by omega)
  go_enter Tryz.func73, Tryz.ntmps73
  go_wp2_with (first | go_in)
  refine wp_loop_rounds 4 ?_
  rw [rounds_succ]
  go_wp2_with (first | go_in)
  rw [rounds_succ]
  go_wp2_with (first | go_in)
  rw [rounds_succ]
  go_wp2_with (first | go_in)
  rw [rounds_succ]
  go_wp2_with (first | go_in)
  all_goals go_ret3
  all_goals exact ⟨r_ok4 hk h1 h2 h3 b b2 c1 c1' c2 c2' c3 c3' (by omega) (by omega), rfl⟩
set_option maxHeartbeats 1000000 in
set_option maxRecDepth 100000 in
theorem rune_4c (s : ByteArray) (k : Nat) (w : World) (hs : s.size ≤ 1048576) (hk : k < s.size) (b : 240 ≤ ((s[k]'hk).toNat : Int)) (b2 : ((s[k]'hk).toNat : Int) ≤ 244) (h1 : k + 1 < s.size) (h2 : k + 2 < s.size) (h3 : k + 3 < s.size) (c1 : 128 ≤ ((s[k + 1]'h1).toNat : Int)) (c1' : ((s[k + 1]'h1).toNat : Int) ≤ 191) (c2 : 128 ≤ ((s[k + 2]'h2).toNat : Int)) (c2' : ((s[k + 2]'h2).toNat : Int) ≤ 191) (c3 : 128 ≤ ((s[k + 3]'h3).toNat : Int)) (c3' : ((s[k + 3]'h3).toNat : Int) ≤ 191) (g : 1114111 < ((((((s[k]'hk).toNat : Int) - 240) * 64 + ((s[k + 1]'h1).toNat : Int) - 128) * 64 + ((s[k + 2]'h2).toNat : Int) - 128) * 64 + ((s[k + 3]'h3).toNat : Int) - 128)) :
    Calls Tryz.prog 73 #[.string s, .int .i64 k] w fun e w' => RuneRet s k e ∧ w' = w := by
  have u0 : ((s[k]'hk).toNat : Int) ≤ 255 := by have := UInt8.toNat_lt (s[k]'hk); omega
  have u1 : ((s[k + 1]'h1).toNat : Int) ≤ 255 := by have := UInt8.toNat_lt (s[k + 1]'h1); omega
  have u2 : ((s[k + 2]'h2).toNat : Int) ≤ 255 := by have := UInt8.toNat_lt (s[k + 2]'h2); omega
  have u3 : ((s[k + 3]'h3).toNat : Int) ≤ 255 := by have := UInt8.toNat_lt (s[k + 3]'h3); omega
  have x18978 : decide (((((((s[k]'hk).toNat : Int) - 240) * 64 + ((s[k + 1]'h1).toNat : Int) - 128) * 64 + ((s[k + 2]'h2).toNat : Int) - 128) * 64 + ((s[k + 3]'h3).toNat : Int) - 128) ≤ 55295) = false := decide_eq_false (by omega)
  have x19058 : decide (((((((s[k]'hk).toNat : Int) - 240) * 64 + ((s[k + 1]'h1).toNat : Int) - 128) * 64 + ((s[k + 2]'h2).toNat : Int) - 128) * 64 + ((s[k + 3]'h3).toNat : Int) - 128) ≤ 1114111) = false := decide_eq_false (by omega)
  go_enter Tryz.func73, Tryz.ntmps73
  go_wp2_with (first | go_in)
  refine wp_loop_rounds 4 ?_
  rw [rounds_succ]
  go_wp2_with (first | go_in)
  rw [rounds_succ]
  go_wp2_with (first | go_in)
  rw [rounds_succ]
  go_wp2_with (first | go_in)
  rw [rounds_succ]
  go_wp2_with (first | go_in)
  all_goals go_ret3
  all_goals exact ⟨r_bad (b_size4 hk h1 h2 h3 b b2 c1 c1' c2 c2' c3 c3' (by omega)), rfl⟩

theorem rune_any (s : ByteArray) (k : Nat) (w : World) (hs : s.size ≤ 1048576) (hk : k < s.size) :
    Calls Tryz.prog 73 #[.string s, .int .i64 k] w fun e w' => RuneRet s k e ∧ w' = w := by
  by_cases b1 : ((s[k]'hk).toNat : Int) < 128
  · exact rune_1 s k w hs hk b1
  by_cases b2 : ((s[k]'hk).toNat : Int) < 194
  · exact rune_lo s k w hs hk (by omega) b2
  by_cases b3 : 244 < ((s[k]'hk).toNat : Int)
  · exact rune_hi s k w hs hk b3
  by_cases b4 : ((s[k]'hk).toNat : Int) ≤ 223
  · by_cases hn : s.size < k + 2
    · exact rune_2s s k w hs hk (by omega) b4 hn
    have h1 : k + 1 < s.size := by omega
    by_cases x : ((s[k + 1]'h1).toNat : Int) < 128
    · exact rune_2c1lo s k w hs hk (by omega) b4 h1 x
    by_cases x' : 191 < ((s[k + 1]'h1).toNat : Int)
    · exact rune_2c1hi s k w hs hk (by omega) b4 h1 x'
    exact rune_2 s k w hs hk (by omega) b4 h1 (by omega) (by omega)
  by_cases b5 : ((s[k]'hk).toNat : Int) ≤ 239
  · by_cases hn : s.size < k + 3
    · exact rune_3s s k w hs hk (by omega) b5 hn
    have h1 : k + 1 < s.size := by omega
    have h2 : k + 2 < s.size := by omega
    by_cases x : ((s[k + 1]'h1).toNat : Int) < 128
    · exact rune_3c1lo s k w hs hk (by omega) b5 h1 h2 x
    by_cases x' : 191 < ((s[k + 1]'h1).toNat : Int)
    · exact rune_3c1hi s k w hs hk (by omega) b5 h1 h2 x'
    by_cases y : ((s[k + 2]'h2).toNat : Int) < 128
    · exact rune_3c2lo s k w hs hk (by omega) b5 h1 h2 (by omega) (by omega) y
    by_cases y' : 191 < ((s[k + 2]'h2).toNat : Int)
    · exact rune_3c2hi s k w hs hk (by omega) b5 h1 h2 (by omega) (by omega) y'
    by_cases g1 : ((((s[k]'hk).toNat : Int) - 224) * 64 + ((s[k + 1]'h1).toNat : Int) - 128) * 64 + ((s[k + 2]'h2).toNat : Int) - 128 < 2048
    · exact rune_3a s k w hs hk (by omega) b5 h1 h2 (by omega) (by omega) (by omega) (by omega) g1
    by_cases g2 : ((((s[k]'hk).toNat : Int) - 224) * 64 + ((s[k + 1]'h1).toNat : Int) - 128) * 64 + ((s[k + 2]'h2).toNat : Int) - 128 ≤ 55295
    · exact rune_3b s k w hs hk (by omega) b5 h1 h2 (by omega) (by omega) (by omega) (by omega) (by omega) g2
    by_cases g3 : ((((s[k]'hk).toNat : Int) - 224) * 64 + ((s[k + 1]'h1).toNat : Int) - 128) * 64 + ((s[k + 2]'h2).toNat : Int) - 128 < 57344
    · exact rune_3c s k w hs hk (by omega) b5 h1 h2 (by omega) (by omega) (by omega) (by omega) (by omega) g3
    exact rune_3d s k w hs hk (by omega) b5 h1 h2 (by omega) (by omega) (by omega) (by omega) (by omega)
  by_cases hn : s.size < k + 4
  · exact rune_4s s k w hs hk (by omega) (by omega) hn
  have h1 : k + 1 < s.size := by omega
  have h2 : k + 2 < s.size := by omega
  have h3 : k + 3 < s.size := by omega
  by_cases x : ((s[k + 1]'h1).toNat : Int) < 128
  · exact rune_4c1lo s k w hs hk (by omega) (by omega) h1 h2 h3 x
  by_cases x' : 191 < ((s[k + 1]'h1).toNat : Int)
  · exact rune_4c1hi s k w hs hk (by omega) (by omega) h1 h2 h3 x'
  by_cases y : ((s[k + 2]'h2).toNat : Int) < 128
  · exact rune_4c2lo s k w hs hk (by omega) (by omega) h1 h2 h3 (by omega) (by omega) y
  by_cases y' : 191 < ((s[k + 2]'h2).toNat : Int)
  · exact rune_4c2hi s k w hs hk (by omega) (by omega) h1 h2 h3 (by omega) (by omega) y'
  by_cases z : ((s[k + 3]'h3).toNat : Int) < 128
  · exact rune_4c3lo s k w hs hk (by omega) (by omega) h1 h2 h3 (by omega) (by omega) (by omega) (by omega) z
  by_cases z' : 191 < ((s[k + 3]'h3).toNat : Int)
  · exact rune_4c3hi s k w hs hk (by omega) (by omega) h1 h2 h3 (by omega) (by omega) (by omega) (by omega) z'
  by_cases g1 : (((((s[k]'hk).toNat : Int) - 240) * 64 + ((s[k + 1]'h1).toNat : Int) - 128) * 64 + ((s[k + 2]'h2).toNat : Int) - 128) * 64 + ((s[k + 3]'h3).toNat : Int) - 128 < 65536
  · exact rune_4a s k w hs hk (by omega) (by omega) h1 h2 h3 (by omega) (by omega) (by omega) (by omega) (by omega) (by omega) g1
  by_cases g2 : (((((s[k]'hk).toNat : Int) - 240) * 64 + ((s[k + 1]'h1).toNat : Int) - 128) * 64 + ((s[k + 2]'h2).toNat : Int) - 128) * 64 + ((s[k + 3]'h3).toNat : Int) - 128 ≤ 1114111
  · exact rune_4b s k w hs hk (by omega) (by omega) h1 h2 h3 (by omega) (by omega) (by omega) (by omega) (by omega) (by omega) (by omega) g2
  exact rune_4c s k w hs hk (by omega) (by omega) h1 h2 h3 (by omega) (by omega) (by omega) (by omega) (by omega) (by omega) (by omega)
end Go.Proofs.YtmckekflpdaklaaGreatDoor.ut

namespace Go.Proofs.YtmckekflpdaklaaGreatDoor.ut
open Go.RowKit
set_option linter.unusedVariables false

set_option maxHeartbeats 1000000 in
set_option maxRecDepth 100000 in
theorem isRight_any (s : ByteArray) (w : World) (hs : s.size ≤ 1048576) :
    Calls Tryz.prog 135 #[.string s] w fun e w' => Says (Right s) e ∧ ∃ p, w' = w.iter s p := by
  go_enter Tryz.func135, Tryz.ntmps135
  go_wp2
  go_loopw [3, 4] (fun _ _ w' => ∃ n : Nat, pos s n ≤ s.size ∧ w' = w.iter s (pos s n) ∧ ∀ m, m < n → ¬ badAt s (pos s m)) (fun _ _ w' => s.size - w'.iterPos w.heap.size)
  case atStart => exact ⟨0, Nat.zero_le _, rfl, fun j hj => absurd hj (Nat.not_lt_zero _)⟩
  case round =>
    obtain ⟨n, hn, rfl, hg⟩ := hrel
    have HG : Hid (∀ m, m < n → ¬ badAt s (pos s m)) := hg
    clear hg
    obtain ⟨p, hp⟩ : ∃ p, p = pos s n := ⟨_, rfl⟩
    rw [← hp] at hn ⊢
    have HP : Hid (p = pos s n) := hp
    clear hp
    by_cases hlt : p < s.size
    · have hnx : ∀ ty, (Instr.next (.pointer (some ⟨w.heap.size, 0, none⟩)) true ty).run Tryz.prog (w.iter s p) = _ := fun ty => run_next_any w s p ty hlt
      go_wp2_with (first | go_in)
      · go_ret
        exact ⟨says_no (wrong_at (n := n) (by rw [← HP.out]; exact hlt) (by rw [← HP.out]; exact stand_bad hlt ‹_› (by rename_i h; simpa [standAt] using h))), _, rfl⟩
      · go_roundw
        case rel => exact ⟨n + 1, by rw [pos, ← HP.out]; exact (wide s p hlt).2, by rw [pos, ← HP.out], right_step HG.out (by rw [← HP.out]; exact stand_good (by omega) (by rename_i h; simpa [standAt] using h))⟩
        case measure => have := wide s p hlt; simp; omega
      · go_ret
        exact ⟨says_no (wrong_at (n := n) (by rw [← HP.out]; exact hlt) (by rw [← HP.out]; exact stand_short hlt ‹_› (by omega))), _, rfl⟩
      · go_roundw
        case rel => exact ⟨n + 1, by rw [pos, ← HP.out]; exact (wide s p hlt).2, by rw [pos, ← HP.out], right_step HG.out (by rw [← HP.out]; intro hb; have := bad_rune hb; omega)⟩
        case measure => have := wide s p hlt; simp; omega
    · have hnx : ∀ ty, (Instr.next (.pointer (some ⟨w.heap.size, 0, none⟩)) true ty).run Tryz.prog (w.iter s p) = _ := fun ty => run_next_end w s p ty hlt
      go_wp2
      go_ret
      exact ⟨says_yes (right_of s n (by have := HP.out; omega) HG.out), _, rfl⟩

/-- A text is valid: right, and not too long. -/
def Valid (s : ByteArray) : Prop := s.size ≤ 65536 ∧ Right s

set_option maxHeartbeats 1000000 in
theorem specValid_any (s : ByteArray) (w : World) (hs : s.size ≤ 1048576) :
    Calls Tryz.prog 104 #[.string s] w fun e w' => Says (Valid s) e ∧ w' = w := by
  by_cases h : s.size ≤ 65536
  case neg =>
    have h' : (65536 : Int) < (s.size : Int) := by omega
    go_enter Tryz.func104, Tryz.ntmps104
    go_wp2
    go_ret
    exact ⟨says_no (fun x => h x.1), rfl⟩
  have h' : (s.size : Int) ≤ 65536 := by omega
  go_enter Tryz.func104, Tryz.ntmps104
  go_wp2
  go_loop [3, 4, 5, 6] (fun i _ _ _ => ∃ n : Nat, pos s n ≤ s.size ∧ i = .int .i64 (pos s n) ∧ ∀ m, m < n → ¬ badAt s (pos s m)) (fun i _ _ _ => s.size - (intOf i).toNat)
  case atStart => exact ⟨0, Nat.zero_le _, rfl, fun j hj => absurd hj (Nat.not_lt_zero _)⟩
  case round =>
    obtain ⟨n, hn, rfl, hg⟩ := hrel
    have HG : Hid (∀ m, m < n → ¬ badAt s (pos s m)) := hg
    clear hg
    obtain ⟨p, hp⟩ : ∃ p, p = pos s n := ⟨_, rfl⟩
    rw [← hp] at hn ⊢
    have HP : Hid (p = pos s n) := hp
    clear hp
    by_cases hlt : p < s.size
    · go_wp2_with fail
      refine (rune_any s p _ hs hlt).mono ?_
      rintro e w' ⟨hr, rfl⟩
      rcases hr with ⟨hb, rfl⟩ | ⟨hb, rfl⟩
      · go_wp2
        go_ret
        exact ⟨says_no (fun x => wrong_at (n := n) (by rw [← HP.out]; exact hlt) (by rw [← HP.out]; exact hb) x.2), rfl⟩
      · have HB : Hid (¬ badAt s p) := hb
        clear hb
        have hw := wide s p hlt
        go_wp2
        go_round
        case rel => exact ⟨n + 1, by rw [pos, ← HP.out]; exact (wide s p hlt).2, by rw [pos, ← HP.out]; go_num, right_step HG.out (by rw [← HP.out]; exact HB.out)⟩
        case measure => have := wide s p hlt; simp [intOf]; omega
    · go_wp2
      go_ret
      exact ⟨says_yes ⟨h, right_of s n (by have := HP.out; omega) HG.out⟩, rfl⟩
end Go.Proofs.YtmckekflpdaklaaGreatDoor.ut
