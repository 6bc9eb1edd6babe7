/-
  The contract of the specification's reader of one rune: it answers what the model's decoding gives.
  Contracts of impl.isRight and of the specification's ValidText: whether a text is right, and of at most 65536 bytes.
  Contracts of impl.cutPlace and of both CutRunes functions: the longest beginning that ends where a rune does and has at most n bytes.
  Plain facts on encoded words: what a text is encoded to, and what words say.
  Plain facts on repairing a text: the runes that are read, written again, are the bytes that were read, and the stand-in where none begins.
-/
import Derived.Test.YtbokolpjdaamiaaGreatDoorPkal
import Derived.Test.YtbokolpjdaamiaaGreatDoorRows
import Derived.WalkKit
import Derived.WalkLawsBesides
import Derived.Test.YtbokolpjdaamiaaGreatDoorPkab
import Derived.Test.YtbokolpjdaamiaaGreatDoorPkag
import Derived.Test.YtbokolpjdaamiaaGreatDoorPkac
import Derived.Lib.IndexMore
import Derived.Lib.IndexLaws
import Derived.Laws.Cover4

namespace Go.Proofs.YtbokolpjdaamiaaGreatDoor.ut
open Go.RowKit
set_option linter.unusedVariables false

set_option maxHeartbeats 1000000 in
set_option maxRecDepth 100000 in
theorem rune_3a (s : ByteArray) (k : Nat) (w : World) (hs : s.size ≤ 1048576) (hk : k < s.size) (b : 224 ≤ ((s[k]'hk).toNat : Int)) (b2 : ((s[k]'hk).toNat : Int) ≤ 239) (h1 : k + 1 < s.size) (h2 : k + 2 < s.size) (c1 : 128 ≤ ((s[k + 1]'h1).toNat : Int)) (c1' : ((s[k + 1]'h1).toNat : Int) ≤ 191) (c2 : 128 ≤ ((s[k + 2]'h2).toNat : Int)) (c2' : ((s[k + 2]'h2).toNat : Int) ≤ 191) (g : (((((s[k]'hk).toNat : Int) - 224) * 64 + ((s[k + 1]'h1).toNat : Int) - 128) * 64 + ((s[k + 2]'h2).toNat : Int) - 128) < 2048) :
    Calls Tryz.prog 46 #[.string s, .int .i64 k] w fun e w' => RuneRet s k e ∧ w' = w := by
  have u0 : ((s[k]'hk).toNat : Int) ≤ 255 := by have := UInt8.toNat_lt (s[k]'hk); omega
  have u1 : ((s[k + 1]'h1).toNat : Int) ≤ 255 := by have := UInt8.toNat_lt (s[k + 1]'h1); omega
  have u2 : ((s[k + 2]'h2).toNat : Int) ≤ 255 := by have := UInt8.toNat_lt (s[k + 2]'h2); omega
  go_enter Tryz.func46, Tryz.ntmps46
  go_wp2_with (first | go_in)
  refine wp_loop_rounds 3 ?_
  rw [rounds_succ]
  go_wp2_with (first | go_in)
  rw [rounds_succ]
  go_wp2_with (first | go_in)
  rw [rounds_succ]
  go_wp2_with (first | go_in)
  all_goals go_ret3
  all_goals exact ⟨r_bad (b_size3 hk h1 h2 b b2 c1 c1' c2 c2' (by omega)), rfl⟩
set_option maxHeartbeats 1000000 in
set_option maxRecDepth 100000 in
theorem rune_3b (s : ByteArray) (k : Nat) (w : World) (hs : s.size ≤ 1048576) (hk : k < s.size) (b : 224 ≤ ((s[k]'hk).toNat : Int)) (b2 : ((s[k]'hk).toNat : Int) ≤ 239) (h1 : k + 1 < s.size) (h2 : k + 2 < s.size) (c1 : 128 ≤ ((s[k + 1]'h1).toNat : Int)) (c1' : ((s[k + 1]'h1).toNat : Int) ≤ 191) (c2 : 128 ≤ ((s[k + 2]'h2).toNat : Int)) (c2' : ((s[k + 2]'h2).toNat : Int) ≤ 191) (g : 2048 ≤ (((((s[k]'hk).toNat : Int) - 224) * 64 + ((s[k + 1]'h1).toNat : Int) - 128) * 64 + ((s[k + 2]'h2).toNat : Int) - 128)) (g2 : (((((s[k]'hk).toNat : Int) - 224) * 64 + ((s[k + 1]'h1).toNat : Int) - 128) * 64 + ((s[k + 2]'h2).toNat : Int) - 128) ≤ 55295) :
    Calls Tryz.prog 46 #[.string s, .int .i64 k] w fun e w' => RuneRet s k e ∧ w' = w := by
  have u0 : ((s[k]'hk).toNat : Int) ≤ 255 := by have := UInt8.toNat_lt (s[k]'hk); omega
  have u1 : ((s[k + 1]'h1).toNat : Int) ≤ 255 := by have := UInt8.toNat_lt (s[k + 1]'h1); omega
  have u2 : ((s[k + 2]'h2).toNat : Int) ≤ 255 := by have := UInt8.toNat_lt (s[k + 2]'h2); omega
  go_enter Tryz.func46, Tryz.ntmps46
  go_wp2_with (first | go_in)
  refine wp_loop_rounds 3 ?_
  rw [rounds_succ]
  go_wp2_with (first | go_in)
  rw [rounds_succ]
  go_wp2_with (first | go_in)
  rw [rounds_succ]
  go_wp2_with (first | go_in)
  all_goals go_ret3
  all_goals exact ⟨r_ok3 hk h1 h2 b b2 c1 c1' c2 c2' (by omega) (by omega), rfl⟩
set_option maxHeartbeats 1000000 in
set_option maxRecDepth 100000 in
theorem rune_3c (s : ByteArray) (k : Nat) (w : World) (hs : s.size ≤ 1048576) (hk : k < s.size) (b : 224 ≤ ((s[k]'hk).toNat : Int)) (b2 : ((s[k]'hk).toNat : Int) ≤ 239) (h1 : k + 1 < s.size) (h2 : k + 2 < s.size) (c1 : 128 ≤ ((s[k + 1]'h1).toNat : Int)) (c1' : ((s[k + 1]'h1).toNat : Int) ≤ 191) (c2 : 128 ≤ ((s[k + 2]'h2).toNat : Int)) (c2' : ((s[k + 2]'h2).toNat : Int) ≤ 191) (g : 55295 < (((((s[k]'hk).toNat : Int) - 224) * 64 + ((s[k + 1]'h1).toNat : Int) - 128) * 64 + ((s[k + 2]'h2).toNat : Int) - 128)) (g2 : (((((s[k]'hk).toNat : Int) - 224) * 64 + ((s[k + 1]'h1).toNat : Int) - 128) * 64 + ((s[k + 2]'h2).toNat : Int) - 128) < 57344) :
    Calls Tryz.prog 46 #[.string s, .int .i64 k] w fun e w' => RuneRet s k e ∧ w' = w := by
  have u0 : ((s[k]'hk).toNat : Int) ≤ 255 := by have := UInt8.toNat_lt (s[k]'hk); omega
  have u1 : ((s[k + 1]'h1).toNat : Int) ≤ 255 := by have := UInt8.toNat_lt (s[k + 1]'h1); omega
  have u2 : ((s[k + 2]'h2).toNat : Int) ≤ 255 := by have := UInt8.toNat_lt (s[k + 2]'h2); omega
  have x16411 : decide ((((((s[k]'hk).toNat : Int) - 224) * 64 + ((s[k + 1]'h1).toNat : Int) - 128) * 64 + ((s[k + 2]'h2).toNat : Int) - 128) ≤ 55295) = false := decide_eq_false (by omega)
  have x16408 : decide (57344 ≤ (((((s[k]'hk).toNat : Int) - 224) * 64 + ((s[k + 1]'h1).toNat : Int) - 128) * 64 + ((s[k + 2]'h2).toNat : Int) - 128)) = false := decide_eq_false (by omega)
  go_enter Tryz.func46, Tryz.ntmps46
  go_wp2_with (first | go_in)
  refine wp_loop_rounds 3 ?_
  rw [rounds_succ]
  go_wp2_with (first | go_in)
  rw [rounds_succ]
  go_wp2_with (first | go_in)
  rw [rounds_succ]
  go_wp2_with (first | go_in)
  all_goals go_ret3
  all_goals exact ⟨r_bad (b_size3 hk h1 h2 b b2 c1 c1' c2 c2' (by omega)), rfl⟩
set_option maxHeartbeats 1000000 in
set_option maxRecDepth 100000 in
theorem rune_3d (s : ByteArray) (k : Nat) (w : World) (hs : s.size ≤ 1048576) (hk : k < s.size) (b : 224 ≤ ((s[k]'hk).toNat : Int)) (b2 : ((s[k]'hk).toNat : Int) ≤ 239) (h1 : k + 1 < s.size) (h2 : k + 2 < s.size) (c1 : 128 ≤ ((s[k + 1]'h1).toNat : Int)) (c1' : ((s[k + 1]'h1).toNat : Int) ≤ 191) (c2 : 128 ≤ ((s[k + 2]'h2).toNat : Int)) (c2' : ((s[k + 2]'h2).toNat : Int) ≤ 191) (g : 57344 ≤ (((((s[k]'hk).toNat : Int) - 224) * 64 + ((s[k + 1]'h1).toNat : Int) - 128) * 64 + ((s[k + 2]'h2).toNat : Int) - 128)) :
    Calls Tryz.prog 46 #[.string s, .int .i64 k] w fun e w' => RuneRet s k e ∧ w' = w := by
  have u0 : ((s[k]'hk).toNat : Int) ≤ 255 := by have := UInt8.toNat_lt (s[k]'hk); omega
  have u1 : ((s[k + 1]'h1).toNat : Int) ≤ 255 := by have := UInt8.toNat_lt (s[k + 1]'h1); omega
  have u2 : ((s[k + 2]'h2).toNat : Int) ≤ 255 := by have := UInt8.toNat_lt (s[k + 2]'h2); omega
  have x16411 : decide ((((((s[k]'hk).toNat : Int) - 224) * 64 + ((s[k + 1]'h1).toNat : Int) - 128) * 64 + ((s[k + 2]'h2).toNat : Int) - 128) ≤ 55295) = false := decide_eq_false (by omega)
  have y16491 : decide ((((((s[k]'hk).toNat : Int) - 224) * 64 + ((s[k + 1]'h1).toNat : Int) - 128) * 64 + ((s[k + 2]'h2).toNat : Int) - 128) ≤ 1114111) = true := decide_eq_true (by omega)
  go_enter Tryz.func46, Tryz.ntmps46
  go_wp2_with (first | go_in)
  refine wp_loop_rounds 3 ?_
  rw [rounds_succ]
  go_wp2_with (first | go_in)
  rw [rounds_succ]
  go_wp2_with (first | go_in)
  rw [rounds_succ]
  go_wp2_with (first | go_in)
  all_goals go_ret3
  all_goals exact ⟨r_ok3 hk h1 h2 b b2 c1 c1' c2 c2' (by omega) (by omega), rfl⟩
set_option maxHeartbeats 1000000 in
set_option maxRecDepth 100000 in
theorem rune_4a (s : ByteArray) (k : Nat) (w : World) (hs : s.size ≤ 1048576) (hk : k < s.size) (b : 240 ≤ ((s[k]'hk).toNat : Int)) (b2 : ((s[k]'hk).toNat : Int) ≤ 244) (h1 : k + 1 < s.size) (h2 : k + 2 < s.size) (h3 : k + 3 < s.size) (c1 : 128 ≤ ((s[k + 1]'h1).toNat : Int)) (c1' : ((s[k + 1]'h1).toNat : Int) ≤ 191) (c2 : 128 ≤ ((s[k + 2]'h2).toNat : Int)) (c2' : ((s[k + 2]'h2).toNat : Int) ≤ 191) (c3 : 128 ≤ ((s[k + 3]'h3).toNat : Int)) (c3' : ((s[k + 3]'h3).toNat : Int) ≤ 191) (g : ((((((s[k]'hk).toNat : Int) - 240) * 64 + ((s[k + 1]'h1).toNat : Int) - 128) * 64 + ((s[k + 2]'h2).toNat : Int) - 128) * 64 + ((s[k + 3]'h3).toNat : Int) - 128) < 65536) :
    Calls Tryz.prog 46 #[.string s, .int .i64 k] w fun e w' => RuneRet s k e ∧ w' = w := by
  have u0 : ((s[k]'hk).toNat : Int) ≤ 255 := by have := UInt8.toNat_lt (s[k]'hk); omega
  have u1 : ((s[k + 1]'h1).toNat : Int) ≤ 255 := by have := UInt8.toNat_lt (s[k + 1]'h1); omega
  have u2 : ((s[k + 2]'h2).toNat : Int) ≤ 255 := by have := UInt8.toNat_lt (s[k + 2]'h2); omega
  have u3 : ((s[k + 3]'h3).toNat : Int) ≤ 255 := by have := UInt8.toNat_lt (s[k + 3]'h3); omega
  go_enter Tryz.func46, Tryz.ntmps46
  go_wp2_with (first | go_in)
  refine wp_loop_rounds 4 ?_
  rw [rounds_succ]
  go_wp2_with (first | go_in)
  rw [rounds_succ]
  go_wp2_with (first | go_in)
  rw [rounds_succ]
  go_wp2_with (first | go_in)
  rw [rounds_succ]
  go_wp2_with (first | go_in)
  all_goals go_ret3
  all_goals exact ⟨r_bad (b_size4 hk h1 h2 h3 b b2 c1 c1' c2 c2' c3 c3' (by omega)), rfl⟩
set_option maxHeartbeats 1000000 in
set_option maxRecDepth 100000 in
theorem rune_4b (s : ByteArray) (k : Nat) (w : World) (hs : s.size ≤ 1048576) (hk : k < s.size) (b : 240 ≤ ((s[k]'hk).toNat : Int)) (b2 : ((s[k]'hk).toNat : Int) ≤ 244) (h1 : k + 1 < s.size) (h2 : k + 2 < s.size) (h3 : k + 3 < s.size) (c1 : 128 ≤ ((s[k + 1]'h1).toNat : Int)) (c1' : ((s[k + 1]'h1).toNat : Int) ≤ 191) (c2 : 128 ≤ ((s[k + 2]'h2).toNat : Int)) (c2' : ((s[k + 2]'h2).toNat : Int) ≤ 191) (c3 : 128 ≤ ((s[k + 3]'h3).toNat : Int)) (c3' : ((s[k + 3]'h3).toNat : Int) ≤ 191) (g : 65536 ≤ ((((((s[k]'hk).toNat : Int) - 240) * 64 + ((s[k + 1]'h1).toNat : Int) - 128) * 64 + ((s[k + 2]'h2).toNat : Int) - 128) * 64 + ((s[k + 3]'h3).toNat : Int) - 128)) (g2 : ((((((s[k]'hk).toNat : Int) - 240) * 64 + ((s[k + 1]'h1).toNat : Int) - 128) * 64 + ((s[k + 2]'h2).toNat : Int) - 128) * 64 + ((s[k + 3]'h3).toNat : Int) - 128) ≤ 1114111) :
    Calls Tryz.prog 46 #[.string s, .int .i64 k] w fun e w' => RuneRet s k e ∧ w' = w := by
  have u0 : ((s[k]'hk).toNat : Int) ≤ 255 := by have := UInt8.toNat_lt (s[k]'hk); omega
  have u1 : ((s[k + 1]'h1).toNat : Int) ≤ 255 := by have := UInt8.toNat_lt (s[k + 1]'h1); omega
  have u2 : ((s[k + 2]'h2).toNat : Int) ≤ 255 := by have := UInt8.toNat_lt (s[k + 2]'h2); omega
  have u3 : ((s[k + 3]'h3).toNat : Int) ≤ 255 := by have := UInt8.toNat_lt (s[k + 3]'h3); omega
  have x18978 : decide (((((((s[k]'hk).toNat : Int) - 240) * 64 + ((s[k + 1]'h1).toNat : Int) - 128) * 64 + ((s[k + 2]'h2).toNat : Int) - 128) * 64 + ((s[k + 3]'h3).toNat : Int) - 128) ≤ 55295) = false := decide_eq_false (by omega)
  have y19058 : decide (((((((s[k]'hk).toNat : Int) - 240) * 64 + ((s[k + 1]'h1).toNat : Int) - 128) * 64 + ((s[k + 2]'h2).toNat : Int) - 128) * 64 + ((s[k + 3]'h3).toNat : Int) - 128) ≤ 1114111) = true := decide_eq_true (by omega)
  go_enter Tryz.func46, Tryz.ntmps46
  go_wp2_with (first | go_in)
  refine wp_loop_rounds 4 ?_
  rw [rounds_succ]
  go_wp2_with (first | go_in)
  rw [rounds_succ]
  go_wp2_with (first | go_in)
  rw [rounds_succ]
  go_wp2_with (first | go_in)
  rw [rounds_succ]
  go_wp2_with (first | go_in)
  all_goals go_ret3
  all_goals exact ⟨r_ok4 hk h1 h2 h3 b b2 c1 c1' c2 c2' c3 c3' (by omega) (by omega), rfl⟩
set_option maxHeartbeats 1000000 in
set_option maxRecDepth 100000 in
theorem rune_4c (s : ByteArray) (k : Nat) (w : World) (hs : s.size ≤ 1048576) (hk : k < s.size) (b : 240 ≤ ((s[k]'hk).toNat : Int)) (b2 : ((s[k]'hk).toNat : Int) ≤ 244) (h1 : k + 1 < s.size) (h2 : k + 2 < s.size) (h3 : k + 3 < s.size) (c1 : 128 ≤ ((s[k + 1]'h1).toNat : Int)) (c1' : ((s[k + 1]'h1).toNat : Int) ≤ 191) (c2 : 128 ≤ ((s[k + 2]'h2).toNat : Int)) (c2' : ((s[k + 2]'h2).toNat : Int) ≤ 191) (c3 : 128 ≤ ((s[k + 3]'h3).toNat : Int)) (c3' : ((s[k + 3]'h3).toNat : Int) ≤ 191) (g : 1114111 < ((((((s[k]'hk).toNat : Int) - 240) * 64 + ((s[k + 1]'h1).toNat : Int) - 128) * 64 + ((s[k + 2]'h2).toNat : Int) - 128) * 64 + ((s[k + 3]'h3).toNat : Int) - 128)) :
    Calls Tryz.prog 46 #[.string s, .int .i64 k] w fun e w' => RuneRet s k e ∧ w' = w := by
  have u0 : ((s[k]'hk).toNat : Int) ≤ 255 := by have := UInt8.toNat_lt (s[k]'hk); omega
  have u1 : ((s[k + 1]'h1).toNat : Int) ≤ 255 := by have := UInt8.toNat_lt (s[k + 1]'h1); omega
  have u2 : ((s[k + 2]'h2).toNat : Int) ≤ 255 := by have := UInt8.toNat_lt (s[k + 2]'h2); omega
  have u3 : ((s[k + 3]'h3).toNat : Int) ≤ 255 := by have := UInt8.toNat_lt (s[k + 3]'h3); omega
  have x18978 : decide (((((((s[k]'hk).toNat : Int) - 240) * 64 + ((s[k + 1]'h1).toNat : Int) - 128) * 64 + ((s[k + 2]'h2).toNat : Int) - 128) * 64 + ((s[k + 3]'h3).toNat : Int) - 128) ≤ 55295) = false := decide_eq_false (by omega)
  have x19058 : decide (((((((s[k]'hk).toNat : Int) - 240) * 64 + ((s[k + 1]'h1).toNat : Int) - 128) * 64 + ((s[k + 2]'h2).toNat : Int) - 128) * 64 + ((s[k + 3]'h3).toNat : Int) - 128) ≤ 1114111) = false := decide_eq_false (by omega)
  go_enter Tryz.func46, Tryz.ntmps46
  go_wp2_with (first | go_in)
  refine wp_loop_rounds 4 ?_
  rw [rounds_succ]
  go_wp2_with (first | go_in)
  rw [rounds_succ]
  go_wp2_with (first | go_in)
  rw [rounds_succ]
  go_wp2_with (first | go_in)
  rw [rounds_succ]
  go_wp2_with (first | go_in)
  all_goals go_ret3
  all_goals exact ⟨r_bad (b_size4 hk h1 h2 h3 b b2 c1 c1' c2 c2' c3 c3' (by omega)), rfl⟩

theorem rune_any (s : ByteArray) (k : Nat) (w : World) (hs : s.size ≤ 1048576) (hk : k < s.size) :
    Calls Tryz.prog 46 #[.string s, .int .i64 k] w fun e w' => RuneRet s k e ∧ w' = w := by
  by_cases b1 : ((s[k]'hk).toNat : Int) < 128
  · exact rune_1 s k w hs hk b1
  by_cases b2 : ((s[k]'hk).toNat : Int) < 194
  · exact rune_lo s k w hs hk (by omega) b2
  by_cases b3 : 244 < ((s[k]'hk).toNat : Int)
  · exact rune_hi s k w hs hk b3
  by_cases b4 : ((s[k]'hk).toNat : Int) ≤ 223
  · by_cases hn : s.size < k + 2
    · exact rune_2s s k w hs hk (by omega) b4 hn
    have h1 : k + 1 < s.size := by omega
    by_cases x : ((s[k + 1]'h1).toNat : Int) < 128
    · exact rune_2c1lo s k w hs hk (by omega) b4 h1 x
    by_cases x' : 191 < ((s[k + 1]'h1).toNat : Int)
    · exact rune_2c1hi s k w hs hk (by omega) b4 h1 x'
    exact rune_2 s k w hs hk (by omega) b4 h1 (by omega) (by omega)
  by_cases b5 : ((s[k]'hk).toNat : Int) ≤ 239
  · by_cases hn : s.size < k + 3
    · exact rune_3s s k w hs hk (by omega) b5 hn
    have h1 : k + 1 < s.size := by omega
    have h2 : k + 2 < s.size := by omega
    by_cases x : ((s[k + 1]'h1).toNat : Int) < 128
    · exact rune_3c1lo s k w hs hk (by omega) b5 h1 h2 x
    by_cases x' : 191 < ((s[k + 1]'h1).toNat : Int)
    · exact rune_3c1hi s k w hs hk (by omega) b5 h1 h2 x'
    by_cases y : ((s[k + 2]'h2).toNat : Int) < 128
    · exact rune_3c2lo s k w hs hk (by omega) b5 h1 h2 (by omega) (by omega) y
    by_cases y' : 191 < ((s[k + 2]'h2).toNat : Int)
    · exact rune_3c2hi s k w hs hk (by omega) b5 h1 h2 (by omega) (by omega) y'
    by_cases g1 : ((((s[k]'hk).toNat : Int) - 224) * 64 + ((s[k + 1]'h1).toNat : Int) - 128) * 64 + ((s[k + 2]'h2).toNat : Int) - 128 < 2048
    · exact rune_3a s k w hs hk (by omega) b5 h1 h2 (by omega) (by omega) (by omega) (by omega) g1
    by_cases g2 : ((((s[k]'hk).toNat : Int) - 224) * 64 + ((s[k + 1]'h1).toNat : Int) - 128) * 64 + ((s[k + 2]'h2).toNat : Int) - 128 ≤ 55295
    · exact rune_3b s k w hs hk (by omega) b5 h1 h2 (by omega) (by omega) (by omega) (by omega) (by omega) g2
    by_cases g3 : ((((s[k]'hk).toNat : Int) - 224) * 64 + ((s[k + 1]'h1).toNat : Int) - 128) * 64 + ((s[k + 2]'h2).toNat : Int) - 128 < 57344
    · exact rune_3c s k w hs hk (by omega) b5 h1 h2 (by omega) (by omega) (by omega) (by omega) (by omega) g3
    exact rune_3d s k w hs hk (by omega) b5 h1 h2 (by omega) (by omega) (by omega) (by omega) (by omega)
  by_cases hn : s.size < k + 4
  · exact rune_4s s k w hs hk (by omega) (by omega) hn
  have h1 : k + 1 < s.size := by omega
  have h2 : k + 2 < s.size := by omega
  have h3 : k + 3 < s.size := by omega
  by_cases x : ((s[k + 1]'h1).toNat : Int) < 128
  · exact rune_4c1lo s k w hs hk (by omega) (by omega) h1 h2 h3 x
  by_cases x' : 191 < ((s[k + 1]'h1).toNat : Int)
  · exact rune_4c1hi s k w hs hk (by omega) (by omega) h1 h2 h3 x'
  by_cases y : ((s[k + 2]'h2).toNat : Int) < 128
  · exact rune_4c2lo s k w hs hk (by omega) (by omega) h1 h2 h3 (by omega) (by omega) y
  by_cases y' : 191 < ((s[k + 2]'h2).toNat : Int)
  · exact rune_4c2hi s k w hs hk (by omega) (by omega) h1 h2 h3 (by omega) (by omega) y'
  by_cases z : ((s[k + 3]'h3).toNat : Int) < 128
  · exact rune_4c3lo s k w hs hk (by omega) (by omega) h1 h2 h3 (by omega) (by omega) (by omega) (by omega) z
  by_cases z' : 191 < ((s[k + 3]'h3).toNat : Int)
  · exact rune_4c3hi s k w hs hk (by omega) (by omega) h1 h2 h3 (by omega) (by omega) (by omega) (by omega) z'
  by_cases g1 : (((((s[k]'hk).toNat : Int) - 240) * 64 + ((s[k + 1]'h1).toNat : Int) - 128) * 64 + ((s[k + 2]'h2).toNat : Int) - 128) * 64 + ((s[k + 3]'h3).toNat : Int) - 128 < 65536
  · exact rune_4a s k w hs hk (by omega) (by omega) h1 h2 h3 (by omega) (by omega) (by omega) (by omega) (by omega) (by omega) g1
  by_cases g2 : (((((s[k]'hk).toNat : Int) - 240) * 64 + ((s[k + 1]'h1).toNat : Int) - 128) * 64 + ((s[k + 2]'h2).toNat : Int) - 128) * 64 + ((s[k + 3]'h3).toNat : Int) - 128 ≤ 1114111
  · exact rune_4b s k w hs hk (by omega) (by omega) h1 h2 h3 (by omega) (by omega) (by omega) (by omega) (by omega) (by omega) (by omega) g2
  exact rune_4c s k w hs hk (by omega) (by omega) h1 h2 h3 (by omega) (by omega) (by omega) (by omega) (by omega) (by omega) (by omega)
end Go.Proofs.YtbokolpjdaamiaaGreatDoor.ut

namespace Go.Proofs.YtbokolpjdaamiaaGreatDoor.ut
open Go.RowKit
set_option linter.unusedVariables false


/-- A text is valid: right, and not too long. -/
def Valid (s : ByteArray) : Prop := s.size ≤ 65536 ∧ Right s

end Go.Proofs.YtbokolpjdaamiaaGreatDoor.ut

namespace Go.Proofs.YtbokolpjdaamiaaGreatDoor.ut
open Go.RowKit
set_option linter.unusedVariables false

/-- The place at which a text is cut: a rune's beginning, or the end, not beyond n, the next one beyond it. -/
def CutAt (s : ByteArray) (n : Int) (k : Nat) : Prop := ∃ j, k = pos s j ∧ k ≤ s.size ∧ (k : Int) ≤ n ∧ (n < (pos s (j + 1) : Int) ∨ s.size ≤ k)

theorem cut_one {s : ByteArray} {n : Int} {k k' : Nat} (h : CutAt s n k) (h' : CutAt s n k') : k = k' := by
  have key : ∀ {j j' : Nat}, j < j' → pos s j' ≤ s.size → (pos s j' : Int) ≤ n → (n < (pos s (j + 1) : Int) ∨ s.size ≤ pos s j) → pos s j = pos s j' := by
    intro j j' hlt hle hn hx
    have h1 := pos_mono s (j + 1) (j' - (j + 1))
    rw [show j + 1 + (j' - (j + 1)) = j' from by omega] at h1
    have h2 := pos_mono s j (j' - j)
    rw [show j + (j' - j) = j' from by omega] at h2
    omega
  obtain ⟨j, rfl, a1, a2, a3⟩ := h
  obtain ⟨j', rfl, b1, b2, b3⟩ := h'
  rcases Nat.lt_trichotomy j j' with e | e | e
  · exact key e b1 b2 a3
  · rw [e]
  · exact (key e a1 a2 b3).symm
theorem pos_end (s : ByteArray) : ∃ j, pos s j = s.size := by
  have key : ∀ m n, pos s n ≤ s.size → s.size - pos s n ≤ m → ∃ j, pos s j = s.size := by
    intro m
    induction m with
    | zero => intro n h1 h2; exact ⟨n, by omega⟩
    | succ m ih =>
      intro n h1 h2
      by_cases e : pos s n = s.size
      · exact ⟨n, e⟩
      · have := pos_le s n (by omega)
        exact ih (n + 1) this.1 (by omega)
  exact key s.size 0 (Nat.zero_le _) (by simp [pos])
theorem cut_all {s : ByteArray} {n : Int} (h : (s.size : Int) ≤ n) : CutAt s n s.size := by
  obtain ⟨j, hj⟩ := pos_end s
  exact ⟨j, hj.symm, Nat.le_refl _, h, .inr (Nat.le_refl _)⟩
/-- What a call that cuts answers. -/
def PlaceRet (s : ByteArray) (n : Int) (e : Ending) : Prop := ∃ k : Nat, e = .returned (.int .i64 (k : Int)) ∧ CutAt s n k

/-- What both CutRunes functions answer. -/
def CutRet (s : ByteArray) (n : Int) (e : Ending) : Prop :=
  (65536 < s.size ∧ e = .returned (.tuple #[.string ⟨#[]⟩, .int .i64 2])) ∨
  (s.size ≤ 65536 ∧ ¬ Right s ∧ e = .returned (.tuple #[.string ⟨#[]⟩, .int .i64 3])) ∨
  (s.size ≤ 65536 ∧ Right s ∧ n < 0 ∧ e = .returned (.tuple #[.string ⟨#[]⟩, .int .i64 4])) ∨
  (s.size ≤ 65536 ∧ Right s ∧ 0 ≤ n ∧ ∃ k, CutAt s n k ∧ e = .returned (.tuple #[.string (s.extract 0 k), .int .i64 0]))

theorem clone_any (s : ByteArray) (w : World) (hs : s.size ≤ 1048576) :
    Calls Tryz.prog 84 #[.string s] w fun e w' => e = .returned (.string s) ∧ Below w.heap.size w w' := by
  go_enter Tryz.func84, Tryz.ntmps84
  go_wp2_with fail
  refine (Tryz.stringslite_Clone s _ (by omega)).mono ?_
  rintro e w' ⟨rfl, hb⟩
  go_wp2
  go_ret
  exact ⟨rfl, hb⟩
end Go.Proofs.YtbokolpjdaamiaaGreatDoor.ut

namespace Go.Proofs.YtbokolpjdaamiaaGreatDoor.hd
open Go
set_option linter.unusedVariables false

def head : List UInt8 := [61, 63, 117, 116, 102, 45, 56, 63, 66, 63]
def tail : List UInt8 := [63, 61]
def wordL (l : List UInt8) : List UInt8 := head ++ b6.enc l ++ tail
def sep (out : List UInt8) : List UInt8 := if out = [] then [] else [32]
/-- What is left of a text, encoded in at most n words behind what is out, comes to r. -/
def Ends : Nat → ByteArray → List UInt8 → List UInt8 → Prop
  | 0, t, out, r => t.size = 0 ∧ r = out
  | n + 1, t, out, r => (t.size = 0 ∧ r = out) ∨ (t.size ≠ 0 ∧ ∃ k, ut.CutAt t 45 k ∧ Ends n (t.extract k t.size) (out ++ sep out ++ wordL (t.extract 0 k).data.toList) r)
def EndsAny (t : ByteArray) (out r : List UInt8) : Prop := ∃ n, Ends n t out r
theorem ends_nil {t : ByteArray} (out : List UInt8) (h : t.size = 0) : EndsAny t out out := ⟨0, h, rfl⟩
theorem ends_step {t : ByteArray} {out r : List UInt8} {k : Nat} (h : t.size ≠ 0) (hk : ut.CutAt t 45 k) (he : EndsAny (t.extract k t.size) (out ++ sep out ++ wordL (t.extract 0 k).data.toList) r) : EndsAny t out r := by
  obtain ⟨n, hn⟩ := he
  exact ⟨n + 1, .inr ⟨h, k, hk, hn⟩⟩
theorem ends_one : ∀ (n n' : Nat) (t : ByteArray) (out r r' : List UInt8), Ends n t out r → Ends n' t out r' → r = r'
  | 0, 0, t, out, r, r', h, h' => by rw [h.2, h'.2]
  | 0, n' + 1, t, out, r, r', h, h' => by
    rcases h' with h' | h'
    · rw [h.2, h'.2]
    · exact absurd h.1 h'.1
  | n + 1, 0, t, out, r, r', h, h' => by
    rcases h with h | h
    · rw [h.2, h'.2]
    · exact absurd h'.1 h.1
  | n + 1, n' + 1, t, out, r, r', h, h' => by
    rcases h with h | ⟨h0, k, hk, h⟩
    · rcases h' with h' | h'
      · rw [h.2, h'.2]
      · exact absurd h.1 h'.1
    · rcases h' with h' | ⟨_, k', hk', h'⟩
      · exact absurd h'.1 h0
      · obtain rfl := ut.cut_one hk hk'
        exact ends_one n n' _ _ r r' h h'
theorem ends_same {t : ByteArray} {out r r' : List UInt8} (h : EndsAny t out r) (h' : EndsAny t out r') : r = r' := by
  obtain ⟨n, h⟩ := h
  obtain ⟨n', h'⟩ := h'
  exact ends_one n n' t out r r' h h'

/-- A word is an encoded one, and says y. -/
def Coded (x y : List UInt8) : Prop := Lib.hasPrefix x head = true ∧ Lib.hasSuffix (x.drop 10) tail = true ∧ b6.dec ((x.drop 10).take ((x.drop 10).length - 2)) = some y ∧ y ≠ [] ∧ ut.Right ⟨y.toArray⟩
theorem coded_one {x y y' : List UInt8} (h : Coded x y) (h' : Coded x y') : y = y' := by
  have := h.2.2.1.symm.trans h'.2.2.1
  cases this
  rfl
/-- What words say, one behind another. -/
def Dec : Bool → Bool → List (List UInt8) → List UInt8 → Prop
  | _, _, [], out => out = []
  | f, was, x :: r, out => (∃ y o, Coded x y ∧ Dec false true r o ∧ out = (if f || was then [] else [32]) ++ y ++ o) ∨ ((∀ y, ¬ Coded x y) ∧ ∃ o, Dec false false r o ∧ out = (if f then [] else [32]) ++ x ++ o)
theorem dec_one : ∀ (ws : List (List UInt8)) (f was : Bool) (o o' : List UInt8), Dec f was ws o → Dec f was ws o' → o = o'
  | [], f, was, o, o', h, h' => by rw [show o = [] from h, show o' = [] from h']
  | x :: r, f, was, o, o', h, h' => by
    rcases h with ⟨y, p, hc, hd, rfl⟩ | ⟨hc, p, hd, rfl⟩
    · rcases h' with ⟨y', p', hc', hd', rfl⟩ | ⟨hc', _⟩
      · rw [coded_one hc hc', dec_one r false true p p' hd hd']
      · exact absurd hc (hc' y)
    · rcases h' with ⟨y', p', hc', hd', rfl⟩ | ⟨hc', p', hd', rfl⟩
      · exact absurd hc' (hc y')
      · rw [dec_one r false false p p' hd hd']
theorem dec_code {f was : Bool} {x y : List UInt8} {r : List (List UInt8)} {o : List UInt8} (h : Coded x y) (hd : Dec false true r o) : Dec f was (x :: r) ((if f || was then [] else [32]) ++ y ++ o) := .inl ⟨y, o, h, hd, rfl⟩
theorem dec_plain {f was : Bool} {x : List UInt8} {r : List (List UInt8)} {o : List UInt8} (h : ∀ y, ¬ Coded x y) (hd : Dec false false r o) : Dec f was (x :: r) ((if f then [] else [32]) ++ x ++ o) := .inr ⟨h, o, hd, rfl⟩
/-- The words of the empty text. -/
theorem dec_empty {o : List UInt8} : Dec true false (cutGo [] []) o ↔ o = [] := by
  have hno : ∀ y, ¬ Coded [] y := fun y h => by have := h.1; simp [Lib.hasPrefix, head] at this
  constructor
  · intro h
    rcases h with ⟨y, p, hc, _⟩ | ⟨_, p, hd, hp⟩
    · exact absurd hc (hno y)
    · rw [hp, show p = [] from hd]; rfl
  · rintro rfl
    exact .inr ⟨hno, [], rfl, rfl⟩
/-- Where a text has the sign of an encoded word. -/
theorem index_no : ∀ (l sub : List UInt8), sub ≠ [] → Lib.index l sub = -1 → ∀ j, Lib.occAt l sub j = false
  | [], sub, hs, h, j => by
    unfold Lib.occAt
    rw [List.drop_nil]
    cases sub with
    | nil => exact absurd rfl hs
    | cons a b => rfl
  | b :: l, sub, hs, h, j => by
    rw [Lib.index] at h
    split at h
    · cases h
    · rename_i h0
      split at h
      · rename_i h1
        have ih := index_no l sub hs (by simpa using h1)
        cases j with
        | zero => unfold Lib.occAt; rw [List.drop_zero]; exact Bool.eq_false_iff.2 h0
        | succ j => exact ih j
      · rename_i h1
        have := Lib.index_ge l sub
        have h2 : Lib.index l sub ≠ -1 := by simpa using h1
        omega
def sign : List UInt8 := [61, 63]
theorem occ_sign (l : List UInt8) (j : Nat) : Lib.occAt l sign j = true ↔ l[j]? = some 61 ∧ l[j + 1]? = some 63 := by
  unfold Lib.occAt sign
  rw [show l[j]? = (l.drop j)[0]? from by simp, show l[j + 1]? = (l.drop j)[1]? from by simp]
  match l.drop j with
  | [] => simp
  | [a] => simp
  | a :: b :: r =>
    simp only [List.isPrefixOf, List.getElem?_cons_zero, List.getElem?_cons_succ, Bool.and_true, Bool.and_eq_true, beq_iff_eq, Option.some.injEq]
    exact ⟨fun h => ⟨h.1.symm, h.2.symm⟩, fun h => ⟨h.1.symm, h.2.symm⟩⟩
theorem contains_iff (l : List UInt8) : Lib.contains l sign = true ↔ ∃ j : Nat, l[j]? = some 61 ∧ l[j + 1]? = some 63 := by
  unfold Lib.contains
  rw [decide_eq_true_iff]
  constructor
  · intro h
    by_cases hx : ∃ j : Nat, l[j]? = some 61 ∧ l[j + 1]? = some 63
    · exact hx
    · have : Lib.index l sign = -1 := Lib.index_none (fun j _ => by
        cases ho : Lib.occAt l sign j with
        | false => rfl
        | true => exact absurd ⟨j, (occ_sign l j).1 ho⟩ hx)
      omega
  · rintro ⟨j, hj⟩
    have h1 := Lib.index_ge l sign
    by_cases h2 : Lib.index l sign = -1
    · have := index_no l sign (by simp [sign]) h2 j
      rw [(occ_sign l j).2 hj] at this
      cases this
    · omega
/-- A text that stays as it is. -/
def Plain (l : List UInt8) : Prop := Safe l ∧ Lib.contains l sign = false
end Go.Proofs.YtbokolpjdaamiaaGreatDoor.hd

namespace Go.Proofs.YtbokolpjdaamiaaGreatDoor.ut
open Go.RowKit
set_option linter.unusedVariables false

theorem F_wide1 (n k b0 b1 b2 b3 : Nat) : 1 ≤ (decF n k b0 b1 b2 b3).2 := by
  unfold decF
  repeat' split
  all_goals simp
theorem pos_up (s : ByteArray) (n : Nat) : pos s n < pos s (n + 1) := by
  have : 1 ≤ (Utf8.decode s (pos s n)).2 := by rw [dec_eq]; exact F_wide1 _ _ _ _ _ _
  simp only [pos]
  omega
theorem pos_lt (s : ByteArray) {a b : Nat} (h : a < b) : pos s a < pos s b := by
  have h1 := pos_mono s (a + 1) (b - (a + 1))
  rw [show a + 1 + (b - (a + 1)) = b from by omega] at h1
  have := pos_up s a
  omega
theorem pos_inj (s : ByteArray) {a b : Nat} (h : pos s a = pos s b) : a = b := by
  rcases Nat.lt_trichotomy a b with e | e | e
  · have := pos_lt s e; omega
  · exact e
  · have := pos_lt s e; omega
theorem pos_ge (s : ByteArray) (n : Nat) : n ≤ pos s n := by
  induction n with
  | zero => exact Nat.zero_le _
  | succ n ih => have := pos_up s n; omega

/-- The runes of the first n steps. -/
def runesL (s : ByteArray) : Nat → List Int
  | 0 => []
  | n + 1 => runesL s n ++ [((Utf8.decode s (pos s n)).1 : Int)]
theorem runesL_len (s : ByteArray) (n : Nat) : (runesL s n).length = n := by
  induction n with
  | zero => rfl
  | succ n ih => simp [runesL, ih]
/-- What a repaired text has for one step. -/
def piece (s : ByteArray) (k : Nat) : List UInt8 := if Utf8.decode s k = (65533, 1) then [239, 191, 189] else (s.extract k (k + (Utf8.decode s k).2)).data.toList
def fixL (s : ByteArray) : Nat → List UInt8
  | 0 => []
  | n + 1 => fixL s n ++ piece s (pos s n)
theorem piece_bad {s : ByteArray} {k : Nat} (h : badAt s k) : piece s k = [239, 191, 189] := by rw [badAt] at h; unfold piece; rw [if_pos h]
theorem piece_good {s : ByteArray} {k : Nat} (h : ¬ badAt s k) : piece s k = (s.extract k (k + (Utf8.decode s k).2)).data.toList := by rw [badAt] at h; unfold piece; rw [if_neg h]

theorem piece_len (s : ByteArray) (k : Nat) : (piece s k).length ≤ 3 * (Utf8.decode s k).2 := by
  have : 1 ≤ (Utf8.decode s k).2 := by rw [dec_eq]; exact F_wide1 _ _ _ _ _ _
  by_cases h : badAt s k
  · rw [piece_bad h]; simp; omega
  · rw [piece_good h, Lib.extract_data, List.length_take]; omega
theorem fix_len (s : ByteArray) (n : Nat) : (fixL s n).length ≤ 3 * pos s n := by
  induction n with
  | zero => simp [fixL]
  | succ n ih =>
    have := piece_len s (pos s n)
    simp only [fixL, pos, List.length_append]
    omega
theorem valid_nat (c : Nat) : Utf8.valid (c : Int) = true ↔ c < 55296 ∨ (57344 ≤ c ∧ c ≤ 1114111) := by simp [Utf8.valid]; omega
theorem enc1 {c : Nat} (h : c < 128) : (Utf8.encode (c : Int)).data.toList = [UInt8.ofNat c] := by
  have hv : Utf8.valid (c : Int) = true := (valid_nat c).2 (by omega)
  simp only [Utf8.encode, hv, if_true, Int.toNat_natCast]
  rw [if_pos h]
theorem enc2 {c : Nat} (h : 128 ≤ c) (h' : c < 2048) : (Utf8.encode (c : Int)).data.toList = [UInt8.ofNat (192 + c / 64), UInt8.ofNat (128 + c % 64)] := by
  have hv : Utf8.valid (c : Int) = true := (valid_nat c).2 (by omega)
  simp only [Utf8.encode, hv, if_true, Int.toNat_natCast]
  rw [if_neg (by omega), if_pos h']
theorem enc3 {c : Nat} (h : 2048 ≤ c) (h' : c < 65536) (hv : Utf8.valid (c : Int) = true) : (Utf8.encode (c : Int)).data.toList = [UInt8.ofNat (224 + c / 4096), UInt8.ofNat (128 + c / 64 % 64), UInt8.ofNat (128 + c % 64)] := by
  simp only [Utf8.encode, hv, if_true, Int.toNat_natCast]
  rw [if_neg (by omega), if_neg (by omega), if_pos h']
theorem enc4 {c : Nat} (h : 65536 ≤ c) (hv : Utf8.valid (c : Int) = true) : (Utf8.encode (c : Int)).data.toList = [UInt8.ofNat (240 + c / 262144), UInt8.ofNat (128 + c / 4096 % 64), UInt8.ofNat (128 + c / 64 % 64), UInt8.ofNat (128 + c % 64)] := by
  simp only [Utf8.encode, hv, if_true, Int.toNat_natCast]
  rw [if_neg (by omega), if_neg (by omega), if_neg (by omega)]
theorem of_nat {b : UInt8} {x : Nat} (h : x = b.toNat) : UInt8.ofNat x = b := by rw [h]; exact UInt8.ofNat_toNat

theorem ext1 (s : ByteArray) (k : Nat) (h : k < s.size) : (s.extract k (k + 1)).data.toList = [s.get! k] := by
  rw [Lib.extract_data, get_byte s k h]
  have hl : s.data.toList.length = s.size := (Lib.size_eq s).symm
  rw [List.drop_eq_getElem_cons (by omega), show k + 1 - k = 1 from by omega]
  rfl
theorem ext2 (s : ByteArray) (k : Nat) (h : k + 1 < s.size) : (s.extract k (k + 2)).data.toList = [s.get! k, s.get! (k + 1)] := by
  rw [Lib.extract_data, get_byte s k (by omega), get_byte s (k + 1) h]
  have hl : s.data.toList.length = s.size := (Lib.size_eq s).symm
  rw [List.drop_eq_getElem_cons (by omega), List.drop_eq_getElem_cons (by omega), show k + 2 - k = 2 from by omega]
  rfl
theorem ext3 (s : ByteArray) (k : Nat) (h : k + 2 < s.size) : (s.extract k (k + 3)).data.toList = [s.get! k, s.get! (k + 1), s.get! (k + 2)] := by
  rw [Lib.extract_data, get_byte s k (by omega), get_byte s (k + 1) (by omega), get_byte s (k + 2) h]
  have hl : s.data.toList.length = s.size := (Lib.size_eq s).symm
  rw [List.drop_eq_getElem_cons (by omega), List.drop_eq_getElem_cons (by omega), List.drop_eq_getElem_cons (by omega), show k + 3 - k = 3 from by omega]
  rfl
theorem ext4 (s : ByteArray) (k : Nat) (h : k + 3 < s.size) : (s.extract k (k + 4)).data.toList = [s.get! k, s.get! (k + 1), s.get! (k + 2), s.get! (k + 3)] := by
  rw [Lib.extract_data, get_byte s k (by omega), get_byte s (k + 1) (by omega), get_byte s (k + 2) (by omega), get_byte s (k + 3) h]
  have hl : s.data.toList.length = s.size := (Lib.size_eq s).symm
  rw [List.drop_eq_getElem_cons (by omega), List.drop_eq_getElem_cons (by omega), List.drop_eq_getElem_cons (by omega), List.drop_eq_getElem_cons (by omega), show k + 4 - k = 4 from by omega]
  rfl

theorem enc_piece (s : ByteArray) (k : Nat) (hk : k < s.size) : (Utf8.encode ((Utf8.decode s k).1 : Int)).data.toList = piece s k := by
  have u0 := UInt8.toNat_lt (s.get! k)
  have u1 := UInt8.toNat_lt (s.get! (k + 1))
  have u2 := UInt8.toNat_lt (s.get! (k + 2))
  have u3 := UInt8.toNat_lt (s.get! (k + 3))
  by_cases hb : badAt s k
  · rw [piece_bad hb, bad_rune hb]
    rfl
  rw [piece_good hb]
  rw [badAt] at hb
  have e := dec_eq s k
  revert e hb
  generalize Utf8.decode s k = d
  unfold decF
  split
  · rename_i g
    rintro hb rfl
    rw [enc1 g, ext1 s k hk, of_nat rfl]
  split
  · rename_i g0 g; simp at g
    split
    · rename_i g2
      rintro hb rfl
      rw [enc2 g2 (by omega), ext2 s k (by omega), of_nat (b := s.get! k) (by omega), of_nat (b := s.get! (k + 1)) (by omega)]
    · rintro hb rfl; exact absurd rfl hb
  split
  · rename_i g0 g1 g; simp at g
    split
    · rename_i g2
      simp only [Bool.and_eq_true, decide_eq_true_eq] at g2
      rintro hb rfl
      rw [enc3 g2.1 (by omega) g2.2, ext3 s k (by omega), of_nat (b := s.get! k) (by omega), of_nat (b := s.get! (k + 1)) (by omega), of_nat (b := s.get! (k + 2)) (by omega)]
    · rintro hb rfl; exact absurd rfl hb
  split
  · rename_i g0 g1 g3 g; simp at g
    split
    · rename_i g2
      simp only [Bool.and_eq_true, decide_eq_true_eq] at g2
      rintro hb rfl
      rw [enc4 g2.1 g2.2, ext4 s k (by omega), of_nat (b := s.get! k) (by omega), of_nat (b := s.get! (k + 1)) (by omega), of_nat (b := s.get! (k + 2)) (by omega), of_nat (b := s.get! (k + 3)) (by omega)]
    · rintro hb rfl; exact absurd rfl hb
  · rintro hb rfl; exact absurd rfl hb

theorem runesBytes_snoc (l : List Int) (r : Int) : runesBytes (l ++ [r]) = runesBytes l ++ Utf8.encode r := by simp [runesBytes]
theorem bytes_ext {a b : ByteArray} (h : a.data.toList = b.data.toList) : a = b := by
  rw [← Lib.mk_data a, ← Lib.mk_data b, h]
theorem runes_fix (s : ByteArray) (n : Nat) (h : ∀ m, m < n → pos s m < s.size) : (runesBytes (runesL s n)).data.toList = fixL s n := by
  induction n with
  | zero => rfl
  | succ n ih =>
    rw [runesL, runesBytes_snoc, fixL, ← enc_piece s (pos s n) (h n (by omega)), ← ih (fun m hm => h m (by omega))]
    rw [ByteArray.data_append, Array.toList_append]
end Go.Proofs.YtbokolpjdaamiaaGreatDoor.ut
