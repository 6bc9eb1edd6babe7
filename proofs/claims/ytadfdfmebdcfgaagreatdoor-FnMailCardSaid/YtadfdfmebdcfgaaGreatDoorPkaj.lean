/-
  The contract of the specification's reader of one rune: it answers what the model's decoding gives.
  Contracts of impl.isRight and of the specification's ValidText: whether a text is right, and of at most 65536 bytes.
  Contracts of impl.cutPlace and of both CutRunes functions: the longest beginning that ends where a rune does and has at most n bytes.
  Plain facts on encoded words: what a text is encoded to, and what words say.
  Plain facts on reading base 64: bit by bit without the signs at the end, and group by group, come to the same.
-/
import Derived.Test.YtadfdfmebdcfgaaGreatDoorPkai
import Derived.Test.YtadfdfmebdcfgaaGreatDoorRows
import Derived.WalkKit
import Derived.WalkLawsBesides
import Derived.Test.YtadfdfmebdcfgaaGreatDoorPkab
import Derived.Test.YtadfdfmebdcfgaaGreatDoorPkae
import Derived.Test.YtadfdfmebdcfgaaGreatDoorPkac
import Derived.Lib.IndexMore
import Derived.Lib.IndexLaws
import Derived.Lib.Strings

namespace Go.Proofs.YtadfdfmebdcfgaaGreatDoor.ut
open Go.RowKit
set_option linter.unusedVariables false

set_option maxHeartbeats 1000000 in
set_option maxRecDepth 100000 in
theorem rune_3a (s : ByteArray) (k : Nat) (w : World) (hs : s.size ≤ 1048576) (hk : k < s.size) (b : 224 ≤ ((s[k]'hk).toNat : Int)) (b2 : ((s[k]'hk).toNat : Int) ≤ 239) (h1 : k + 1 < s.size) (h2 : k + 2 < s.size) (c1 : 128 ≤ ((s[k + 1]'h1).toNat : Int)) (c1' : ((s[k + 1]'h1).toNat : Int) ≤ 191) (c2 : 128 ≤ ((s[k + 2]'h2).toNat : Int)) (c2' : ((s[k + 2]'h2).toNat : Int) ≤ 191) (g : (((((s[k]'hk).toNat : Int) - 224) * 64 + ((s[k + 1]'h1).toNat : Int) - 128) * 64 + ((s[k + 2]'h2).toNat : Int) - 128) < 2048) :
    Calls Tryz.prog 106 #[.string s, .int .i64 k] w fun e w' => RuneRet s k e ∧ w' = w := by
  have u0 : ((s[k]'hk).toNat : Int) ≤ 255 := by have := UInt8.toNat_lt (s[k]'hk); omega
  have u1 : ((s[k + 1]'h1).toNat : Int) ≤ 255 := by have := UInt8.toNat_lt (s[k + 1]'h1); omega
  have u2 : ((s[k + 2]'h2).toNat : Int) ≤ 255 := by have := UInt8.toNat_lt (s[k + 2]'h2); omega
  go_enter Tryz.func106, Tryz.ntmps106
  go_wp2_with (first | go_in)
  refine wp_loop_rounds 3 ?_
  rw [rounds_succ]
  go_wp2_with (first | go_in)
  rw [rounds_succ]
  go_wp2_with (first | go_in)
  rw [rounds_succ]
  go_wp2_with (first | go_in)
  all_goals go_ret3
  all_goals exact ⟨r_bad (b_size3 hk h1 h2 b b2 c1 c1' c2 c2' (by omega)), rfl⟩
set_option maxHeartbeats 1000000 in
set_option maxRecDepth 100000 in
theorem rune_3b (s : ByteArray) (k : Nat) (w : World) (hs : s.size ≤ 1048576) (hk : k < s.size) (b : 224 ≤ ((s[k]'hk).toNat : Int)) (b2 : ((s[k]'hk).toNat : Int) ≤ 239) (h1 : k + 1 < s.size) (h2 : k + 2 < s.size) (c1 : 128 ≤ ((s[k + 1]'h1).toNat : Int)) (c1' : ((s[k + 1]'h1).toNat : Int) ≤ 191) (c2 : 128 ≤ ((s[k + 2]'h2).toNat : Int)) (c2' : ((s[k + 2]'h2).toNat : Int) ≤ 191) (g : 2048 ≤ (((((s[k]'hk).toNat : Int) - 224) * 64 + ((s[k + 1]'h1).toNat : Int) - 128) * 64 + ((s[k + 2]'h2).toNat : Int) - 128)) (g2 : (((((s[k]'hk).toNat : Int) - 224) * 64 + ((s[k + 1]'h1).toNat : Int) - 128) * 64 + ((s[k + 2]'h2).toNat : Int) - 128) ≤ 55295) :
    Calls Tryz.prog 106 #[.string s, .int .i64 k] w fun e w' => RuneRet s k e ∧ w' = w := by
  have u0 : ((s[k]'hk).toNat : Int) ≤ 255 := by have := UInt8.toNat_lt (s[k]'hk); omega
  have u1 : ((s[k + 1]'h1).toNat : Int) ≤ 255 := by have := UInt8.toNat_lt (s[k + 1]'h1); omega
  have u2 : ((s[k + 2]'h2).toNat : Int) ≤ 255 := by have := UInt8.toNat_lt (s[k + 2]'h2); omega
  go_enter Tryz.func106, Tryz.ntmps106
  go_wp2_with (first | go_in)
  refine wp_loop_rounds 3 ?_
  rw [rounds_succ]
  go_wp2_with (first | go_in)
  rw [rounds_succ]
  go_wp2_with (first | go_in)
  rw [rounds_succ]
  go_wp2_with (first | go_in)
  all_goals go_ret3
  all_goals exact ⟨r_ok3 hk h1 h2 b b2 c1 c1' c2 c2' (by omega) (by omega), rfl⟩
set_option maxHeartbeats 1000000 in
set_option maxRecDepth 100000 in
theorem rune_3c (s : ByteArray) (k : Nat) (w : World) (hs : s.size ≤ 1048576) (hk : k < s.size) (b : 224 ≤ ((s[k]'hk).toNat : Int)) (b2 : ((s[k]'hk).toNat : Int) ≤ 239) (h1 : k + 1 < s.size) (h2 : k + 2 < s.size) (c1 : 128 ≤ ((s[k + 1]'h1).toNat : Int)) (c1' : ((s[k + 1]'h1).toNat : Int) ≤ 191) (c2 : 128 ≤ ((s[k + 2]'h2).toNat : Int)) (c2' : ((s[k + 2]'h2).toNat : Int) ≤ 191) (g : 55295 < (((((s[k]'hk).toNat : Int) - 224) * 64 + ((s[k + 1]'h1).toNat : Int) - 128) * 64 + ((s[k + 2]'h2).toNat : Int) - 128)) (g2 : (((((s[k]'hk).toNat : Int) - 224) * 64 + ((s[k + 1]'h1).toNat : Int) - 128) * 64 + ((s[k + 2]'h2).toNat : Int) - 128) < 57344) :
    Calls Tryz.prog 106 #[.string s, .int .i64 k] w fun e w' => RuneRet s k e ∧ w' = w := by
  have u0 : ((s[k]'hk).toNat : Int) ≤ 255 := by have := UInt8.toNat_lt (s[k]'hk); omega
  have u1 : ((s[k + 1]'h1).toNat : Int) ≤ 255 := by have := UInt8.toNat_lt (s[k + 1]'h1); omega
  have u2 : ((s[k + 2]'h2).toNat : Int) ≤ 255 := by have := UInt8.toNat_lt (s[k + 2]'h2); omega
  have x16411 : decide ((((((s[k]'hk).toNat : Int) - 224) * 64 + ((s[k + 1]'h1).toNat : Int) - 128) * 64 + ((s[k + 2]'h2).toNat : Int) - 128) ≤ 55295) = false := decide_eq_false (by omega)
  have x16408 : decide (57344 ≤ (((((s[k]'hk).toNat : Int) - 224) * 64 + ((s[k + 1]'h1).toNat : Int) - 128) * 64 + ((s[k + 2]'h2).toNat : Int) - 128)) = false := decide_eq_false (by omega)
  go_enter Tryz.func106, Tryz.ntmps106
  go_wp2_with (first | go_in)
  refine wp_loop_rounds 3 ?_
  rw [rounds_succ]
  go_wp2_with (first | go_in)
  rw [rounds_succ]
  go_wp2_with (first | go_in)
  rw [rounds_succ]
  go_wp2_with (first | go_in)
  all_goals go_ret3
  all_goals exact ⟨r_bad (b_size3 hk h1 h2 b b2 c1 c1' c2 c2' (by omega)), rfl⟩
set_option maxHeartbeats 1000000 in
set_option maxRecDepth 100000 in
theorem rune_3d (s : ByteArray) (k : Nat) (w : World) (hs : s.size ≤ 1048576) (hk : k < s.size) (b : 224 ≤ ((s[k]'hk).toNat : Int)) (b2 : ((s[k]'hk).toNat : Int) ≤ 239) (h1 : k + 1 < s.size) (h2 : k + 2 < s.size) (c1 : 128 ≤ ((s[k + 1]'h1).toNat : Int)) (c1' : ((s[k + 1]'h1).toNat : Int) ≤ 191) (c2 : 128 ≤ ((s[k + 2]'h2).toNat : Int)) (c2' : ((s[k + 2]'h2).toNat : Int) ≤ 191) (g : 57344 ≤ (((((s[k]'hk).toNat : Int) - 224) * 64 + ((s[k + 1]'h1).toNat : Int) - 128) * 64 + ((s[k + 2]'h2).toNat : Int) - 128)) :
    Calls Tryz.prog 106 #[.string s, .int .i64 k] w fun e w' => RuneRet s k e ∧ w' = w := by
  have u0 : ((s[k]'hk).toNat : Int) ≤ 255 := by have := UInt8.toNat_lt (s[k]'hk); omega
  have u1 : ((s[k + 1]'h1).toNat : Int) ≤ 255 := by have := UInt8.toNat_lt (s[k + 1]'h1); omega
  have u2 : ((s[k + 2]'h2).toNat : Int) ≤ 255 := by have := UInt8.toNat_lt (s[k + 2]'h2); omega
  have x16411 : decide ((((((s[k]'hk).toNat : Int) - 224) * 64 + ((s[k + 1]'h1).toNat : Int) - 128) * 64 + ((s[k + 2]'h2).toNat : Int) - 128) ≤ 55295) = false := decide_eq_false (by omega)
  have y16491 : decide ((((((s[k]'hk).toNat : Int) - 224) * 64 + ((s[k + 1]'h1).toNat : Int) - 128) * 64 + ((s[k + 2]'h2).toNat : Int) - 128) ≤ 1114111) = true := decide_eq_true (by omega)
  go_enter Tryz.func106, Tryz.ntmps106
  go_wp2_with (first | go_in)
  refine wp_loop_rounds 3 ?_
  rw [rounds_succ]
  go_wp2_with (first | go_in)
  rw [rounds_succ]
  go_wp2_with (first | go_in)
  rw [rounds_succ]
  go_wp2_with (first | go_in)
  all_goals go_ret3
  all_goals exact ⟨r_ok3 hk h1 h2 b b2 c1 c1' c2 c2' (by omega) (by omega), rfl⟩
set_option maxHeartbeats 1000000 in
set_option maxRecDepth 100000 in
theorem rune_4a (s : ByteArray) (k : Nat) (w : World) (hs : s.size ≤ 1048576) (hk : k < s.size) (b : 240 ≤ ((s[k]'hk).toNat : Int)) (b2 : ((s[k]'hk).toNat : Int) ≤ 244) (h1 : k + 1 < s.size) (h2 : k + 2 < s.size) (h3 : k + 3 < s.size) (c1 : 128 ≤ ((s[k + 1]'h1).toNat : Int)) (c1' : ((s[k + 1]'h1).toNat : Int) ≤ 191) (c2 : 128 ≤ ((s[k + 2]'h2).toNat : Int)) (c2' : ((s[k + 2]'h2).toNat : Int) ≤ 191) (c3 : 128 ≤ ((s[k + 3]'h3).toNat : Int)) (c3' : ((s[k + 3]'h3).toNat : Int) ≤ 191) (g : ((((((s[k]'hk).toNat : Int) - 240) * 64 + ((s[k + 1]'h1).toNat : Int) - 128) * 64 + ((s[k + 2]'h2).toNat : Int) - 128) * 64 + ((s[k + 3]'h3).toNat : Int) - 128) < 65536) :
    Calls Tryz.prog 106 #[.string s, .int .i64 k] w fun e w' => RuneRet s k e ∧ w' = w := by
  have u0 : ((s[k]'hk).toNat : Int) ≤ 255 := by have := UInt8.toNat_lt (s[k]'hk); omega
  have u1 : ((s[k + 1]'h1).toNat : Int) ≤ 255 := by have := UInt8.toNat_lt (s[k + 1]'h1); omega
  have u2 : ((s[k + 2]'h2).toNat : Int) ≤ 255 := by have := UInt8.toNat_lt (s[k + 2]'h2); omega
  have u3 : ((s[k + 3]'h3).toNat : Int) ≤ 255 := by have := UInt8.toNat_lt (s[k + 3]'h3); omega
  go_enter Tryz.func106, Tryz.ntmps106
  go_wp2_with (first | go_in)
  refine wp_loop_rounds 4 ?_
  rw [rounds_succ]
  go_wp2_with (first | go_in)
  rw [rounds_succ]
  go_wp2_with (first | go_in)
  rw [rounds_succ]
  go_wp2_with (first | go_in)
  rw [rounds_succ]
  go_wp2_with (first | go_in)
  all_goals go_ret3
  all_goals exact ⟨r_bad (b_size4 hk h1 h2 h3 b b2 c1 c1' c2 c2' c3 c3' (by omega)), rfl⟩
set_option maxHeartbeats 1000000 in
set_option maxRecDepth 100000 in
theorem rune_4b (s : ByteArray) (k : Nat) (w : World) (hs : s.size ≤ 1048576) (hk : k < s.size) (b : 240 ≤ ((s[k]'hk).toNat : Int)) (b2 : ((s[k]'hk).toNat : Int) ≤ 244) (h1 : k + 1 < s.size) (h2 : k + 2 < s.size) (h3 : k + 3 < s.size) (c1 : 128 ≤ ((s[k + 1]'h1).toNat : Int)) (c1' : ((s[k + 1]'h1).toNat : Int) ≤ 191) (c2 : 128 ≤ ((s[k + 2]'h2).toNat : Int)) (c2' : ((s[k + 2]'h2).toNat : Int) ≤ 191) (c3 : 128 ≤ ((s[k + 3]'h3).toNat : Int)) (c3' : ((s[k + 3]'h3).toNat : Int) ≤ 191) (g : 65536 ≤ ((((((s[k]'hk).toNat : Int) - 240) * 64 + ((s[k + 1]'h1).toNat : Int) - 128) * 64 + ((s[k + 2]'h2).toNat : Int) - 128) * 64 + ((s[k + 3]'h3).toNat : Int) - 128)) (g2 : ((((((s[k]'hk).toNat : Int) - 240) * 64 + ((s[k + 1]'h1).toNat : Int) - 128) * 64 + ((s[k + 2]'h2).toNat : Int) - 128) * 64 + ((s[k + 3]'h3).toNat : Int) - 128) ≤ 1114111) :
    Calls Tryz.prog 106 #[.string s, .int .i64 k] w fun e w' => RuneRet s k e ∧ w' = w := by
  have u0 : ((s[k]'hk).toNat : Int) ≤ 255 := by have := UInt8.toNat_lt (s[k]'hk); omega
  have u1 : ((s[k + 1]'h1).toNat : Int) ≤ 255 := by have := UInt8.toNat_lt (s[k + 1]'h1); omega
  have u2 : ((s[k + 2]'h2).toNat : Int) ≤ 255 := by have := UInt8.toNat_lt (s[k + 2]'h2); omega
  have u3 : ((s[k + 3]'h3).toNat : Int) ≤ 255 := by have := UInt8.toNat_lt (s[k + 3]'h3); omega
  have x18978 : decide (((((((s[k]'hk).toNat : Int) - 240) * 64 + ((s[k + 1]'h1).toNat : Int) - 128) * 64 + ((s[k + 2]'h2).toNat : Int) - 128) * 64 + ((s[k + 3]'h3).toNat : Int) - 128) ≤ 55295) = false := decide_eq_false (by omega)
  have y19058 : decide (((((((s[k]'hk).toNat : Int) - 240) * 64 + ((s[k + 1]'h1).toNat : Int) - 128) * 64 + ((s[k + 2]'h2).toNat : Int) - 128) * 64 + ((s[k + 3]'h3).toNat : Int) - 128) ≤ 1114111) = true := decide_eq_true (by omega)
  go_enter Tryz.func106, Tryz.ntmps106
  go_wp2_with (first | go_in)
  refine wp_loop_rounds 4 ?_
  rw [rounds_succ]
  go_wp2_with (first | go_in)
  rw [rounds_succ]
  go_wp2_with (first | go_in)
  rw [rounds_succ]
  go_wp2_with (first | go_in)
  rw [rounds_succ]
  go_wp2_with (first | go_in)
  all_goals go_ret3
  all_goals exact ⟨r_ok4 hk h1 h2 h3 b b2 c1 c1' c2 c2' c3 c3' (by omega) (by omega), rfl⟩
set_option maxHeartbeats 1000000 in
set_option maxRecDepth 100000 in
theorem rune_4c (s : ByteArray) (k : Nat) (w : World) (hs : s.size ≤ 1048576) (hk : k < s.size) (b : 240 ≤ ((s[k]'hk).toNat : Int)) (b2 : ((s[k]'hk).toNat : Int) ≤ 244) (h1 : k + 1 < s.size) (h2 : k + 2 < s.size) (h3 : k + 3 < s.size) (c1 : 128 ≤ ((s[k + 1]'h1).toNat : Int)) (c1' : ((s[k + 1]'h1).toNat : Int) ≤ 191) (c2 : 128 ≤ ((s[k + 2]'h2).toNat : Int)) (c2' : ((s[k + 2]'h2).toNat : Int) ≤ 191) (c3 : 128 ≤ ((s[k + 3]'h3).toNat : Int)) (c3' : ((s[k + 3]'h3).toNat : Int) ≤ 191) (g : 1114111 < ((((((s[k]'hk).toNat : Int) - 240) * 64 + ((s[k + 1]'h1).toNat : Int) - 128) * 64 + ((s[k + 2]'h2).toNat : Int) - 128) * 64 + ((s[k + 3]'h3).toNat : Int) - 128)) :
    Calls Tryz.prog 106 #[.string s, .int .i64 k] w fun e w' => RuneRet s k e ∧ w' = w := by
  have u0 : ((s[k]'hk).toNat : Int) ≤ 255 := by have := UInt8.toNat_lt (s[k]'hk); omega
  have u1 : ((s[k + 1]'h1).toNat : Int) ≤ 255 := by have := UInt8.toNat_lt (s[k + 1]'h1); omega
  have u2 : ((s[k + 2]'h2).toNat : Int) ≤ 255 := by have := UInt8.toNat_lt (s[k + 2]'h2); omega
  have u3 : ((s[k + 3]'h3).toNat : Int) ≤ 255 := by have := UInt8.toNat_lt (s[k + 3]'h3); omega
  have x18978 : decide (((((((s[k]'hk).toNat : Int) - 240) * 64 + ((s[k + 1]'h1).toNat : Int) - 128) * 64 + ((s[k + 2]'h2).toNat : Int) - 128) * 64 + ((s[k + 3]'h3).toNat : Int) - 128) ≤ 55295) = false := decide_eq_false (by omega)
  have x19058 : decide (((((((s[k]'hk).toNat : Int) - 240) * 64 + ((s[k + 1]'h1).toNat : Int) - 128) * 64 + ((s[k + 2]'h2).toNat : Int) - 128) * 64 + ((s[k + 3]'h3).toNat : Int) - 128) ≤ 1114111) = false := decide_eq_false (by omega)
  go_enter Tryz.func106, Tryz.ntmps106
  go_wp2_with (first | go_in)
  refine wp_loop_rounds 4 ?_
  rw [rounds_succ]
  go_wp2_with (first | go_in)
  rw [rounds_succ]
  go_wp2_with (first | go_in)
  rw [rounds_succ]
  go_wp2_with (first | go_in)
  rw [rounds_succ]
  go_wp2_with (first | go_in)
  all_goals go_ret3
  all_goals exact ⟨r_bad (b_size4 hk h1 h2 h3 b b2 c1 c1' c2 c2' c3 c3' (by omega)), rfl⟩

theorem rune_any (s : ByteArray) (k : Nat) (w : World) (hs : s.size ≤ 1048576) (hk : k < s.size) :
    Calls Tryz.prog 106 #[.string s, .int .i64 k] w fun e w' => RuneRet s k e ∧ w' = w := by
  by_cases b1 : ((s[k]'hk).toNat : Int) < 128
  · exact rune_1 s k w hs hk b1
  by_cases b2 : ((s[k]'hk).toNat : Int) < 194
  · exact rune_lo s k w hs hk (by omega) b2
  by_cases b3 : 244 < ((s[k]'hk).toNat : Int)
  · exact rune_hi s k w hs hk b3
  by_cases b4 : ((s[k]'hk).toNat : Int) ≤ 223
  · by_cases hn : s.size < k + 2
    · exact rune_2s s k w hs hk (by omega) b4 hn
    have h1 : k + 1 < s.size := by omega
    by_cases x : ((s[k + 1]'h1).toNat : Int) < 128
    · exact rune_2c1lo s k w hs hk (by omega) b4 h1 x
    by_cases x' : 191 < ((s[k + 1]'h1).toNat : Int)
    · exact rune_2c1hi s k w hs hk (by omega) b4 h1 x'
    exact rune_2 s k w hs hk (by omega) b4 h1 (by omega) (by omega)
  by_cases b5 : ((s[k]'hk).toNat : Int) ≤ 239
  · by_cases hn : s.size < k + 3
    · exact rune_3s s k w hs hk (by omega) b5 hn
    have h1 : k + 1 < s.size := by omega
    have h2 : k + 2 < s.size := by omega
    by_cases x : ((s[k + 1]'h1).toNat : Int) < 128
    · exact rune_3c1lo s k w hs hk (by omega) b5 h1 h2 x
    by_cases x' : 191 < ((s[k + 1]'h1).toNat : Int)
    · exact rune_3c1hi s k w hs hk (by omega) b5 h1 h2 x'
    by_cases y : ((s[k + 2]'h2).toNat : Int) < 128
    · exact rune_3c2lo s k w hs hk (by omega) b5 h1 h2 (by omega) (by omega) y
    by_cases y' : 191 < ((s[k + 2]'h2).toNat : Int)
    · exact rune_3c2hi s k w hs hk (by omega) b5 h1 h2 (by omega) (by omega) y'
    by_cases g1 : ((((s[k]'hk).toNat : Int) - 224) * 64 + ((s[k + 1]'h1).toNat : Int) - 128) * 64 + ((s[k + 2]'h2).toNat : Int) - 128 < 2048
    · exact rune_3a s k w hs hk (by omega) b5 h1 h2 (by omega) (by omega) (by omega) (by omega) g1
    by_cases g2 : ((((s[k]'hk).toNat : Int) - 224) * 64 + ((s[k + 1]'h1).toNat : Int) - 128) * 64 + ((s[k + 2]'h2).toNat : Int) - 128 ≤ 55295
    · exact rune_3b s k w hs hk (by omega) b5 h1 h2 (by omega) (by omega) (by omega) (by omega) (by omega) g2
    by_cases g3 : ((((s[k]'hk).toNat : Int) - 224) * 64 + ((s[k + 1]'h1).toNat : Int) - 128) * 64 + ((s[k + 2]'h2).toNat : Int) - 128 < 57344
    · exact rune_3c s k w hs hk (by omega) b5 h1 h2 (by omega) (by omega) (by omega) (by omega) (by omega) g3
    exact rune_3d s k w hs hk (by omega) b5 h1 h2 (by omega) (by omega) (by omega) (by omega) (by omega)
  by_cases hn : s.size < k + 4
  · exact rune_4s s k w hs hk (by omega) (by omega) hn
  have h1 : k + 1 < s.size := by omega
  have h2 : k + 2 < s.size := by omega
  have h3 : k + 3 < s.size := by omega
  by_cases x : ((s[k + 1]'h1).toNat : Int) < 128
  · exact rune_4c1lo s k w hs hk (by omega) (by omega) h1 h2 h3 x
  by_cases x' : 191 < ((s[k + 1]'h1).toNat : Int)
  · exact rune_4c1hi s k w hs hk (by omega) (by omega) h1 h2 h3 x'
  by_cases y : ((s[k + 2]'h2).toNat : Int) < 128
  · exact rune_4c2lo s k w hs hk (by omega) (by omega) h1 h2 h3 (by omega) (by omega) y
  by_cases y' : 191 < ((s[k + 2]'h2).toNat : Int)
  · exact rune_4c2hi s k w hs hk (by omega) (by omega) h1 h2 h3 (by omega) (by omega) y'
  by_cases z : ((s[k + 3]'h3).toNat : Int) < 128
  · exact rune_4c3lo s k w hs hk (by omega) (by omega) h1 h2 h3 (by omega) (by omega) (by omega) (by omega) z
  by_cases z' : 191 < ((s[k + 3]'h3).toNat : Int)
  · exact rune_4c3hi s k w hs hk (by omega) (by omega) h1 h2 h3 (by omega) (by omega) (by omega) (by omega) z'
  by_cases g1 : (((((s[k]'hk).toNat : Int) - 240) * 64 + ((s[k + 1]'h1).toNat : Int) - 128) * 64 + ((s[k + 2]'h2).toNat : Int) - 128) * 64 + ((s[k + 3]'h3).toNat : Int) - 128 < 65536
  · exact rune_4a s k w hs hk (by omega) (by omega) h1 h2 h3 (by omega) (by omega) (by omega) (by omega) (by omega) (by omega) g1
  by_cases g2 : (((((s[k]'hk).toNat : Int) - 240) * 64 + ((s[k + 1]'h1).toNat : Int) - 128) * 64 + ((s[k + 2]'h2).toNat : Int) - 128) * 64 + ((s[k + 3]'h3).toNat : Int) - 128 ≤ 1114111
  · exact rune_4b s k w hs hk (by omega) (by omega) h1 h2 h3 (by omega) (by omega) (by omega) (by omega) (by omega) (by omega) (by omega) g2
  exact rune_4c s k w hs hk (by omega) (by omega) h1 h2 h3 (by omega) (by omega) (by omega) (by omega) (by omega) (by omega) (by omega)
end Go.Proofs.YtadfdfmebdcfgaaGreatDoor.ut

namespace Go.Proofs.YtadfdfmebdcfgaaGreatDoor.ut
open Go.RowKit
set_option linter.unusedVariables false

set_option maxHeartbeats 1000000 in
set_option maxRecDepth 100000 in
theorem isRight_any (s : ByteArray) (w : World) (hs : s.size ≤ 1048576) :
    Calls Tryz.prog 147 #[.string s] w fun e w' => Says (Right s) e ∧ ∃ p, w' = w.iter s p := by
  go_enter Tryz.func147, Tryz.ntmps147
  go_wp2
  go_loopw [3, 4] (fun _ _ w' => ∃ n : Nat, pos s n ≤ s.size ∧ w' = w.iter s (pos s n) ∧ ∀ m, m < n → ¬ badAt s (pos s m)) (fun _ _ w' => s.size - w'.iterPos w.heap.size)
  case atStart => exact ⟨0, Nat.zero_le _, rfl, fun j hj => absurd hj (Nat.not_lt_zero _)⟩
  case round =>
    obtain ⟨n, hn, rfl, hg⟩ := hrel
    have HG : Hid (∀ m, m < n → ¬ badAt s (pos s m)) := hg
    clear hg
    obtain ⟨p, hp⟩ : ∃ p, p = pos s n := ⟨_, rfl⟩
    rw [← hp] at hn ⊢
    have HP : Hid (p = pos s n) := hp
    clear hp
    by_cases hlt : p < s.size
    · have hnx : ∀ ty, (Instr.next (.pointer (some ⟨w.heap.size, 0, none⟩)) true ty).run Tryz.prog (w.iter s p) = _ := fun ty => run_next_any w s p ty hlt
      go_wp2_with (first | go_in)
      · go_ret
        exact ⟨says_no (wrong_at (n := n) (by rw [← HP.out]; exact hlt) (by rw [← HP.out]; exact stand_bad hlt ‹_› (by rename_i h; simpa [standAt] using h))), _, rfl⟩
      · go_roundw
        case rel => exact ⟨n + 1, by rw [pos, ← HP.out]; exact (wide s p hlt).2, by rw [pos, ← HP.out], right_step HG.out (by rw [← HP.out]; exact stand_good (by omega) (by rename_i h; simpa [standAt] using h))⟩
        case measure => have := wide s p hlt; simp; omega
      · go_ret
        exact ⟨says_no (wrong_at (n := n) (by rw [← HP.out]; exact hlt) (by rw [← HP.out]; exact stand_short hlt ‹_› (by omega))), _, rfl⟩
      · go_roundw
        case rel => exact ⟨n + 1, by rw [pos, ← HP.out]; exact (wide s p hlt).2, by rw [pos, ← HP.out], right_step HG.out (by rw [← HP.out]; intro hb; have := bad_rune hb; omega)⟩
        case measure => have := wide s p hlt; simp; omega
    · have hnx : ∀ ty, (Instr.next (.pointer (some ⟨w.heap.size, 0, none⟩)) true ty).run Tryz.prog (w.iter s p) = _ := fun ty => run_next_end w s p ty hlt
      go_wp2
      go_ret
      exact ⟨says_yes (right_of s n (by have := HP.out; omega) HG.out), _, rfl⟩

end Go.Proofs.YtadfdfmebdcfgaaGreatDoor.ut

namespace Go.Proofs.YtadfdfmebdcfgaaGreatDoor.ut
open Go.RowKit
set_option linter.unusedVariables false

/-- The place at which a text is cut: a rune's beginning, or the end, not beyond n, the next one beyond it. -/
def CutAt (s : ByteArray) (n : Int) (k : Nat) : Prop := ∃ j, k = pos s j ∧ k ≤ s.size ∧ (k : Int) ≤ n ∧ (n < (pos s (j + 1) : Int) ∨ s.size ≤ k)

theorem cut_one {s : ByteArray} {n : Int} {k k' : Nat} (h : CutAt s n k) (h' : CutAt s n k') : k = k' := by
  have key : ∀ {j j' : Nat}, j < j' → pos s j' ≤ s.size → (pos s j' : Int) ≤ n → (n < (pos s (j + 1) : Int) ∨ s.size ≤ pos s j) → pos s j = pos s j' := by
    intro j j' hlt hle hn hx
    have h1 := pos_mono s (j + 1) (j' - (j + 1))
    rw [show j + 1 + (j' - (j + 1)) = j' from by omega] at h1
    have h2 := pos_mono s j (j' - j)
    rw [show j + (j' - j) = j' from by omega] at h2
    omega
  obtain ⟨j, rfl, a1, a2, a3⟩ := h
  obtain ⟨j', rfl, b1, b2, b3⟩ := h'
  rcases Nat.lt_trichotomy j j' with e | e | e
  · exact key e b1 b2 a3
  · rw [e]
  · exact (key e a1 a2 b3).symm
theorem pos_end (s : ByteArray) : ∃ j, pos s j = s.size := by
  have key : ∀ m n, pos s n ≤ s.size → s.size - pos s n ≤ m → ∃ j, pos s j = s.size := by
    intro m
    induction m with
    | zero => intro n h1 h2; exact ⟨n, by omega⟩
    | succ m ih =>
      intro n h1 h2
      by_cases e : pos s n = s.size
      · exact ⟨n, e⟩
      · have := pos_le s n (by omega)
        exact ih (n + 1) this.1 (by omega)
  exact key s.size 0 (Nat.zero_le _) (by simp [pos])
theorem cut_all {s : ByteArray} {n : Int} (h : (s.size : Int) ≤ n) : CutAt s n s.size := by
  obtain ⟨j, hj⟩ := pos_end s
  exact ⟨j, hj.symm, Nat.le_refl _, h, .inr (Nat.le_refl _)⟩
/-- What a call that cuts answers. -/
def PlaceRet (s : ByteArray) (n : Int) (e : Ending) : Prop := ∃ k : Nat, e = .returned (.int .i64 (k : Int)) ∧ CutAt s n k

set_option maxHeartbeats 1000000 in
set_option maxRecDepth 100000 in
theorem place_any (s : ByteArray) (n : Int) (w : World) (hs : s.size ≤ 1048576) (h0 : 0 ≤ n) :
    Calls Tryz.prog 180 #[.string s, .int .i64 n] w fun e w' => PlaceRet s n e ∧ Below w.heap.size w w' := by
  by_cases hle : (s.size : Int) ≤ n
  · go_enter Tryz.func180, Tryz.ntmps180
    go_wp2
    go_ret
    exact ⟨⟨s.size, rfl, cut_all hle⟩, Below.refl _ _⟩
  have hlt : n < (s.size : Int) := by omega
  clear hle
  go_enter Tryz.func180, Tryz.ntmps180
  go_wp2
  go_loopw [5, 6] (fun q _ w' => ∃ (j i : Nat), pos s j ≤ s.size ∧ w' = w.iter s (pos s j) ∧ q = .int .i64 (pos s i) ∧ ((pos s i : Nat) : Int) ≤ n ∧ (j = i + 1 ∨ (j = 0 ∧ i = 0))) (fun _ _ w' => s.size - w'.iterPos w.heap.size)
  case atStart => exact ⟨0, 0, Nat.zero_le _, rfl, rfl, h0, .inr ⟨rfl, rfl⟩⟩
  case round =>
    obtain ⟨j, i, hj, rfl, rfl, hi, hij⟩ := hrel
    have HI : Hid (j = i + 1 ∨ (j = 0 ∧ i = 0)) := hij
    clear hij
    obtain ⟨p, hp⟩ : ∃ p, p = pos s j := ⟨_, rfl⟩
    rw [← hp] at hj ⊢
    have HP : Hid (p = pos s j) := hp
    clear hp
    obtain ⟨q, hq⟩ : ∃ q, q = pos s i := ⟨_, rfl⟩
    rw [← hq] at hi ⊢
    have HQ : Hid (q = pos s i) := hq
    clear hq
    by_cases hlp : p < s.size
    · have hnx : ∀ ty, (Instr.next (.pointer (some ⟨w.heap.size, 0, none⟩)) true ty).run Tryz.prog (w.iter s p) = _ := fun ty => run_next_any w s p ty hlp
      by_cases hpn : n < (p : Int)
      · go_wp2
        go_ret
        refine ⟨⟨q, rfl, i, HQ.out, ?_, hi, .inl ?_⟩, (Below.refl _ _).alloc (Nat.le_refl _) _⟩
        · omega
        · rcases HI.out with e | ⟨e, _⟩
          · rw [← e, ← HP.out]; exact hpn
          · have := HP.out; rw [e] at this; simp [pos] at this; omega
      · go_wp2
        go_roundw
        case rel => exact ⟨j + 1, j, by rw [pos, ← HP.out]; exact (wide s p hlp).2, by rw [pos, ← HP.out], by rw [← HP.out], by rw [← HP.out]; omega, .inl rfl⟩
        case measure => have := wide s p hlp; simp; omega
    · have hnx : ∀ ty, (Instr.next (.pointer (some ⟨w.heap.size, 0, none⟩)) true ty).run Tryz.prog (w.iter s p) = _ := fun ty => run_next_end w s p ty hlp
      go_wp2
      go_ret
      refine ⟨⟨q, rfl, i, HQ.out, ?_, hi, .inl ?_⟩, (Below.refl _ _).alloc (Nat.le_refl _) _⟩
      · omega
      · rcases HI.out with e | ⟨e, _⟩
        · rw [← e, ← HP.out]; omega
        · have := HP.out; rw [e] at this; simp [pos] at this; omega

theorem clone_any (s : ByteArray) (w : World) (hs : s.size ≤ 1048576) :
    Calls Tryz.prog 149 #[.string s] w fun e w' => e = .returned (.string s) ∧ Below w.heap.size w w' := by
  go_enter Tryz.func149, Tryz.ntmps149
  go_wp2_with fail
  refine (Tryz.stringslite_Clone s _ (by omega)).mono ?_
  rintro e w' ⟨rfl, hb⟩
  go_wp2
  go_ret
  exact ⟨rfl, hb⟩
end Go.Proofs.YtadfdfmebdcfgaaGreatDoor.ut

namespace Go.Proofs.YtadfdfmebdcfgaaGreatDoor.hd
open Go
set_option linter.unusedVariables false

def head : List UInt8 := [61, 63, 117, 116, 102, 45, 56, 63, 66, 63]
def tail : List UInt8 := [63, 61]
def wordL (l : List UInt8) : List UInt8 := head ++ b6.enc l ++ tail
def sep (out : List UInt8) : List UInt8 := if out = [] then [] else [32]
/-- What is left of a text, encoded in at most n words behind what is out, comes to r. -/
def Ends : Nat → ByteArray → List UInt8 → List UInt8 → Prop
  | 0, t, out, r => t.size = 0 ∧ r = out
  | n + 1, t, out, r => (t.size = 0 ∧ r = out) ∨ (t.size ≠ 0 ∧ ∃ k, ut.CutAt t 45 k ∧ Ends n (t.extract k t.size) (out ++ sep out ++ wordL (t.extract 0 k).data.toList) r)
def EndsAny (t : ByteArray) (out r : List UInt8) : Prop := ∃ n, Ends n t out r
theorem ends_nil {t : ByteArray} (out : List UInt8) (h : t.size = 0) : EndsAny t out out := ⟨0, h, rfl⟩
theorem ends_step {t : ByteArray} {out r : List UInt8} {k : Nat} (h : t.size ≠ 0) (hk : ut.CutAt t 45 k) (he : EndsAny (t.extract k t.size) (out ++ sep out ++ wordL (t.extract 0 k).data.toList) r) : EndsAny t out r := by
  obtain ⟨n, hn⟩ := he
  exact ⟨n + 1, .inr ⟨h, k, hk, hn⟩⟩

/-- A word is an encoded one, and says y. -/
def Coded (x y : List UInt8) : Prop := Lib.hasPrefix x head = true ∧ Lib.hasSuffix (x.drop 10) tail = true ∧ b6.dec ((x.drop 10).take ((x.drop 10).length - 2)) = some y ∧ y ≠ [] ∧ ut.Right ⟨y.toArray⟩
theorem coded_one {x y y' : List UInt8} (h : Coded x y) (h' : Coded x y') : y = y' := by
  have := h.2.2.1.symm.trans h'.2.2.1
  cases this
  rfl
/-- What words say, one behind another. -/
def Dec : Bool → Bool → List (List UInt8) → List UInt8 → Prop
  | _, _, [], out => out = []
  | f, was, x :: r, out => (∃ y o, Coded x y ∧ Dec false true r o ∧ out = (if f || was then [] else [32]) ++ y ++ o) ∨ ((∀ y, ¬ Coded x y) ∧ ∃ o, Dec false false r o ∧ out = (if f then [] else [32]) ++ x ++ o)
theorem dec_one : ∀ (ws : List (List UInt8)) (f was : Bool) (o o' : List UInt8), Dec f was ws o → Dec f was ws o' → o = o'
  | [], f, was, o, o', h, h' => by rw [show o = [] from h, show o' = [] from h']
  | x :: r, f, was, o, o', h, h' => by
    rcases h with ⟨y, p, hc, hd, rfl⟩ | ⟨hc, p, hd, rfl⟩
    · rcases h' with ⟨y', p', hc', hd', rfl⟩ | ⟨hc', _⟩
      · rw [coded_one hc hc', dec_one r false true p p' hd hd']
      · exact absurd hc (hc' y)
    · rcases h' with ⟨y', p', hc', hd', rfl⟩ | ⟨hc', p', hd', rfl⟩
      · exact absurd hc' (hc y')
      · rw [dec_one r false false p p' hd hd']
theorem dec_code {f was : Bool} {x y : List UInt8} {r : List (List UInt8)} {o : List UInt8} (h : Coded x y) (hd : Dec false true r o) : Dec f was (x :: r) ((if f || was then [] else [32]) ++ y ++ o) := .inl ⟨y, o, h, hd, rfl⟩
theorem dec_plain {f was : Bool} {x : List UInt8} {r : List (List UInt8)} {o : List UInt8} (h : ∀ y, ¬ Coded x y) (hd : Dec false false r o) : Dec f was (x :: r) ((if f then [] else [32]) ++ x ++ o) := .inr ⟨h, o, hd, rfl⟩
/-- The words of the empty text. -/
theorem dec_empty {o : List UInt8} : Dec true false (cutGo [] []) o ↔ o = [] := by
  have hno : ∀ y, ¬ Coded [] y := fun y h => by have := h.1; simp [Lib.hasPrefix, head] at this
  constructor
  · intro h
    rcases h with ⟨y, p, hc, _⟩ | ⟨_, p, hd, hp⟩
    · exact absurd hc (hno y)
    · rw [hp, show p = [] from hd]; rfl
  · rintro rfl
    exact .inr ⟨hno, [], rfl, rfl⟩
/-- Where a text has the sign of an encoded word. -/
theorem index_no : ∀ (l sub : List UInt8), sub ≠ [] → Lib.index l sub = -1 → ∀ j, Lib.occAt l sub j = false
  | [], sub, hs, h, j => by
    unfold Lib.occAt
    rw [List.drop_nil]
    cases sub with
    | nil => exact absurd rfl hs
    | cons a b => rfl
  | b :: l, sub, hs, h, j => by
    rw [Lib.index] at h
    split at h
    · cases h
    · rename_i h0
      split at h
      · rename_i h1
        have ih := index_no l sub hs (by simpa using h1)
        cases j with
        | zero => unfold Lib.occAt; rw [List.drop_zero]; exact Bool.eq_false_iff.2 h0
        | succ j => exact ih j
      · rename_i h1
        have := Lib.index_ge l sub
        have h2 : Lib.index l sub ≠ -1 := by simpa using h1
        omega
def sign : List UInt8 := [61, 63]
theorem occ_sign (l : List UInt8) (j : Nat) : Lib.occAt l sign j = true ↔ l[j]? = some 61 ∧ l[j + 1]? = some 63 := by
  unfold Lib.occAt sign
  rw [show l[j]? = (l.drop j)[0]? from by simp, show l[j + 1]? = (l.drop j)[1]? from by simp]
  match l.drop j with
  | [] => simp
  | [a] => simp
  | a :: b :: r =>
    simp only [List.isPrefixOf, List.getElem?_cons_zero, List.getElem?_cons_succ, Bool.and_true, Bool.and_eq_true, beq_iff_eq, Option.some.injEq]
    exact ⟨fun h => ⟨h.1.symm, h.2.symm⟩, fun h => ⟨h.1.symm, h.2.symm⟩⟩
theorem contains_iff (l : List UInt8) : Lib.contains l sign = true ↔ ∃ j : Nat, l[j]? = some 61 ∧ l[j + 1]? = some 63 := by
  unfold Lib.contains
  rw [decide_eq_true_iff]
  constructor
  · intro h
    by_cases hx : ∃ j : Nat, l[j]? = some 61 ∧ l[j + 1]? = some 63
    · exact hx
    · have : Lib.index l sign = -1 := Lib.index_none (fun j _ => by
        cases ho : Lib.occAt l sign j with
        | false => rfl
        | true => exact absurd ⟨j, (occ_sign l j).1 ho⟩ hx)
      omega
  · rintro ⟨j, hj⟩
    have h1 := Lib.index_ge l sign
    by_cases h2 : Lib.index l sign = -1
    · have := index_no l sign (by simp [sign]) h2 j
      rw [(occ_sign l j).2 hj] at this
      cases this
    · omega
/-- A text that stays as it is. -/
def Plain (l : List UInt8) : Prop := Safe l ∧ Lib.contains l sign = false
end Go.Proofs.YtadfdfmebdcfgaaGreatDoor.hd

namespace Go.Proofs.YtadfdfmebdcfgaaGreatDoor.b6
set_option linter.unusedVariables false

/-- Reading character by character: h are the bits that are held, c how many. -/
def rd (h c : Nat) : List UInt8 → Option (List UInt8)
  | [] => if h = 0 then some [] else none
  | x :: r => if V x < 0 then none
    else if 2 ≤ c then (rd ((h * 64 + (V x).toNat) % 2 ^ (c - 2)) (c - 2) r).map fun o => UInt8.ofNat ((h * 64 + (V x).toNat) / 2 ^ (c - 2)) :: o
    else rd (h * 64 + (V x).toNat) (c + 6) r

theorem rd_nil (h c : Nat) : rd h c [] = if h = 0 then some [] else none := rfl
theorem rd_no {h c : Nat} {x : UInt8} {r : List UInt8} (hx : V x < 0) : rd h c (x :: r) = none := by
  rw [rd, if_pos hx]
theorem rd_full {h c : Nat} {x : UInt8} {r : List UInt8} (hx : ¬ V x < 0) (hc : 2 ≤ c) : rd h c (x :: r) = (rd ((h * 64 + (V x).toNat) % 2 ^ (c - 2)) (c - 2) r).map fun o => UInt8.ofNat ((h * 64 + (V x).toNat) / 2 ^ (c - 2)) :: o := by
  rw [rd, if_neg hx, if_pos hc]
theorem rd_part {h : Nat} {x : UInt8} {r : List UInt8} (hx : ¬ V x < 0) : rd h 0 (x :: r) = rd (h * 64 + (V x).toNat) 6 r := by
  rw [rd, if_neg hx, if_neg (by decide)]

theorem rd2 {a b : UInt8} {s : List UInt8} (ha : ¬ V a < 0) (hb : ¬ V b < 0) : rd 0 0 (a :: b :: s) = (rd ((V b).toNat % 16) 4 s).map fun o => UInt8.ofNat (((V a).toNat * 64 + (V b).toNat) / 16) :: o := by
  rw [rd_part ha, rd_full hb (by decide)]
  simp only [Nat.zero_mul, Nat.zero_add, show (6 - 2 : Nat) = 4 from rfl, show (2 ^ 4 : Nat) = 16 from rfl]
  rw [show ((V a).toNat * 64 + (V b).toNat) % 16 = (V b).toNat % 16 from by omega]
theorem rd3 {h : Nat} {c : UInt8} {s : List UInt8} (hc : ¬ V c < 0) : rd h 4 (c :: s) = (rd ((V c).toNat % 4) 2 s).map fun o => UInt8.ofNat ((h * 64 + (V c).toNat) / 4) :: o := by
  rw [rd_full hc (by decide)]
  simp only [show (4 - 2 : Nat) = 2 from rfl, show (2 ^ 2 : Nat) = 4 from rfl]
  rw [show (h * 64 + (V c).toNat) % 4 = (V c).toNat % 4 from by omega]
theorem rd4 {h : Nat} {d : UInt8} {s : List UInt8} (hd : ¬ V d < 0) : rd h 2 (d :: s) = (rd 0 0 s).map fun o => UInt8.ofNat (h * 64 + (V d).toNat) :: o := by
  rw [rd_full hd (by decide)]
  simp only [show (2 - 2 : Nat) = 0 from rfl, Nat.pow_zero, Nat.mod_one, Nat.div_one]

/-- A sign at the end is left out. -/
def trim1 (t : List UInt8) : List UInt8 := if t.getLast? = some 61 then t.dropLast else t
def strip (t : List UInt8) : List UInt8 := trim1 (trim1 t)
theorem trim1_cons (x : UInt8) {r : List UInt8} (h : r ≠ []) : trim1 (x :: r) = x :: trim1 r := by
  unfold trim1
  rw [List.getLast?_cons, List.getLast?_eq_some_getLast h]
  simp only [Option.getD_some, Option.some.injEq]
  split
  · rw [List.dropLast_cons_of_ne_nil h]
  · rfl
theorem trim1_len (t : List UInt8) : t.length ≤ (trim1 t).length + 1 := by
  unfold trim1
  split
  · simp; omega
  · omega
theorem strip_cons (x : UInt8) {r : List UInt8} (h : 2 ≤ r.length) : strip (x :: r) = x :: strip r := by
  unfold strip
  have h1 : r ≠ [] := by intro e; rw [e] at h; simp at h
  have h2 : trim1 r ≠ [] := by intro e; have := trim1_len r; rw [e] at this; simp at this; omega
  rw [trim1_cons x h1, trim1_cons x h2]
theorem strip_len (t : List UInt8) : (strip t).length ≤ t.length := by
  have : ∀ t : List UInt8, (trim1 t).length ≤ t.length := by
    intro t
    unfold trim1
    split
    · simp
    · exact Nat.le_refl _
  exact Nat.le_trans (this _) (this _)
theorem lib_trim (t : List UInt8) : Lib.trimSuffix t [61] = trim1 t := by
  unfold Lib.trimSuffix trim1 Lib.hasSuffix
  by_cases h : t.getLast? = some 61
  · rw [if_pos h]
    have hs : [61].isSuffixOf t = true := by
      rw [List.isSuffixOf_iff_suffix]
      obtain ⟨ys, rfl⟩ := List.getLast?_eq_some_iff.1 h
      exact ⟨ys, rfl⟩
    rw [if_pos hs, List.dropLast_eq_take]
    rfl
  · rw [if_neg h]
    have hs : ¬ [61].isSuffixOf t = true := by
      rw [List.isSuffixOf_iff_suffix]
      rintro ⟨ys, rfl⟩
      exact h (by simp)
    rw [if_neg hs]

theorem strip4 (a b c d : UInt8) : strip [a, b, c, d] = if d = 61 then (if c = 61 then [a, b] else [a, b, c]) else [a, b, c, d] := by
  unfold strip trim1
  by_cases hd : d = 61
  · subst hd
    by_cases hc : c = 61
    · subst hc
      simp
    · simp [hc]
  · simp [hd]

theorem b2 {a b c d : UInt8} : by2 (num a b c d) = UInt8.ofNat (((V a).toNat * 64 + (V b).toNat) / 16) := by
  have ha := V_lt a
  have hb := V_lt b
  have hc := V_lt c
  have hd := V_lt d
  apply UInt8.toNat_inj.1
  simp only [by2, num, UInt8.toNat_ofNat']
  omega
theorem b1 {a b c d : UInt8} : by1 (num a b c d) = UInt8.ofNat (((V b).toNat % 16 * 64 + (V c).toNat) / 4) := by
  have ha := V_lt a
  have hb := V_lt b
  have hc := V_lt c
  have hd := V_lt d
  apply UInt8.toNat_inj.1
  simp only [by1, num, UInt8.toNat_ofNat']
  omega
theorem b0 {a b c d : UInt8} : by0 (num a b c d) = UInt8.ofNat ((V c).toNat % 4 * 64 + (V d).toNat) := by
  have ha := V_lt a
  have hb := V_lt b
  have hc := V_lt c
  have hd := V_lt d
  apply UInt8.toNat_inj.1
  simp only [by0, num, UInt8.toNat_ofNat']
  omega

theorem rd_dec_n : ∀ (n : Nat) (t : List UInt8), t.length = 4 * n → rd 0 0 (strip t) = dec t := by
  intro n
  induction n with
  | zero =>
    intro t h
    obtain rfl : t = [] := List.eq_nil_of_length_eq_zero (by omega)
    rfl
  | succ n ih =>
    intro t h
    match t, h with
    | [], h => simp at h
    | [_], h => simp at h; omega
    | [_, _], h => simp at h; omega
    | [_, _, _], h => simp at h; omega
    | a :: b :: c :: d :: r, h =>
      have hr : r.length = 4 * n := by simp at h; omega
      by_cases hn : r = []
      · subst hn
        rw [strip4]
        simp only [dec]
        by_cases h1 : V a < 0 ∨ V b < 0
        · rw [if_pos h1]
          have key : ∀ s, rd 0 0 (a :: b :: s) = none := by
            intro s
            by_cases ha : V a < 0
            · exact rd_no ha
            · rw [rd_part ha, rd_no (by rcases h1 with h1 | h1; exact absurd h1 ha; exact h1)]
          split
          · split <;> exact key _
          · exact key _
        rw [if_neg h1]
        have ha : ¬ V a < 0 := fun x => h1 (.inl x)
        have hb : ¬ V b < 0 := fun x => h1 (.inr x)
        by_cases hd : d = 61
        · subst hd
          rw [if_pos rfl]
          by_cases hc : c = 61
          · subst hc
            rw [if_pos rfl, if_pos (by simp), rd2 ha hb, rd_nil]
            by_cases hz : (V b).toNat % 16 = 0
            · rw [if_pos hz, if_pos hz, b2]; rfl
            · rw [if_neg hz, if_neg hz]; rfl
          · rw [if_neg hc, if_neg (fun x => hc x.2.1)]
            by_cases hvc : V c < 0
            · rw [if_pos hvc, rd2 ha hb, rd_no hvc]; rfl
            · rw [if_neg hvc, if_pos (by simp), rd2 ha hb, rd3 hvc, rd_nil]
              by_cases hz : (V c).toNat % 4 = 0
              · rw [if_pos hz, if_pos hz, b2, b1]; rfl
              · rw [if_neg hz, if_neg hz]; rfl
        · rw [if_neg hd, if_neg (fun x => hd x.2.2)]
          by_cases hvc : V c < 0
          · rw [if_pos hvc, rd2 ha hb, rd_no hvc]; rfl
          · rw [if_neg hvc, if_neg (fun x => hd x.2), rd2 ha hb, rd3 hvc]
            by_cases hvd : V d < 0
            · rw [if_pos hvd, rd_no hvd]; rfl
            · rw [if_neg hvd, rd4 hvd, rd_nil, if_pos rfl, b2, b1, b0]; rfl
      · have hr4 : 4 ≤ r.length := by
          have : r.length ≠ 0 := fun e => hn (List.eq_nil_of_length_eq_zero e)
          omega
        rw [strip_cons a (by simp), strip_cons b (by simp), strip_cons c (by simp; omega), strip_cons d (by omega)]
        simp only [dec]
        by_cases h1 : V a < 0 ∨ V b < 0
        · rw [if_pos h1]
          by_cases ha : V a < 0
          · exact rd_no ha
          · rw [rd_part ha, rd_no (by rcases h1 with h1 | h1; exact absurd h1 ha; exact h1)]
        rw [if_neg h1, if_neg (fun x => hn x.1)]
        have ha : ¬ V a < 0 := fun x => h1 (.inl x)
        have hb : ¬ V b < 0 := fun x => h1 (.inr x)
        by_cases hvc : V c < 0
        · rw [if_pos hvc, rd2 ha hb, rd_no hvc]; rfl
        rw [if_neg hvc, if_neg (fun x => hn x.1), rd2 ha hb, rd3 hvc]
        by_cases hvd : V d < 0
        · rw [if_pos hvd, rd_no hvd]; rfl
        rw [if_neg hvd, rd4 hvd, ih r hr, b2, b1, b0]
        cases dec r <;> rfl
/-- Bit by bit, without the signs at the end, is group by group. -/
theorem rd_dec {t : List UInt8} (h : t.length % 4 = 0) : rd 0 0 (strip t) = dec t := rd_dec_n (t.length / 4) t (by omega)

end Go.Proofs.YtadfdfmebdcfgaaGreatDoor.b6
