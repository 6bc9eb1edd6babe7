/-
  FnReplayCardSaid
-/
import Derived.Test.YtmnflpmfngjllaaGreatDoorPkbm
set_option maxHeartbeats 16000000
set_option maxRecDepth 100000
set_option linter.unusedVariables false
namespace Go.Proofs.YtmnflpmfngjllaaGreatDoor
namespace ut
open Go.RowKit
theorem rune_1(s:ByteArray)(k:Nat)(w:World)(hs:s.size≤1048576)(hk:k<s.size)(b:((s[k]'hk).toNat:Int)<128) :
  Calls Tryz.prog 125 #[.string s,.int .i64 k] w λe w'=>zau s k e∧w'=w:=by
 have u0:((s[k]'hk).toNat:Int)≤255:=by have:=UInt8.toNat_lt (s[k]'hk);omega
 go_enter Tryz.func125,Tryz.ntmps125
 go_wp2_with (first|go_in)
 go_ret3
 exact⟨r_ok1 hk b,rfl⟩
theorem rune_lo(s:ByteArray)(k:Nat)(w:World)(hs:s.size≤1048576)(hk:k<s.size)(b:128≤((s[k]'hk).toNat:Int))(b2:((s[k]'hk).toNat:Int)<194) :
  Calls Tryz.prog 125 #[.string s,.int .i64 k] w λe w'=>zau s k e∧w'=w:=by
 have u0:((s[k]'hk).toNat:Int)≤255:=by have:=UInt8.toNat_lt (s[k]'hk);omega
 go_enter Tryz.func125,Tryz.ntmps125
 go_wp2_with (first|go_in)
 go_ret3
 exact⟨zaS (b_lead hk b (.inl b2)),rfl⟩
theorem rune_hi(s:ByteArray)(k:Nat)(w:World)(hs:s.size≤1048576)(hk:k<s.size)(b:244<((s[k]'hk).toNat:Int)) :
  Calls Tryz.prog 125 #[.string s,.int .i64 k] w λe w'=>zau s k e∧w'=w:=by
 have u0:((s[k]'hk).toNat:Int)≤255:=by have:=UInt8.toNat_lt (s[k]'hk);omega
 go_enter Tryz.func125,Tryz.ntmps125
 go_wp2_with (first|go_in)
 go_ret3
 exact⟨zaS (b_lead hk (by omega) (.inr b)),rfl⟩
theorem rune_2s(s:ByteArray)(k:Nat)(w:World)(hs:s.size≤1048576)(hk:k<s.size)(b:194≤((s[k]'hk).toNat:Int))(b2:((s[k]'hk).toNat:Int)≤223)(hn:s.size<k+2) :
  Calls Tryz.prog 125 #[.string s,.int .i64 k] w λe w'=>zau s k e∧w'=w:=by
 have u0:((s[k]'hk).toNat:Int)≤255:=by have:=UInt8.toNat_lt (s[k]'hk);omega
 have hn2:(s.size:Int)<(k:Int)+2:=by omega
 go_enter Tryz.func125,Tryz.ntmps125
 go_wp2_with (first|go_in)
 go_ret3
 exact⟨zaS (b_short2 hk (by omega) hn),rfl⟩
theorem rune_2c1lo(s:ByteArray)(k:Nat)(w:World)(hs:s.size≤1048576)(hk:k<s.size)(b:194≤((s[k]'hk).toNat:Int))(b2:((s[k]'hk).toNat:Int)≤223)(h1:k+1<s.size)(x:((s[k+1]'h1).toNat:Int)<128) :
  Calls Tryz.prog 125 #[.string s,.int .i64 k] w λe w'=>zau s k e∧w'=w:=by
 have u0:((s[k]'hk).toNat:Int)≤255:=by have:=UInt8.toNat_lt (s[k]'hk);omega
 have u1:((s[k+1]'h1).toNat:Int)≤255:=by have:=UInt8.toNat_lt (s[k+1]'h1);omega
 go_enter Tryz.func125,Tryz.ntmps125
 go_wp2_with (first|go_in)
 refine wp_loop_rounds 2 ?_;rw[rounds_succ]
 go_wp2_with (first|go_in)
 go_ret3
 exact⟨zaS (b_c1 hk h1 (by omega) (.inl x)),rfl⟩
theorem rune_2c1hi(s:ByteArray)(k:Nat)(w:World)(hs:s.size≤1048576)(hk:k<s.size)(b:194≤((s[k]'hk).toNat:Int))(b2:((s[k]'hk).toNat:Int)≤223)(h1:k+1<s.size)(x:191<((s[k+1]'h1).toNat:Int)) :
  Calls Tryz.prog 125 #[.string s,.int .i64 k] w λe w'=>zau s k e∧w'=w:=by
 have u0:((s[k]'hk).toNat:Int)≤255:=by have:=UInt8.toNat_lt (s[k]'hk);omega
 have u1:((s[k+1]'h1).toNat:Int)≤255:=by have:=UInt8.toNat_lt (s[k+1]'h1);omega
 have xd:decide (((s[k+1]'h1).toNat:Int)≤191)=false:=decide_eq_false (by omega);go_enter Tryz.func125,Tryz.ntmps125
 go_wp2_with (first|go_in)
 refine wp_loop_rounds 2 ?_;rw[rounds_succ]
 go_wp2_with (first|go_in)
 go_ret3
 exact⟨zaS (b_c1 hk h1 (by omega) (.inr x)),rfl⟩
theorem rune_2(s:ByteArray)(k:Nat)(w:World)(hs:s.size≤1048576)(hk:k<s.size)(b:194≤((s[k]'hk).toNat:Int))(b2:((s[k]'hk).toNat:Int)≤223)(h1:k+1<s.size)(c1:128≤((s[k+1]'h1).toNat:Int))(c1':((s[k+1]'h1).toNat:Int)≤191) :
  Calls Tryz.prog 125 #[.string s,.int .i64 k] w λe w'=>zau s k e∧w'=w:=by
 have u0:((s[k]'hk).toNat:Int)≤255:=by have:=UInt8.toNat_lt (s[k]'hk);omega
 have u1:((s[k+1]'h1).toNat:Int)≤255:=by have:=UInt8.toNat_lt (s[k+1]'h1);omega
 go_enter Tryz.func125,Tryz.ntmps125
 go_wp2_with (first|go_in)
 refine wp_loop_rounds 2 ?_;rw[rounds_succ]
 go_wp2_with (first|go_in)
 rw[rounds_succ]
 go_wp2_with (first|go_in)
 go_ret3
 exact⟨r_ok2 hk h1 b b2 c1 c1',rfl⟩
theorem rune_3s(s:ByteArray)(k:Nat)(w:World)(hs:s.size≤1048576)(hk:k<s.size)(b:224≤((s[k]'hk).toNat:Int))(b2:((s[k]'hk).toNat:Int)≤239)(hn:s.size<k+3) :
  Calls Tryz.prog 125 #[.string s,.int .i64 k] w λe w'=>zau s k e∧w'=w:=by
 have u0:((s[k]'hk).toNat:Int)≤255:=by have:=UInt8.toNat_lt (s[k]'hk);omega
 have hn2:(s.size:Int)<(k:Int)+3:=by omega
 go_enter Tryz.func125,Tryz.ntmps125
 go_wp2_with (first|go_in)
 go_ret3
 exact⟨zaS (b_short3 hk (by omega) hn),rfl⟩
theorem rune_3c1lo(s:ByteArray)(k:Nat)(w:World)(hs:s.size≤1048576)(hk:k<s.size)(b:224≤((s[k]'hk).toNat:Int))(b2:((s[k]'hk).toNat:Int)≤239)(h1:k+1<s.size)(h2:k+2<s.size)(x:((s[k+1]'h1).toNat:Int)<128) :
  Calls Tryz.prog 125 #[.string s,.int .i64 k] w λe w'=>zau s k e∧w'=w:=by
 have u0:((s[k]'hk).toNat:Int)≤255:=by have:=UInt8.toNat_lt (s[k]'hk);omega
 have u1:((s[k+1]'h1).toNat:Int)≤255:=by have:=UInt8.toNat_lt (s[k+1]'h1);omega
 go_enter Tryz.func125,Tryz.ntmps125
 go_wp2_with (first|go_in)
 refine wp_loop_rounds 3 ?_;rw[rounds_succ]
 go_wp2_with (first|go_in)
 go_ret3
 exact⟨zaS (b_c1 hk h1 (by omega) (.inl x)),rfl⟩
theorem rune_3c1hi(s:ByteArray)(k:Nat)(w:World)(hs:s.size≤1048576)(hk:k<s.size)(b:224≤((s[k]'hk).toNat:Int))(b2:((s[k]'hk).toNat:Int)≤239)(h1:k+1<s.size)(h2:k+2<s.size)(x:191<((s[k+1]'h1).toNat:Int)) :
  Calls Tryz.prog 125 #[.string s,.int .i64 k] w λe w'=>zau s k e∧w'=w:=by
 have u0:((s[k]'hk).toNat:Int)≤255:=by have:=UInt8.toNat_lt (s[k]'hk);omega
 have u1:((s[k+1]'h1).toNat:Int)≤255:=by have:=UInt8.toNat_lt (s[k+1]'h1);omega
 have xd:decide (((s[k+1]'h1).toNat:Int)≤191)=false:=decide_eq_false (by omega);go_enter Tryz.func125,Tryz.ntmps125
 go_wp2_with (first|go_in)
 refine wp_loop_rounds 3 ?_;rw[rounds_succ]
 go_wp2_with (first|go_in)
 go_ret3
 exact⟨zaS (b_c1 hk h1 (by omega) (.inr x)),rfl⟩
theorem rune_3c2lo(s:ByteArray)(k:Nat)(w:World)(hs:s.size≤1048576)(hk:k<s.size)(b:224≤((s[k]'hk).toNat:Int))(b2:((s[k]'hk).toNat:Int)≤239)(h1:k+1<s.size)(h2:k+2<s.size)(c1:128≤((s[k+1]'h1).toNat:Int))(c1':((s[k+1]'h1).toNat:Int)≤191)(x:((s[k+2]'h2).toNat:Int)<128) :
  Calls Tryz.prog 125 #[.string s,.int .i64 k] w λe w'=>zau s k e∧w'=w:=by
 have u0:((s[k]'hk).toNat:Int)≤255:=by have:=UInt8.toNat_lt (s[k]'hk);omega
 have u1:((s[k+1]'h1).toNat:Int)≤255:=by have:=UInt8.toNat_lt (s[k+1]'h1);omega
 have u2:((s[k+2]'h2).toNat:Int)≤255:=by have:=UInt8.toNat_lt (s[k+2]'h2);omega
 go_enter Tryz.func125,Tryz.ntmps125
 go_wp2_with (first|go_in)
 refine wp_loop_rounds 3 ?_;rw[rounds_succ]
 go_wp2_with (first|go_in)
 rw[rounds_succ]
 go_wp2_with (first|go_in)
 go_ret3
 exact⟨zaS (b_c2 hk h2 (by omega) (.inl x)),rfl⟩
theorem rune_3c2hi(s:ByteArray)(k:Nat)(w:World)(hs:s.size≤1048576)(hk:k<s.size)(b:224≤((s[k]'hk).toNat:Int))(b2:((s[k]'hk).toNat:Int)≤239)(h1:k+1<s.size)(h2:k+2<s.size)(c1:128≤((s[k+1]'h1).toNat:Int))(c1':((s[k+1]'h1).toNat:Int)≤191)(x:191<((s[k+2]'h2).toNat:Int)) :
  Calls Tryz.prog 125 #[.string s,.int .i64 k] w λe w'=>zau s k e∧w'=w:=by
 have u0:((s[k]'hk).toNat:Int)≤255:=by have:=UInt8.toNat_lt (s[k]'hk);omega
 have u1:((s[k+1]'h1).toNat:Int)≤255:=by have:=UInt8.toNat_lt (s[k+1]'h1);omega
 have u2:((s[k+2]'h2).toNat:Int)≤255:=by have:=UInt8.toNat_lt (s[k+2]'h2);omega
 have xd:decide (((s[k+2]'h2).toNat:Int)≤191)=false:=decide_eq_false (by omega);go_enter Tryz.func125,Tryz.ntmps125
 go_wp2_with (first|go_in)
 refine wp_loop_rounds 3 ?_;rw[rounds_succ]
 go_wp2_with (first|go_in)
 rw[rounds_succ]
 go_wp2_with (first|go_in)
 go_ret3
 exact⟨zaS (b_c2 hk h2 (by omega) (.inr x)),rfl⟩
theorem rune_4s(s:ByteArray)(k:Nat)(w:World)(hs:s.size≤1048576)(hk:k<s.size)(b:240≤((s[k]'hk).toNat:Int))(b2:((s[k]'hk).toNat:Int)≤244)(hn:s.size<k+4) :
  Calls Tryz.prog 125 #[.string s,.int .i64 k] w λe w'=>zau s k e∧w'=w:=by
 have u0:((s[k]'hk).toNat:Int)≤255:=by have:=UInt8.toNat_lt (s[k]'hk);omega
 have hn2:(s.size:Int)<(k:Int)+4:=by omega
 go_enter Tryz.func125,Tryz.ntmps125
 go_wp2_with (first|go_in)
 go_ret3
 exact⟨zaS (b_short4 hk (by omega) hn),rfl⟩
theorem rune_4c1lo(s:ByteArray)(k:Nat)(w:World)(hs:s.size≤1048576)(hk:k<s.size)(b:240≤((s[k]'hk).toNat:Int))(b2:((s[k]'hk).toNat:Int)≤244)(h1:k+1<s.size)(h2:k+2<s.size)(h3:k+3<s.size)(x:((s[k+1]'h1).toNat:Int)<128) :
  Calls Tryz.prog 125 #[.string s,.int .i64 k] w λe w'=>zau s k e∧w'=w:=by
 have u0:((s[k]'hk).toNat:Int)≤255:=by have:=UInt8.toNat_lt (s[k]'hk);omega
 have u1:((s[k+1]'h1).toNat:Int)≤255:=by have:=UInt8.toNat_lt (s[k+1]'h1);omega
 go_enter Tryz.func125,Tryz.ntmps125
 go_wp2_with (first|go_in)
 refine wp_loop_rounds 4 ?_;rw[rounds_succ]
 go_wp2_with (first|go_in)
 go_ret3
 exact⟨zaS (b_c1 hk h1 (by omega) (.inl x)),rfl⟩
theorem rune_4c1hi(s:ByteArray)(k:Nat)(w:World)(hs:s.size≤1048576)(hk:k<s.size)(b:240≤((s[k]'hk).toNat:Int))(b2:((s[k]'hk).toNat:Int)≤244)(h1:k+1<s.size)(h2:k+2<s.size)(h3:k+3<s.size)(x:191<((s[k+1]'h1).toNat:Int)) :
  Calls Tryz.prog 125 #[.string s,.int .i64 k] w λe w'=>zau s k e∧w'=w:=by
 have u0:((s[k]'hk).toNat:Int)≤255:=by have:=UInt8.toNat_lt (s[k]'hk);omega
 have u1:((s[k+1]'h1).toNat:Int)≤255:=by have:=UInt8.toNat_lt (s[k+1]'h1);omega
 have xd:decide (((s[k+1]'h1).toNat:Int)≤191)=false:=decide_eq_false (by omega);go_enter Tryz.func125,Tryz.ntmps125
 go_wp2_with (first|go_in)
 refine wp_loop_rounds 4 ?_;rw[rounds_succ]
 go_wp2_with (first|go_in)
 go_ret3
 exact⟨zaS (b_c1 hk h1 (by omega) (.inr x)),rfl⟩
theorem rune_4c2lo(s:ByteArray)(k:Nat)(w:World)(hs:s.size≤1048576)(hk:k<s.size)(b:240≤((s[k]'hk).toNat:Int))(b2:((s[k]'hk).toNat:Int)≤244)(h1:k+1<s.size)(h2:k+2<s.size)(h3:k+3<s.size)(c1:128≤((s[k+1]'h1).toNat:Int))(c1':((s[k+1]'h1).toNat:Int)≤191)(x:((s[k+2]'h2).toNat:Int)<128) :
  Calls Tryz.prog 125 #[.string s,.int .i64 k] w λe w'=>zau s k e∧w'=w:=by
 have u0:((s[k]'hk).toNat:Int)≤255:=by have:=UInt8.toNat_lt (s[k]'hk);omega
 have u1:((s[k+1]'h1).toNat:Int)≤255:=by have:=UInt8.toNat_lt (s[k+1]'h1);omega
 have u2:((s[k+2]'h2).toNat:Int)≤255:=by have:=UInt8.toNat_lt (s[k+2]'h2);omega
 go_enter Tryz.func125,Tryz.ntmps125
 go_wp2_with (first|go_in)
 refine wp_loop_rounds 4 ?_;rw[rounds_succ]
 go_wp2_with (first|go_in)
 rw[rounds_succ]
 go_wp2_with (first|go_in)
 go_ret3
 exact⟨zaS (b_c2 hk h2 (by omega) (.inl x)),rfl⟩
theorem rune_4c2hi(s:ByteArray)(k:Nat)(w:World)(hs:s.size≤1048576)(hk:k<s.size)(b:240≤((s[k]'hk).toNat:Int))(b2:((s[k]'hk).toNat:Int)≤244)(h1:k+1<s.size)(h2:k+2<s.size)(h3:k+3<s.size)(c1:128≤((s[k+1]'h1).toNat:Int))(c1':((s[k+1]'h1).toNat:Int)≤191)(x:191<((s[k+2]'h2).toNat:Int)) :
  Calls Tryz.prog 125 #[.string s,.int .i64 k] w λe w'=>zau s k e∧w'=w:=by
 have u0:((s[k]'hk).toNat:Int)≤255:=by have:=UInt8.toNat_lt (s[k]'hk);omega
 have u1:((s[k+1]'h1).toNat:Int)≤255:=by have:=UInt8.toNat_lt (s[k+1]'h1);omega
 have u2:((s[k+2]'h2).toNat:Int)≤255:=by have:=UInt8.toNat_lt (s[k+2]'h2);omega
 have xd:decide (((s[k+2]'h2).toNat:Int)≤191)=false:=decide_eq_false (by omega);go_enter Tryz.func125,Tryz.ntmps125
 go_wp2_with (first|go_in)
 refine wp_loop_rounds 4 ?_;rw[rounds_succ]
 go_wp2_with (first|go_in)
 rw[rounds_succ]
 go_wp2_with (first|go_in)
 go_ret3
 exact⟨zaS (b_c2 hk h2 (by omega) (.inr x)),rfl⟩
theorem rune_4c3lo(s:ByteArray)(k:Nat)(w:World)(hs:s.size≤1048576)(hk:k<s.size)(b:240≤((s[k]'hk).toNat:Int))(b2:((s[k]'hk).toNat:Int)≤244)(h1:k+1<s.size)(h2:k+2<s.size)(h3:k+3<s.size)(c1:128≤((s[k+1]'h1).toNat:Int))(c1':((s[k+1]'h1).toNat:Int)≤191)(c2:128≤((s[k+2]'h2).toNat:Int))(c2':((s[k+2]'h2).toNat:Int)≤191)(x:((s[k+3]'h3).toNat:Int)<128) :
  Calls Tryz.prog 125 #[.string s,.int .i64 k] w λe w'=>zau s k e∧w'=w:=by
 have u0:((s[k]'hk).toNat:Int)≤255:=by have:=UInt8.toNat_lt (s[k]'hk);omega
 have u1:((s[k+1]'h1).toNat:Int)≤255:=by have:=UInt8.toNat_lt (s[k+1]'h1);omega
 have u2:((s[k+2]'h2).toNat:Int)≤255:=by have:=UInt8.toNat_lt (s[k+2]'h2);omega
 have u3:((s[k+3]'h3).toNat:Int)≤255:=by have:=UInt8.toNat_lt (s[k+3]'h3);omega
 go_enter Tryz.func125,Tryz.ntmps125
 go_wp2_with (first|go_in)
 refine wp_loop_rounds 4 ?_;rw[rounds_succ]
 go_wp2_with (first|go_in)
 rw[rounds_succ]
 go_wp2_with (first|go_in)
 rw[rounds_succ]
 go_wp2_with (first|go_in)
 go_ret3
 exact⟨zaS (b_c3 hk h3 (by omega) (.inl x)),rfl⟩
theorem rune_4c3hi(s:ByteArray)(k:Nat)(w:World)(hs:s.size≤1048576)(hk:k<s.size)(b:240≤((s[k]'hk).toNat:Int))(b2:((s[k]'hk).toNat:Int)≤244)(h1:k+1<s.size)(h2:k+2<s.size)(h3:k+3<s.size)(c1:128≤((s[k+1]'h1).toNat:Int))(c1':((s[k+1]'h1).toNat:Int)≤191)(c2:128≤((s[k+2]'h2).toNat:Int))(c2':((s[k+2]'h2).toNat:Int)≤191)(x:191<((s[k+3]'h3).toNat:Int)) :
  Calls Tryz.prog 125 #[.string s,.int .i64 k] w λe w'=>zau s k e∧w'=w:=by
 have u0:((s[k]'hk).toNat:Int)≤255:=by have:=UInt8.toNat_lt (s[k]'hk);omega
 have u1:((s[k+1]'h1).toNat:Int)≤255:=by have:=UInt8.toNat_lt (s[k+1]'h1);omega
 have u2:((s[k+2]'h2).toNat:Int)≤255:=by have:=UInt8.toNat_lt (s[k+2]'h2);omega
 have u3:((s[k+3]'h3).toNat:Int)≤255:=by have:=UInt8.toNat_lt (s[k+3]'h3);omega
 have xd:decide (((s[k+3]'h3).toNat:Int)≤191)=false:=decide_eq_false (by omega);go_enter Tryz.func125,Tryz.ntmps125
 go_wp2_with (first|go_in)
 refine wp_loop_rounds 4 ?_;rw[rounds_succ]
 go_wp2_with (first|go_in)
 rw[rounds_succ]
 go_wp2_with (first|go_in)
 rw[rounds_succ]
 go_wp2_with (first|go_in)
 go_ret3
 exact⟨zaS (b_c3 hk h3 (by omega) (.inr x)),rfl⟩
end ut
namespace ut
open Go.RowKit
theorem rune_3a(s:ByteArray)(k:Nat)(w:World)(hs:s.size≤1048576)(hk:k<s.size)(b:224≤((s[k]'hk).toNat:Int))(b2:((s[k]'hk).toNat:Int)≤239)(h1:k+1<s.size)(h2:k+2<s.size)(c1:128≤((s[k+1]'h1).toNat:Int))(c1':((s[k+1]'h1).toNat:Int)≤191)(c2:128≤((s[k+2]'h2).toNat:Int))(c2':((s[k+2]'h2).toNat:Int)≤191)(g:(((((s[k]'hk).toNat:Int)-224)*64+((s[k+1]'h1).toNat:Int)-128)*64+((s[k+2]'h2).toNat:Int)-128)<2048) :
  Calls Tryz.prog 125 #[.string s,.int .i64 k] w λe w'=>zau s k e∧w'=w:=by
 have u0:((s[k]'hk).toNat:Int)≤255:=by have:=UInt8.toNat_lt (s[k]'hk);omega
 have u1:((s[k+1]'h1).toNat:Int)≤255:=by have:=UInt8.toNat_lt (s[k+1]'h1);omega
 have u2:((s[k+2]'h2).toNat:Int)≤255:=by have:=UInt8.toNat_lt (s[k+2]'h2);omega
 go_enter Tryz.func125,Tryz.ntmps125
 go_wp2_with (first|go_in)
 refine wp_loop_rounds 3 ?_;rw[rounds_succ]
 go_wp2_with (first|go_in)
 rw[rounds_succ]
 go_wp2_with (first|go_in)
 rw[rounds_succ]
 go_wp2_with (first|go_in)
 all_goals go_ret3
 all_goals exact⟨zaS (b_size3 hk h1 h2 b b2 c1 c1' c2 c2' (by omega)),rfl⟩
theorem rune_3b(s:ByteArray)(k:Nat)(w:World)(hs:s.size≤1048576)(hk:k<s.size)(b:224≤((s[k]'hk).toNat:Int))(b2:((s[k]'hk).toNat:Int)≤239)(h1:k+1<s.size)(h2:k+2<s.size)(c1:128≤((s[k+1]'h1).toNat:Int))(c1':((s[k+1]'h1).toNat:Int)≤191)(c2:128≤((s[k+2]'h2).toNat:Int))(c2':((s[k+2]'h2).toNat:Int)≤191)(g:2048≤(((((s[k]'hk).toNat:Int)-224)*64+((s[k+1]'h1).toNat:Int)-128)*64+((s[k+2]'h2).toNat:Int)-128))(g2:(((((s[k]'hk).toNat:Int)-224)*64+((s[k+1]'h1).toNat:Int)-128)*64+((s[k+2]'h2).toNat:Int)-128)≤55295) :
  Calls Tryz.prog 125 #[.string s,.int .i64 k] w λe w'=>zau s k e∧w'=w:=by
 have u0:((s[k]'hk).toNat:Int)≤255:=by have:=UInt8.toNat_lt (s[k]'hk);omega
 have u1:((s[k+1]'h1).toNat:Int)≤255:=by have:=UInt8.toNat_lt (s[k+1]'h1);omega
 have u2:((s[k+2]'h2).toNat:Int)≤255:=by have:=UInt8.toNat_lt (s[k+2]'h2);omega
 go_enter Tryz.func125,Tryz.ntmps125
 go_wp2_with (first|go_in)
 refine wp_loop_rounds 3 ?_;rw[rounds_succ]
 go_wp2_with (first|go_in)
 rw[rounds_succ]
 go_wp2_with (first|go_in)
 rw[rounds_succ]
 go_wp2_with (first|go_in)
 all_goals go_ret3
 all_goals exact⟨r_ok3 hk h1 h2 b b2 c1 c1' c2 c2' (by omega) (by omega),rfl⟩
theorem rune_3c(s:ByteArray)(k:Nat)(w:World)(hs:s.size≤1048576)(hk:k<s.size)(b:224≤((s[k]'hk).toNat:Int))(b2:((s[k]'hk).toNat:Int)≤239)(h1:k+1<s.size)(h2:k+2<s.size)(c1:128≤((s[k+1]'h1).toNat:Int))(c1':((s[k+1]'h1).toNat:Int)≤191)(c2:128≤((s[k+2]'h2).toNat:Int))(c2':((s[k+2]'h2).toNat:Int)≤191)(g:55295<(((((s[k]'hk).toNat:Int)-224)*64+((s[k+1]'h1).toNat:Int)-128)*64+((s[k+2]'h2).toNat:Int)-128))(g2:(((((s[k]'hk).toNat:Int)-224)*64+((s[k+1]'h1).toNat:Int)-128)*64+((s[k+2]'h2).toNat:Int)-128)<57344) :
  Calls Tryz.prog 125 #[.string s,.int .i64 k] w λe w'=>zau s k e∧w'=w:=by
 have u0:((s[k]'hk).toNat:Int)≤255:=by have:=UInt8.toNat_lt (s[k]'hk);omega
 have u1:((s[k+1]'h1).toNat:Int)≤255:=by have:=UInt8.toNat_lt (s[k+1]'h1);omega
 have u2:((s[k+2]'h2).toNat:Int)≤255:=by have:=UInt8.toNat_lt (s[k+2]'h2);omega
 have x16411:decide ((((((s[k]'hk).toNat:Int)-224)*64+((s[k+1]'h1).toNat:Int)-128)*64+((s[k+2]'h2).toNat:Int)-128)≤55295)=false:=decide_eq_false (by omega);have x16408:decide (57344≤(((((s[k]'hk).toNat:Int)-224)*64+((s[k+1]'h1).toNat:Int)-128)*64+((s[k+2]'h2).toNat:Int)-128))=false:=decide_eq_false (by omega);go_enter Tryz.func125,Tryz.ntmps125
 go_wp2_with (first|go_in)
 refine wp_loop_rounds 3 ?_;rw[rounds_succ]
 go_wp2_with (first|go_in)
 rw[rounds_succ]
 go_wp2_with (first|go_in)
 rw[rounds_succ]
 go_wp2_with (first|go_in)
 all_goals go_ret3
 all_goals exact⟨zaS (b_size3 hk h1 h2 b b2 c1 c1' c2 c2' (by omega)),rfl⟩
theorem rune_3d(s:ByteArray)(k:Nat)(w:World)(hs:s.size≤1048576)(hk:k<s.size)(b:224≤((s[k]'hk).toNat:Int))(b2:((s[k]'hk).toNat:Int)≤239)(h1:k+1<s.size)(h2:k+2<s.size)(c1:128≤((s[k+1]'h1).toNat:Int))(c1':((s[k+1]'h1).toNat:Int)≤191)(c2:128≤((s[k+2]'h2).toNat:Int))(c2':((s[k+2]'h2).toNat:Int)≤191)(g:57344≤(((((s[k]'hk).toNat:Int)-224)*64+((s[k+1]'h1).toNat:Int)-128)*64+((s[k+2]'h2).toNat:Int)-128)) :
  Calls Tryz.prog 125 #[.string s,.int .i64 k] w λe w'=>zau s k e∧w'=w:=by
 have u0:((s[k]'hk).toNat:Int)≤255:=by have:=UInt8.toNat_lt (s[k]'hk);omega
 have u1:((s[k+1]'h1).toNat:Int)≤255:=by have:=UInt8.toNat_lt (s[k+1]'h1);omega
 have u2:((s[k+2]'h2).toNat:Int)≤255:=by have:=UInt8.toNat_lt (s[k+2]'h2);omega
 have x16411:decide ((((((s[k]'hk).toNat:Int)-224)*64+((s[k+1]'h1).toNat:Int)-128)*64+((s[k+2]'h2).toNat:Int)-128)≤55295)=false:=decide_eq_false (by omega);have y16491:decide ((((((s[k]'hk).toNat:Int)-224)*64+((s[k+1]'h1).toNat:Int)-128)*64+((s[k+2]'h2).toNat:Int)-128)≤1114111)=true:=decide_eq_true (by omega);go_enter Tryz.func125,Tryz.ntmps125
 go_wp2_with (first|go_in)
 refine wp_loop_rounds 3 ?_;rw[rounds_succ]
 go_wp2_with (first|go_in)
 rw[rounds_succ]
 go_wp2_with (first|go_in)
 rw[rounds_succ]
 go_wp2_with (first|go_in)
 all_goals go_ret3
 all_goals exact⟨r_ok3 hk h1 h2 b b2 c1 c1' c2 c2' (by omega) (by omega),rfl⟩
theorem rune_4a(s:ByteArray)(k:Nat)(w:World)(hs:s.size≤1048576)(hk:k<s.size)(b:240≤((s[k]'hk).toNat:Int))(b2:((s[k]'hk).toNat:Int)≤244)(h1:k+1<s.size)(h2:k+2<s.size)(h3:k+3<s.size)(c1:128≤((s[k+1]'h1).toNat:Int))(c1':((s[k+1]'h1).toNat:Int)≤191)(c2:128≤((s[k+2]'h2).toNat:Int))(c2':((s[k+2]'h2).toNat:Int)≤191)(c3:128≤((s[k+3]'h3).toNat:Int))(c3':((s[k+3]'h3).toNat:Int)≤191)(g:((((((s[k]'hk).toNat:Int)-240)*64+((s[k+1]'h1).toNat:Int)-128)*64+((s[k+2]'h2).toNat:Int)-128)*64+((s[k+3]'h3).toNat:Int)-128)<65536) :
  Calls Tryz.prog 125 #[.string s,.int .i64 k] w λe w'=>zau s k e∧w'=w:=by
 have u0:((s[k]'hk).toNat:Int)≤255:=by have:=UInt8.toNat_lt (s[k]'hk);omega
 have u1:((s[k+1]'h1).toNat:Int)≤255:=by have:=UInt8.toNat_lt (s[k+1]'h1);omega
 have u2:((s[k+2]'h2).toNat:Int)≤255:=by have:=UInt8.toNat_lt (s[k+2]'h2);omega
 have u3:((s[k+3]'h3).toNat:Int)≤255:=by have:=UInt8.toNat_lt (s[k+3]'h3);omega
 go_enter Tryz.func125,Tryz.ntmps125
 go_wp2_with (first|go_in)
 refine wp_loop_rounds 4 ?_;rw[rounds_succ]
 go_wp2_with (first|go_in)
 rw[rounds_succ]
 go_wp2_with (first|go_in)
 rw[rounds_succ]
 go_wp2_with (first|go_in)
 rw[rounds_succ]
 go_wp2_with (first|go_in)
 all_goals go_ret3
 all_goals exact⟨zaS (b_size4 hk h1 h2 h3 b b2 c1 c1' c2 c2' c3 c3' (by omega)),rfl⟩
theorem rune_4b(s:ByteArray)(k:Nat)(w:World)(hs:s.size≤1048576)(hk:k<s.size)(b:240≤((s[k]'hk).toNat:Int))(b2:((s[k]'hk).toNat:Int)≤244)(h1:k+1<s.size)(h2:k+2<s.size)(h3:k+3<s.size)(c1:128≤((s[k+1]'h1).toNat:Int))(c1':((s[k+1]'h1).toNat:Int)≤191)(c2:128≤((s[k+2]'h2).toNat:Int))(c2':((s[k+2]'h2).toNat:Int)≤191)(c3:128≤((s[k+3]'h3).toNat:Int))(c3':((s[k+3]'h3).toNat:Int)≤191)(g:65536≤((((((s[k]'hk).toNat:Int)-240)*64+((s[k+1]'h1).toNat:Int)-128)*64+((s[k+2]'h2).toNat:Int)-128)*64+((s[k+3]'h3).toNat:Int)-128))(g2:((((((s[k]'hk).toNat:Int)-240)*64+((s[k+1]'h1).toNat:Int)-128)*64+((s[k+2]'h2).toNat:Int)-128)*64+((s[k+3]'h3).toNat:Int)-128)≤1114111) :
  Calls Tryz.prog 125 #[.string s,.int .i64 k] w λe w'=>zau s k e∧w'=w:=by
 have u0:((s[k]'hk).toNat:Int)≤255:=by have:=UInt8.toNat_lt (s[k]'hk);omega
 have u1:((s[k+1]'h1).toNat:Int)≤255:=by have:=UInt8.toNat_lt (s[k+1]'h1);omega
 have u2:((s[k+2]'h2).toNat:Int)≤255:=by have:=UInt8.toNat_lt (s[k+2]'h2);omega
 have u3:((s[k+3]'h3).toNat:Int)≤255:=by have:=UInt8.toNat_lt (s[k+3]'h3);omega
 have x18978:decide (((((((s[k]'hk).toNat:Int)-240)*64+((s[k+1]'h1).toNat:Int)-128)*64+((s[k+2]'h2).toNat:Int)-128)*64+((s[k+3]'h3).toNat:Int)-128)≤55295)=false:=decide_eq_false (by omega);have y19058:decide (((((((s[k]'hk).toNat:Int)-240)*64+((s[k+1]'h1).toNat:Int)-128)*64+((s[k+2]'h2).toNat:Int)-128)*64+((s[k+3]'h3).toNat:Int)-128)≤1114111)=true:=decide_eq_true (by omega);go_enter Tryz.func125,Tryz.ntmps125
 go_wp2_with (first|go_in)
 refine wp_loop_rounds 4 ?_;rw[rounds_succ]
 go_wp2_with (first|go_in)
 rw[rounds_succ]
 go_wp2_with (first|go_in)
 rw[rounds_succ]
 go_wp2_with (first|go_in)
 rw[rounds_succ]
 go_wp2_with (first|go_in)
 all_goals go_ret3
 all_goals exact⟨r_ok4 hk h1 h2 h3 b b2 c1 c1' c2 c2' c3 c3' (by omega) (by omega),rfl⟩
theorem rune_4c(s:ByteArray)(k:Nat)(w:World)(hs:s.size≤1048576)(hk:k<s.size)(b:240≤((s[k]'hk).toNat:Int))(b2:((s[k]'hk).toNat:Int)≤244)(h1:k+1<s.size)(h2:k+2<s.size)(h3:k+3<s.size)(c1:128≤((s[k+1]'h1).toNat:Int))(c1':((s[k+1]'h1).toNat:Int)≤191)(c2:128≤((s[k+2]'h2).toNat:Int))(c2':((s[k+2]'h2).toNat:Int)≤191)(c3:128≤((s[k+3]'h3).toNat:Int))(c3':((s[k+3]'h3).toNat:Int)≤191)(g:1114111<((((((s[k]'hk).toNat:Int)-240)*64+((s[k+1]'h1).toNat:Int)-128)*64+((s[k+2]'h2).toNat:Int)-128)*64+((s[k+3]'h3).toNat:Int)-128)) :
  Calls Tryz.prog 125 #[.string s,.int .i64 k] w λe w'=>zau s k e∧w'=w:=by
 have u0:((s[k]'hk).toNat:Int)≤255:=by have:=UInt8.toNat_lt (s[k]'hk);omega
 have u1:((s[k+1]'h1).toNat:Int)≤255:=by have:=UInt8.toNat_lt (s[k+1]'h1);omega
 have u2:((s[k+2]'h2).toNat:Int)≤255:=by have:=UInt8.toNat_lt (s[k+2]'h2);omega
 have u3:((s[k+3]'h3).toNat:Int)≤255:=by have:=UInt8.toNat_lt (s[k+3]'h3);omega
 have x18978:decide (((((((s[k]'hk).toNat:Int)-240)*64+((s[k+1]'h1).toNat:Int)-128)*64+((s[k+2]'h2).toNat:Int)-128)*64+((s[k+3]'h3).toNat:Int)-128)≤55295)=false:=decide_eq_false (by omega);have x19058:decide (((((((s[k]'hk).toNat:Int)-240)*64+((s[k+1]'h1).toNat:Int)-128)*64+((s[k+2]'h2).toNat:Int)-128)*64+((s[k+3]'h3).toNat:Int)-128)≤1114111)=false:=decide_eq_false (by omega);go_enter Tryz.func125,Tryz.ntmps125
 go_wp2_with (first|go_in)
 refine wp_loop_rounds 4 ?_;rw[rounds_succ]
 go_wp2_with (first|go_in)
 rw[rounds_succ]
 go_wp2_with (first|go_in)
 rw[rounds_succ]
 go_wp2_with (first|go_in)
 rw[rounds_succ]
 go_wp2_with (first|go_in)
 all_goals go_ret3
 all_goals exact⟨zaS (b_size4 hk h1 h2 h3 b b2 c1 c1' c2 c2' c3 c3' (by omega)),rfl⟩
theorem rune_any(s:ByteArray)(k:Nat)(w:World)(hs:s.size≤1048576)(hk:k<s.size) :
  Calls Tryz.prog 125 #[.string s,.int .i64 k] w λe w'=>zau s k e∧w'=w:=by
 by_cases b1:((s[k]'hk).toNat:Int)<128
 ·exact rune_1 s k w hs hk b1
 by_cases b2:((s[k]'hk).toNat:Int)<194
 ·exact rune_lo s k w hs hk (by omega) b2
 by_cases b3:244<((s[k]'hk).toNat:Int)
 ·exact rune_hi s k w hs hk b3
 by_cases b4:((s[k]'hk).toNat:Int)≤223
 ·by_cases hn:s.size<k+2
  ·exact rune_2s s k w hs hk (by omega) b4 hn
  have h1:k+1<s.size:=by omega
  by_cases x:((s[k+1]'h1).toNat:Int)<128
  ·exact rune_2c1lo s k w hs hk (by omega) b4 h1 x
  by_cases x':191<((s[k+1]'h1).toNat:Int)
  ·exact rune_2c1hi s k w hs hk (by omega) b4 h1 x'
  exact rune_2 s k w hs hk (by omega) b4 h1 (by omega) (by omega)
 by_cases b5:((s[k]'hk).toNat:Int)≤239
 ·by_cases hn:s.size<k+3
  ·exact rune_3s s k w hs hk (by omega) b5 hn
  have h1:k+1<s.size:=by omega
  have h2:k+2<s.size:=by omega
  by_cases x:((s[k+1]'h1).toNat:Int)<128
  ·exact rune_3c1lo s k w hs hk (by omega) b5 h1 h2 x
  by_cases x':191<((s[k+1]'h1).toNat:Int)
  ·exact rune_3c1hi s k w hs hk (by omega) b5 h1 h2 x'
  by_cases y:((s[k+2]'h2).toNat:Int)<128
  ·exact rune_3c2lo s k w hs hk (by omega) b5 h1 h2 (by omega) (by omega) y
  by_cases y':191<((s[k+2]'h2).toNat:Int)
  ·exact rune_3c2hi s k w hs hk (by omega) b5 h1 h2 (by omega) (by omega) y'
  by_cases g1:((((s[k]'hk).toNat:Int)-224)*64+((s[k+1]'h1).toNat:Int)-128)*64+((s[k+2]'h2).toNat:Int)-128<2048
  ·exact rune_3a s k w hs hk (by omega) b5 h1 h2 (by omega) (by omega) (by omega) (by omega) g1
  by_cases g2:((((s[k]'hk).toNat:Int)-224)*64+((s[k+1]'h1).toNat:Int)-128)*64+((s[k+2]'h2).toNat:Int)-128≤55295
  ·exact rune_3b s k w hs hk (by omega) b5 h1 h2 (by omega) (by omega) (by omega) (by omega) (by omega) g2
  by_cases g3:((((s[k]'hk).toNat:Int)-224)*64+((s[k+1]'h1).toNat:Int)-128)*64+((s[k+2]'h2).toNat:Int)-128<57344
  ·exact rune_3c s k w hs hk (by omega) b5 h1 h2 (by omega) (by omega) (by omega) (by omega) (by omega) g3
  exact rune_3d s k w hs hk (by omega) b5 h1 h2 (by omega) (by omega) (by omega) (by omega) (by omega)
 by_cases hn:s.size<k+4
 ·exact rune_4s s k w hs hk (by omega) (by omega) hn
 have h1:k+1<s.size:=by omega
 have h2:k+2<s.size:=by omega
 have h3:k+3<s.size:=by omega
 by_cases x:((s[k+1]'h1).toNat:Int)<128
 ·exact rune_4c1lo s k w hs hk (by omega) (by omega) h1 h2 h3 x
 by_cases x':191<((s[k+1]'h1).toNat:Int)
 ·exact rune_4c1hi s k w hs hk (by omega) (by omega) h1 h2 h3 x'
 by_cases y:((s[k+2]'h2).toNat:Int)<128
 ·exact rune_4c2lo s k w hs hk (by omega) (by omega) h1 h2 h3 (by omega) (by omega) y
 by_cases y':191<((s[k+2]'h2).toNat:Int)
 ·exact rune_4c2hi s k w hs hk (by omega) (by omega) h1 h2 h3 (by omega) (by omega) y'
 by_cases z:((s[k+3]'h3).toNat:Int)<128
 ·exact rune_4c3lo s k w hs hk (by omega) (by omega) h1 h2 h3 (by omega) (by omega) (by omega) (by omega) z
 by_cases z':191<((s[k+3]'h3).toNat:Int)
 ·exact rune_4c3hi s k w hs hk (by omega) (by omega) h1 h2 h3 (by omega) (by omega) (by omega) (by omega) z'
 by_cases g1:(((((s[k]'hk).toNat:Int)-240)*64+((s[k+1]'h1).toNat:Int)-128)*64+((s[k+2]'h2).toNat:Int)-128)*64+((s[k+3]'h3).toNat:Int)-128<65536
 ·exact rune_4a s k w hs hk (by omega) (by omega) h1 h2 h3 (by omega) (by omega) (by omega) (by omega) (by omega) (by omega) g1
 by_cases g2:(((((s[k]'hk).toNat:Int)-240)*64+((s[k+1]'h1).toNat:Int)-128)*64+((s[k+2]'h2).toNat:Int)-128)*64+((s[k+3]'h3).toNat:Int)-128≤1114111
 ·exact rune_4b s k w hs hk (by omega) (by omega) h1 h2 h3 (by omega) (by omega) (by omega) (by omega) (by omega) (by omega) (by omega) g2
 exact rune_4c s k w hs hk (by omega) (by omega) h1 h2 h3 (by omega) (by omega) (by omega) (by omega) (by omega) (by omega) (by omega)
end ut
namespace ut
open Go.RowKit
end ut
namespace ut
open Go.RowKit
def CutAt(s:ByteArray)(n:Int)(k:Nat):Prop:=∃j,k=pos s j∧k≤s.size∧(k:Int)≤n∧(n<(pos s (j+1):Int)∨s.size≤k)
theorem cut_one{s:ByteArray}{n:Int}{k k':Nat}(h:CutAt s n k)(h':CutAt s n k'):k=k':=by
 have key:∀{j j':Nat},j<j'→pos s j'≤s.size→(pos s j':Int)≤n→(n<(pos s (j+1):Int)∨s.size≤pos s j)→pos s j=pos s j':=by
  intro j j' hlt hle hn hx;have h1:=zb8 s (j+1) (j'-(j+1));rw[show j+1+(j'-(j+1))=j' from by omega] at h1;have h2:=zb8 s j (j'-j);rw[show j+(j'-j)=j' from by omega] at h2;omega
 obtain⟨j,rfl,a1,a2,a3⟩:=h;obtain⟨j',rfl,b1,b2,b3⟩:=h'
 rcases Nat.lt_trichotomy j j' with e|e|e
 ·exact key e b1 b2 a3
 ·rw[e]
 ·exact(key e a1 a2 b3).symm
end ut
end Go.Proofs.YtmnflpmfngjllaaGreatDoor
