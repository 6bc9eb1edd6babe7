/-
  FnReplayCardSaid
-/
import Derived.Test.YtmnflpmfngjllaaGreatDoorPkbo
import Derived.Lib.LaidTab
import Derived.Lib.Space
import Derived.Laws.IdiomCopy
import Derived.Laws.CopyRow
import Derived.Laws.CopyOwn
import Derived.Laws.BitsAll
set_option maxHeartbeats 16000000
set_option maxRecDepth 100000
set_option linter.unusedVariables false
namespace Go.Proofs.YtmnflpmfngjllaaGreatDoor
namespace sv
open Go.RowKit
def Says(p:Prop)(e:Ending):Prop:=∃b:Bool,e=.returned (.bool b)∧(b=true↔p)
theorem zcb{p:Prop}(h:¬p):Says p (.returned (.bool false)):=⟨false,rfl,λx=>(by cases x),λx=>absurd x h⟩
theorem says_yes{p:Prop}(h:p):Says p (.returned (.bool true)):=⟨true,rfl,λ_=>h,λ_=>rfl⟩
theorem says_true{p:Prop}{e:Ending}(h:Says p e)(hp:p):e=.returned (.bool true):=by
 obtain⟨b,rfl,hb⟩:=h;rw[hb.2 hp]
theorem says_false{p:Prop}{e:Ending}(h:Says p e)(hp:¬p):e=.returned (.bool false):=by
 obtain⟨b,rfl,hb⟩:=h;cases b
 ·rfl
 ·exact absurd (hb.1 rfl) hp
def inB(n a b:Int):Bool:=decide (a≤n∧n≤b)
theorem zbw(n a b:Int)(w:World):Calls Tryz.prog 72 #[.int .i64 n,.int .i64 a,.int .i64 b] w λe w'=>e=.returned (.bool (inB n a b))∧w'=w:=by
 by_cases h:a≤n
 ·go_enter Tryz.func72,Tryz.ntmps72;go_wp2
  all_goals (go_ret;exact⟨by simp[inB,h],rfl⟩)
 ·have h':decide (a≤n)=false:=decide_eq_false h;go_enter Tryz.func72,Tryz.ntmps72;go_wp2
  all_goals (go_ret;exact⟨by rw[show inB n a b=false from decide_eq_false (by omega)];rfl,rfl⟩)
theorem in_yes{n a b:Int}(h:a≤n)(h':n≤b):inB n a b=true:=decide_eq_true ⟨h,h'⟩
theorem in_no{n a b:Int}(h:n<a∨b<n):inB n a b=false:=decide_eq_false (by omega)
theorem spec_any(s:ByteArray)(w:World)(hs:s.size≤maxLen) :
  Calls Tryz.prog 138 #[.string s] w λe w'=>Says (hd.Safe s.data.toList) e∧w'=w:=by
 unfold maxLen at hs;by_cases h9:65536<s.size
 ·have b9:(65536:Int)<(s.size:Int):=by omega
  go_enter Tryz.func138,Tryz.ntmps138;go_wp2;go_ret;exact⟨zcb (hd.big (by omega)),rfl⟩
 have b9:(s.size:Int)≤65536:=by omega
 by_cases h4:2000<s.size
 ·have h4':(2000:Int)<(s.size:Int):=by omega
  go_enter Tryz.func138,Tryz.ntmps138;go_wp2;go_ret;exact⟨zcb (hd.big h4),rfl⟩
 have h4':(s.size:Int)≤2000:=by omega
 go_enter Tryz.func138,Tryz.ntmps138;go_wp2
 go_loop [3,4] (λt i=>∃k wd:Nat,k≤s.size∧i=.int .i64 k∧t=.int .i64 wd∧hd.wid (s.data.toList.take k)=some wd∧(wd=0→k=0∨k<s.size)) (λ_ i=>s.size-(intOf i).toNat)
 case atStart=>exact⟨0,0,Nat.zero_le _,rfl,rfl,rfl,λ_=>.inl rfl⟩
 case round =>
  obtain⟨k,wd,hk,rfl,rfl,hg,hq⟩:=hrel;have hw:=hd.width_le hg;have hw':(wd:Int)≤200:=by omega
  have HG:=hD hg;have HQ:=hD hq;clear hg hq;by_cases hlt:k<s.size
  ·have u:((s[k]'hlt).toNat:Int)≤255:=by have:=(s[k]'hlt).toNat_lt;omega
   have HN:Hid (∀o,hd.step (some wd) (s[k]'hlt)=o→hd.wid (s.data.toList.take (k+1))=o):=λo ho=>by rw[hd.wid_at s k hlt,HG.out];exact ho
   by_cases c1:((s[k]'hlt).toNat:Int)<32∨126<((s[k]'hlt).toNat:Int)
   ·have b2:inB ((s[k]'hlt).toNat:Int) 32 126=false:=in_no c1;have HC:=hD c1;clear c1
    go_wp2_with (go_at_call 72;refine(zbw _ _ _ _).mono ?_;rintro e w' ⟨rfl,rfl⟩)
    go_ret;exact⟨zcb (hd.bad_at hlt HG.out (hd.st_bad HC.out)),rfl⟩
   have b2:inB ((s[k]'hlt).toNat:Int) 32 126=true:=in_yes (by omega) (by omega);have c1':32≤((s[k]'hlt).toNat:Int):=by omega
   have c2':((s[k]'hlt).toNat:Int)≤126:=by omega
   clear c1;by_cases c3:((s[k]'hlt).toNat:Int)=32
   ·have d3:(((s[k]'hlt).toNat:Int) != 32)=false:=by rw[bne_eq_false_iff_eq];exact c3
    have HC:=hD c3;clear c3 c1' c2';by_cases c4:wd=0
    ·have d4:((wd:Int) == 0)=true:=beq_iff_eq.2 (by omega);have H4:=hD c4;clear c4
     go_wp2_with (go_at_call 72;refine(zbw _ _ _ _).mono ?_;rintro e w' ⟨rfl,rfl⟩)
     go_ret;exact⟨zcb (hd.bad_at hlt HG.out (by rw[H4.out];exact hd.st_sp0 HC.out)),rfl⟩
    ·have d4:((wd:Int) == 0)=false:=beq_eq_false_iff_ne.2 (by omega);by_cases c5:k+1=s.size
     ·have d5:((k:Int)+1 == (s.size:Int))=true:=beq_iff_eq.2 (by omega);have H5:=hD c5;clear c5
      go_wp2_with (go_at_call 72;refine(zbw _ _ _ _).mono ?_;rintro e w' ⟨rfl,rfl⟩)
      go_ret;exact⟨zcb (hd.endBad (by omega) (by have:=HN.out _ (hd.st_sp HC.out c4);rw[hd.take_all s (k+1) (by have:=H5.out;omega)] at this;exact this)),rfl⟩
     ·have d5:((k:Int)+1 == (s.size:Int))=false:=beq_eq_false_iff_ne.2 (by omega)
      go_wp2_with (go_at_call 72;refine(zbw _ _ _ _).mono ?_;rintro e w' ⟨rfl,rfl⟩)
      go_round
      case rel=>exact⟨k+1,0,by omega,by go_num,rfl,HN.out _ (hd.st_sp HC.out c4),λ_=>.inr (by omega)⟩
      case measure=>simp[intOf];omega
   ·have d3:(((s[k]'hlt).toNat:Int) != 32)=true:=by rw[bne_iff_ne];exact c3
    by_cases c4:200≤wd
    ·have d4:(200:Int)<(wd:Int)+1:=by omega
     go_wp2_with (go_at_call 72;refine(zbw _ _ _ _).mono ?_;rintro e w' ⟨rfl,rfl⟩)
     go_ret;exact⟨zcb (hd.bad_at hlt HG.out (hd.st_long c3 c4)),rfl⟩
    ·have d4:(wd:Int)+1≤200:=by omega
     go_wp2_with (go_at_call 72;refine(zbw _ _ _ _).mono ?_;rintro e w' ⟨rfl,rfl⟩)
     go_round
     case rel=>exact⟨k+1,wd+1,by omega,by go_num,by go_num,HN.out _ (hd.st_ch (by omega) (by omega) c3 (by omega)),λh=>by omega⟩
     case measure=>simp[intOf];omega
  ·have HA:Hid (hd.wid s.data.toList=some wd):=by have:=HG.out;rw[hd.take_all s k (by omega)] at this;exact this
   go_wp2;go_ret;exact⟨says_yes (hd.good (by omega) HA.out (by have:=HQ.out;omega)),rfl⟩
end sv
namespace hd
open Go.RowKit
theorem at_some(s:ByteArray)(k:Nat)(h:k<s.size):s.data.toList[k]?=some s[k]:=by
 rw[List.getElem?_eq_getElem (by simpa using h)];rfl
theorem byte_is{c:UInt8}{n:Nat}(hn:n<256)(h:(c.toNat:Int)=n):c=UInt8.ofNat n:=by
 rw[←UInt8.toNat_inj,UInt8.toNat_ofNat'];omega
theorem sign_at{s:ByteArray}{k:Nat}(h:k+1<s.size)(h1:((s[k]'(by omega)).toNat:Int)=61)(h2:((s[k+1]'h).toNat:Int)=63):Lib.contains s.data.toList sign=true:=by
 rw[contains_iff];refine⟨k,?_,?_⟩
 ·rw[at_some s k (by omega),byte_is (n:=61) (by decide) h1];rfl
 ·rw[at_some s (k+1) h,byte_is (n:=63) (by decide) h2];rfl
def Clear(s:ByteArray)(k:Nat):Prop:=∀j,j<k→¬(s.data.toList[j]?=some 61∧s.data.toList[j+1]?=some 63)
theorem clear_step{s:ByteArray}{k:Nat}(hc:Clear s k)(h:k+1<s.size)(hx:((s[k]'(by omega)).toNat:Int)≠61∨((s[k+1]'h).toNat:Int)≠63):Clear s (k+1):=by
 intro j hj;by_cases e:j=k
 ·subst e;rw[at_some s j (by omega),at_some s (j+1) h];rintro⟨h1,h2⟩
  rcases hx with hx|hx
  ·rw[Option.some.inj h1] at hx;exact hx rfl
  ·rw[Option.some.inj h2] at hx;exact hx rfl
 ·exact hc j (by omega)
theorem clear_end{s:ByteArray}{k:Nat}(hc:Clear s k)(h:s.size≤k+1):Lib.contains s.data.toList sign=false:=by
 rw[Bool.eq_false_iff];intro hx;obtain⟨j,h1,h2⟩:=(contains_iff _).1 hx;have:j+1<s.size:=by rw[Lib.size_eq];exact(List.getElem?_eq_some_iff.1 h2).1
 exact hc j (by omega) ⟨h1,h2⟩
theorem plain_any(s:ByteArray)(w:World)(hs:s.size≤65536) :
  Calls Tryz.prog 124 #[.string s] w λe w'=>sv.Says (Plain s.data.toList) e∧w'=w:=by
 by_cases hsafe:Safe s.data.toList
 case neg =>
  go_enter Tryz.func124,Tryz.ntmps124
  go_wp2_with fail
  refine(sv.spec_any s _ (by unfold maxLen;omega)).mono ?_;rintro e w' ⟨h1,rfl⟩;obtain rfl:=sv.says_false h1 hsafe;go_wp2;go_ret;exact⟨sv.zcb (λx=>hsafe x.1),rfl⟩
 have HS:=hD hsafe;clear hsafe;go_enter Tryz.func124,Tryz.ntmps124
 go_wp2_with fail
 refine(sv.spec_any s _ (by unfold maxLen;omega)).mono ?_;rintro e w' ⟨h1,rfl⟩;obtain rfl:=sv.says_true h1 HS.out;clear h1;go_wp2
 go_loop [3] (λi=>∃k:Nat,k≤s.size∧i=.int .i64 k∧Clear s k) (λi=>s.size-(intOf i).toNat)
 case atStart=>exact⟨0,Nat.zero_le _,rfl,λj hj=>absurd hj (Nat.not_lt_zero _)⟩
 case round =>
  obtain⟨k,hk,rfl,hg⟩:=hrel;have HG:=hD hg;clear hg;by_cases hlt:k+1<s.size
  ·have hlt':(k:Int)+1<(s.size:Int):=by omega
   have hk0:k<s.size:=by omega
   by_cases c1:((s[k]'hk0).toNat:Int)=61
   ·have d1:=beq_iff_eq.2 c1;have H1:=hD c1;clear c1;by_cases c2:((s[k+1]'hlt).toNat:Int)=63
    ·have d2:=beq_iff_eq.2 c2;have H2:=hD c2;clear c2;go_wp2;go_ret;exact⟨sv.zcb (λx=>by have:=x.2;rw[sign_at hlt H1.out H2.out] at this;cases this),rfl⟩
    ·have d2:=beq_eq_false_iff_ne.2 c2;go_wp2
     go_round
     case rel=>exact⟨k+1,by omega,by go_num,clear_step HG.out hlt (.inr c2)⟩
     case measure=>simp[intOf];omega
   ·have d1:=beq_eq_false_iff_ne.2 c1;go_wp2
    go_round
    case rel=>exact⟨k+1,by omega,by go_num,clear_step HG.out hlt (.inl c1)⟩
    case measure=>simp[intOf];omega
  ·have hlt':(s.size:Int)≤(k:Int)+1:=by omega
   go_wp2;go_ret;exact⟨sv.says_yes ⟨HS.out,clear_end HG.out (by omega)⟩,rfl⟩
end hd
namespace bl
open Go.RowKit
theorem info1:(Tryz.prog.info? 5).map (λi=>(i.zero,i.size,i.bytes))=some (some (.int .u8 0),1,1):=by kernel_rfl
end bl
namespace b6
open Go.RowKit
def bz(l:List UInt8):List Int:=l.map λb=>(b.toNat:Int)
theorem zbm(l:List UInt8):(bz l).length=l.length:=List.length_map _
theorem bz_at(l:List UInt8)(j:Nat):(bz l).getD j 0=((l.getD j 0).toNat:Int):=by
 simp only[bz,List.getD_eq_getElem?_getD,List.getElem?_map];cases l[j]?<;>simp
def nv(l:List UInt8)(i:Nat):Nat→Nat
 | 0=>0
 | k+1=>nv l i k*256+(if i+k<l.length then(l.getD (i+k) 0).toNat else 0)
theorem nv_lt(l:List UInt8)(i k:Nat):nv l i k<256 ^ k:=by
 induction k with
 | zero=>simp[nv]
 | succ k ih =>
  have:=(l.getD (i+k) 0).toNat_lt;simp only[nv,Nat.pow_succ]
  split<;>omega
def lets:ByteArray:=⟨#[65,66,67,68,69,70,71,72,73,74,75,76,77,78,79,80,81,82,83,84,85,86,87,88,89,90,97,98,99,100,101,102,103,104,105,106,107,108,109,110,111,112,113,114,115,116,117,118,119,120,121,122,48,49,50,51,52,53,54,55,56,57,43,47]⟩
theorem lets_at_all:∀n:Fin 64,((lets.data.toList)[n.val]?).map (·.toNat)=some (L n.val).toNat:=by decide +kernel
theorem ix_lets(z:Int)(m:Nat)(h:z=m)(hm:m<64)(wx:World):(Instr.index 9 (.string {data:=#[65,66,67,68,69,70,71,72,73,74,75,76,77,78,79,80,81,82,83,84,85,86,87,88,89,90,97,98,99,100,101,102,103,104,105,106,107,108,109,110,111,112,113,114,115,116,117,118,119,120,121,122,48,49,50,51,52,53,54,55,56,57,43,47]}) (.int .i64 z)).run Tryz.prog wx=.ok (.int .u8 ((L m).toNat:Int)) wx:=by
 subst h;have hs:m<lets.size:=hm;have e:=lets_at_all ⟨m,hm⟩;have hb:lets[(m:Int).toNat]'(by simpa using hs)=lets[m]'hs:=by simp
 have hc:(lets.data.toList)[m]?=some (lets[m]'hs):=by
  rw[Array.getElem?_toList];exact Array.getElem?_eq_getElem hs
 simp only[hc,Option.map_some,Option.some.injEq] at e;show(Instr.index 9 (.string lets) (.int .i64 (m:Int))).run Tryz.prog wx=_;rw[run_index_string wx 9 lets .i64 (m:Int) Tryz.underlying9,dif_pos ⟨by omega,by omega⟩,hb,e]
theorem drop_cons{l:List UInt8}{k:Nat}(h:k<l.length):l.drop k=l.getD k 0::l.drop (k+1):=by
 rw[List.drop_eq_getElem_cons h];simp[List.getD_eq_getElem?_getD,h]
theorem nv3{l:List UInt8}{k:Nat}(h:k+2<l.length):nv l k 3=(l.getD k 0).toNat*65536+(l.getD (k+1) 0).toNat*256+(l.getD (k+2) 0).toNat:=by
 simp only[nv,Nat.add_zero];rw[if_pos (by omega),if_pos (by omega),if_pos (by omega)];omega
theorem nv2{l:List UInt8}{k:Nat}(h:k+2=l.length):nv l k 3=(l.getD k 0).toNat*65536+(l.getD (k+1) 0).toNat*256:=by
 simp only[nv,Nat.add_zero];rw[if_pos (by omega),if_pos (by omega),if_neg (by omega)];omega
theorem nv1{l:List UInt8}{k:Nat}(h:k+1=l.length):nv l k 3=(l.getD k 0).toNat*65536:=by
 simp only[nv,Nat.add_zero];rw[if_pos (by omega),if_neg (by omega),if_neg (by omega)];omega
theorem step3{l:List UInt8}{k x:Nat}(h:k+2<l.length)(hx:x=nv l k 3):enc (l.drop k)=[L (x / 262144),L (x / 4096 % 64),L (x / 64 % 64),L (x % 64)]++enc (l.drop (k+3)):=by
 have e:=nv3 h;rw[drop_cons (l:=l) (k:=k) (by omega),drop_cons (l:=l) (k:=k+1) (by omega),drop_cons (l:=l) (k:=k+1+1) (by omega)];have h0:=(l.getD k 0).toNat_lt;have h1:=(l.getD (k+1) 0).toNat_lt;have h2:=(l.getD (k+2) 0).toNat_lt;have q0:x / 262144=(l.getD k 0).toNat / 4:=by omega
 have q1:x / 4096 % 64=(l.getD k 0).toNat % 4*16+(l.getD (k+1) 0).toNat / 16:=by omega
 have q2:x / 64 % 64=(l.getD (k+1) 0).toNat % 16*4+(l.getD (k+2) 0).toNat / 64:=by omega
 have q3:x % 64=(l.getD (k+2) 0).toNat % 64:=by omega
 rw[q0,q1,q2,q3];rfl
theorem step2{l:List UInt8}{k x:Nat}(h:k+2=l.length)(hx:x=nv l k 3):enc (l.drop k)=[L (x / 262144),L (x / 4096 % 64),L (x / 64 % 64),61]++enc (l.drop (k+3)):=by
 have e:=nv2 h;rw[drop_cons (l:=l) (k:=k) (by omega),drop_cons (l:=l) (k:=k+1) (by omega),List.drop_eq_nil_of_le (i:=k+1+1) (by omega),List.drop_eq_nil_of_le (i:=k+3) (by omega)];have h0:=(l.getD k 0).toNat_lt;have h1:=(l.getD (k+1) 0).toNat_lt;have q0:x / 262144=(l.getD k 0).toNat / 4:=by omega
 have q1:x / 4096 % 64=(l.getD k 0).toNat % 4*16+(l.getD (k+1) 0).toNat / 16:=by omega
 have q2:x / 64 % 64=(l.getD (k+1) 0).toNat % 16*4:=by omega
 rw[q0,q1,q2];rfl
theorem step1{l:List UInt8}{k x:Nat}(h:k+1=l.length)(hx:x=nv l k 3):enc (l.drop k)=[L (x / 262144),L (x / 4096 % 64),61,61]++enc (l.drop (k+3)):=by
 have e:=nv1 h;rw[drop_cons (l:=l) (k:=k) (by omega),List.drop_eq_nil_of_le (i:=k+1) (by omega),List.drop_eq_nil_of_le (i:=k+3) (by omega)];have h0:=(l.getD k 0).toNat_lt;have q0:x / 262144=(l.getD k 0).toNat / 4:=by omega
 have q1:x / 4096 % 64=(l.getD k 0).toNat % 4*16:=by omega
 rw[q0,q1];rfl
theorem grow4{l q four:List UInt8}{k:Nat}(h:q++enc (l.drop k)=enc l)(e:enc (l.drop k)=four++enc (l.drop (k+3))):(q++four)++enc (l.drop (k+3))=enc l:=by
 rw[List.append_assoc,←e,h]
theorem specEnc_any(v:Value)(l:List UInt8)(w:World)(h:ow.Reads .u8 w v (bz l))(hn:l.length≤1048576) :
  Calls Tryz.prog 126 #[v] w λe w'=>e=.returned (.string ⟨(enc l).toArray⟩)∧Below w.heap.size w w':=by
 obtain⟨a,cap,rfl,h⟩:=h;rw[zbm] at h ⊢;have H1:=hD h;clear h;obtain⟨n,hn'⟩:∃n,n=l.length:=⟨_,rfl⟩
 rw[←hn'] at hn H1 ⊢;have HN:=hD hn';clear hn';go_enter Tryz.func126,Tryz.ntmps126;go_wp2
 go_loopw [3,4] (λo i wr=>∃(k:Nat) (q:List UInt8),k≤n+2∧i=.int .i64 k∧Hid (q++enc (l.drop k)=enc l)∧wr.ownsRow w.heap.size 5 1 o q.length (Lib.byteCells q)∧Below w.heap.size w wr) (λ_ i _=>n+2-(intOf i).toNat)
 case atStart=>exact⟨0,[],Nat.zero_le _,rfl,rfl,ow.zcw _ _,bR.alloc lR _⟩
 case round =>
  obtain⟨k,q,hk,rfl,HQ,hown,hbw⟩:=hrel;by_cases hlt:k<n
  ·have hzne:bz l≠[]:=by
    intro e;have:=congrArg List.length e;rw[zbm,←HN.out] at this;simp at this;omega
   rcases H1.out with e|⟨b,off,rfl,hcells⟩
   ·exact absurd e hzne
   clear hzne;have hblt:=World.block_lt_of_cell? w _ (hcells k hlt);have HC:Hid (∀j,j<n→wr.cell? ⟨b,off+j,none⟩=some (.int .u8 ((l.getD j 0).toNat:Int))):=λj hj=>by
    rw[←bz_at];exact(hbw.cell (p:=⟨b,off+j,none⟩) hblt).trans (hcells j hj)
   clear hcells;go_wp2
   go_loop [5,6] (λx j=>∃m:Nat,m≤3∧j=.int .i64 m∧x=.int .i64 (nv l k m:Nat)) (λ_ j=>3-(intOf j).toNat)
   case atStart=>exact⟨0,Nat.zero_le _,rfl,rfl⟩
   case round =>
    obtain⟨m,hm,rfl,rfl⟩:=hrel;have hv:=nv_lt l k m;have hs:nv l k (m+1)=nv l k m*256+(if k+m<l.length then(l.getD (k+m) 0).toNat else 0):=rfl;rw[←HN.out] at hs;have HS:=hD hs;clear hs;obtain⟨x,hx⟩:∃x,x=nv l k m:=⟨_,rfl⟩
    rw[←hx] at hv HS ⊢;by_cases hm3:m<3
    ·have hx6:x<65536:=by
      have:256 ^ m≤256 ^ 2:=Nat.pow_le_pow_right (by decide) (by omega);omega
     clear hv hx;have hx6':(x:Int)≤65535:=by omega
     by_cases hin:k+m<n
     ·have c0:=HC.out (k+m) hin;have hby:=(l.getD (k+m) 0).toNat_lt;have e:nv l k (m+1)=x*256+(l.getD (k+m) 0).toNat:=by rw[HS.out,if_pos hin]
      obtain⟨y,hy⟩:∃y,y=(l.getD (k+m) 0).toNat:=⟨_,rfl⟩
      rw[←hy] at c0 hby e;clear hy;have E:=hD e;clear e HS;have hy2:(y:Int)≤255:=by omega
      have hin':(k:Int)+(m:Int)<(n:Int):=by omega
      go_wp2
      go_round
      case rel=>exact⟨m+1,by omega,by go_num,by rw[E.out];go_num⟩
      case measure=>simp[intOf];omega
     ·have e:nv l k (m+1)=x*256:=by rw[HS.out,if_neg hin];rfl
      have E:=hD e;clear e HS;have hin':(n:Int)≤(k:Int)+(m:Int):=by omega
      go_wp2
      go_round
      case rel=>exact⟨m+1,by omega,by go_num,by rw[E.out];go_num⟩
      case measure=>simp[intOf];omega
    ·have hm3':m=3:=by omega
     subst hm3';have hx6:x<16777216:=by simpa using hv
     have HX:=hD hx;clear hv hx HS;have hx6':(x:Int)≤16777215:=by omega
     clear HC H1;have g0:=ix_lets ((x:Int) / 262144) (x / 262144) (by omega) (by omega);have g1:=ix_lets ((x:Int) / 4096 % 64) (x / 4096 % 64) (by omega) (by omega);have g2:=ix_lets ((x:Int) / 64 % 64) (x / 64 % 64) (by omega) (by omega);have g3:=ix_lets ((x:Int) % 64) (x % 64) (by omega) (by omega);obtain⟨d0,hd0⟩:∃d,d=L (x / 262144):=⟨_,rfl⟩
     obtain⟨d1,hd1⟩:∃d,d=L (x / 4096 % 64):=⟨_,rfl⟩
     obtain⟨d2,hd2⟩:∃d,d=L (x / 64 % 64):=⟨_,rfl⟩
     obtain⟨d3,hd3⟩:∃d,d=L (x % 64):=⟨_,rfl⟩
     rw[←hd0] at g0;rw[←hd1] at g1;rw[←hd2] at g2;rw[←hd3] at g3;have HD:Hid (d0=L (x / 262144)∧d1=L (x / 4096 % 64)∧d2=L (x / 64 % 64)∧d3=L (x % 64)):=⟨hd0,hd1,hd2,hd3⟩
     clear hd0 hd1 hd2 hd3;go_wp2
     go_region
     clear g0 g1 g2 g3;have hlq:q.length≤2097152:=by
      have e1:=congrArg List.length HQ.out;rw[List.length_append,zc0 l,←HN.out] at e1;omega
     have HLQ:=hD hlq;clear hlq;have hg1:=hbw.size;obtain⟨w1,hw1⟩:∃W,W=(wr.alloc (.cells #[Value.int .u8 (d0.toNat:Int),Value.int .u8 (d1.toNat:Int),Value.int .u8 (d2.toNat:Int),Value.int .u8 (d3.toNat:Int)] 5)).drew:=⟨_,rfl⟩
     rw[←hw1];obtain⟨own1,bel1,blk1,ne1,sz1⟩:=ow.built hw1 hown hbw hg1;clear hw1 hown hbw;obtain⟨g,hg⟩:∃g,g=wr.heap.size:=⟨_,rfl⟩
     rw[←hg] at blk1 ne1 sz1 hg1 ⊢;clear hg;obtain⟨i0,hi,hz0,hz1,hz2⟩:=info_parts bl.info1;by_cases h3:k+2<n
     ·have h3':(k:Int)+2<(n:Int):=by omega
      have h3d:=decide_eq_false (by omega);have h4d:=decide_eq_false (by omega);have HG:Hid ((q++[d0,d1,d2,d3])++enc (l.drop (k+3))=enc l):=by
       obtain⟨e0,e1,e2,e3⟩:=HD.out;rw[e0,e1,e2,e3];exact grow4 HQ.out (step3 (by rw[←HN.out];exact h3) HX.out)
      clear HD HX HQ;have HNW:=hD (ow.zcj blk1 (λj u hj=>by simpa [Lib.byteCells] using hj))
      go_wp2_with (at_builtin;go_loud (refine wpList_append_own _ rfl _ _ 22 rfl w.heap.size 5 i0 (.int .u8 0) 1 1 Tryz.underlying22 hi hz0 hz1 hz2 rfl (by decide) _ _ _ rfl own1 ⟨g,0,none⟩ 4 4 (Lib.byteCells [d0,d1,d2,d3]) rfl rfl HNW.out (ow.zcl _) (by have:=HLQ.out;unfold maxLen;omega) (by have:=HLQ.out;omega) (by have:=hg1;have:=sz1;omega) ?_);intro v' w2 hown' hgrow _)
      have hbz:=bel1.grown hgrow (by have:=hg1;have:=sz1;omega) (ow.zaN own1);obtain⟨ao,n',cap',rfl⟩:∃ao n' cap,v'=.slice ao n' cap:=by
       rcases hown'.2 with⟨hv,_⟩|⟨g,cap,cur,hv,_⟩
       ·exact⟨_,_,_,hv⟩
       ·exact⟨_,_,_,hv⟩
      rw[←Lib.byteCells_append] at hown';go_wp2
      go_roundw
      case rel=>exact⟨k+3,q++[d0,d1,d2,d3],by omega,by go_num,HG.out,by rw[List.length_append];exact hown',hbz⟩
      case measure=>simp[intOf];omega
     by_cases h4:k+2=n
     ·have h3d:=decide_eq_true (by omega);have h4d:=decide_eq_false (by omega);have HG:Hid ((q++[d0,d1,d2,61])++enc (l.drop (k+3))=enc l):=by
       obtain⟨e0,e1,e2,e3⟩:=HD.out;rw[e0,e1,e2];exact grow4 HQ.out (step2 (by rw[←HN.out];exact h4) HX.out)
      clear HD HX HQ;have c3:=ow.cell_blk blk1 3;have f3:=ow.frozen_blk blk1 3;obtain⟨own2,bel2,blk2,sz2⟩:=ow.wrote 3 (.int .u8 61) own1 bel1 hg1 blk1 ne1;rw[sz1] at sz2;clear own1 bel1 blk1;have HNW:=hD (ow.zcj blk2 (λj u hj=>by simpa [Lib.byteCells] using hj))
      go_wp2_with (at_builtin;go_loud (refine wpList_append_own _ rfl _ _ 22 rfl w.heap.size 5 i0 (.int .u8 0) 1 1 Tryz.underlying22 hi hz0 hz1 hz2 rfl (by decide) _ _ _ rfl own2 ⟨g,0,none⟩ 4 4 (Lib.byteCells [d0,d1,d2,61]) rfl rfl HNW.out (ow.zcl _) (by have:=HLQ.out;unfold maxLen;omega) (by have:=HLQ.out;omega) (by have:=hg1;have:=sz2;omega) ?_);intro v' w2 hown' hgrow _)
      have hbz:=bel2.grown hgrow (by have:=hg1;have:=sz2;omega) (ow.zaN own2);obtain⟨ao,n',cap',rfl⟩:∃ao n' cap,v'=.slice ao n' cap:=by
       rcases hown'.2 with⟨hv,_⟩|⟨g,cap,cur,hv,_⟩
       ·exact⟨_,_,_,hv⟩
       ·exact⟨_,_,_,hv⟩
      rw[←Lib.byteCells_append] at hown';go_wp2
      go_roundw
      case rel=>exact⟨k+3,q++[d0,d1,d2,61],by omega,by go_num,HG.out,by rw[List.length_append];exact hown',hbz⟩
      case measure=>simp[intOf];omega
     ·have h5:k+1=n:=by omega
      have h3d:=decide_eq_true (by omega);have h4d:=decide_eq_true (by omega);have HG:Hid ((q++[d0,d1,61,61])++enc (l.drop (k+3))=enc l):=by
       obtain⟨e0,e1,e2,e3⟩:=HD.out;rw[e0,e1];exact grow4 HQ.out (step1 (by rw[←HN.out];exact h5) HX.out)
      clear HD HX HQ;have c3:=ow.cell_blk blk1 3;have f3:=ow.frozen_blk blk1 3;obtain⟨own2,bel2,blk2,sz2⟩:=ow.wrote 3 (.int .u8 61) own1 bel1 hg1 blk1 ne1;have c2:=ow.cell_blk blk2 2;have f2:=ow.frozen_blk blk2 2;obtain⟨own3,bel3,blk3,sz3⟩:=ow.wrote 2 (.int .u8 61) own2 bel2 hg1 blk2 ne1;rw[sz2,sz1] at sz3;clear own1 bel1 blk1 own2 bel2 blk2 sz2;have HNW:=hD (ow.zcj blk3 (λj u hj=>by simpa [Lib.byteCells] using hj))
      go_wp2_with (at_builtin;go_loud (refine wpList_append_own _ rfl _ _ 22 rfl w.heap.size 5 i0 (.int .u8 0) 1 1 Tryz.underlying22 hi hz0 hz1 hz2 rfl (by decide) _ _ _ rfl own3 ⟨g,0,none⟩ 4 4 (Lib.byteCells [d0,d1,61,61]) rfl rfl HNW.out (ow.zcl _) (by have:=HLQ.out;unfold maxLen;omega) (by have:=HLQ.out;omega) (by have:=hg1;have:=sz3;omega) ?_);intro v' w2 hown' hgrow _)
      have hbz:=bel3.grown hgrow (by have:=hg1;have:=sz3;omega) (ow.zaN own3);obtain⟨ao,n',cap',rfl⟩:∃ao n' cap,v'=.slice ao n' cap:=by
       rcases hown'.2 with⟨hv,_⟩|⟨g,cap,cur,hv,_⟩
       ·exact⟨_,_,_,hv⟩
       ·exact⟨_,_,_,hv⟩
      rw[←Lib.byteCells_append] at hown';go_wp2
      go_roundw
      case rel=>exact⟨k+3,q++[d0,d1,61,61],by omega,by go_num,HG.out,by rw[List.length_append];exact hown',hbz⟩
      case measure=>simp[intOf];omega
  ·have hd:l.drop k=[]:=List.drop_eq_nil_of_le (by rw[←HN.out];omega);have hq:q=enc l:=by have:=HQ.out;rw[hd] at this;simpa [enc] using this
   subst hq;have hcv:=λh1 h2 h3=>ow.zcd (P:=Tryz.prog) (src:=22) (dst:=9) (enc l) hown h1 h2 h3
   have hcv2:=hcv Tryz.underlying22 Tryz.underlying5 Tryz.underlying9;clear hcv hd HQ H1 hown;go_wp2;go_ret;exact⟨rfl,hbw⟩
end b6
namespace tb
open Go.RowKit
def digs:List UInt8:=[48,49,50,51,52,53,54,55,56,57,65,66,67,68,69,70]
end tb
namespace b6
open Go.RowKit
end b6
namespace hd
open Go.RowKit
theorem zcq(s:ByteArray):s.toList.isEmpty=decide (s.size=0):=by
 rw[Bool.eq_iff_iff,List.isEmpty_iff,decide_eq_true_iff];refine⟨λh=>?_,λh=>?_⟩
 ·have:=Lib.size_eq s;rw[←Lib.toList_data,h] at this;exact this
 ·have:=Lib.size_eq s;rw[h] at this;rw[Lib.toList_data];exact List.eq_nil_of_length_eq_zero this.symm
theorem F_wide4(n k b0 b1 b2 b3:Nat):(ut.decF n k b0 b1 b2 b3).2≤4:=by
 unfold ut.decF
 repeat' split
 all_goals simp
theorem wide4(s:ByteArray)(k:Nat):(Utf8.decode s k).2≤4:=by rw[ut.zaJ];exact F_wide4 _ _ _ _ _ _
theorem cut_pos{s:ByteArray}{k:Nat}(h:s.size≠0)(hk:ut.CutAt s 45 k):0<k∧k≤s.size∧k≤45:=by
 obtain⟨j,rfl,h1,h2,h3⟩:=hk;refine⟨?_,h1,by omega⟩
 rcases Nat.eq_zero_or_pos j with rfl|hj
 ·rcases h3 with h3|h3
  ·exfalso
   have:=wide4 s 0;simp only[ut.pos,Nat.zero_add] at h3;omega
  ·simp only[ut.pos] at h3 ⊢;omega
 ·have:=ut.pos_ge s j;omega
theorem word_len(l:List UInt8):(zaB l).length=12+(l.length+2) / 3*4:=by
 unfold zaB head tail;rw[List.length_append,List.length_append,b6.zc0];simp;omega
end hd
end Go.Proofs.YtmnflpmfngjllaaGreatDoor
