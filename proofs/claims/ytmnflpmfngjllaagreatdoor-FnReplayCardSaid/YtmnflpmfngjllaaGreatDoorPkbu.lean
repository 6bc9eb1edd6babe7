/-
  FnReplayCardSaid
-/
import Derived.Test.YtmnflpmfngjllaaGreatDoorPkbt
import Derived.Lib.ReplaceLaws
set_option maxHeartbeats 16000000
set_option maxRecDepth 100000
set_option linter.unusedVariables false
namespace Go.Proofs.YtmnflpmfngjllaaGreatDoor
namespace rn
open Go.RowKit
abbrev B:=List UInt8
theorem right_of_good{s:ByteArray}(h:xm.zbM s s.size):ut.Right s∧∃n,ut.pos s n=s.size:=by
 obtain⟨n,h1,_,h3,_⟩:=h;refine⟨λm hm hb=>?_,n,h1.symm⟩;have hmn:m<n:=by
  rcases Nat.lt_or_ge m n with h|h
  ·exact h
  ·have:=ut.zb8 s n (m-n);rw[show n+(m-n)=m from by omega] at this;omega
 exact h3 m hmn (.inl hb)
theorem flat_of{s:ByteArray}(hr:ut.Right s){n:Nat}(hn:ut.pos s n=s.size):s=ut.mk ((ut.runesL s n).flatMap ut.encB):=by
 rw[←ut.fix_flat s n hn,ut.fix_right s hr n (by omega),hn];apply ByteArray.ext;rw[←Array.toList_inj];show s.data.toList=s.data.toList.take s.size;rw[List.take_of_length_le (by rw[←Lib.size_eq];exact Nat.le_refl _)]
theorem enc_ok{s r:ByteArray}(h:en.fld s=true)(hr:hd.EncIs s r):hd.Safe r.data.toList:=by
 obtain⟨h1,h2,_⟩:=en.zc2 h;obtain⟨hR,n,hn⟩:=right_of_good h2;have hf:=flat_of hR hn;have hl:((ut.runesL s n).flatMap ut.encB).length≤900:=by
  have:s.size=((ut.runesL s n).flatMap ut.encB).length:=by
   have:=congrArg ByteArray.size hf
   rwa [ut.zb5] at this
  omega
 rw[hf] at hr;exact(hd.round_trip (ut.runesL_sc s n) hl hr).1
def cutB(t:ByteArray)(j:Nat):Bool:=decide (ut.pos t j≤t.size∧ut.pos t j≤45∧(45<ut.pos t (j+1)∨t.size≤ut.pos t j))
def cutF(t:ByteArray):Nat→Nat
 | 0=>0
 | n+1=>if cutB t n=true then ut.pos t n else cutF t n
theorem cutB_at{t:ByteArray}{j:Nat}(h:cutB t j=true):ut.CutAt t 45 (ut.pos t j):=by
 have h:=of_decide_eq_true h;exact⟨j,rfl,h.1,by omega,by rcases h.2.2 with h|h;exact .inl (by omega);exact .inr h⟩
theorem cut_early(t:ByteArray):∀j,cutB t j=true→∃i,i<47∧cutB t i=true
 | j,h=>by
  by_cases hj:j<47
  ·exact⟨j,hj,h⟩
  ·have hp:=of_decide_eq_true h;by_cases hx:∃i,i<j∧t.size≤ut.pos t i
   ·obtain⟨i,hi,hs⟩:=hx;have hm:=ut.zb8 t i (j-i);rw[show i+(j-i)=j from by omega] at hm;exact cut_early t i (decide_eq_true ⟨by omega,by omega,.inr hs⟩)
   ·exfalso
    have hg:∀i,i<j→i≤ut.pos t i:=by
     intro i
     induction i with
     | zero=>intro _;omega
     | succ i ih =>
      intro hi;have h1:=ih (by omega);have h2:=ut.pos_le t i (by
       rcases Nat.lt_or_ge (ut.pos t i) t.size with h|h
       ·exact h
       ·exact absurd ⟨i,by omega,h⟩ hx)
      omega
    have h46:=hg 46 (by omega);have hm:=ut.zb8 t 46 (j-46);rw[show 46+(j-46)=j from by omega] at hm;omega
theorem cutF_is{t:ByteArray}{k:Nat}(h:ut.CutAt t 45 k):cutF t 47=k:=by
 have hex:∃i,i<47∧cutB t i=true:=by
  obtain⟨j,rfl,h1,h2,h3⟩:=h;exact cut_early t j (decide_eq_true ⟨h1,by omega,by rcases h3 with h3|h3;exact .inl (by omega);exact .inr h3⟩)
 have hF:∀n,(∃i,i<n∧cutB t i=true)→ut.CutAt t 45 (cutF t n):=by
  intro n
  induction n with
  | zero=>rintro⟨i,hi,_⟩;omega
  | succ n ih =>
   rintro⟨i,hi,hb⟩;rw[cutF]
   split
   ·rename_i hn;exact cutB_at hn
   ·rename_i hn;refine ih ⟨i,?_,hb⟩
    rcases Nat.lt_or_eq_of_le (Nat.le_of_lt_succ hi) with h|h
    ·exact h
    ·subst h;exact absurd hb hn
 exact ut.cut_one (hF 47 hex) h
def encG:Nat→ByteArray→B→B
 | 0,t,out=>out
 | n+1,t,out=>if t.size=0 then out else encG n (t.extract (cutF t 47) t.size) (out++hd.sep out++hd.zaB (t.extract 0 (cutF t 47)).data.toList)
theorem encG_is:∀(n m:Nat) (t:ByteArray) (out r:B),t.size≤m→hd.Ends n t out r→r=encG m t out
 | 0,m,t,out,r,hm,h=>by
  cases m with
  | zero=>exact h.2
  | succ m=>rw[encG,if_pos h.1];exact h.2
 | n+1,m,t,out,r,hm,h=>by
  rcases h with h|⟨h0,k,hk,h⟩
  ·cases m with
   | zero=>exact h.2
   | succ m=>rw[encG,if_pos h.1];exact h.2
  ·cases m with
   | zero=>omega
   | succ m =>
    rw[encG,if_neg h0,cutF_is hk];have hp:=hd.cut_pos h0 hk;refine encG_is n m _ _ r ?_ h;rw[ByteArray.size_extract];omega
def plainB(l:B):Bool:=decide (l.length≤2000)&&(l.isEmpty||(match hd.wid l with|some w=>decide (0<w)|none=>false))&&!(Lib.contains l hd.sign)
theorem plainB_iff(l:B):plainB l=true↔hd.Plain l:=by
 unfold plainB hd.Plain hd.Safe
 cases hw:hd.wid l with
 | none=>simp[List.isEmpty_iff]
 | some w=>simp[List.isEmpty_iff]
def EN(s:ByteArray):ByteArray:=if plainB s.data.toList=true then s else⟨(encG s.size s []).toArray⟩
theorem en_is{s r:ByteArray}(h:hd.EncIs s r):r=EN s:=by
 unfold EN
 rcases h with⟨hp,rfl⟩|⟨hp,n,h⟩
 ·rw[if_pos ((plainB_iff _).2 hp)]
 ·rw[if_neg (λe=>hp ((plainB_iff _).1 e))];have:=encG_is n s.size s [] _ lR h;exact ut.zcX (by rw[this])
def FO(nm s:ByteArray):ByteArray:=⟨(hd.foldL nm.data.toList s.data.toList).toArray⟩
theorem fo_is{nm s r:ByteArray}(h:r.data.toList=hd.foldL nm.data.toList s.data.toList):r=FO nm s:=ByteArray.ext (Array.toList_inj.1 h)
theorem safe_signs{l:B}(h:hd.signs l)(h0:l≠[])(hl:l.length≤200):hd.Safe l:=by
 refine⟨by omega,.inr ⟨0+l.length,hd.wid_word l 0 h (by omega),?_⟩⟩;have:=List.length_pos_iff.2 h0;omega
theorem zbY{a b:B}(ha:hd.signs a)(hb:hd.signs b):hd.signs (a++b):=λc hc=>by
 rcases List.mem_append.1 hc with h|h
 ·exact ha c h
 ·exact hb c h
theorem dec_signs:∀(k n:Nat),n<10 ^ (k+1)→hd.signs (Lib.decDigits n)
 | 0,n,h=>by
  rw[Lib.decDigits,dif_pos (by omega)];intro c hc;rw[List.mem_singleton] at hc;subst hc;rw[UInt8.toNat_ofNat'];omega
 | k+1,n,h=>by
  rw[Lib.decDigits];by_cases h9:n<10
  ·rw[dif_pos h9];intro c hc;rw[List.mem_singleton] at hc;subst hc;rw[UInt8.toNat_ofNat'];omega
  ·rw[dif_neg h9];refine zbY (dec_signs k (n / 10) (by rw[Nat.pow_succ] at h;omega)) λc hc=>?_
   rw[List.mem_singleton] at hc;subst hc;rw[UInt8.toNat_ofNat'];omega
theorem name_signs{s:ByteArray}(h:nm.za9 s):hd.signs s.data.toList∧s.size≤40:=by
 obtain⟨_,h2,hg⟩:=h;refine⟨λc hc=>?_,h2⟩;obtain⟨j,hj,e⟩:=List.mem_iff_getElem.1 hc;obtain⟨hj',hx⟩:=hg j (by rw[Lib.size_eq];exact hj);have e':s[j]=c:=e;rw[e'] at hx;have:(nm.letB (c.toNat:Int)=true)∨nm.digB (c.toNat:Int)=true:=hx.imp id (·.2);simp only[nm.letB,nm.digB,decide_eq_true_iff] at this;omega
theorem dg_sign{z:Int}(h0:0≤z)(h1:z≤9):33≤(dx.dg z).toNat∧(dx.dg z).toNat≤126:=by
 have:=dx.dg_nat h0 h1;omega
theorem zdh{d:Int}(h0:0≤d)(h1:d≤99):hd.signs (dx.two d):=by
 intro c hc;simp only[dx.two,List.mem_cons,List.mem_nil_iff,or_false] at hc
 rcases hc with rfl|rfl
 ·exact dg_sign (by omega) (by omega)
 ·exact dg_sign (by omega) (by omega)
theorem four_signs{y:Int}(h0:0≤y)(h1:y≤9999):hd.signs (dx.four y):=by
 intro c hc;simp only[dx.four,List.mem_cons,List.mem_nil_iff,or_false] at hc
 rcases hc with rfl|rfl|rfl|rfl<;>exact dg_sign (by omega) (by omega)
theorem colon_signs:hd.signs [58]:=by intro c hc;simp at hc;subst hc;decide
theorem wkn_signs:∀a:Fin 7,hd.signs (dx.wkn a.val++[44]):=(show ∀a:Fin 7,∀b∈(dx.wkn a.val++[44]),33≤b.toNat∧b.toNat≤126 by decide +kernel)
theorem mtn_signs:∀m:Fin 13,m.val≠0→hd.signs (dx.mtn m.val)∧dx.mtn m.val≠[]∧(dx.mtn m.val).length≤200:=(show ∀m:Fin 13,m.val≠0→(∀b∈dx.mtn m.val,33≤b.toNat∧b.toNat≤126)∧dx.mtn m.val≠[]∧(dx.mtn m.val).length≤200 by decide +kernel)
theorem wkn_len:∀a:Fin 7,dx.wkn a.val++[44]≠[]∧(dx.wkn a.val++[44]).length≤200:=by decide +kernel
theorem date_safe(n:Int)(n0:0≤n)(n1:n≤4102444799):hd.Safe (dx.t82 n)∧(dx.t82 n).length≤100:=by
 have hok:=dt.civ_ok n0 n1;unfold dx.t82;have ha7:dx.wkd n<7:=by unfold dx.wkd;omega
 obtain⟨q,hq⟩:∃q:Nat,dt.mn n=(q:Int):=⟨(dt.mn n).toNat,by have:=hok.2.2.1;omega⟩
 rw[hq] at hok ⊢;rw[Int.toNat_natCast];generalize dt.yr n=y,dt.dy n=d,dt.hr n=h,dt.mt n=i,dt.sc n=s,dx.wkd n=a at hok ha7 ⊢;obtain⟨k1,k2,k3,k4,k5,k6,k7,k8,k9,k10,k11,k12⟩:=hok;have k13:=dt.dm_pos y (q:Int);have e:dx.f82 a y q d h i s=(dx.wkn a++[44])++hd.zaL false [dx.two d,dx.mtn q,dx.four y,dx.clk h i s,[43,48,48,48,48]]:=by
  simp[dx.f82,hd.zaL]
 have hm:=mtn_signs ⟨q,by omega⟩ (by show q≠0;omega);have hmt:=dx.mtn_len (m:=q) (by omega) (by omega);have hwl:=dx.wkn_len ha7;have hlen:(dx.f82 a y q d h i s).length≤100:=by
  unfold dx.f82;simp only[List.length_append,hwl,hmt,dx.two_len,dx.four_len,dx.clk_len,List.length_cons,List.length_nil];omega
 refine⟨⟨by omega,.inr ?_⟩,hlen⟩;rw[e];have hclk:hd.signs (dx.clk h i s):=by
  unfold dx.clk;exact zbY (zbY (zbY (zbY (zdh (by omega) (by omega)) colon_signs) (zdh (by omega) (by omega))) colon_signs) (zdh (by omega) (by omega))
 refine hd.wid_join _ _ (wkn_signs ⟨a,ha7⟩) (wkn_len ⟨a,ha7⟩).1 (wkn_len ⟨a,ha7⟩).2 (λy' hy=>?_);simp only[List.mem_cons,List.mem_nil_iff,or_false] at hy
 rcases hy with rfl|rfl|rfl|rfl|rfl
 ·exact⟨zdh (by omega) (by omega),by simp[dx.two],by simp[dx.two]⟩
 ·exact hm
 ·exact⟨four_signs (by omega) (by omega),by simp[dx.four],by simp[dx.four]⟩
 ·exact⟨hclk,by simp[dx.clk,dx.two],by simp[dx.clk,dx.two]⟩
 ·exact⟨by intro c hc;simp at hc;rcases hc with rfl|rfl<;>decide,by simp,by simp⟩
def crl(l:B):B:=l.flatMap λc=>if c=10 then[13,10] else[c]
theorem crl_cons(c:UInt8)(l:B):crl (c::l)=(if c=10 then[13,10] else[c])++crl l:=rfl
theorem crl_len(l:B):(crl l).length≤2*l.length:=by
 induction l with
 | nil=>simp[crl]
 | cons c l ih =>
  rw[crl_cons,List.length_append,List.length_cons]
  split<;>simp<;>omega
def lf:B:=[10]
abbrev Pr:=ByteArray×ByteArray
def mid(e:en.En)(box:ByteArray):ByteArray:=(((⟨#[60]⟩++⟨(Lib.decDigits (ck.sum (b6.bz e.i.data.toList))).toArray⟩)++⟨#[64]⟩)++box)++⟨#[62]⟩
def flds(e:en.En)(box:ByteArray):List Pr :=
 [(⟨#[70,114,111,109]⟩,EN e.a),(⟨#[68,97,116,101]⟩,⟨(dx.t82 e.d).toArray⟩),(⟨#[83,117,98,106,101,99,116]⟩,EN e.t),(⟨#[77,101,115,115,97,103,101,45,73,68]⟩,mid e box),(⟨#[88,45,73,100]⟩,EN e.i),(⟨#[88,45,76,105,110,107]⟩,EN e.l),(⟨#[77,73,77,69,45,86,101,114,115,105,111,110]⟩,⟨#[49,46,48]⟩),(⟨#[67,111,110,116,101,110,116,45,84,121,112,101]⟩,⟨#[116,101,120,116,47,112,108,97,105,110,59,32,99,104,97,114,115,101,116,61,117,116,102,45,56]⟩),(⟨#[67,111,110,116,101,110,116,45,84,114,97,110,115,102,101,114,45,69,110,99,111,100,105,110,103]⟩,⟨#[113,117,111,116,101,100,45,112,114,105,110,116,97,98,108,101]⟩)]
def foldAll(ps:List Pr):ByteArray:=ps.foldl (λacc p=>acc++FO p.1 p.2) ⟨#[]⟩
def rend(e:en.En)(box:ByteArray):ByteArray:=(foldAll (flds e box)++⟨#[13,10]⟩)++(⟨(qu.qt 0 (crl e.c.data.toList)).toArray⟩++⟨#[13,10]⟩)
def Good(p:Pr):Prop:=hn.za9 p.1∧hd.Safe p.2.data.toList
theorem name_ok(l:B)(h:∀b∈l,33≤b.toNat∧b.toNat≤126∧b≠58)(h1:1≤l.length)(h2:l.length≤40):hn.za9 ⟨l.toArray⟩:=by
 refine⟨by rw[Lib.size_eq];exact h1,by rw[Lib.size_eq];exact h2,λj hj=>?_⟩;have hj':j<l.length:=by rw[Lib.size_eq] at hj;exact hj
 have hm:=h l[j] (List.getElem_mem hj');refine⟨hj,?_⟩;have e:(⟨l.toArray⟩:ByteArray)[j]=l[j]:=rfl;rw[e];refine⟨by omega,by omega,λh58=>hm.2.2 ?_⟩;rw[←UInt8.toNat_inj];show l[j].toNat=58;omega
end rn
namespace rn
open Go.RowKit
theorem sum_dec(e:en.En):ck.sum (b6.bz e.i.data.toList)<10 ^ (9+1):=by
 have hb:ck.Bytes (b6.bz e.i.data.toList):=λj hj=>by
  rw[b6.bz_at];have:=(e.i.data.toList.getD j 0).toNat_lt;omega
 have:=ck.sum_lt hb;have e10:(10:Nat) ^ (9+1)=10000000000:=by decide
 omega
theorem mid_list(e:en.En)(box:ByteArray):(mid e box).data.toList=[60]++Lib.decDigits (ck.sum (b6.bz e.i.data.toList))++[64]++box.data.toList++[62]:=by
 unfold mid;simp[ByteArray.data_append]
theorem mid_safe(e:en.En)(box:ByteArray)(h:nm.za9 box):hd.Safe (mid e box).data.toList∧(mid e box).size≤100:=by
 obtain⟨h1,h2⟩:=name_signs h;have hd1:=dec_signs 9 _ (sum_dec e);have hd2:=dx.zce 9 _ (sum_dec e);have hbl:box.data.toList.length≤40:=by rw[←Lib.size_eq];exact h2
 have hl:(mid e box).data.toList.length≤100:=by
  rw[mid_list];simp only[List.length_append,List.length_cons,List.length_nil];omega
 refine⟨?_,by rw[Lib.size_eq];exact hl⟩;refine safe_signs ?_ ?_ (by omega)
 ·rw[mid_list];have one:∀c:UInt8,33≤c.toNat∧c.toNat≤126→hd.signs [c]:=λc hc b hb=>by
   rw[List.mem_singleton] at hb;subst hb;exact hc
  exact zbY (zbY (zbY (zbY (one _ (by decide)) hd1) (one _ (by decide))) h1) (one _ (by decide))
 ·rw[mid_list];simp
theorem eok_cases{e:en.En}(h:en.eok e=true):en.fld e.i=true∧en.fld e.t=true∧en.fld e.l=true∧en.fld e.a=true∧(e.c.size≤1000∧xm.zbM e.c e.c.size)∧0≤e.d∧e.d≤4102444799:=by
 unfold en.eok at h;simp only[Bool.and_eq_true] at h;obtain⟨⟨⟨⟨⟨⟨_,h1⟩,h2⟩,h3⟩,h4⟩,h5⟩,h6⟩:=h;exact⟨h1,h2,h3,h4,en.ofx_cases h5,of_decide_eq_true h6⟩
def Enc(s:ByteArray):Prop:=hd.EncIs s (EN s)∧hd.Safe (EN s).data.toList∧(EN s).size≤2000
theorem enc_of{s r:ByteArray}(h:en.fld s=true)(hr:hd.EncIs s r):Enc s∧r=EN s:=by
 have e:=en_is hr;have hs:=enc_ok h hr;rw[e] at hs hr;exact⟨⟨hr,hs,by rw[Lib.size_eq];exact hs.1⟩,e⟩
theorem safe_const{l:B}(h:l.length≤2000){w:Nat}(hw:hd.wid l=some w)(h0:0<w):hd.Safe l:=⟨h,.inr ⟨w,hw,h0⟩⟩
theorem flds_good{e:en.En}{box:ByteArray}(h:en.eok e=true)(hb:nm.za9 box)(ha:Enc e.a)(ht:Enc e.t)(hi:Enc e.i)(hl:Enc e.l):∀p∈flds e box,Good p∧p.1.size≤40∧p.2.size≤2000:=by
 obtain⟨_,_,_,_,_,hd0,hd1⟩:=eok_cases h;have hdate:=date_safe e.d hd0 hd1;have hmid:=mid_safe e box hb;intro p hp;simp only[flds,List.mem_cons,List.mem_nil_iff,or_false] at hp;have N:∀l:B,(∀b∈l,33≤b.toNat∧b.toNat≤126∧b≠58)→1≤l.length→l.length≤40→hn.za9 ⟨l.toArray⟩∧(⟨l.toArray⟩:ByteArray).size≤40:=λl h1 h2 h3=>⟨name_ok l h1 h2 h3,by rw[Lib.size_eq];exact h3⟩
 rcases hp with rfl|rfl|rfl|rfl|rfl|rfl|rfl|rfl|rfl
 ·have:=N [70,114,111,109] (by decide) (by decide) (by decide);exact⟨⟨this.1,ha.2.1⟩,this.2,ha.2.2⟩
 ·have:=N [68,97,116,101] (by decide) (by decide) (by decide);refine⟨⟨this.1,hdate.1⟩,this.2,?_⟩;show(⟨(dx.t82 e.d).toArray⟩:ByteArray).size≤2000;rw[Lib.size_eq];have:=hdate.2;show(dx.t82 e.d).length≤2000;omega
 ·have:=N [83,117,98,106,101,99,116] (by decide) (by decide) (by decide);exact⟨⟨this.1,ht.2.1⟩,this.2,ht.2.2⟩
 ·have:=N [77,101,115,115,97,103,101,45,73,68] (by decide) (by decide) (by decide);exact⟨⟨this.1,hmid.1⟩,this.2,Nat.le_trans hmid.2 (by omega)⟩
 ·have:=N [88,45,73,100] (by decide) (by decide) (by decide);exact⟨⟨this.1,hi.2.1⟩,this.2,hi.2.2⟩
 ·have:=N [88,45,76,105,110,107] (by decide) (by decide) (by decide);exact⟨⟨this.1,hl.2.1⟩,this.2,hl.2.2⟩
 ·have:=N [77,73,77,69,45,86,101,114,115,105,111,110] (by decide) (by decide) (by decide);exact⟨⟨this.1,safe_const (by decide) (w:=3) (by decide) (by decide)⟩,this.2,by decide⟩
 ·have:=N [67,111,110,116,101,110,116,45,84,121,112,101] (by decide) (by decide) (by decide);exact⟨⟨this.1,safe_const (by decide) (w:=13) (by decide) (by decide)⟩,this.2,by decide⟩
 ·have:=N [67,111,110,116,101,110,116,45,84,114,97,110,115,102,101,114,45,69,110,99,111,100,105,110,103] (by decide) (by decide) (by decide);exact⟨⟨this.1,safe_const (by decide) (w:=16) (by decide) (by decide)⟩,this.2,by decide⟩
theorem go_len:∀(r:List B) (f:Bool) (wd:Nat),(hd.foldGo f wd r).length≤3*((r.map List.length).sum+r.length)
 | [],f,wd=>by simp[hd.foldGo]
 | x::r,f,wd=>by
  rw[hd.foldGo]
  split
  ·have:=go_len r false (1+x.length);simp only[List.length_append,List.length_cons,List.length_nil,List.map_cons,List.sum_cons];omega
  ·have:=go_len r false (wd+1+x.length);simp only[List.length_append,List.length_cons,List.length_nil,List.map_cons,List.sum_cons];omega
theorem cut_sum:∀(l cur:B),((hd.cutGo cur l).map List.length).sum+(hd.cutGo cur l).length≤cur.length+l.length+1
 | [],cur=>by simp[hd.cutGo]
 | b::l,cur=>by
  rw[hd.cutGo]
  split
  ·have:=cut_sum l [];simp only[List.map_cons,List.sum_cons,List.length_cons,List.length_nil] at this ⊢;omega
  ·have:=cut_sum l (cur++[b]);simp only[List.length_append,List.length_cons,List.length_nil] at this ⊢;omega
theorem zbR(nm s:ByteArray)(h1:nm.size≤40)(h2:s.size≤2000):(FO nm s).size≤6100:=by
 rw[Lib.size_eq];show(hd.foldL nm.data.toList s.data.toList).length≤6100;unfold hd.foldL;have a:=go_len (hd.cutGo [] s.data.toList) true (nm.data.toList.length+1);have b:=cut_sum s.data.toList [];rw[Lib.size_eq] at h1 h2;simp only[List.length_append,List.length_cons,List.length_nil] at b ⊢;omega
end rn
namespace rr
def left(l:Array Bool):Nat:=l.toList.countP (λb=>!b)
theorem count_set:∀(l:List Bool) (i:Nat),l[i]?=some false→(l.set i true).countP (λb=>!b)+1=l.countP (λb=>!b)
 | [],i,h=>by simp at h
 | b::l,0,h=>by
  have hb:b=false:=by simpa using h
  subst hb;simp
 | b::l,i+1,h=>by
  have ih:=count_set l i (by simpa using h);rw[List.set_cons_succ,List.countP_cons,List.countP_cons];omega
theorem zcf{l:Array Bool}{i:Nat}(h:l.getD i true=false):l.toList[i]?=some false:=by
 cases hl:l[i]? with
 | none=>simp[hl] at h
 | some b =>
  simp[hl] at h;subst h;simpa using hl
theorem zcG{l:Array Bool}{i:Nat}(h:l.getD i true=false):left (l.setIfInBounds i true)+1=left l:=by
 unfold left;rw[Array.toList_setIfInBounds];exact count_set _ _ (zcf h)
theorem left_zero{l:Array Bool}(h:left l=0)(i:Nat):l.getD i true=true:=by
 cases hg:l.getD i true with
 | true=>rfl
 | false =>
  have:=zcG hg;omega
section
variable {P:Program}{ops:Array Oper}{Q:Exit→Act→World→Prop}
theorem inv{md:Region.Mode}(I:Array Bool→Act→World→Prop)
  (hstep:∀listed a w i,I listed a w→i∈Region.ready md ops listed→wpOp P ops Q i (λa' w'=>I (listed.setIfInBounds i true) a' w') a w)
  (hend:∀listed a w,I listed a w→Region.ready md ops listed=[]→Q .normal a w) :
  ∀(fuel:Nat) (listed:Array Bool) (a:Act) (w:World),left listed≤fuel→I listed a w→wpAny P md ops Q fuel listed a w
 | 0,listed,a,w,hl,h=>by
  have hr:Region.ready md ops listed=[]:=by
   rw[List.eq_nil_iff_forall_not_mem];intro i hi;have:=(mem_ready.1 hi).1;rw[left_zero (by omega) i] at this;cases this
  exact⟨hr,hend listed a w h hr⟩
 | fuel+1,listed,a,w,hl,h=>by
  refine⟨λhr=>hend listed a w h hr,λi hi=>?_⟩;have h1:=zcG (mem_ready.1 hi).1;exact wpOp_mono (λa' w' h'=>inv I hstep hend fuel _ a' w' (by omega) h') (hstep listed a w i h hi)
def upd(f:Nat→Value)(i:Nat)(v:Value):Nat→Value:=λj=>if j=i then v else f j
theorem upd_same(f:Nat→Value)(i:Nat)(v:Value):upd f i v i=v:=by simp[upd]
theorem zad(f:Nat→Value)(i:Nat)(v:Value){j:Nat}(h:j≠i):upd f i v j=f j:=by simp[upd,h]
theorem zbB{l:Array Bool}{i j:Nat}(h:(l.setIfInBounds i true).getD j false=true):j=i∨l.getD j false=true:=by
 by_cases e:j=i
 ·exact .inl e
 ·right;simpa [Array.getElem?_setIfInBounds_ne (Ne.symm e)] using h
theorem zcc{md:Region.Mode}{listed:Array Bool}(hs:listed.size=ops.size)(hdeps:∀(i:Nat) (o:Oper),ops[i]?=some o→∀e∈o.after,e.on<i)(hr:Region.ready md ops listed=[]):∀(k i:Nat),i<k→i<ops.size→listed.getD i false=true
 | 0,i,h,_=>by omega
 | k+1,i,h,hi=>by
  by_cases hk:i<k
  ·exact zcc hs hdeps hr k i hk hi
  ·have hik:i=k:=by omega
   subst hik
   cases hg:listed.getD i true with
   | true =>
    have hlt:i<listed.size:=by omega
    simp[Array.getElem?_eq_getElem hlt] at hg ⊢;exact hg
   | false =>
    exfalso
    have ho:=Array.getElem?_eq_getElem hi;have:i∈Region.ready md ops listed:=mem_ready.2 ⟨hg,_,ho,λe he _=>zcc hs hdeps hr i e.on (hdeps i _ ho e he) (Nat.lt_trans (hdeps i _ ho e he) hi)⟩;rw[hr] at this;cases this
theorem region_rel2{id:Nat}{a:Act}{w:World}(hm:P.follows .mixedOrders=true)(act:(Nat→Value)→Act)(C:World→Prop)(R:Nat→(Nat→Value)→World→Prop)(v0:Nat→Value)
  (ha:a=act v0) (hC:C w.drew) (hdeps:∀(i:Nat) (o:Oper),ops[i]?=some o→∀e∈o.after,e.on<i)
  (hop:∀(i:Nat) (o:Oper),ops[i]?=some o→∀(D:Nat→Prop) (vals:Nat→Value) (w:World),C w→(∀j,D j→R j vals w)→(∀e∈o.after,Region.binds .any e=true→D e.on)→¬D i→(∀(j:Nat) (oj:Oper),D j→ops[j]?=some oj→∀e∈oj.after,Region.binds .any e=true→D e.on)→(∀j,¬D j→vals j=v0 j) →
   wpOp P ops Q i (λa' w'=>∃v,a'=act (upd vals i v)∧C w'∧R i (upd vals i v) w'∧∀j,j≠i→D j→R j (upd vals i v) w') (act vals) w)
  (hend:∀(vals:Nat→Value) (w:World),C w→(∀i,i<ops.size→R i vals w)→Q .normal (act vals) w) :
  (Code.region id ops true).wp P Q a w:=by
 refine wp_region_any hm ?_;refine inv (λlisted a w=>listed.size=ops.size∧(∀(j:Nat) (oj:Oper),listed.getD j false=true→ops[j]?=some oj→∀e∈oj.after,Region.binds .any e=true→listed.getD e.on false=true)∧∃vals,a=act vals∧C w∧(∀j,listed.getD j false=true→R j vals w)∧∀j,¬listed.getD j false=true→vals j=v0 j) ?_ ?_ _ _ _ _ ?_ ?_
 ·rintro listed a w i ⟨hs,hcl,vals,rfl,hc,hR,hV⟩ hi;obtain⟨hg,o,ho,hall⟩:=mem_ready.1 hi;have hni:¬listed.getD i false=true:=by
   have h1:=zcf hg;have h2:listed[i]?=some false:=by simpa using h1
   simp[h2]
  refine wpOp_mono ?_ (hop i o ho (λj=>listed.getD j false=true) vals w hc hR hall hni hcl hV);rintro a' w' ⟨v,rfl,hc',hi',hj'⟩;have hup:∀k,listed.getD k false=true→(listed.setIfInBounds i true).getD k false=true:=λk hk=>by
   by_cases e:k=i
   ·subst e;exact absurd hk hni
   ·simpa [Array.getElem?_setIfInBounds_ne (Ne.symm e)] using hk
  have hlt:i<listed.size:=by
   have h1:=zcf hg;have h2:listed[i]?=some false:=by simpa using h1
   exact(Array.getElem?_eq_some_iff.1 h2).1
  refine⟨by rw[Array.size_setIfInBounds];exact hs,λj oj hj hoj e he hb=>?_,_,rfl,hc',λj hj=>?_,λj hj=>?_⟩
  ·rcases zbB hj with h|h
   ·subst h;rw[ho] at hoj;cases hoj;exact hup _ (hall e he hb)
   ·exact hup _ (hcl j oj h hoj e he hb)
  ·by_cases e:j=i
   ·subst e;exact hi'
   ·rcases zbB hj with h|h
    ·exact absurd h e
    ·exact hj' j e h
  ·by_cases e:j=i
   ·subst e;exact absurd (by simp[Array.getElem?_setIfInBounds_self_of_lt hlt]) hj
   ·rw[zad vals i v e];exact hV j (λh=>hj (hup j h))
 ·rintro listed a w ⟨hs,_,vals,rfl,hc,hR,_⟩ hr;exact hend vals w hc (λi hi=>hR i (zcc hs hdeps hr (i+1) i (Nat.lt_succ_self i) hi))
 ·unfold left;refine Nat.le_trans List.countP_le_length ?_;simp
 ·have hno:∀j,¬(Array.replicate ops.size false).getD j false=true:=λj hj=>by
   by_cases hj2:j<ops.size
   ·simp[hj2] at hj
   ·simp[hj2] at hj
  exact⟨by simp,λj _ hj=>absurd hj (hno j),v0,ha,hC,λj hj=>absurd hj (hno j),λ_ _=>rfl⟩
theorem zaK(h:(ops.toList.zipIdx.all λx=>x.1.after.all λe=>decide (e.on<x.2))=true):∀(i:Nat) (o:Oper),ops[i]?=some o→∀e∈o.after,e.on<i:=by
 intro i o ho e he;have h1:(o,i)∈ops.toList.zipIdx:=by
  rw[List.mk_mem_zipIdx_iff_getElem?];simpa using ho
 have h2:=List.all_eq_true.1 h _ h1;have h3:=Array.all_eq_true_iff_forall_mem.1 h2 e he;simpa using h3
end
end rr
namespace hd
open Go.RowKit
end hd
namespace rn
open Go.RowKit
open gr
theorem crl_app(a b:B):crl (a++b)=crl a++crl b:=by simp[crl]
theorem infoB:(Tryz.prog.info? 5).map (λi=>(i.zero,i.size,i.bytes))=some (some (.int .u8 0),1,1):=by kernel_rfl
theorem crlf_any(s:ByteArray)(w:World)(hs:s.size≤1048576) :
  Calls Tryz.prog 101 #[.string s] w λe w'=>(∃v,e=.returned v∧w'.ownsRow w.heap.size 5 1 v (crl s.data.toList).length (Lib.byteCells (crl s.data.toList)))∧Below w.heap.size w w':=by
 obtain⟨i0,hi,hz0,hz1,hz2⟩:=info_parts infoB;go_enter Tryz.func101,Tryz.ntmps101;go_wp2
 go_loopw [3,4] (λv i wr=>∃(k:Nat) (q:B),k≤s.size∧i=.int .i64 k∧q=crl (s.data.toList.take k)∧q.length≤2*k∧wr.ownsRow w.heap.size 5 1 v q.length (Lib.byteCells q)∧Below w.heap.size w wr) (λ_ i _=>s.size-(intOf i).toNat)
 case atStart=>exact⟨0,[],Nat.zero_le _,rfl,rfl,by simp,ow.zcw w _,bR.alloc lR _⟩
 case round =>
  obtain⟨k,q,hk,rfl,hq,hql,hown,hbw⟩:=hrel;have HQ:=hD hq;clear hq;have hBs:=hbw.size;by_cases hlt:k<s.size
  ·have htk:s.data.toList.take (k+1)=s.data.toList.take k++[s[k]'hlt]:=by rw[List.take_succ_eq_append_getElem (by simpa using hlt)];rfl
   by_cases h10:((s[k]'hlt).toNat:Int)=10
   ·have d10:=beq_iff_eq.2 h10;have e10:s[k]'hlt=10:=by rw[←UInt8.toNat_inj];show(s[k]'hlt).toNat=10;omega
    have HN:Hid (q++[13]++[10]=crl (s.data.toList.take (k+1))):=(show _=_ by rw[htk,crl_app,←HQ.out,e10];simp[crl])
    clear htk e10
    go_upto_region 7 with(at_builtin;go_loud (refine wpList_append_own _ rfl _ _ 22 rfl w.heap.size 5 i0 (.int .u8 0) 1 1 Tryz.underlying22 hi hz0 hz1 hz2 rfl (by decide) _ _ _ rfl (hown.alloc _) ⟨wr.heap.size,0,none⟩ 1 1 [.int .u8 13] rfl rfl (ow.zaI _ [.int .u8 13] _) (by simp[Value.oneCell']) (by unfold maxLen;omega) (by omega) (by simp;omega) ?_);intro v' w3 hown3 hg3 _)
    have hb3:=Below.grown (hbw.alloc hBs _) hg3 (by simp;omega) (ow.zaN hown);have ho3:w3.ownsRow w.heap.size 5 1 v' (q++[13]).length (Lib.byteCells (q++[13])):=by
     rw[List.length_append,Lib.byteCells_append];exact hown3
    have hBs3:=hb3.size;clear hown hbw hown3 hg3
    go_wp2_with (at_builtin;go_loud (refine wpList_append_own _ rfl _ _ 22 rfl w.heap.size 5 i0 (.int .u8 0) 1 1 Tryz.underlying22 hi hz0 hz1 hz2 rfl (by decide) _ _ _ rfl (ho3.alloc _) ⟨w3.heap.size,0,none⟩ 1 1 [.int .u8 10] rfl rfl (by have hh:=ow.zaI w3 [Value.int .u8 10] 5;simpa [h10] using hh) (by simp[Value.oneCell']) (by simp;unfold maxLen;omega) (by simp;omega) (by simp;omega) ?_);intro v'' w4 hown4 hg4 _)
    have hb4:=Below.grown (hb3.alloc hBs3 _) hg4 (by simp;omega) (ow.zaN ho3);have HO4:Hid (w4.ownsRow w.heap.size 5 1 v'' (q++[13]++[10]).length (Lib.byteCells (q++[13]++[10]))):=(show w4.ownsRow _ _ _ _ _ _ by
     rw[List.length_append,Lib.byteCells_append];exact hown4)
    clear hown4 hg4 ho3 hb3
    go_roundw
    case rel=>exact⟨k+1,q++[13]++[10],by omega,by go_num,HN.out,by simp;omega,HO4.out,hb4⟩
    case measure=>simp[intOf];omega
   ·have d10:=beq_eq_false_iff_ne.2 h10;have e10:s[k]'hlt≠10:=λe=>h10 (by rw[e];rfl)
    have HN:Hid (q++[s[k]'hlt]=crl (s.data.toList.take (k+1))):=(show _=_ by rw[htk,crl_app,←HQ.out];simp[crl,e10])
    clear htk e10
    go_wp2_with (at_builtin;go_loud (refine wpList_append_own _ rfl _ _ 22 rfl w.heap.size 5 i0 (.int .u8 0) 1 1 Tryz.underlying22 hi hz0 hz1 hz2 rfl (by decide) _ _ _ rfl (hown.alloc _) ⟨wr.heap.size,0,none⟩ 1 1 [.int .u8 ((s[k]'hlt).toNat:Int)] rfl rfl (ow.zaI _ [.int .u8 ((s[k]'hlt).toNat:Int)] _) (by simp[Value.oneCell']) (by unfold maxLen;omega) (by omega) (by simp;omega) ?_);intro v' w3 hown3 hg3 _)
    have hb3:=Below.grown (hbw.alloc hBs _) hg3 (by simp;omega) (ow.zaN hown);have HO3:Hid (w3.ownsRow w.heap.size 5 1 v' (q++[s[k]'hlt]).length (Lib.byteCells (q++[s[k]'hlt]))):=(show w3.ownsRow _ _ _ _ _ _ by
     rw[List.length_append,Lib.byteCells_append];exact hown3)
    clear hown hbw hown3 hg3
    go_roundw
    case rel=>exact⟨k+1,q++[s[k]'hlt],by omega,by go_num,HN.out,by simp;omega,HO3.out,hb3⟩
    case measure=>simp[intOf];omega
  ·have e:q=crl s.data.toList:=by rw[HQ.out,List.take_of_length_le (by rw[←Lib.size_eq];omega)]
   subst e;go_wp2;go_ret;exact⟨⟨_,rfl,hown⟩,hbw⟩
theorem encS(s:ByteArray)(h:en.fld s=true)(w:World):Calls Tryz.prog 97 #[.string s] w λe w'=>e=.returned (.string (EN s))∧Below w.heap.size w w' :=
 (hd.zdv s w (by have:=(en.zc2 h).1;omega)).mono λe w' ⟨⟨r,he,hr⟩,hb⟩=>⟨by rw[he,(enc_of h hr).2],hb⟩
theorem foldS(nm s:ByteArray)(w:World)(h1:nm.size≤40)(h2:s.size≤2000):Calls Tryz.prog 96 #[.string nm,.string s] w λe w'=>e=.returned (.string (FO nm s))∧Below w.heap.size w w' :=
 (hf.specFold_any nm s w h1 h2).mono λe w' ⟨⟨r,he,hr⟩,hb⟩=>⟨by rw[he,fo_is hr],hb⟩
theorem reads_bytes(l:B):ck.Bytes (b6.bz l):=λj hj=>by
 rw[b6.bz_at];have:=(l.getD j 0).toNat_lt;omega
end rn
end Go.Proofs.YtmnflpmfngjllaaGreatDoor
