/-
  FnReplayCardSaid
-/
import Derived.Test.YtmnflpmfngjllaaGreatDoorPkae
set_option maxHeartbeats 16000000
set_option maxRecDepth 100000
set_option linter.unusedVariables false
namespace Go.Proofs.YtmnflpmfngjllaaGreatDoor
namespace bx
open Go.RowKit
open st
theorem bok_of(x:Bx):bok x=true↔mu.nmB x.nm=true∧(1≤x.vd∧x.vd≤1000000)∧(1≤x.nx∧x.nx≤1001)∧zaR x.ms x.nx=true∧(x.ks.length:Int)=x.nx-1∧zbf x.ks=true∧bk.dist x.ks=true:=by
 simp[bok,and_assoc]
theorem bok_last{x:Bx}(h:mu.nmB x.nm=true∧(1≤x.vd∧x.vd≤1000000)∧(1≤x.nx∧x.nx≤1001)∧zaR x.ms x.nx=true∧(x.ks.length:Int)=x.nx-1∧zbf x.ks=true):bok x=bk.dist x.ks:=by
 rw[Bool.eq_iff_iff,bok_of];exact⟨λy=>y.2.2.2.2.2.2,λy=>⟨h.1,h.2.1,h.2.2.1,h.2.2.2.1,h.2.2.2.2.1,h.2.2.2.2.2,y⟩⟩
theorem isRight_any(x:Bx)(v u:Value)(B n0 N:Nat)(D0:DataW Unit)(w:World)(h:RowsIn w N v u x.ms x.ks)(hN:N≤B)(hown:bk.Own w B n0 D0)(hx:Small x) :
  Calls Tryz.prog 90 #[BV x v u,.map (some B)] w λe w'=>e=.returned (.bool (bok x))∧(∃n D,bk.Own w' B n D)∧Below B w w':=by
 have L0:=zan w 65 x v u;have hlt:=hown.lt;have b0:=(new_below w 65 #[.string x.nm,.int .i64 x.vd,.int .i64 x.nx,v,u]).mono (Nat.le_of_lt hlt);have O0:=hown.alloc (.cells #[.string x.nm,.int .i64 x.vd,.int .i64 x.nx,v,u] 65);have HA:=hD (zbs h b0 hN);have hls:B<(w.alloc (.cells #[.string x.nm,.int .i64 x.vd,.int .i64 x.nx,v,u] 65)).heap.size:=by simp;omega
 have HF:Hid (¬(mu.nmB x.nm=true∧(1≤x.vd∧x.vd≤1000000)∧(1≤x.nx∧x.nx≤1001)∧zaR x.ms x.nx=true∧(x.ks.length:Int)=x.nx-1∧zbf x.ks=true)→bok x=false):=λhh=>Bool.eq_false_iff.2 λy=>hh (by have:=(bok_of x).1 y;exact⟨this.1,this.2.1,this.2.2.1,this.2.2.2.1,this.2.2.2.2.1,this.2.2.2.2.2.1⟩)
 have HT:Hid (mu.nmB x.nm=true∧(1≤x.vd∧x.vd≤1000000)∧(1≤x.nx∧x.nx≤1001)∧zaR x.ms x.nx=true∧(x.ks.length:Int)=x.nx-1∧zbf x.ks=true→bok x=bk.dist x.ks):=bok_last;obtain⟨⟨a,cap,rfl,_⟩,⟨a1,cap1,rfl,_⟩⟩:=h;obtain⟨nm,vd,nx,ms,ks⟩:=x;obtain⟨hi,hnm,hms,hks⟩:=hx;have HMS:=hD hms;have HKS:=hD hks;have HNX:=hD hi.2;unfold BV;simp only at L0 b0 O0 HA hls HF HT hnm ⊢;have hkl:=hks.1;clear hi hms hks hown;have HNM:Hid (∀w,Calls Tryz.prog 31 #[.string nm] w λe w'=>e=.returned (.bool (mu.nmB nm))∧w'=w):=λw=>mu.impl_name nm w hnm
 generalize bok ⟨nm,vd,nx,ms,ks⟩=R at HF HT ⊢;go_enter Tryz.func90,Tryz.ntmps90
 go_wp2_with fail
 generalize w.alloc _=w0 at L0 b0 O0 HA hls ⊢;refine(HNM.out _).mono ?_;rintro e w' ⟨rfl,rfl⟩;have O0:=hD O0;have c0:=L0.c0;have c1:=L0.c1;have c2:=L0.c2;have c3:=L0.c3;have c4:=L0.c4;simp only at c0 c1 c2 c3 c4;generalize hq:mu.nmB nm=nb at HF HT ⊢;clear hq HNM;cases nb
 ·have HZ:Hid (R=false):=HF.out (λx=>by have:=x.1;simp at this);go_wp2;go_ret;exact⟨mu.zab HZ.out.symm,⟨_,_,O0.out⟩,b0⟩
 by_cases q1':vd<1
 ·skip
  have HZ:=hD (HF.out (λx=>by have:=x.2.1.1;omega));go_wp2;go_ret;exact⟨mu.zab HZ.out.symm,⟨_,_,O0.out⟩,b0⟩
 have q1:1≤vd:=by omega
 by_cases q2':1000000<vd
 ·skip
  have HZ:=hD (HF.out (λx=>by have:=x.2.1.2;omega));go_wp2;go_ret;exact⟨mu.zab HZ.out.symm,⟨_,_,O0.out⟩,b0⟩
 have q2:vd≤1000000:=by omega
 by_cases q3':nx<1
 ·skip
  have HZ:=hD (HF.out (λx=>by have:=x.2.2.1.1;omega));go_wp2;go_ret;exact⟨mu.zab HZ.out.symm,⟨_,_,O0.out⟩,b0⟩
 have q3:1≤nx:=by omega
 by_cases q4':1001<nx
 ·skip
  have HZ:=hD (HF.out (λx=>by have:=x.2.2.1.2;omega));go_wp2;go_ret;exact⟨mu.zab HZ.out.symm,⟨_,_,O0.out⟩,b0⟩
 have q4:nx≤1001:=by omega
 go_wp2_with fail
 refine(areMails_any N _ ms nx _ HA.out.1 (Nat.le_trans hN (Nat.le_of_lt hls)) HMS.out HNX.out).mono ?_;rintro e w1 ⟨rfl,hb1⟩;have L1:=L0.keep hb1;have HO1:=hD (bk.own_keep O0.out hb1 hls);have HA1:=hD (zbs HA.out hb1 (Nat.le_trans hN (Nat.le_of_lt hls)));have b1:=b0.trans (hb1.mono (Nat.le_of_lt hls));have hls1:=Nat.lt_of_lt_of_le hls hb1.size;clear hb1 L0 O0 HA b0 hls c0 c1 c2 c3 c4;have c2:=L1.c2;have c4:=L1.c4;simp only at c2 c4;generalize hq:zaR ms nx=mb at HF HT ⊢;clear hq;cases mb
 ·have HZ:Hid (R=false):=HF.out (λx=>by have:=x.2.2.2.1;simp at this);go_wp2;go_ret;exact⟨mu.zab HZ.out.symm,⟨_,_,HO1.out⟩,b1⟩
 by_cases q5:¬(ks.length:Int)=nx-1
 ·have q5':((ks.length:Int) == nx-1)=false:=by simp[q5]
  have HZ:=hD (HF.out (λx=>q5 x.2.2.2.2.1));clear q5;go_wp2;go_ret;exact⟨mu.zab HZ.out.symm,⟨_,_,HO1.out⟩,b1⟩
 have q5:(ks.length:Int)=nx-1:=by omega
 have q5':((ks.length:Int) == nx-1)=true:=by simp[q5]
 have HQ5:=hD q5;clear q5
 go_wp2_with fail
 refine(areKeys_any N _ ks _ HA1.out.2 HKS.out).mono ?_;rintro e w2 ⟨rfl,rfl⟩;generalize hq:zbf ks=kb at HF HT ⊢;clear hq;cases kb
 ·have HZ:Hid (R=false):=HF.out (λx=>by have:=x.2.2.2.2.2;simp at this);go_wp2;go_ret;exact⟨mu.zab HZ.out.symm,⟨_,_,HO1.out⟩,b1⟩
 go_wp2_with fail
 refine(bk.learn_any B n0 N D0 _ ks _ HO1.out HA1.out.2 hN HKS.out).mono ?_;rintro e w3 ⟨rfl,⟨n,D,ho,_⟩,hb3⟩;have HZ:=hD (HT.out ⟨by trivial,⟨q1,q2⟩,⟨q3,q4⟩,by trivial,HQ5.out,by trivial⟩);have HO3:=hD ho;have b3:=b1.trans hb3;clear ho hb3 b1 HO1 HA1 c2 c4;generalize bk.dist ks=dd at HZ ⊢;cases dd
 ·go_wp2;go_ret;exact⟨mu.zab HZ.out.symm,⟨_,_,HO3.out⟩,b3⟩
 ·go_wp2;go_ret;exact⟨mu.zab HZ.out.symm,⟨_,_,HO3.out⟩,b3⟩
end bx
namespace bx
open Go.RowKit
open st
def SOK(xs:List Bx)(k:Nat):Prop:=∀j,j<k→bok (xs.getD j noB)=true∧(xs.getD j noB).vd=(j:Int)+1∧∀i,i<j→(xs.getD i noB).nm≠(xs.getD j noB).nm
def dSok(xs:List Bx)(k:Nat):Decidable (SOK xs k) :=
 @decidable_of_iff _ (∀j,j<k→bok (xs.getD j noB)=true∧(xs.getD j noB).vd=(j:Int)+1∧∀i,i<j→(xs.getD i noB).nm.data≠(xs.getD j noB).nm.data) ⟨λh j hj=>⟨(h j hj).1,(h j hj).2.1,λi hi e=>(h j hj).2.2 i hi (by rw[e])⟩,λh j hj=>⟨(h j hj).1,(h j hj).2.1,λi hi e=>(h j hj).2.2 i hi (ByteArray.ext e)⟩⟩ inferInstance
def sok(xs:List Bx):Bool:=@decide (xs.length≤4∧SOK xs xs.length) (@instDecidableAnd _ _ _ (dSok xs xs.length))
theorem zbZ{xs:List Bx}(h:¬(xs.length≤4∧SOK xs xs.length)):sok xs=false:=ow.df h
theorem sok_yes{xs:List Bx}(h:xs.length≤4)(h2:SOK xs xs.length):sok xs=true:=ow.dt ⟨h,h2⟩
theorem sok_of{xs:List Bx}(h:sok xs=true):xs.length≤4∧SOK xs xs.length:=ow.dof h
theorem sok_step{xs:List Bx}{k:Nat}(h:SOK xs k){x:Bx}(hx:xs.getD k noB=x)(h1:bok x=true)(h2:x.vd=(k:Int)+1)(h3:∀i,i<k→(xs.getD i noB).nm≠x.nm):SOK xs (k+1):=by
 intro j hj;by_cases e:j=k
 ·subst e;rw[hx];exact⟨h1,h2,h3⟩
 ·exact h j (by omega)
def Plc(xs:List Bx)(s:ByteArray)(r:Int):Prop:=(∃k:Nat,r=k∧k<xs.length∧(xs.getD k noB).nm=s∧∀j,j<k→(xs.getD j noB).nm≠s)∨(r=-1∧∀j,j<xs.length→(xs.getD j noB).nm≠s)
theorem named_any(x:Bx)(p:Value×Value)(s:ByteArray)(g:Nat)(w:World)(hg:w.cell? ⟨g,0,none⟩=some (.string s))(hp:∃a n c a' n' c',p=(.slice a n c,.slice a' n' c')) :
  Calls Tryz.prog 113 #[.agg #[.string x.nm,.int .i64 x.vd,.int .i64 x.nx,p.1,p.2],.pointer (some ⟨g,0,none⟩)] w λe w'=>(∃b:Bool,e=.returned (.bool b)∧(b=true↔x.nm=s))∧Below w.heap.size w w':=by
 obtain⟨a,n,c,a',n',c',rfl⟩:=hp;simp only;have hb:=new_below w 65 #[.string x.nm,.int .i64 x.vd,.int .i64 x.nx,.slice a n c,.slice a' n' c'];have hg2:=(hb.cell (p:=⟨g,0,none⟩) (World.block_lt_of_cell? w _ hg)).trans hg;obtain⟨nm,vd,nx,ms,ks⟩:=x;simp only at hb hg2 ⊢;have hgl:g<w.heap.size:=World.block_lt_of_cell? w _ hg;have hgn:w.heap.size≠g:=by omega
 have hgn2:g≠w.heap.size:=by omega
 by_cases he:nm=s
 ·have he':(nm.toList == s.toList)=true:=by rw[he];simp
  have HE:=hD he;clear he;go_enter Tryz.func113,Tryz.ntmps113;go_wp2;go_ret;exact⟨⟨true,rfl,by simp[HE.out]⟩,hb⟩
 ·have he':(nm.toList == s.toList)=false:=ky.zci he;have HE:=hD he;clear he;go_enter Tryz.func113,Tryz.ntmps113;go_wp2;go_ret;exact⟨⟨false,rfl,by simp[HE.out]⟩,hb⟩
theorem rows_form{w:World}{n:Nat}{v u:Value}{ms:List St}{ks:List ByteArray}(h:RowsIn w n v u ms ks):∃a n c a' n' c',(v,u)=(Value.slice a n c,Value.slice a' n' c'):=by
 obtain⟨⟨a,cap,rfl,_⟩,⟨a1,cap1,rfl,_⟩⟩:=h;exact⟨_,_,_,_,_,_,rfl⟩
theorem index_any(N:Nat)(v:Value)(xs:List Bx)(vs:Nat→Value×Value)(s:ByteArray)(g:Nat)(w:World)(h:za4 w N v xs vs)(hN:N≤w.heap.size)(hg:w.cell? ⟨g,0,none⟩=some (.string s))(hn:xs.length≤1048576) :
  Calls Tryz.prog 112 #[v,.func (Fn.func 113) #[] #[.pointer (some ⟨g,0,none⟩)]] w λe w'=>(∃r:Int,e=.returned (.int .i64 r)∧Plc xs s r)∧Below w.heap.size w w':=by
 have HALL:=hD h;obtain⟨⟨a,cap,rfl,hc⟩,_⟩:=h;obtain⟨n,hn'⟩:∃n,n=xs.length:=⟨_,rfl⟩
 have HN:=hD hn';have HH:=hD hc;have HG:=hD hg;have hgl:=World.block_lt_of_cell? w _ hg;rw[←hn'] at hn HALL ⊢;clear hc hn' hg;go_enter Tryz.func112,Tryz.ntmps112;go_wp2
 go_loopw [8] (λi wr=>∃k:Nat,k≤n∧i=.int .i64 k∧(∀j,j<k→(xs.getD j noB).nm≠s)∧Below w.heap.size w wr) (λi _=>n-(intOf i).toNat)
 case atStart=>exact⟨0,Nat.zero_le _,rfl,λj hj=>absurd hj (Nat.not_lt_zero _),Below.refl _ _⟩
 case round =>
  obtain⟨k,hk,rfl,hno,hbw⟩:=hrel;have HNO:=hD hno;clear hno;by_cases hlt:k<n
  ·have hka:k<xs.length:=by rw[←HN.out];exact hlt
   rcases HH.out with e|⟨b,off,rfl,hbl,hcells⟩
   ·rw[e] at hka;simp at hka
   have hat:=(hcells k hka).keep hbw (by omega);have hfm:=rows_form (HALL.out.2 k hka);have HKA:=hD hka;clear hcells hka;generalize hx:xs.getD k noB=x at hat;have HX:=hD hx;generalize hq:vs k=q at hat hfm;clear hx hq;obtain⟨q1,q2⟩:=q;obtain⟨c0,c1,c2,c3,c4⟩:=hat;simp only at c0 c1 c2 c3 c4 hfm;have HC:=hD ((hbw.cell (p:=⟨g,0,none⟩) hgl).trans HG.out);have HFM:=hD hfm;obtain⟨_,_,_,_,_,_,e⟩:=hfm;cases e;have hlt':(k:Int)<(n:Int):=by omega
   go_wp2_with fail
   refine(named_any x _ s g wr HC.out HFM.out).mono ?_;rintro e w2 ⟨⟨bb,rfl,hbb⟩,hb2⟩;have b2:=hbw.trans (hb2.mono hbw.size);have HBB:=hD hbb;clear hb2 hbw c0 c1 c2 c3 c4 HC HFM hbb;cases bb
   ·have HE:Hid (∀j,j<k+1→(xs.getD j noB).nm≠s):=λj hj=>by
     by_cases e:j=k
     ·rw[e,HX.out];intro y;have:=HBB.out.2 y;simp at this
     ·exact HNO.out j (by omega)
    go_wp2
    go_roundw
    case rel=>exact⟨k+1,by omega,by go_num,HE.out,b2⟩
    case measure=>simp[intOf];omega
   ·have HE:Hid (Plc xs s k):=.inl ⟨k,rfl,HKA.out,by rw[HX.out];exact HBB.out.1 (by trivial),HNO.out⟩;go_wp2;go_ret;exact⟨⟨k,rfl,HE.out⟩,b2⟩
  ·have HE:Hid (Plc xs s (-1)):=.inr ⟨rfl,λj hj=>HNO.out j (by have:=HN.out;omega)⟩;go_wp2;go_ret;exact⟨⟨-1,rfl,HE.out⟩,hbw⟩
theorem zde(N:Nat)(v:Value)(xs:List Bx)(vs:Nat→Value×Value)(s:ByteArray)(w:World)(h:za4 w N v xs vs)(hN:N≤w.heap.size)(hn:xs.length≤1048576) :
  Calls Tryz.prog 82 #[v,.string s] w λe w'=>(∃r:Int,e=.returned (.int .i64 r)∧Plc xs s r)∧Below w.heap.size w w':=by
 have b0:=new_below w 9 #[.string s];have HA:=hD (za6 h b0 hN);have hN1:N≤(w.alloc (.cells #[.string s] 9)).heap.size:=by simp;omega
 have HC:Hid ((w.alloc (.cells #[.string s] 9)).cell? ⟨w.heap.size,0,none⟩=some (.string s)):=by
  have h2:=zbS w (.cells #[.string s] 9);exact(by rw[cell_of_row _ _ _ _ _ _ h2];rfl:(w.alloc (.cells #[.string s] 9)).cell? ⟨w.heap.size,0,none⟩=some (.string s))
 obtain⟨⟨a,cap,rfl,_⟩,_⟩:=h;go_enter Tryz.func82,Tryz.ntmps82
 go_wp2_with fail
 generalize w.alloc _=w0 at b0 HA hN1 HC ⊢;refine(index_any N _ xs vs s w.heap.size w0 HA.out hN1 HC.out hn).mono ?_;rintro e w2 ⟨⟨r,rfl,hr⟩,hb2⟩;have b2:=b0.trans (hb2.mono b0.size);have HR:=hD hr;clear b0 hb2 hr HA HC;go_wp2;go_ret;exact⟨⟨r,rfl,HR.out⟩,b2⟩
theorem impl_sok(v:Value)(xs:List Bx)(vs:Nat→Value×Value)(w:World)(h:zaa w v xs vs)(hs:zac xs) :
  Calls Tryz.prog 50 #[v] w λe w'=>e=.returned (.bool (sok xs))∧Below w.heap.size w w':=by
 have hmm:=@run_makeMap Tryz.prog;have O0:=World.ownsMap_made (H:=Unit) w Tryz.prog 9 (plainElem Tryz.prog 3);have bm:Below w.heap.size w (w.alloc (.map #[] 0)):=bR.alloc lR _;have HALL:=hD h;obtain⟨⟨a,cap,rfl,hc⟩,_⟩:=h;obtain⟨n,hn⟩:∃n,n=xs.length:=⟨_,rfl⟩
 have HN:=hD hn;have HH:=hD hc;have HS:=hD hs;have hl:n≤1048576:=by rw[hn];exact hs.1
 rw[←hn] at HALL ⊢;clear hc hs hn;by_cases g0:4<n
 ·have g0':(4:Int)<(n:Int):=by omega
  have HR:Hid (sok xs=false):=zbZ (by have:=HN.out;omega);go_enter Tryz.func50,Tryz.ntmps50;go_wp2;go_ret;exact⟨mu.zab HR.out.symm,Below.refl _ _⟩
 have g0':(n:Int)≤4:=by omega
 have O0:=hD O0;have hml:w.heap.size<(w.alloc (.map #[] 0)).heap.size:=by simp
 go_enter Tryz.func50,Tryz.ntmps50;go_wp2;generalize w.alloc _=w0 at O0 bm hml ⊢
 go_loopw [12] (λi wr=>∃(k m:Nat) (D:DataW Unit),k≤n∧i=.int .i64 k∧SOK xs k∧bk.Own wr w.heap.size m D∧Below w.heap.size w wr) (λi _=>n-(intOf i).toNat)
 case atStart=>exact⟨0,0,_,Nat.zero_le _,rfl,λj hj=>absurd hj (Nat.not_lt_zero _),O0.out,bm⟩
 case round =>
  clear O0 bm hml;obtain⟨k,m,D,hk,rfl,hal,hown,hbw⟩:=hrel;have HAL:=hD hal;have HO:=hD hown;have hwl:w.heap.size<wr.heap.size:=hown.lt;clear hal hown;by_cases hlt:k<n
  ·have hka:k<xs.length:=by rw[←HN.out];exact hlt
   rcases HH.out with e|⟨b,off,rfl,hbl,hcells⟩
   ·rw[e] at hka;simp at hka
   have hat:=(hcells k hka).keep hbw hbl;have hrw:=(za6 HALL.out hbw lR).2 k hka;have HAR:=hD (za6 HALL.out hbw lR);have hsk:=HS.out.2 k hka;have HKA:=hD hka;clear hcells hka;generalize hx:xs.getD k noB=x at hat hsk hrw;have HX:=hD hx;generalize vs k=q at hat hrw;clear hx;obtain⟨q1,q2⟩:=q;obtain⟨c0,c1,c2,c3,c4⟩:=hat;simp only at c0 c1 c2 c3 c4 hrw;have HSK:=hD hsk;have hin:In x.vd:=hsk.1.1;have hlt':(k:Int)<(n:Int):=by omega
   have L0:=zan wr 65 x q1 q2;have hb2:=new_below wr 65 #[.string x.nm,.int .i64 x.vd,.int .i64 x.nx,q1,q2];have HRW:=zbs hrw hb2 (Nat.le_of_lt hwl);have HAR2:=za6 HAR.out hb2 (Nat.le_of_lt hwl);have HO2:=bk.own_keep HO.out hb2 hwl;have hb3:=hbw.trans (hb2.mono hbw.size);have hwl2:w.heap.size<(wr.alloc (.cells #[.string x.nm,.int .i64 x.vd,.int .i64 x.nx,q1,q2] 65)).heap.size:=Nat.lt_of_lt_of_le hwl hb2.size;clear hsk HAR HO hb2 hbw;obtain⟨⟨a2,cap2,rfl,_⟩,⟨a3,cap3,rfl,_⟩⟩:=hrw;obtain⟨nm,vd,nx,ms,ks⟩:=x;simp only at c0 c1 c2 c3 c4 L0 HRW HAR2 HO2 hb3 hwl2 hin;by_cases r1:¬vd=(k:Int)+1
   ·have r1':(vd != (k:Int)+1)=true:=by simp[r1]
    have HR:=hD (zbZ (λy=>r1 (by have:=(y.2 k HKA.out).2.1;rw[HX.out] at this;exact this)));clear r1;go_wp2;go_ret;exact⟨mu.zab HR.out.symm,hb3⟩
   have r1:vd=(k:Int)+1:=Decidable.of_not_not r1;have r1':(vd != (k:Int)+1)=false:=by simp[r1]
   have HR1:=hD r1;clear r1
   go_wp2_with fail
   generalize hBB:wr.heap.size=BB at L0 ⊢;generalize wr.alloc _=w2 at L0 HRW HAR2 HO2 hb3 hwl2 ⊢;have HRW:=hD HRW;have HAR2:=hD HAR2;have HO2:=hD HO2;refine(zde w.heap.size _ xs vs nm w2 HAR2.out (Nat.le_of_lt hwl2) (by have:=HN.out;omega)).mono ?_;rintro e w4 ⟨⟨r,rfl,hr⟩,hb4⟩;have L4:=L0.keep hb4;have HRW4:=hD (zbs HRW.out hb4 (Nat.le_of_lt hwl2));have HO4:=hD (bk.own_keep HO2.out hb4 hwl2);have b4:=hb3.trans (hb4.mono hb3.size);have HPL:=hD hr;clear L0 HRW HAR2 HO2 hb3 hb4 hr hwl2 c0 c1 c2 c3 c4 hBB;have e0:=L4.c0;have e1:=L4.c1;have e2:=L4.c2;have e3:=L4.c3;have e4:=L4.c4;simp only at e0 e1 e2;clear L4;by_cases r2:¬r=(k:Int)
   ·have r2':(r != (k:Int))=true:=by simp[r2]
    have HR:Hid (sok xs=false):=zbZ (λy=>by
     rcases HPL.out with⟨j,rfl,hj,hjn,hjf⟩|⟨rfl,hno⟩
     ·by_cases ejk:j<k
      ·exact(y.2 k HKA.out).2.2 j ejk (by rw[HX.out];exact hjn)
      ·have:k<j:=by omega
       exact hjf k this (by rw[HX.out])
     ·exact hno k HKA.out (by rw[HX.out]))
    clear r2;go_wp2;go_ret;exact⟨mu.zab HR.out.symm,b4⟩
   have r2:r=(k:Int):=Decidable.of_not_not r2;have r2':(r != (k:Int))=false:=by simp[r2]
   have HFR:Hid (∀j,j<k→(xs.getD j noB).nm≠nm):=by
    rcases HPL.out with⟨j,hj,_,_,hjf⟩|⟨hj,_⟩
    ·have:j=k:=by omega
     subst this;exact hjf
    ·omega
   clear HPL;subst r2
   go_wp2_with fail
   refine(isRight_any ⟨nm,vd,nx,ms,ks⟩ _ _ w.heap.size m w.heap.size D w4 HRW4.out lR HO4.out HSK.out).mono ?_;rintro e w5 ⟨rfl,⟨m5,D5,ho5⟩,hb5⟩;have HO5:=hD ho5;have b5:=b4.trans hb5;clear b4 hb5 ho5 HO4 HRW4 e0 e1 e2 e3 e4;have HT:Hid (bok ⟨nm,vd,nx,ms,ks⟩=true→SOK xs (k+1)):=λh=>sok_step HAL.out HX.out h HR1.out HFR.out
   have HF:Hid (bok ⟨nm,vd,nx,ms,ks⟩=false→sok xs=false):=λh=>zbZ (λy=>by have:=(y.2 k HKA.out).1;rw[HX.out,h] at this;cases this)
   generalize bok ⟨nm,vd,nx,ms,ks⟩=R at HT HF ⊢;cases R
   ·have HR:Hid (sok xs=false):=HF.out (by trivial);go_wp2;go_ret;exact⟨mu.zab HR.out.symm,b5⟩
   ·have HR:Hid (SOK xs (k+1)):=HT.out (by trivial);go_wp2
    go_roundw
    case rel=>exact⟨k+1,m5,D5,by omega,by go_num,HR.out,HO5.out,b5⟩
    case measure=>simp[intOf];omega
  ·have HR:Hid (sok xs=true):=sok_yes (by have:=HN.out;omega) (λj hj=>HAL.out j (by have:=HN.out;omega));go_wp2;go_ret;exact⟨mu.zab HR.out.symm,hbw⟩
end bx
end Go.Proofs.YtmnflpmfngjllaaGreatDoor
