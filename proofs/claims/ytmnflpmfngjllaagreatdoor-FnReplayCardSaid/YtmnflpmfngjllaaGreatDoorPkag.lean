/-
  FnReplayCardSaid
-/
import Derived.Test.YtmnflpmfngjllaaGreatDoorPkaf
set_option maxHeartbeats 16000000
set_option maxRecDepth 100000
set_option linter.unusedVariables false
namespace Go.Proofs.YtmnflpmfngjllaaGreatDoor
namespace bx
open Go.RowKit
open st
theorem zbl{B:Nat}{a w:World}(h:Below B a w)(n:Nat):Below B a (w.drewN n):=⟨h.os,h.tape,h.output,h.size,h.block⟩
theorem texts_take{w:World}{N n k cap:Nat}{a:Option Addr}{ks:List ByteArray}(hn:n=ks.length)(h:tx.zaU w N (.slice a n cap) ks)(hk:k≤n):ky.TextsAt w (.slice a k cap) (ks.take k):=by
 subst hn;obtain⟨a',cap',e,h⟩:=h;cases e;refine⟨a,cap,by rw[List.length_take];congr 1;omega,?_⟩
 rcases h with h|⟨b,off,rfl,_,h⟩
 ·exact .inl (by rw[h];simp)
 ·refine .inr ⟨b,off,rfl,λj hj=>?_⟩;rw[List.length_take] at hj;rw[h j (by omega)];simp[List.getD_eq_getElem?_getD,show j<k by omega]
theorem take_mem{ks:List ByteArray}{k:Nat}(hk:k≤ks.length)(s:ByteArray):s∈ks.take k↔∃j,j<k∧ks.getD j ky.nt=s:=by
 constructor
 ·intro h;obtain⟨j,hj,e⟩:=List.mem_iff_getElem.1 h;rw[List.length_take] at hj;refine⟨j,by omega,?_⟩;rw[List.getElem_take] at e;rw[List.getD_eq_getElem?_getD,List.getElem?_eq_getElem (by omega)];exact e
 ·rintro⟨j,hj,rfl⟩;rw[List.getD_eq_getElem?_getD,List.getElem?_eq_getElem (by omega)];refine List.mem_iff_getElem.2 ⟨j,by rw[List.length_take];omega,?_⟩;rw[List.getElem_take];rfl
theorem dist_step{ks:List ByteArray}{k:Nat}(hk:k<ks.length)(h:bk.Dist ks k){x:ByteArray}(hx:ks.getD k ky.nt=x)(hh:ky.has (ks.take k) x=false):bk.Dist ks (k+1):=by
 intro i j hij hj;by_cases e:j=k
 ·subst e;intro y;have:x∈ks.take j:=(take_mem (by omega) x).2 ⟨i,hij,y.trans hx⟩;rw[ky.has_yes this] at hh;cases hh
 ·exact h i j hij (by omega)
theorem dist_bad{ks:List ByteArray}{k:Nat}(hk:k<ks.length){x:ByteArray}(hx:ks.getD k ky.nt=x)(hh:ky.has (ks.take k) x=true):bk.dist ks=false:=by
 refine ow.df λh=>?_
 obtain⟨j,hj,e⟩:=(take_mem (by omega) x).1 (ky.has_of hh);exact h j k hj hk (e.trans hx.symm)
theorem dist_yes{ks:List ByteArray}(h:bk.Dist ks ks.length):bk.dist ks=true:=ow.dt h
theorem spec_bok(x:Bx)(v u:Value)(w:World)(h:zaE w v u x.ms x.ks)(hx:Small x)(hcap:∀a n c,u=.slice a n c→n≤c) :
  Calls Tryz.prog 106 #[BV x v u] w λe w'=>e=.returned (.bool (bok x))∧Below w.heap.size w w':=by
 have L0:=zan w 65 x v u;have b0:=new_below w 65 #[.string x.nm,.int .i64 x.vd,.int .i64 x.nx,v,u];have HA:=hD (zbs h b0 lR);have hsz:w.heap.size<(w.alloc (.cells #[.string x.nm,.int .i64 x.vd,.int .i64 x.nx,v,u] 65)).heap.size:=by simp
 have HF:Hid (¬(mu.nmB x.nm=true∧(1≤x.vd∧x.vd≤1000000)∧(1≤x.nx∧x.nx≤1001)∧zaR x.ms x.nx=true∧(x.ks.length:Int)=x.nx-1∧zbf x.ks=true∧bk.dist x.ks=true)→bok x=false):=λhh=>Bool.eq_false_iff.2 λy=>hh ((bok_of x).1 y)
 have HT:=hD ((bok_of x).2);obtain⟨⟨a,cap,rfl,_⟩,⟨a1,cap1,rfl,_⟩⟩:=h;obtain⟨nm,vd,nx,ms,ks⟩:=x;obtain⟨hi,hnm,hms,hks⟩:=hx;have HMS:=hD hms;have HKS:=hD hks;unfold BV;simp only at L0 b0 HA hsz HF HT hnm ⊢;obtain⟨n,hn⟩:∃n,n=ms.length:=⟨_,rfl⟩
 obtain⟨p,hp⟩:∃p,p=ks.length:=⟨_,rfl⟩
 have HLM:=hD hn;have HLK:=hD hp;have hnl:n≤1048576:=by rw[hn];exact hms.1
 have hpl:p≤1048576:=by rw[hp];exact hks.1
 have hcp:p≤cap1:=by rw[hp];exact hcap _ _ _ rfl
 clear hcap;rw[←hn,←hp] at L0 b0 HA hsz ⊢;rw[←hp] at HF HT;clear hi hms hks hn hp;have HNM:Hid (∀w,Calls Tryz.prog 71 #[.string nm] w λe w'=>e=.returned (.bool (mu.nmB nm))∧w'=w):=λw=>mu.spec_name nm w hnm
 have HI:=hD mu.zbw;generalize bok ⟨nm,vd,nx,ms,ks⟩=R at HF HT ⊢;go_enter Tryz.func106,Tryz.ntmps106
 go_wp2_with fail
 generalize w.alloc _=w0 at L0 b0 HA hsz ⊢;refine(HNM.out _).mono ?_;rintro e w' ⟨rfl,rfl⟩;have c0:=L0.c0;have c1:=L0.c1;have c2:=L0.c2;have c3:=L0.c3;have c4:=L0.c4;simp only at c0 c1 c2 c3 c4;generalize hq:mu.nmB nm=nb at HF HT ⊢;clear hq HNM;cases nb
 ·have HZ:Hid (R=false):=HF.out (λx=>by have:=x.1;simp at this);go_wp2;go_ret;exact⟨mu.zab HZ.out.symm,b0⟩
 by_cases q1:¬(1≤vd∧vd≤1000000)
 ·have e1:decide (1≤vd∧vd≤1000000)=false:=decide_eq_false q1;have HZ:=hD (HF.out (λx=>q1 x.2.1));clear q1
  go_wp2_with (go_at_call 72;refine(HI.out _ _ _ _).mono ?_;rintro e w' ⟨rfl,rfl⟩;rw[e1])
  go_ret;exact⟨mu.zab HZ.out.symm,b0⟩
 have q1:1≤vd∧vd≤1000000:=Decidable.of_not_not q1;have e1:decide (1≤vd∧vd≤1000000)=true:=decide_eq_true q1;have HQ1:=hD q1;clear q1;by_cases q2:¬(1≤nx∧nx≤1001)
 ·have e2:decide (1≤nx∧nx≤1001)=false:=decide_eq_false q2;have HZ:=hD (HF.out (λx=>q2 x.2.2.1));clear q2
  go_wp2_with (go_at_call 72;refine(HI.out _ _ _ _).mono ?_;rintro e w' ⟨rfl,rfl⟩;first|rw[e1]|rw[e2])
  go_ret;exact⟨mu.zab HZ.out.symm,b0⟩
 have q2:1≤nx∧nx≤1001:=Decidable.of_not_not q2;have e2:decide (1≤nx∧nx≤1001)=true:=decide_eq_true q2;obtain⟨n1,n2⟩:=q2;by_cases q3:30<n
 ·have q3':(30:Int)<(n:Int):=by omega
  have HZ:=hD (HF.out (λx=>by have:=(mails_of x.2.2.2.1).1;have:=HLM.out;omega))
  go_wp2_with (go_at_call 72;refine(HI.out _ _ _ _).mono ?_;rintro e w' ⟨rfl,rfl⟩;first|rw[e1]|rw[e2])
  go_ret;exact⟨mu.zab HZ.out.symm,b0⟩
 have q3':(n:Int)≤30:=by omega
 by_cases q4:60<p
 ·have q4':(60:Int)<(p:Int):=by omega
  have HZ:=hD (HF.out (λx=>by have:=(keys_of x.2.2.2.2.2.1).1;have:=HLK.out;omega))
  go_wp2_with (go_at_call 72;refine(HI.out _ _ _ _).mono ?_;rintro e w' ⟨rfl,rfl⟩;first|rw[e1]|rw[e2])
  go_ret;exact⟨mu.zab HZ.out.symm,b0⟩
 have q4':(p:Int)≤60:=by omega
 by_cases q5:¬(p:Int)=nx-1
 ·have q5':((p:Int) != nx-1)=true:=by simp[q5]
  have HZ:=hD (HF.out (λx=>q5 x.2.2.2.2.1));clear q5
  go_wp2_with (go_at_call 72;refine(HI.out _ _ _ _).mono ?_;rintro e w' ⟨rfl,rfl⟩;first|rw[e1]|rw[e2])
  go_ret;exact⟨mu.zab HZ.out.symm,b0⟩
 have q5:(p:Int)=nx-1:=by omega
 have q5':((p:Int) != nx-1)=false:=by simp[q5]
 have HQ5:=hD q5;clear q5
 go_wp2_with (go_at_call 72;refine(HI.out _ _ _ _).mono ?_;rintro e w' ⟨rfl,rfl⟩;first|rw[e1]|rw[e2])
 clear c0 c1 c2 c3 c4;have HL0:Hid (∀wr,Below w'.heap.size w' wr→Lies wr w.heap.size 65 ⟨nm,vd,nx,ms,ks⟩ (.slice a n cap) (.slice a1 p cap1)):=λwr h=>L0.keep h
 have HBB:Hid (∀wr,Below w'.heap.size w' wr→Below w.heap.size w wr):=λwr h=>b0.trans (h.mono b0.size)
 clear L0 b0 e1 e2
 go_loopw [3] (λi wr=>∃(k:Nat),k≤n∧i=.int .i64 k∧zaz ms nx k∧Below w'.heap.size w' wr) (λi _=>n-(intOf i).toNat)
 case atStart=>exact⟨0,Nat.zero_le _,rfl,λj hj=>absurd hj (Nat.not_lt_zero _),Below.refl _ _⟩
 case round =>
  obtain⟨k,hk,rfl,hal,hbw⟩:=hrel;have HAL:=hD hal;clear hal;have Lr:=HL0.out _ hbw;have HAr:=hD (zbs HA.out hbw (Nat.le_of_lt hsz));have c2:=Lr.c2;have c3:=Lr.c3;have c4:=Lr.c4;simp only at c2 c3 c4;by_cases hlt:k<n
  ·have hka:k<ms.length:=by rw[←HLM.out];exact hlt
   obtain⟨b,off,ha,hbN,hcells⟩:∃b off,a=some ⟨b,off,none⟩∧b<w.heap.size∧∀j,j<ms.length→At3 wr b (off+j*3) (ms.getD j noS):=by
    obtain⟨a',cap',e,hh⟩:=HAr.out.1;cases e
    rcases hh with e|⟨b,off,e,hb,hc⟩
    ·rw[e] at hka;simp at hka
    ·exact⟨b,off,e,hb,hc⟩
   have hat:=hcells k hka;have HPR:=hD hcells;have HKA:=hD hka;subst ha;clear hcells hka;generalize hx:ms.getD k noS=x at hat;have HX:=hD hx;clear hx;obtain⟨uu,f,t⟩:=x;obtain⟨d0,d1,d2⟩:=hat;simp only at d0 d1 d2;have hlt':(k:Int)<(n:Int):=by omega
   have hk0:(0:Int)≤(k:Int):=by omega
   go_upto_region 7 with fail
   have hb2:=new_below wr 92 #[.int .i64 uu,.int .i64 f,.string t];have M0:(wr.alloc (.cells #[.int .i64 uu,.int .i64 f,.string t] 92)).heap[wr.heap.size]?=some (.cells #[.int .i64 uu,.int .i64 f,.string t] 92 (0,0)):=zbS _ _;have L1:=Lr.keep hb2;have HPR1:Hid (∀j,j<ms.length→At3 (wr.alloc (.cells #[.int .i64 uu,.int .i64 f,.string t] 92)) b (off+j*3) (ms.getD j noS)):=λj hj=>(HPR.out j hj).keep hb2 (HPR.out j hj).lt
   have hbw1:=hbw.trans (hb2.mono hbw.size);generalize wr.alloc _=W1 at M0 L1 HPR1 hbw1 ⊢;have l2:=L1.c2;have l3:=L1.c3;have m0:W1.cell? ⟨wr.heap.size,0,none⟩=some (.int .i64 uu):=by rw[cell_of_row W1 _ _ _ _ _ M0];rfl
   have m1:W1.cell? ⟨wr.heap.size,0+1,none⟩=some (.int .i64 f):=by rw[cell_of_row W1 _ _ _ _ _ M0];rfl
   have m2:W1.cell? ⟨wr.heap.size,0+2,none⟩=some (.string t):=by rw[cell_of_row W1 _ _ _ _ _ M0];rfl
   simp only at l2 l3;have HQ:=hD (last_pos HAL.out);clear c2 c3 c4 d0 d1 d2 M0 L1 Lr hbw hb2 HPR;obtain⟨bad,hbad⟩:∃bad:Bool,(bad=true↔¬mOK nx (last ms k) ⟨uu,f,t⟩):=⟨@decide _ (Classical.propDecidable _),@decide_eq_true_iff _ (Classical.propDecidable _)⟩
   have HB:=hD hbad;clear hbad
   go_cut [89] (λt wx=>t=.bool bad∧∃q,wx=W1.drewN q)
   case first =>
    by_cases r1:¬(1≤uu∧uu≤nx-1)
    ·have e1:decide (1≤uu∧uu≤nx-1)=false:=decide_eq_false r1;have hbd:bad=true:=HB.out.2 (λy=>by have h1:=y.1;have h2:=y.2.1;have h3:=HQ.out;simp only at h1 h2;omega);have HBD:=hD hbd;clear r1 hbd
     go_quiet ((go_at_call 72;exact Calls.quiet_of_same (HI.out _ _ _ _)))
     go_wp2_with fail
     go_meet
     exact⟨by rw[HBD.out],_,rfl⟩
    have r1:1≤uu∧uu≤nx-1:=Decidable.of_not_not r1;have e1:decide (1≤uu∧uu≤nx-1)=true:=decide_eq_true r1;by_cases hk1:k=0
    ·have hl0:last ms k=0:=by rw[hk1];rfl
     have HL1:=hD hl0;subst hk1;clear hl0;have hkz:decide ((0:Int)<((0:Nat):Int))=false:=rfl;by_cases r3:¬(0≤f∧f≤31)
     ·have e3:decide (0≤f∧f≤31)=false:=decide_eq_false r3;have hbd:bad=true:=HB.out.2 (λy=>r3 y.2.2.1);have HBD:=hD hbd;clear r3 hbd
      go_quiet ((go_at_call 72;exact Calls.quiet_of_same (HI.out _ _ _ _)))
      go_wp2_with fail
      go_meet
      exact⟨by rw[HBD.out],_,rfl⟩
     have r3:0≤f∧f≤31:=Decidable.of_not_not r3;have e3:decide (0≤f∧f≤31)=true:=decide_eq_true r3;by_cases r4:4000<t.size
     ·have r4':(4000:Int)<(t.size:Int):=by omega
      have hbd:bad=true:=HB.out.2 (λy=>by have:=y.2.2.2;simp only at this;omega);have HBD:=hD hbd;clear r3 r4 hbd
      go_quiet ((go_at_call 72;exact Calls.quiet_of_same (HI.out _ _ _ _)))
      go_wp2_with fail
      go_meet
      exact⟨by rw[HBD.out],_,rfl⟩
     have r4':decide ((4000:Int)<(t.size:Int))=false:=decide_eq_false (by omega);have hbd:bad=false:=Bool.eq_false_iff.2 λy=>HB.out.1 y ⟨by simp only;rw[HL1.out];omega,by simp only;omega,r3,by simp only;omega⟩
     have HBD:=hD hbd;clear r3 r4 hbd
     go_quiet ((go_at_call 72;exact Calls.quiet_of_same (HI.out _ _ _ _)))
     go_wp2_with fail
     go_meet
     exact⟨by rw[HBD.out],_,rfl⟩
    obtain⟨j,rfl⟩:∃j,k=j+1:=⟨k-1,by omega⟩
    have hpr:=HPR1.out j (by have:=HKA.out;omega);have hl1:last ms (j+1)=(ms.getD j noS).u:=zc9 _ _;generalize hy:ms.getD j noS=y at hpr hl1;have HL1:=hD hl1;obtain⟨g0,_,_⟩:=hpr;generalize y.u=pu at g0 HL1;clear hl1 hy;have hjn:(j:Int)<(n:Int):=by omega
    have hj0:(0:Int)≤(j:Int):=by omega
    have hkz:(0:Int)<((j+1:Nat):Int):=by omega
    have hkz2:decide ((0:Int)<(j:Int)+1)=true:=decide_eq_true (by omega);have hjj2:(j:Int)+1-1=(j:Int):=by omega
    have hjj:((j+1:Nat):Int)-1=(j:Int):=by omega
    by_cases r2:uu≤pu
    ·have hbd:bad=true:=HB.out.2 (λy=>by have h1:=y.1;rw[HL1.out] at h1;simp only at h1;omega);have HBD:=hD hbd;clear hbd
     go_quiet ((go_at_call 72;exact Calls.quiet_of_same (HI.out _ _ _ _)))
     go_wp2_with fail
     go_meet
     exact⟨by rw[HBD.out],_,rfl⟩
    have r2':decide (uu≤pu)=false:=decide_eq_false r2;by_cases r3:¬(0≤f∧f≤31)
    ·have e3:decide (0≤f∧f≤31)=false:=decide_eq_false r3;have hbd:bad=true:=HB.out.2 (λy=>r3 y.2.2.1);have HBD:=hD hbd;clear r3 hbd
     go_quiet ((go_at_call 72;exact Calls.quiet_of_same (HI.out _ _ _ _)))
     go_wp2_with fail
     go_meet
     exact⟨by rw[HBD.out],_,rfl⟩
    have r3:0≤f∧f≤31:=Decidable.of_not_not r3;have e3:decide (0≤f∧f≤31)=true:=decide_eq_true r3;by_cases r4:4000<t.size
    ·have r4':(4000:Int)<(t.size:Int):=by omega
     have hbd:bad=true:=HB.out.2 (λy=>by have:=y.2.2.2;simp only at this;omega);have HBD:=hD hbd;clear r3 r4 hbd
     go_quiet ((go_at_call 72;exact Calls.quiet_of_same (HI.out _ _ _ _)))
     go_wp2_with fail
     go_meet
     exact⟨by rw[HBD.out],_,rfl⟩
    have r4':decide ((4000:Int)<(t.size:Int))=false:=decide_eq_false (by omega);have hbd:bad=false:=Bool.eq_false_iff.2 λy=>HB.out.1 y ⟨by simp only;rw[HL1.out];omega,by simp only;omega,r3,by simp only;omega⟩
    have HBD:=hD hbd;clear r3 r4 hbd
    go_quiet ((go_at_call 72;exact Calls.quiet_of_same (HI.out _ _ _ _)))
    go_wp2_with fail
    go_meet
    exact⟨by rw[HBD.out],_,rfl⟩
   case rest =>
    obtain⟨rfl,q,rfl⟩:=hcut;have hbw2:=zbl hbw1 q;clear hbw1 l2 l3 m0 m1 m2;generalize W1.drewN q=W2 at hbw2 ⊢;cases bad
    ·have hok:mOK nx (last ms k) ⟨uu,f,t⟩:=Classical.not_not.1 λh=>by have:=HB.out.2 h;simp at this
     have HR:=hD (mgood_step HAL.out HX.out hok);clear hok;go_wp2
     go_roundw
     case rel=>exact⟨k+1,by omega,by go_num,HR.out,hbw2⟩
     case measure=>simp[intOf];omega
    ·have HZ:Hid (R=false):=HF.out (λy=>HB.out.1 (by trivial) (HX.out ▸ (mails_of y.2.2.2.1).2 k HKA.out));go_wp2;go_ret;exact⟨mu.zab HZ.out.symm,HBB.out _ hbw2⟩
  ·have hkn:k=n:=by omega
   have hmb:zaR ms nx=true:=mails_yes (by have:=HLM.out;omega) (λj hj=>HAL.out j (by have:=HLM.out;omega));have HMB:=hD hmb;clear hmb HAL c2 c3 c4 Lr HAr;have Lr:=HL0.out _ hbw;have c3:=Lr.c3;have c4:=Lr.c4;clear Lr;go_wp2;clear c3 c4;have HBW:=hD hbw;clear hbw
   go_loopw [5] (λi wq=>∃(z:Nat),z≤p∧i=.int .i64 z∧zba ks z∧bk.Dist ks z∧Below w'.heap.size w' wq) (λi _=>p-(intOf i).toNat)
   case atStart=>exact⟨0,Nat.zero_le _,rfl,λj hj=>absurd hj (Nat.not_lt_zero _),λi j _ hj=>absurd hj (Nat.not_lt_zero _),HBW.out⟩
   case round =>
    clear HBW hkn hlt hk;obtain⟨z,hz,rfl,hkg,hdi,hbq⟩:=hrel;have HKG:=hD hkg;have HDI:=hD hdi;clear hkg hdi;have Lq:=HL0.out _ hbq;have HAq:=hD (zbs HA.out hbq (Nat.le_of_lt hsz));have c4:=Lq.c4;clear Lq;by_cases hzp:z<p
    ·have hka:z<ks.length:=by rw[←HLK.out];exact hzp
     obtain⟨b,off,ha,hbN,hcells⟩:∃b off,a1=some ⟨b,off,none⟩∧b<w.heap.size∧∀j,j<ks.length→wr.cell? ⟨b,off+j,none⟩=some (.string (ks.getD j ky.nt)):=by
      obtain⟨a',cap',e,hh⟩:=HAq.out.2;cases e
      rcases hh with e|⟨b,off,e,hb,hc⟩
      ·rw[e] at hka;simp at hka
      ·exact⟨b,off,e,hb,hc⟩
     have d0:=hcells z hka;have HKA:=hD hka;have HTK:Hid (∀W,W.heap=wr.heap→ky.TextsAt W (.slice a1 z cap1) (ks.take z)):=λW hW=>by
      have:=texts_take HLK.out HAq.out.2 (Nat.le_of_lt hzp);obtain⟨a',cp,e,hh⟩:=this;refine⟨a',cp,e,?_⟩
      rcases hh with hh|⟨b,off,e2,hc⟩
      ·exact .inl hh
      ·exact .inr ⟨b,off,e2,λj hj=>by rw[←hc j hj];simp only[World.cell?,hW]⟩
     subst ha;clear hcells hka;generalize hx:ks.getD z ky.nt=x at d0;have HX:=hD hx;clear hx;have hlt':(z:Int)<(p:Int):=by omega
     have hz0:(0:Int)≤(z:Int):=by omega
     have hzp':(z:Int)≤(p:Int):=by omega
     have hzc:(z:Int)≤(cap1:Int):=by omega
     have htl:(ks.take z).length≤1048576:=by rw[List.length_take];omega
     have HH:Hid (∀W,W.heap=wr.heap→Calls Tryz.prog 74 #[.slice (some ⟨b,off,none⟩) z cap1,.string x] W λe w'=>e=.returned (.bool (ky.has (ks.take z) x))∧w'=W):=λW hW=>ky.spec_has _ _ _ _ (HTK.out W hW) htl
     have HBD:Hid (ky.has (ks.take z) x=false→bk.Dist ks (z+1)):=λh=>dist_step HKA.out HDI.out HX.out h
     have HBN:Hid (ky.has (ks.take z) x=true→bk.dist ks=false):=λh=>dist_bad HKA.out HX.out h
     clear htl HTK
     go_upto_region 12 with fail
     by_cases r1:¬(1≤x.size∧x.size≤200)
     ·have e1:decide ((1:Int)≤(x.size:Int)∧(x.size:Int)≤200)=false:=decide_eq_false (by omega);have HZ:=hD (HF.out (λy=>r1 (HX.out ▸ (keys_of y.2.2.2.2.2.1).2 z HKA.out)));clear r1
      go_quiet ((first|(go_at_call 72;exact Calls.quiet_of_same (HI.out _ _ _ _))|(go_at_call 74;exact Calls.quiet_of_same (HH.out _ rfl))))
      have hb3:=zbl hbq nq;clear c4 d0 hbq;go_wp2;go_ret;exact⟨mu.zab HZ.out.symm,HBB.out _ hb3⟩
     have r1:1≤x.size∧x.size≤200:=Decidable.of_not_not r1;have e1:decide ((1:Int)≤(x.size:Int)∧(x.size:Int)≤200)=true:=decide_eq_true (by omega);have HKG1:=hD (kgood_step HKG.out HX.out r1);clear r1;generalize hhs:ky.has (ks.take z) x=hs at HH HBD HBN;clear hhs;cases hs
     ·go_quiet ((first|(go_at_call 72;exact Calls.quiet_of_same (HI.out _ _ _ _))|(go_at_call 74;exact Calls.quiet_of_same (HH.out _ rfl))))
      have hb3:=zbl hbq nq;clear c4 d0 hbq;go_wp2
      go_roundw
      case rel=>exact⟨z+1,by omega,by go_num,HKG1.out,HBD.out (by trivial),hb3⟩
      case measure=>simp[intOf];omega
     ·have HZ:Hid (R=false):=HF.out (λy=>by have h1:=HBN.out (by trivial);rw[h1] at y;simp at y)
      go_quiet ((first|(go_at_call 72;exact Calls.quiet_of_same (HI.out _ _ _ _))|(go_at_call 74;exact Calls.quiet_of_same (HH.out _ rfl))))
      have hb3:=zbl hbq nq;clear c4 d0 hbq;go_wp2;go_ret;exact⟨mu.zab HZ.out.symm,HBB.out _ hb3⟩
    ·have HZ:Hid (R=true):=HT.out ⟨by trivial,HQ1.out,⟨n1,n2⟩,HMB.out,HQ5.out,keys_yes (by have:=HLK.out;omega) (λj hj=>HKG.out j (by have:=HLK.out;omega)),dist_yes (λi j hij hj=>HDI.out i j hij (by have:=HLK.out;omega))⟩;go_wp2;go_ret;exact⟨mu.zab HZ.out.symm,HBB.out _ hbq⟩
end bx
namespace bx
open Go.RowKit
open st gr
theorem zbL{xs:List Bx}{s:ByteArray}{r r':Int}(h:Plc xs s r)(h':Plc xs s r'):r=r':=by
 rcases h with⟨k,rfl,hk,hn,hf⟩|⟨rfl,hno⟩
 ·rcases h' with⟨j,rfl,hj,hn',hf'⟩|⟨rfl,hno⟩
  ·by_cases e:k=j
   ·rw[e]
   ·by_cases e2:k<j
    ·exact absurd hn (hf' k e2)
    ·exact absurd hn' (hf j (by omega))
  ·exact absurd hn (hno k hk)
 ·rcases h' with⟨j,rfl,hj,hn',hf'⟩|⟨rfl,_⟩
  ·exact absurd hn' (hno j hj)
  ·rfl
theorem plc_ex(xs:List Bx)(s:ByteArray):∃r,Plc xs s r:=by
 by_cases h:∃k,k<xs.length∧(xs.getD k noB).nm=s
 ·let p:Nat→Prop:=λk=>k<xs.length∧(xs.getD k noB).nm=s
  have hex:∀m,(∃k,k≤m∧p k)→∃k,p k∧∀j,j<k→¬p j:=by
   intro m
   induction m with
   | zero=>rintro⟨k,hk,hp⟩;exact⟨k,hp,λj hj=>by omega⟩
   | succ m ih =>
    rintro⟨k,hk,hp⟩;by_cases hm:∃j,j≤m∧p j
    ·exact ih hm
    ·refine⟨k,hp,λj hj hpj=>hm ⟨j,by omega,hpj⟩⟩
  obtain⟨k0,h0⟩:=h;obtain⟨k,⟨h1,h2⟩,h3⟩:=hex k0 ⟨k0,Nat.le_refl _,h0⟩;exact⟨k,.inl ⟨k,rfl,h1,h2,λj hj e=>h3 j hj ⟨by omega,e⟩⟩⟩
 ·exact⟨-1,.inr ⟨rfl,λj hj e=>h ⟨j,hj,e⟩⟩⟩
theorem zb3(N:Nat)(v:Value)(xs:List Bx)(vs:Nat→Value×Value)(s:ByteArray)(w:World)(h:CellsIn w N v xs vs)(hn:xs.length≤1048576){r:Int}(hr:Plc xs s r) :
  Calls Tryz.prog 73 #[v,.string s] w λe w'=>e=.returned (.int .i64 r)∧w'=w:=by
 obtain⟨a,cap,rfl,hc⟩:=h;obtain⟨n,hn'⟩:∃n,n=xs.length:=⟨_,rfl⟩
 have HN:=hD hn';have HH:=hD hc;have HR:Hid (∀r',Plc xs s r'→r'=r):=λr' h=>zbL h hr
 rw[←hn'] at hn ⊢;clear hc hn' hr;go_enter Tryz.func73,Tryz.ntmps73;go_wp2
 go_loopw [5] (λi wr=>∃k:Nat,k≤n∧i=.int .i64 k∧(∀j,j<k→(xs.getD j noB).nm≠s)∧wr=w) (λi _=>n-(intOf i).toNat)
 case atStart=>exact⟨0,Nat.zero_le _,rfl,λj hj=>absurd hj (Nat.not_lt_zero _),rfl⟩
 case round =>
  obtain⟨k,hk,rfl,hno,rfl⟩:=hrel;have HNO:=hD hno;clear hno;by_cases hlt:k<n
  ·have hka:k<xs.length:=by rw[←HN.out];exact hlt
   rcases HH.out with e|⟨b,off,rfl,hbl,hcells⟩
   ·rw[e] at hka;simp at hka
   have hat:=hcells k hka;have HKA:=hD hka;clear hcells hka;generalize hx:xs.getD k noB=x at hat;have HX:=hD hx;clear hx;obtain⟨c0,_⟩:=hat;obtain⟨nm,vd,nx,ms,ks⟩:=x;simp only at c0;have hlt':(k:Int)<(n:Int):=by omega
   by_cases he:nm=s
   ·have he':(nm.toList == s.toList)=true:=by rw[he];simp
    have hrk:=HR.out k (.inl ⟨k,rfl,HKA.out,by rw[HX.out];exact he,HNO.out⟩);have HRK:=hD hrk;clear he hrk;go_wp2;go_ret;exact⟨by rw[←HRK.out];rfl,rfl⟩
   ·have he':(nm.toList == s.toList)=false:=ky.zci he;have HE:Hid (∀j,j<k+1→(xs.getD j noB).nm≠s):=λj hj=>by
     by_cases e:j=k
     ·rw[e,HX.out];exact he
     ·exact HNO.out j (by omega)
    clear he;go_wp2
    go_roundw
    case rel=>exact⟨k+1,by omega,by go_num,HE.out,by trivial⟩
    case measure=>simp[intOf];omega
  ·have hrk:=HR.out (-1) (.inr ⟨rfl,λj hj=>HNO.out j (by have:=HN.out;omega)⟩);have HRK:=hD hrk;clear hrk;go_wp2;go_ret;exact⟨by rw[←HRK.out];rfl,rfl⟩
theorem getD_take{xs:List Bx}{k j:Nat}(hj:j<k):(xs.take k).getD j noB=xs.getD j noB:=by
 simp[List.getD_eq_getElem?_getD,hj]
theorem cells_take{w:World}{N n k cap:Nat}{a:Option Addr}{xs:List Bx}{vs:Nat→Value×Value}(hn:n=xs.length)(h:CellsIn w N (.slice a n cap) xs vs)(hk:k≤n):CellsIn w N (.slice a k cap) (xs.take k) vs:=by
 subst hn;obtain⟨a',cap',e,h⟩:=h;cases e;refine⟨a,cap,by rw[List.length_take];congr 1;omega,?_⟩
 rcases h with h|⟨b,off,rfl,hb,h⟩
 ·exact .inl (by rw[h];simp)
 ·refine .inr ⟨b,off,rfl,hb,λj hj=>?_⟩;rw[List.length_take] at hj;rw[getD_take (by omega)];exact h j (by omega)
theorem spec_sok(v:Value)(xs:List Bx)(vs:Nat→Value×Value)(w:World)(h:zaa w v xs vs)(hs:zac xs)(hcv:∀a n c,v=.slice a n c→n≤c)(hcu:∀j,j<xs.length→∀a n c,(vs j).2=.slice a n c→n≤c) :
  Calls Tryz.prog 67 #[v] w λe w'=>e=.returned (.bool (sok xs))∧Below w.heap.size w w':=by
 have HALL:=hD h;obtain⟨⟨a,cap,rfl,hc⟩,_⟩:=h;obtain⟨n,hn⟩:∃n,n=xs.length:=⟨_,rfl⟩
 have HN:=hD hn;have HH:=hD hc;have HS:=hD hs;have HCU:=hD hcu;have hl:n≤1048576:=by rw[hn];exact hs.1
 have hcap:n≤cap:=by rw[hn];exact hcv _ _ _ rfl
 rw[←hn] at HALL ⊢;clear hc hs hn hcv hcu;by_cases g1:4096<n
 ·have g1':(4096:Int)<(n:Int):=by omega
  have HR:Hid (sok xs=false):=zbZ (by have:=HN.out;omega);go_enter Tryz.func67,Tryz.ntmps67;go_wp2;go_ret;exact⟨mu.zab HR.out.symm,Below.refl _ _⟩
 have g1':(n:Int)≤4096:=by omega
 by_cases g0:4<n
 ·have g0':(4:Int)<(n:Int):=by omega
  have HR:Hid (sok xs=false):=zbZ (by have:=HN.out;omega);go_enter Tryz.func67,Tryz.ntmps67;go_wp2;go_ret;exact⟨mu.zab HR.out.symm,Below.refl _ _⟩
 have g0':(n:Int)≤4:=by omega
 go_enter Tryz.func67,Tryz.ntmps67;go_wp2
 go_loopw [3] (λi wr=>∃(k:Nat),k≤n∧i=.int .i64 k∧SOK xs k∧Below w.heap.size w wr) (λi _=>n-(intOf i).toNat)
 case atStart=>exact⟨0,Nat.zero_le _,rfl,λj hj=>absurd hj (Nat.not_lt_zero _),Below.refl _ _⟩
 case round =>
  obtain⟨k,hk,rfl,hal,hbw⟩:=hrel;have HAL:=hD hal;clear hal;by_cases hlt:k<n
  ·have hka:k<xs.length:=by rw[←HN.out];exact hlt
   rcases HH.out with e|⟨b,off,rfl,hbl,hcells⟩
   ·rw[e] at hka;simp at hka
   have hat:=(hcells k hka).keep hbw hbl;have hrw:=zbt ((za6 HALL.out hbw lR).2 k hka) hbw.size;have HAR:=hD (za6 HALL.out hbw lR);have hcuk:=HCU.out k hka;have hsk:=HS.out.2 k hka;have HKA:=hD hka;clear hcells hka;generalize hx:xs.getD k noB=x at hat hsk hrw;have HX:=hD hx;generalize vs k=q at hat hrw hcuk;clear hx;obtain⟨q1,q2⟩:=q;obtain⟨c0,c1,c2,c3,c4⟩:=hat;simp only at c0 c1 c2 c3 c4 hrw hcuk;have hlt':(k:Int)<(n:Int):=by omega
   have hk0:(0:Int)≤(k:Int):=by omega
   have hkc:(k:Int)≤(cap:Int):=by omega
   have hkn:(k:Int)≤(n:Int):=by omega
   have HB:Hid (∀y:Ext wr,Calls Tryz.prog 106 #[.agg #[.string x.nm,.int .i64 x.vd,.int .i64 x.nx,q1,q2]] (gw y) λe w'=>e=.returned (.bool (bok x))∧Below (gw y).heap.size (gw y) w'):=λy=>spec_bok x q1 q2 (gw y) (zaT hrw (zbe y)) hsk hcuk
   obtain⟨⟨a2,cap2,rfl,_⟩,⟨a3,cap3,rfl,_⟩⟩:=hrw;have hin:=hsk.1.1;obtain⟨nm,vd,nx,ms,ks⟩:=x;simp only at c0 c1 c2 c3 c4 HB hin;obtain⟨r,hr⟩:=plc_ex (xs.take k) nm;have HF:Hid (∀y:Ext wr,Calls Tryz.prog 73 #[.slice (some ⟨b,off,none⟩) k cap,.string nm] (gw y) λe w'=>e=.returned (.int .i64 r)∧Below (gw y).heap.size (gw y) w'):=λy =>
    (zb3 w.heap.size _ (xs.take k) vs nm (gw y) (cells_take HN.out (za6 HAR.out (zbe y) hbw.size).1 (by omega)) (by rw[List.length_take];omega) hr).mono λe w' ⟨he,hw⟩=>⟨he,by rw[hw];exact Below.refl _ _⟩
   have HPL:=hD hr;clear hsk hcuk HAR hr;have HR0:Hid (bok ⟨nm,vd,nx,ms,ks⟩=false→sok xs=false):=λh=>zbZ (λy=>by have:=(y.2 k HKA.out).1;rw[HX.out,h] at this;cases this)
   have HR1:Hid (vd≠(k:Int)+1→sok xs=false):=λh=>zbZ (λy=>h (by have:=(y.2 k HKA.out).2.1;rw[HX.out] at this;exact this))
   have HR2:Hid (0≤r→sok xs=false):=λh=>zbZ (λy=>by
    rcases HPL.out with⟨j,rfl,hj,hjn,_⟩|⟨rfl,_⟩
    ·rw[List.length_take] at hj;rw[getD_take (by omega)] at hjn;exact(y.2 k HKA.out).2.2 j (by omega) (by rw[HX.out];exact hjn)
    ·omega)
   have HR3:Hid (r<0→vd=(k:Int)+1→bok ⟨nm,vd,nx,ms,ks⟩=true→SOK xs (k+1)):=λh1 h2 h3=>sok_step HAL.out HX.out h3 h2 (λj hj=>by
    rcases HPL.out with⟨i,rfl,_⟩|⟨_,hno⟩
    ·omega
    ·have:=hno j (by rw[List.length_take];have:=HKA.out;omega)
     rwa [getD_take hj] at this)
   generalize bok ⟨nm,vd,nx,ms,ks⟩=R at HB HR0 HR3;clear HPL
   go_wp2_with fail
   have ne:=zcC wr;have c0:=λy:Ext wr=>zaA y c0
   have c1:=λy:Ext wr=>zaA y c1
   have c2:=λy:Ext wr=>zaA y c2
   have c3:=λy:Ext wr=>zaA y c3
   have c4:=λy:Ext wr=>zaA y c4
   cases R
   ·have HZ:Hid (sok xs=false):=HR0.out (by trivial);refine zca (by kernel_rfl) (by kernel_rfl) ?_
    repeat (go_big_quiet_step ((first|(go_at_call 106;exact zaQ (HB.out _))|(go_at_call 73;exact zaQ (HF.out _)))))
    refine wpQuiet_nil ?_;rintro W' ⟨y,rfl⟩;have b3:=hbw.trans ((zbe y).mono hbw.size);generalize gw y=W' at b3 ⊢;clear c0 c1 c2 c3 c4 hbw HB HF;go_wp2;go_ret;exact⟨mu.zab HZ.out.symm,b3⟩
   by_cases r1:¬vd=(k:Int)+1
   ·have r1':(vd != (k:Int)+1)=true:=by simp[r1]
    have HZ:=hD (HR1.out r1);clear r1;refine zca (by kernel_rfl) (by kernel_rfl) ?_
    repeat (go_big_quiet_step ((first|(go_at_call 106;exact zaQ (HB.out _))|(go_at_call 73;exact zaQ (HF.out _)))))
    refine wpQuiet_nil ?_;rintro W' ⟨y,rfl⟩;have b3:=hbw.trans ((zbe y).mono hbw.size);generalize gw y=W' at b3 ⊢;clear c0 c1 c2 c3 c4 hbw HB HF;go_wp2;go_ret;exact⟨mu.zab HZ.out.symm,b3⟩
   have r1:=Decidable.of_not_not r1;have r1':(vd != (k:Int)+1)=false:=by simp[r1]
   have HV1:=hD r1;clear r1;by_cases r2:0≤r
   ·have HZ:Hid (sok xs=false):=HR2.out r2;refine zca (by kernel_rfl) (by kernel_rfl) ?_
    repeat (go_big_quiet_step ((first|(go_at_call 106;exact zaQ (HB.out _))|(go_at_call 73;exact zaQ (HF.out _)))))
    refine wpQuiet_nil ?_;rintro W' ⟨y,rfl⟩;have b3:=hbw.trans ((zbe y).mono hbw.size);generalize gw y=W' at b3 ⊢;clear c0 c1 c2 c3 c4 hbw HB HF;go_wp2;go_ret;exact⟨mu.zab HZ.out.symm,b3⟩
   ·have r2':r<0:=by omega
    have HZ:=hD (HR3.out r2' HV1.out (by trivial));refine zca (by kernel_rfl) (by kernel_rfl) ?_
    repeat (go_big_quiet_step ((first|(go_at_call 106;exact zaQ (HB.out _))|(go_at_call 73;exact zaQ (HF.out _)))))
    refine wpQuiet_nil ?_;rintro W' ⟨y,rfl⟩;have b3:=hbw.trans ((zbe y).mono hbw.size);generalize gw y=W' at b3 ⊢;clear c0 c1 c2 c3 c4 hbw HB HF;go_wp2
    go_roundw
    case rel=>exact⟨k+1,by omega,by go_num,HZ.out,b3⟩
    case measure=>simp[intOf];omega
  ·have HR:Hid (sok xs=true):=sok_yes (by have:=HN.out;omega) (λj hj=>HAL.out j (by have:=HN.out;omega));go_wp2;go_ret;exact⟨mu.zab HR.out.symm,hbw⟩
end bx
namespace sm
open Go.RowKit Go.WideShapes
open st bx
def Caps(v:Value)(xs:List Bx)(vs:Nat→Value×Value):Prop:=(∀a n c,v=.slice a n c→n≤c)∧∀j,j<xs.length→∀a n c,(vs j).2=.slice a n c→n≤c
end sm
end Go.Proofs.YtmnflpmfngjllaaGreatDoor
