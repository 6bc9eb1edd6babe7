/-
  FnReplayCardSaid
-/
import Derived.Test.YtmnflpmfngjllaaGreatDoorPkbd
import Derived.Test.YtmnflpmfngjllaaGreatDoorPkbc
set_option maxHeartbeats 16000000
set_option maxRecDepth 100000
set_option linter.unusedVariables false
namespace Go.Proofs.YtmnflpmfngjllaaGreatDoor
namespace sm
open Go.RowKit Go.WideShapes
open st bx
theorem l09Same_any(v u:Value)(xs ys:List Bx)(vs us:Nat→Value×Value)(w:World)(h1:zaa w v xs vs)(h2:zaa w u ys us)(hs:bx.zac xs)(hs':bx.zac ys) :
  Calls Tryz.prog 70 #[v,u] w λe w'=>e=.returned (.bool (zat xs ys))∧Below w.heap.size w w':=by
 have HALL:Hid (zaa w v xs vs∧zaa w u ys us):=⟨h1,h2⟩
 obtain⟨⟨a,cap,rfl,hc1⟩,_⟩:=h1;obtain⟨⟨c,cap2,rfl,hc2⟩,_⟩:=h2;obtain⟨n,hn⟩:∃n,n=xs.length:=⟨_,rfl⟩
 obtain⟨m,hm⟩:∃m,m=ys.length:=⟨_,rfl⟩
 have HN:=hD hn;have HM:=hD hm;have hl:n≤1048576:=by rw[hn];exact hs.1
 have hl2:m≤1048576:=by rw[hm];exact hs'.1
 have HS:Hid (bx.zac xs∧bx.zac ys):=⟨hs,hs'⟩
 have H1:=hD hc1;have H2:=hD hc2;rw[←hn,←hm] at HALL;rw[←hn,←hm];clear hc1 hc2 hs hs' hn hm;by_cases hnm:¬n=m
 ·have hnm':((n:Int) != (m:Int))=true:=by simp;omega
  have HR:Hid (zat xs ys=false):=sameS_no (λy=>hnm (by have:=y.1;have:=HN.out;have:=HM.out;omega));go_enter Tryz.func70,Tryz.ntmps70;go_wp2;go_ret;exact⟨mu.zab HR.out.symm,Below.refl _ _⟩
 have hnm:n=m:=Decidable.of_not_not hnm;subst hnm;have hnm':((n:Int) != (n:Int))=false:=by simp
 go_enter Tryz.func70,Tryz.ntmps70;go_wp2
 go_loopw [5] (λi wr=>∃k:Nat,k≤n∧i=.int .i64 k∧(∀j,j<k→zaO (xs.getD j noB) (ys.getD j noB))∧Below w.heap.size w wr) (λi _=>n-(intOf i).toNat)
 case atStart=>exact⟨0,Nat.zero_le _,rfl,λj hj=>absurd hj (Nat.not_lt_zero _),Below.refl _ _⟩
 case round =>
  obtain⟨k,hk,rfl,hal,hbw⟩:=hrel;have HAL:=hD hal;clear hal;by_cases hlt:k<n
  ·have hka:k<xs.length:=by rw[←HN.out];exact hlt
   have hkb:k<ys.length:=by rw[←HM.out];exact hlt
   rcases H1.out with e|⟨b,off,rfl,hbl,hcells⟩
   ·rw[e] at hka;simp at hka
   rcases H2.out with e|⟨b2,off2,rfl,hbl2,hcells2⟩
   ·rw[e] at hkb;simp at hkb
   have ha:=(hcells k hka).keep hbw hbl;have hb:=(hcells2 k hkb).keep hbw hbl2;have hr1:=zbt ((za6 HALL.out.1 hbw lR).2 k hka) hbw.size;have hr2:=zbt ((za6 HALL.out.2 hbw lR).2 k hkb) hbw.size;have hsa:=HS.out.1.2 k hka;have hsb:=HS.out.2.2 k hkb;have HNE:Hid (¬zaO (xs.getD k noB) (ys.getD k noB)→zat xs ys=false):=λh=>sameS_no (λy=>h (y.2 k hka))
   have HEQ:Hid (zaO (xs.getD k noB) (ys.getD k noB)→∀j,j<k+1→zaO (xs.getD j noB) (ys.getD j noB)):=λh j hj=>by
    by_cases e:j=k
    ·rw[e];exact h
    ·exact HAL.out j (by omega)
   clear hcells hka hcells2 hkb;generalize xs.getD k noB=x at ha hsa hr1 HNE HEQ;generalize ys.getD k noB=y at hb hsb hr2 HNE HEQ;generalize vs k=q at ha hr1;generalize us k=r at hb hr2;obtain⟨q1,q2⟩:=q;obtain⟨r1,r2⟩:=r;obtain⟨c0,c1,c2,c3,c4⟩:=ha;obtain⟨d0,d1,d2,d3,d4⟩:=hb;simp only at c0 c1 c2 c3 c4 d0 d1 d2 d3 d4 hr1 hr2;have HXY:Hid (bx.Small x∧bx.Small y):=⟨hsa,hsb⟩
   have hlt':(k:Int)<(n:Int):=by omega
   have hk0:(0:Int)≤(k:Int):=by omega
   have hd:=bx.new_below wr 65 #[.string x.nm,.int .i64 x.vd,.int .i64 x.nx,q1,q2];have hb2:=hd.alloc (by simp) (.cells #[.string y.nm,.int .i64 y.vd,.int .i64 y.nx,r1,r2] 65);have e0:=(hd.cell (p:=⟨b2,off2+k*5,none⟩) (World.block_lt_of_cell? wr _ d0)).trans d0;have e1:=(hd.cell (p:=⟨b2,off2+k*5+1,none⟩) (World.block_lt_of_cell? wr _ d1)).trans d1;have e2:=(hd.cell (p:=⟨b2,off2+k*5+2,none⟩) (World.block_lt_of_cell? wr _ d2)).trans d2;have e3:=(hd.cell (p:=⟨b2,off2+k*5+3,none⟩) (World.block_lt_of_cell? wr _ d3)).trans d3;have e4:=(hd.cell (p:=⟨b2,off2+k*5+4,none⟩) (World.block_lt_of_cell? wr _ d4)).trans d4;have L0:=(zan wr 65 x q1 q2).keep (bx.new_below _ 65 #[.string y.nm,.int .i64 y.vd,.int .i64 y.nx,r1,r2]);have M0:=zan (wr.alloc (.cells #[.string x.nm,.int .i64 x.vd,.int .i64 x.nx,q1,q2] 65)) 65 y r1 r2;rw[show(wr.alloc (.cells #[.string x.nm,.int .i64 x.vd,.int .i64 x.nx,q1,q2] 65)).heap.size=wr.heap.size+1 by simp] at M0;have HR1:=zaT hr1 hb2;have HR2:=zaT hr2 hb2;have hb3:=hbw.trans (hb2.mono hbw.size);obtain⟨⟨a2,cap2,rfl,_⟩,⟨a3,cap3,rfl,_⟩⟩:=hr1;obtain⟨⟨a4,cap4,rfl,_⟩,⟨a5,cap5,rfl,_⟩⟩:=hr2;clear hsa hsb hb2 hd hbw;obtain⟨nm,vd,nx,ms,ks⟩:=x;obtain⟨nm',vd',nx',ms',ks'⟩:=y;simp only at c0 c1 c2 c3 c4 d0 d1 d2 d3 d4 e0 e1 e2 e3 e4 L0 M0 HR1 HR2 HXY HNE HEQ hb3;have hm1:=HXY.out.1.2.2.1.1;have hm2:=HXY.out.2.2.2.1.1;have hk1:=HXY.out.1.2.2.2.1;have hk2:=HXY.out.2.2.2.2.1;by_cases q0:¬nm=nm'
   ·have q0':(nm.toList == nm'.toList)=false:=ky.zci q0;have HZ:=hD (HNE.out λz=>q0 z.1);clear q0;go_wp2;go_ret;exact⟨mu.zab HZ.out.symm,hb3⟩
   have q0:=Classical.not_not.1 q0;have q0':(nm.toList == nm'.toList)=true:=by rw[q0];simp
   have HQ0:=hD q0;clear q0;by_cases q1:¬vd=vd'
   ·have q1':(vd != vd')=true:=by simp[q1]
    have HZ:=hD (HNE.out λz=>q1 z.2.1);clear q1;go_wp2;go_ret;exact⟨mu.zab HZ.out.symm,hb3⟩
   have q1:=Decidable.of_not_not q1;have q1':(vd != vd')=false:=by simp[q1]
   have HQ1:=hD q1;clear q1;by_cases q2:¬nx=nx'
   ·have q2':(nx != nx')=true:=by simp[q2]
    have HZ:=hD (HNE.out λz=>q2 z.2.2.1);clear q2;go_wp2;go_ret;exact⟨mu.zab HZ.out.symm,hb3⟩
   have q2:=Decidable.of_not_not q2;have q2':(nx != nx')=false:=by simp[q2]
   have HQ2:=hD q2;clear q2;by_cases q3:¬ms.length=ms'.length
   ·have q3':((ms.length:Int) != (ms'.length:Int))=true:=by simp;omega
    have HZ:=hD (HNE.out λz=>q3 z.2.2.2.1.1);go_wp2;go_ret;exact⟨mu.zab HZ.out.symm,hb3⟩
   have q3:=Decidable.of_not_not q3;have q3':((ms.length:Int) != (ms'.length:Int))=false:=by simp;omega
   have HQ3:=hD q3;clear q3;by_cases q4:¬ks.length=ks'.length
   ·have q4':((ks.length:Int) != (ks'.length:Int))=true:=by simp;omega
    have HZ:=hD (HNE.out λz=>q4 z.2.2.2.2.1);go_wp2;go_ret;exact⟨mu.zab HZ.out.symm,hb3⟩
   have q4:=Decidable.of_not_not q4;have q4':((ks.length:Int) != (ks'.length:Int))=false:=by simp;omega
   have HQ4:=hD q4;clear q4;go_wp2;clear c0 c1 c2 c3 c4 d0 d1 d2 d3 d4 e0 e1 e2 e3 e4 q0' q1' q2' q3' q4';generalize(wr.alloc _).alloc _=W1 at L0 M0 HR1 HR2 hb3 ⊢;generalize wr.heap.size=B at L0 M0 ⊢;have HL0:Hid (∀wq,Below W1.heap.size W1 wq→Lies wq B 65 ⟨nm,vd,nx,ms,ks⟩ (.slice a2 ms.length cap2) (.slice a3 ks.length cap3)):=λwq h=>L0.keep h
   have HM0:Hid (∀wq,Below W1.heap.size W1 wq→Lies wq (B+1) 65 ⟨nm',vd',nx',ms',ks'⟩ (.slice a4 ms'.length cap4) (.slice a5 ks'.length cap5)):=λwq h=>M0.keep h
   have HR1:=hD HR1;have HR2:=hD HR2;have HB3:Hid (∀wq,Below W1.heap.size W1 wq→Below w.heap.size w wq):=λwq h=>hb3.trans (h.mono hb3.size)
   clear L0 M0 hb3
   go_loopw [8] (λi wq=>∃z:Nat,z≤ms.length∧i=.int .i64 z∧(∀j,j<z→ms.getD j noS=ms'.getD j noS)∧Below W1.heap.size W1 wq) (λi _=>ms.length-(intOf i).toNat)
   case atStart=>exact⟨0,Nat.zero_le _,rfl,λj hj=>absurd hj (Nat.not_lt_zero _),Below.refl _ _⟩
   case round =>
    obtain⟨z,hz,rfl,hzl,hbq⟩:=hrel;have HZL:=hD hzl;clear hzl;have c3:=(HL0.out _ hbq).c3;have d3:=(HM0.out _ hbq).c3;have c4:=(HL0.out _ hbq).c4;by_cases hzn:z<ms.length
    ·have hzn2:z<ms'.length:=by have:=HQ3.out;omega
     obtain⟨b,off,ha,hat⟩:∃b off,a2=some ⟨b,off,none⟩∧At3 wr b (off+z*3) (ms.getD z noS):=by
      obtain⟨a',cap',e,hh⟩:=(zaT HR1.out hbq).1;cases e
      rcases hh with e|⟨b,off,e,hb,hc⟩
      ·rw[e] at hzn;simp at hzn
      ·exact⟨b,off,e,hc z hzn⟩
     obtain⟨b',off',ha',hat'⟩:∃b off,a4=some ⟨b,off,none⟩∧At3 wr b (off+z*3) (ms'.getD z noS):=by
      obtain⟨a',cap',e,hh⟩:=(zaT HR2.out hbq).1;cases e
      rcases hh with e|⟨b,off,e,hb,hc⟩
      ·rw[e] at hzn2;simp at hzn2
      ·exact⟨b,off,e,hc z hzn2⟩
     have hsa:=HXY.out.1.2.2.1.2 z hzn;have hsb:=HXY.out.2.2.2.1.2 z hzn2;have HN2:Hid (¬ms.getD z noS=ms'.getD z noS→zat xs ys=false):=λh=>HNE.out λy=>h (y.2.2.2.1.2 z hzn)
     have HE2:Hid (ms.getD z noS=ms'.getD z noS→∀j,j<z+1→ms.getD j noS=ms'.getD j noS):=λh j hj=>by
      by_cases e:j=z
      ·rw[e];exact h
      ·exact HZL.out j (by omega)
     subst ha ha';simp only at hsa hsb;generalize ms.getD z noS=x at hat hsa HN2 HE2;generalize ms'.getD z noS=y at hat' hsb HN2 HE2;have hrun:=λW=>ne_run x y hsa hsb W
     have hgd:=guard_run;obtain⟨g0,g1,g2⟩:=hat;obtain⟨f0,f1,f2⟩:=hat';clear hsa hsb;have hz1:(z:Int)<(ms.length:Int):=by omega
     have hz2:(z:Int)<(ms'.length:Int):=by omega
     have hz0:(0:Int)≤(z:Int):=by omega
     by_cases hxy:x=y
     ·have HX:Hid (∀j,j<z+1→ms.getD j noS=ms'.getD j noS):=HE2.out hxy;rw[eqS_yes hxy] at hrun;simp only[Bool.not_true] at hrun;clear hxy HN2 HE2
      go_wp2_with fail
      go_quiet (fail)
      have b3:=zbl hbq nq;clear c3 d3 c4 g0 g1 g2 f0 f1 f2 hrun hbq;go_wp2
      go_roundw
      case rel=>exact⟨z+1,by omega,by go_num,HX.out,b3⟩
      case measure=>simp[intOf];omega
     ·have HR:Hid (zat xs ys=false):=HN2.out hxy;rw[eqS_no hxy] at hrun;simp only[Bool.not_false] at hrun;clear hxy HN2 HE2
      go_wp2_with fail
      go_quiet (fail)
      have b3:=zbl hbq nq;clear c3 d3 c4 g0 g1 g2 f0 f1 f2 hrun hbq;go_wp2;go_ret;exact⟨mu.zab HR.out.symm,HB3.out _ b3⟩
    have HMM:Hid (SameM ms ms'):=⟨HQ3.out,λj hj=>HZL.out j (by omega)⟩
    have HBQ:=hD hbq;clear HZL hbq;go_wp2;clear c3 d3 c4
    go_loopw [9] (λi wq=>∃z:Nat,z≤ks.length∧i=.int .i64 z∧(∀j,j<z→ks.getD j ky.nt=ks'.getD j ky.nt)∧Below W1.heap.size W1 wq) (λi _=>ks.length-(intOf i).toNat)
    case atStart=>exact⟨0,Nat.zero_le _,rfl,λj hj=>absurd hj (Nat.not_lt_zero _),HBQ.out⟩
    case round =>
     clear HBQ;obtain⟨z,hz,rfl,hzl,hbq⟩:=hrel;have HZL:=hD hzl;clear hzl;have c4:=(HL0.out _ hbq).c4;have d4:=(HM0.out _ hbq).c4;by_cases hzn:z<ks.length
     ·have hzn2:z<ks'.length:=by have:=HQ4.out;omega
      obtain⟨b,off,ha,g0⟩:∃b off,a3=some ⟨b,off,none⟩∧wr.cell? ⟨b,off+z,none⟩=some (.string (ks.getD z ky.nt)):=by
       obtain⟨a',cap',e,hh⟩:=(zaT HR1.out hbq).2;cases e
       rcases hh with e|⟨b,off,e,hb,hc⟩
       ·rw[e] at hzn;simp at hzn
       ·exact⟨b,off,e,hc z hzn⟩
      obtain⟨b',off',ha',f0⟩:∃b off,a5=some ⟨b,off,none⟩∧wr.cell? ⟨b,off+z,none⟩=some (.string (ks'.getD z ky.nt)):=by
       obtain⟨a',cap',e,hh⟩:=(zaT HR2.out hbq).2;cases e
       rcases hh with e|⟨b,off,e,hb,hc⟩
       ·rw[e] at hzn2;simp at hzn2
       ·exact⟨b,off,e,hc z hzn2⟩
      have HN2:Hid (¬ks.getD z ky.nt=ks'.getD z ky.nt→zat xs ys=false):=λh=>HNE.out λy=>h (y.2.2.2.2.2 z hzn)
      have HE2:Hid (ks.getD z ky.nt=ks'.getD z ky.nt→∀j,j<z+1→ks.getD j ky.nt=ks'.getD j ky.nt):=λh j hj=>by
       by_cases e:j=z
       ·rw[e];exact h
       ·exact HZL.out j (by omega)
      subst ha ha';generalize ks.getD z ky.nt=x at g0 HN2 HE2;generalize ks'.getD z ky.nt=y at f0 HN2 HE2;have hz1:(z:Int)<(ks.length:Int):=by omega
      have hz2:(z:Int)<(ks'.length:Int):=by omega
      have hz0:(0:Int)≤(z:Int):=by omega
      by_cases hxy:x=y
      ·have HX:Hid (∀j,j<z+1→ks.getD j ky.nt=ks'.getD j ky.nt):=HE2.out hxy;have hx':(x.toList == y.toList)=true:=by rw[hxy];simp
       clear hxy HN2 HE2
       go_wp2_with fail
       go_quiet (fail)
       have b3:=zbl hbq nq;clear c4 d4 g0 f0 hbq;go_wp2
       go_roundw
       case rel=>exact⟨z+1,by omega,by go_num,HX.out,b3⟩
       case measure=>simp[intOf];omega
      ·have HR:Hid (zat xs ys=false):=HN2.out hxy;have hx':(x.toList == y.toList)=false:=ky.zci hxy;clear hxy HN2 HE2
       go_wp2_with fail
       go_quiet (fail)
       have b3:=zbl hbq nq;clear c4 d4 g0 f0 hbq;go_wp2;go_ret;exact⟨mu.zab HR.out.symm,HB3.out _ b3⟩
     have HX:=hD (HEQ.out ⟨HQ0.out,HQ1.out,HQ2.out,HMM.out,HQ4.out,λj hj=>HZL.out j (by simp only at hj;omega)⟩);have b3:=HB3.out _ hbq;go_wp2
     go_roundw
     case rel=>exact⟨k+1,by omega,by go_num,HX.out,b3⟩
     case measure=>simp[intOf];omega
  ·have HR:Hid (zat xs ys=true):=sameS_yes ⟨by have:=HN.out;have:=HM.out;omega,λj hj=>HAL.out j (by have:=HN.out;omega)⟩;go_wp2;go_ret;exact⟨mu.zab HR.out.symm,hbw⟩
end sm
namespace eg
open Go.RowKit
open bx bl
open lg (LV recs recR scan next next_ok Errs)
theorem scan_zero(t:ByteArray):∀f p acc,p≤t.size→t.size-p<f→(scan t f p acc).2.2=0→(scan t f p acc).2.1=t.size
 | 0,p,acc,hp,hf,_=>by omega
 | f+1,p,acc,hp,hf,hc=>by
  rw[scan] at hc ⊢;by_cases h1:t.size≤p
  ·rw[if_pos h1];show p=t.size;omega
  ·rw[if_neg h1] at hc ⊢;by_cases h2:(next t p).1=0
   ·rw[if_pos h2] at hc ⊢;have hk:=next_ok h2;exact scan_zero t f _ _ (by omega) (by omega) hc
   ·rw[if_neg h2] at hc;exact absurd hc h2
theorem recs_zero{t:ByteArray}(h:(recs t).2.2=0):(recs t).2.1=t.size:=scan_zero t _ _ _ (Nat.zero_le _) (by omega) h
def Cn(r:Int)(d:ByteArray)(s:Int)(bs:List Bx):Prop:=lg.ok r d.size s=true∧s=((d.size:Nat):Int)∧(recs d).2.2=0∧∃zs,rp.Rp (recs d).1 [] (zs,true)∧sok bs=true∧sm.zat zs bs=true
def Ek(r:Int)(d:ByteArray)(s:Int)(bs:List Bx)(o:Bool):Prop:=o=true↔Cn r d s bs
def Er(r:Int)(d:ByteArray)(s:Int)(bs:List Bx)(e:Ending):Prop:=∃o,e=.returned (.bool o)∧Ek r d s bs o
theorem ek_no{r:Int}{d:ByteArray}{s:Int}{bs:List Bx}(h:¬Cn r d s bs):Ek r d s bs false:=⟨λe=>absurd e (by decide),λe=>absurd e h⟩
theorem implEk_any(r:Int)(d:ByteArray)(s:Int)(v:Value)(bs:List Bx)(vs:Nat→Value×Value)(w:World)(c b:Addr)(ca cb:Array Value)(ta tb:TypeId)(hr:lg.In r)(hd:d.size≤1048576)(hs:lg.In s)(hE:Errs w c b ca cb ta tb)(hB:zaa w v bs vs)(hsm:zac bs) :
  Calls Tryz.prog 12 #[EV r d s v] w λe w'=>Er r d s bs e∧Below w.heap.size w w':=by
 have HBS:Hid (zaa w v bs vs∧zac bs):=⟨hB,hsm⟩
 obtain⟨⟨a,cap,rfl,_⟩,_⟩:=hB;have L0:=zbg w 27 r d s (.slice a bs.length cap);have b0:=new_below w 27 #[.int .i64 r,.string d,.int .i64 s,.slice a bs.length cap];have HRC:Hid (∀W,Below w.heap.size w W→Calls Tryz.prog 10 #[LV r d s] W λe w'=>(∃v,e=.returned (.tuple #[v,.int .i64 (recR r d s).2.1,.int .i64 (recR r d s).2.2])∧ky.OwnT w' W.heap.size v (recR r d s).1)∧Below W.heap.size W w'):=λW hW=>lg.impl_recs r d s W c b ca cb ta tb hr hd hs (hE.keep hW)
 have c0:=L0.c0;have c1:=L0.c1;have c2:=L0.c2;have HSM:=hD (rp.recR_small r d s);have HLN:=hD (Nat.le_trans (lg.recR_len r d s) hd);have HOK:Hid (lg.ok r d.size s=false→recR r d s=([],0,1)):=λh=>by unfold recR;rw[h];rfl
 have HYE:Hid (lg.ok r d.size s=true→recR r d s=recs d):=λh=>by unfold recR;rw[if_pos h]
 have hbl:=hsm.1;clear hE hr hs hsm;unfold EV;unfold LV at HRC;go_enter Tryz.func12,Tryz.ntmps12
 go_wp2_with fail
 generalize w.alloc _=w0 at L0 b0 c0 c1 c2 ⊢;refine(HRC.out w0 b0).mono ?_;rintro e w1 ⟨⟨v',rfl,hO⟩,hb1⟩;have L1:=L0.keep hb1;have HB1:=hD (b0.trans (hb1.mono b0.size));have hTX:=ky.own_texts hO;clear HRC c0 c1 c2 hb1 b0 hO L0;have c2:=L1.c2;have c3:=L1.c3;have HL1:=hD L1;clear L1
 cases hk:lg.ok r d.size s with
 | false =>
  rw[HOK.out hk] at hTX ⊢;obtain⟨va,vc,rfl,_⟩:=hTX;have HR:Hid (Ek r d s bs false):=ek_no λh=>by have:=h.1;rw[hk] at this;cases this
  clear hk;simp only;go_wp2;go_ret;exact⟨⟨false,rfl,HR.out⟩,HB1.out⟩
 | true =>
  have hRe:=HYE.out hk;have HSM':=HSM.out;have HLN':=HLN.out;rw[hRe] at HSM' HLN' hTX ⊢;have HRP:=rp.replayed_any v' (recs d).1 w1 hTX HLN' HSM';have HZ:Hid ((recs d).2.2=0→(recs d).2.1=d.size):=recs_zero;have HCN:Hid (Cn r d s bs↔s=((d.size:Nat):Int)∧(recs d).2.2=0∧∃zs,rp.Rp (recs d).1 [] (zs,true)∧sok bs=true∧sm.zat zs bs=true):=⟨λh=>h.2,λh=>⟨hk,h⟩⟩
  clear hk hRe HSM' HSM HLN HOK HYE;obtain⟨va,vc,rfl,_⟩:=hTX;generalize(recs d).2.2=cd at HZ HCN ⊢;generalize(recs d).2.1=sz at HZ ⊢;generalize(recs d).1=ts at HRP HLN' HCN ⊢;have HRP':Hid (Calls Tryz.prog 21 #[.slice va ts.length vc] w1 λe w'=>(∃L ys us b,e=.returned (.tuple #[L,.bool b])∧rp.Rp ts [] (ys,b)∧OwnL w' w1.heap.size L ys us∧zac ys∧sok ys=true)∧Below w1.heap.size w1 w'):=HRP;clear HRP;by_cases hc0:cd=0
  rotate_left
  ·have h0:((cd:Int) != 0)=true:=by rw[bne_iff_ne];omega
   have HR:=hD (ek_no λh=>hc0 (HCN.out.1 h).2.1);clear hc0 HCN HZ HRP';go_wp2;go_ret;exact⟨⟨false,rfl,HR.out⟩,HB1.out⟩
  have hsz:=HZ.out hc0;subst hc0 hsz;by_cases hS:s=((d.size:Nat):Int)
  rotate_left
  ·have h0:((s:Int) != ((d.size:Nat):Int))=true:=by rw[bne_iff_ne];exact hS
   have HR:=hD (ek_no λh=>hS (HCN.out.1 h).1);clear hS HCN HZ HRP';go_wp2;go_ret;exact⟨⟨false,rfl,HR.out⟩,HB1.out⟩
  have h0:((s:Int) != ((d.size:Nat):Int))=false:=by rw[bne_eq_false_iff_eq];exact hS
  have HC2:Hid (Cn r d s bs↔∃zs,rp.Rp ts [] (zs,true)∧sok bs=true∧sm.zat zs bs=true):=⟨λh=>(HCN.out.1 h).2.2,λh=>HCN.out.2 ⟨hS,rfl,h⟩⟩
  clear hS HCN HZ
  go_wp2_with fail
  refine HRP'.out.mono ?_;rintro e w2 ⟨⟨L,ys,us,bo,rfl,hR,hOL,hsy,hso⟩,hb2⟩;obtain⟨La,Ln,Lc,rfl⟩:=zak (zaj hOL.1);have HO2:Hid (zaa w2 (.slice La Ln Lc) ys us∧zac ys):=⟨zbi hOL,hsy⟩
  have HB2:=hD (HB1.out.trans (hb2.mono HB1.out.size));have d3:=(HL1.out.keep hb2).c3;have HSA:Hid (sm.ssa ys bs=true↔sok bs=true∧sm.zat ys bs=true):=by
   have hy:=hso;show(decide (ys.length≤4096∧bs.length≤4096)&&sok ys&&sok bs&&sm.zat ys bs)=true↔_;rw[hy];constructor
   ·intro h;simp only[Bool.and_eq_true] at h;exact⟨h.1.2,h.2⟩
   ·rintro⟨h1,h2⟩;have l1:=(sok_of hy).1;have l2:=(sok_of h1).1;rw[h1,h2,decide_eq_true (by omega:ys.length≤4096∧bs.length≤4096)];rfl
  have HRR:=hD hR;clear HRP' hOL hsy hb2 hR hso c2 c3
  go_wp2_with fail
  refine(sm.impl_ss _ _ ys bs us vs w2 HO2.out.1 (zap HBS.out.1 HB2.out) HO2.out.2 HBS.out.2).mono ?_;rintro e w3 ⟨rfl,hb3⟩;have HB3:=hD (HB2.out.trans (hb3.mono HB2.out.size));generalize sm.ssa ys bs=A at HSA ⊢;generalize sm.ssb ys bs=B;clear hb3 d3
  cases bo with
  | false =>
   have HR:Hid (Ek r d s bs false):=ek_no λh=>by
    obtain⟨zs,hz,_⟩:=HC2.out.1 h;have:=rp.rp_one rp.za3 HRR.out hz;cases this
   go_wp2;go_ret;exact⟨⟨false,rfl,HR.out⟩,HB3.out⟩
  | true =>
   have HR:Hid (Ek r d s bs A):=by
    refine⟨λh=>HC2.out.2 ⟨ys,HRR.out,HSA.out.1 h⟩,λh=>?_⟩;obtain⟨zs,hz,h1⟩:=HC2.out.1 h;have:=rp.rp_one rp.za3 HRR.out hz;cases this;exact HSA.out.2 h1
   go_wp2;go_ret;exact⟨⟨A,rfl,HR.out⟩,HB3.out⟩
theorem specEk_any(r:Int)(d:ByteArray)(s:Int)(v:Value)(bs:List Bx)(vs:Nat→Value×Value)(w:World)(hr:lg.In r)(hd:d.size≤1048576)(hs:lg.In s)(hB:zaa w v bs vs)(hsm:zac bs)(hcv:∀a n c,v=.slice a n c→n≤c)(hcu:∀j,j<bs.length→∀a n c,(vs j).2=.slice a n c→n≤c) :
  Calls Tryz.prog 37 #[EV r d s v] w λe w'=>Er r d s bs e∧Below w.heap.size w w':=by
 have HBS:Hid (zaa w v bs vs∧zac bs∧(∀a n c,v=.slice a n c→n≤c)∧∀j,j<bs.length→∀a n c,(vs j).2=.slice a n c→n≤c):=⟨hB,hsm,hcv,hcu⟩
 obtain⟨⟨a,cap,rfl,_⟩,_⟩:=hB;have L0:=zbg w 27 r d s (.slice a bs.length cap);have b0:=new_below w 27 #[.int .i64 r,.string d,.int .i64 s,.slice a bs.length cap];have HOK:Hid (∀W,Calls Tryz.prog 66 #[LV r d s] W λe w'=>e=.returned (.bool (lg.ok r d.size s))∧Below W.heap.size W w'):=λW=>lg.spec_ok r d s W hr (Nat.le_trans hd (by unfold maxLen;omega)) hs
 have c0:=L0.c0;have c1:=L0.c1;have c2:=L0.c2;have hbl:=hsm.1;clear hr hs hsm hcv hcu;unfold EV;unfold LV at HOK;go_enter Tryz.func37,Tryz.ntmps37
 go_wp2_with fail
 generalize w.alloc _=w0 at L0 b0 c0 c1 c2 ⊢;refine(HOK.out w0).mono ?_;rintro e w1 ⟨rfl,hb1⟩;have HB1:Hid (Below w.heap.size w w1):=b0.trans (hb1.mono b0.size);have HL1:Hid (zae w1 w.heap.size 27 r d s (.slice a bs.length cap)):=L0.keep hb1;clear HOK c0 c1 c2 b0 hb1 L0;have c1:=HL1.out.c1;have c2:=HL1.out.c2;have c3:=HL1.out.c3
 cases hk:lg.ok r d.size s with
 | false =>
  have HR:Hid (Ek r d s bs false):=ek_no λh=>by have:=h.1;rw[hk] at this;cases this
  clear hk;go_wp2;go_ret;exact⟨⟨false,rfl,HR.out⟩,HB1.out⟩
 | true =>
  by_cases hS:s=((d.size:Nat):Int)
  rotate_left
  ·have h0:((s:Int) != ((d.size:Nat):Int))=true:=by rw[bne_iff_ne];exact hS
   have HR:Hid (Ek r d s bs false):=ek_no λh=>hS h.2.1
   clear hS hk;go_wp2;go_ret;exact⟨⟨false,rfl,HR.out⟩,HB1.out⟩
  have h0:((s:Int) != ((d.size:Nat):Int))=false:=by rw[bne_eq_false_iff_eq];exact hS
  have HKS:Hid (lg.ok r d.size s=true∧s=((d.size:Nat):Int)):=⟨hk,hS⟩
  clear hk hS
  go_wp2_with fail
  refine(spec_sok _ bs vs w1 (zap HBS.out.1 HB1.out) HBS.out.2.1 HBS.out.2.2.1 HBS.out.2.2.2).mono ?_;rintro e w2 ⟨rfl,hb2⟩;have HB2:Hid (Below w.heap.size w w2):=HB1.out.trans (hb2.mono HB1.out.size);have HL2:Hid (zae w2 w.heap.size 27 r d s (.slice a bs.length cap)):=HL1.out.keep hb2;clear c1 c2 c3 hb2 HL1;have c1:=HL2.out.c1
  cases hso:sok bs with
  | false =>
   have HR:Hid (Ek r d s bs false):=ek_no λh=>by
    obtain⟨zs,_,h1,_⟩:=h.2.2.2;rw[hso] at h1;cases h1
   clear hso;go_wp2;go_ret;exact⟨⟨false,rfl,HR.out⟩,HB2.out⟩
  | true =>
   have HSO:Hid (sok bs=true):=hso;clear hso
   go_wp2_with fail
   refine(lg.zdr d w2 hd).mono ?_;rintro e w3 ⟨⟨v',rfl,hOT⟩,hb3⟩;have hTX:=ky.own_texts hOT;obtain⟨va,vc,rfl,_⟩:=hTX;have HB3:Hid (Below w.heap.size w w3):=HB2.out.trans (hb3.mono HB2.out.size);have HL3:Hid (zae w3 w.heap.size 27 r d s (.slice a bs.length cap)):=HL2.out.keep hb3;have HZ:Hid ((recs d).2.2=0→(recs d).2.1=d.size):=recs_zero;have HCD:Hid (Cn r d s bs→(recs d).2.2=0):=λh=>h.2.2.1
   have HRR:Hid ((recs d).2.2=0→∀ys n cc,rp.Rr d ys n cc→(cc=0∧(Cn r d s bs↔sm.zat ys bs=true))∨(cc≠0∧¬Cn r d s bs)):=λhc ys n cc h=>by
    obtain⟨zs,b,hR,h⟩:=h
    rcases h with⟨rfl,_,_,rfl⟩|⟨_,h8,_⟩|⟨rfl,_,rfl,_,rfl⟩
    ·refine .inr ⟨by decide,λhn=>?_⟩;obtain⟨zs',hz,_⟩:=hn.2.2.2;cases rp.rp_one rp.za3 hR hz
    ·rw[hc] at h8;cases h8
    ·refine .inl ⟨rfl,λhn=>?_,λh=>⟨HKS.out.1,HKS.out.2,hc,_,hR,HSO.out,h⟩⟩;obtain⟨zs',hz,_,h1⟩:=hn.2.2.2;cases rp.rp_one rp.za3 hR hz;exact h1
   generalize(recs d).2.2=cd at HZ HCD HRR ⊢;generalize(recs d).2.1=sz at HZ ⊢;generalize(recs d).1.length=tl;clear hOT hb3 c1 HL2;have c1:=HL3.out.c1;by_cases hc0:cd=0
   rotate_left
   ·have h0:((cd:Int) != 0)=true:=by rw[bne_iff_ne];omega
    have HR:Hid (Ek r d s bs false):=ek_no λh=>hc0 (HCD.out h)
    clear hc0 HZ HCD HRR;go_wp2;go_ret;exact⟨⟨false,rfl,HR.out⟩,HB3.out⟩
   have hsz:=HZ.out hc0;have HR2:Hid (∀ys n cc,rp.Rr d ys n cc→(cc=0∧(Cn r d s bs↔sm.zat ys bs=true))∨(cc≠0∧¬Cn r d s bs)):=HRR.out hc0;clear HZ HCD HRR;subst hc0 hsz
   go_wp2_with fail
   refine(rp.specRp_any d w3 hd).mono ?_;rintro e w4 ⟨⟨L,ys,us,n,cc,rfl,hR,hLB,hF,hsy,hsoy⟩,hb4⟩;have HY:Hid (zaa w4 L ys us∧zac ys):=⟨hLB,hsy⟩
   obtain⟨⟨La,Lc,rfl,_⟩,_⟩:=hLB;have HB4:Hid (Below w.heap.size w w4):=HB3.out.trans (hb4.mono HB3.out.size);have c3:=(HL3.out.keep hb4).c3;have hyl:=hsy.1;have hX:=HR2.out _ _ _ hR;clear hF hsy hsoy hb4 hR HR2 c1
   rcases hX with⟨rfl,hX⟩|⟨hn0,hX⟩
   ·have HX:Hid (Cn r d s bs↔sm.zat ys bs=true):=hX;clear hX
    go_wp2_with fail
    refine(sm.l09Same_any _ _ ys bs us vs w4 HY.out.1 (zap HBS.out.1 HB4.out) HY.out.2 HBS.out.2.1).mono ?_;rintro e w5 ⟨rfl,hb5⟩;have HB5:Hid (Below w.heap.size w w5):=HB4.out.trans (hb5.mono HB4.out.size);have HR:Hid (Ek r d s bs (sm.zat ys bs)):=HX.out.symm;generalize sm.zat ys bs=A at HR ⊢;clear hb5 c3;go_wp2;go_ret;exact⟨⟨A,rfl,HR.out⟩,HB5.out⟩
   ·have h0:((cc:Int) == 0)=false:=by rw[beq_eq_false_iff_ne];exact hn0
    have HR:Hid (Ek r d s bs false):=ek_no hX;clear hX hn0;go_wp2;go_ret;exact⟨⟨false,rfl,HR.out⟩,HB4.out⟩
end eg
end Go.Proofs.YtmnflpmfngjllaaGreatDoor
