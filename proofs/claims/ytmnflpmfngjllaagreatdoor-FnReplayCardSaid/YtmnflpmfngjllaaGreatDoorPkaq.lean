/-
  FnReplayCardSaid
-/
import Derived.Test.YtmnflpmfngjllaaGreatDoorPkap
set_option maxHeartbeats 16000000
set_option maxRecDepth 100000
set_option linter.unusedVariables false
namespace Go.Proofs.YtmnflpmfngjllaaGreatDoor
namespace sa
open Go.ChangeShapes Go.WideShapes Go.ChangeAt Go.RowKit Go.Deep Go.Joins
open st gr bx mx bl wi
def Ls(R:List Bx→Int→Prop)(e:Ending)(w':World):Prop :=
 ∃(L':Value) (ys:List Bx) (us:Nat→Value×Value) (c:Int),e=.returned (.tuple #[L',.int .i64 c])∧R ys c∧zaa w' L' ys us∧zal ys us
theorem apply_none(v:Value)(xs:List Bx)(vs:Nat→Value×Value)(m:mu.Mu)(iv:Value)(w:World)(h:zaa w v xs vs)(hf:zal xs vs)(hs:bx.zac xs)(hiv:∃a n c,iv=.slice a n c)(hp:Plc xs m.b (-1))(hmk:m.k≠1) :
  Calls Tryz.prog 39 #[v,mu.MV m iv] w λe w'=>Ls (λys c=>ys=xs∧c=5) e w'∧Below w.heap.size w w':=by
 have HA:=hD h;have HF:=hD hf;obtain⟨ia,inn,ic,rfl⟩:=hiv;obtain⟨⟨a,cap,rfl,hd2⟩,hd3⟩:=h;clear hd2 hd3;obtain⟨W,hW⟩:∃W,W=w.alloc (.cells #[.int .i64 m.k,.int .i64 m.u,.int .i64 m.m,.int .i64 m.f,.string m.b,.slice ia inn ic] 35):=⟨_,rfl⟩
 have b1:Below w.heap.size w W:=by rw[hW];exact bx.new_below w _ _
 have k1:mu.Lies W w.heap.size 35 m (.slice ia inn ic):=by rw[hW];exact mu.zan _ _ _ _
 have HAW:=hD (zap HA.out b1);have HFI:=hD (zb3 W.heap.size _ xs vs m.b W HAW.out.1 hs.1 hp);have HZ:Hid (zaa W (.slice a xs.length cap) xs vs∧Below w.heap.size w W):=⟨HAW.out,b1⟩
 have d0:=k1.c0;have d4:=k1.c4;have hk:(m.k == 1)=false:=by simpa using hmk
 unfold mu.MV;clear b1 k1 hs HA HAW hp hmk;go_enter Tryz.func39,Tryz.ntmps39
 go_wp2_with (rw[←hW])
 clear hW;refine HFI.out.mono ?_;rintro e w' ⟨rfl,hw'⟩;have hw':=hw'.symm;subst hw';clear HFI;go_wp2;go_ret2;exact⟨⟨_,xs,vs,5,rfl,⟨rfl,rfl⟩,HZ.out.1,HF.out⟩,HZ.out.2⟩
theorem apply_twice(v:Value)(xs:List Bx)(vs:Nat→Value×Value)(m:mu.Mu)(iv:Value)(w:World)(h:zaa w v xs vs)(hf:zal xs vs)(hs:bx.zac xs)(hiv:∃a n c,iv=.slice a n c)(r:Int)(hr:0≤r)(hp:Plc xs m.b r)(hmk:m.k=1) :
  Calls Tryz.prog 39 #[v,mu.MV m iv] w λe w'=>Ls (λys c=>ys=xs∧c=9) e w'∧Below w.heap.size w w':=by
 have HA:=hD h;have HF:=hD hf;obtain⟨ia,inn,ic,rfl⟩:=hiv;obtain⟨⟨a,cap,rfl,hd2⟩,hd3⟩:=h;clear hd2 hd3;obtain⟨W,hW⟩:∃W,W=w.alloc (.cells #[.int .i64 1,.int .i64 m.u,.int .i64 m.m,.int .i64 m.f,.string m.b,.slice ia inn ic] 35):=⟨_,rfl⟩
 have b1:Below w.heap.size w W:=by rw[hW];exact bx.new_below w _ _
 have k1:mu.Lies W w.heap.size 35 m (.slice ia inn ic):=by rw[hW,←hmk];exact mu.zan _ _ _ _
 have HAW:=hD (zap HA.out b1);have HFI:=hD (zb3 W.heap.size _ xs vs m.b W HAW.out.1 hs.1 hp);have HZ:Hid (zaa W (.slice a xs.length cap) xs vs∧Below w.heap.size w W):=⟨HAW.out,b1⟩
 have d0:W.cell? ⟨w.heap.size,0,none⟩=some (.int .i64 1):=by rw[←hmk];exact k1.c0
 have d4:=k1.c4;have hk:¬r<0:=by omega
 unfold mu.MV;rw[hmk];clear b1 k1 hs HA HAW hp hmk;go_enter Tryz.func39,Tryz.ntmps39
 go_wp2_with (rw[←hW])
 clear hW;refine HFI.out.mono ?_;rintro e w' ⟨rfl,hw'⟩;have hw':=hw'.symm;subst hw';clear HFI;go_wp2;go_ret2;exact⟨⟨_,xs,vs,9,rfl,⟨rfl,rfl⟩,HZ.out.1,HF.out⟩,HZ.out.2⟩
end sa
namespace sa
open Go.ChangeShapes Go.WideShapes Go.ChangeAt Go.RowKit Go.Deep Go.Joins
open st gr bx mx bl wi
theorem apply_full(v:Value)(xs:List Bx)(vs:Nat→Value×Value)(m:mu.Mu)(iv:Value)(w:World)(h:zaa w v xs vs)(hf:zal xs vs)(hs:bx.zac xs)(hiv:∃a n c,iv=.slice a n c)(hp:Plc xs m.b (-1))(hx:xs.length=4)(hmk:m.k=1) :
  Calls Tryz.prog 39 #[v,mu.MV m iv] w λe w'=>Ls (λys c=>ys=xs∧c=7) e w'∧Below w.heap.size w w':=by
 have HA:=hD h;have HF:=hD hf;obtain⟨ia,inn,ic,rfl⟩:=hiv;obtain⟨⟨a,cap,rfl,hd2⟩,hd3⟩:=h;clear hd2 hd3;obtain⟨W,hW⟩:∃W,W=w.alloc (.cells #[.int .i64 1,.int .i64 m.u,.int .i64 m.m,.int .i64 m.f,.string m.b,.slice ia inn ic] 35):=⟨_,rfl⟩
 have b1:Below w.heap.size w W:=by rw[hW];exact bx.new_below w _ _
 have k1:mu.Lies W w.heap.size 35 m (.slice ia inn ic):=by rw[hW,←hmk];exact mu.zan _ _ _ _
 have HAW:=hD (zap HA.out b1);have HFI:=hD (zb3 W.heap.size _ xs vs m.b W HAW.out.1 hs.1 hp);have HZ:Hid (zaa W (.slice a xs.length cap) xs vs∧Below w.heap.size w W):=⟨HAW.out,b1⟩
 have d0:W.cell? ⟨w.heap.size,0,none⟩=some (.int .i64 1):=by rw[←hmk];exact k1.c0
 have d4:=k1.c4;have hx4:((xs.length:Int) == 4)=true:=beq_iff_eq.2 (by omega);unfold mu.MV;rw[hmk];clear b1 k1 hs HA HAW hp hmk hx;go_enter Tryz.func39,Tryz.ntmps39
 go_wp2_with (rw[←hW])
 clear hW;refine HFI.out.mono ?_;rintro e w' ⟨rfl,hw'⟩;have hw':=hw'.symm;subst hw';clear HFI
 go_wp2_with fail
 go_ret2;exact⟨⟨_,xs,vs,7,rfl,⟨rfl,rfl⟩,HZ.out.1,HF.out⟩,HZ.out.2⟩
end sa
namespace bx
open Go.RowKit
open st
theorem spec_mail(x:Bx)(v u:Value)(z:Int)(w:World)(h:zaE w v u x.ms x.ks)(hl:x.ms.length≤30) :
  Calls Tryz.prog 75 #[BV x v u,.int .i64 z] w λe w'=>(∃i:Int,e=.returned (.int .i64 i)∧((∃k:Nat,i=k∧k<x.ms.length∧(x.ms.getD k noS).u=z)∨(i=-1∧∀k,k<x.ms.length→(x.ms.getD k noS).u≠z)))∧Below w.heap.size w w':=by
 have L0:=zan w 65 x v u;have b0:=new_below w 65 #[.string x.nm,.int .i64 x.vd,.int .i64 x.nx,v,u];have HA:=zaT h b0;obtain⟨⟨a,cap,rfl,_⟩,⟨a1,cap1,rfl,_⟩⟩:=h;obtain⟨nm,vd,nx,ms,ks⟩:=x;unfold BV;simp only at L0 b0 HA hl ⊢;obtain⟨n,hn⟩:∃n,n=ms.length:=⟨_,rfl⟩
 have HN:=hD hn;rw[←hn] at L0 b0 HA hl ⊢;clear hn;go_enter Tryz.func75,Tryz.ntmps75;go_wp2;have HB0:=hD b0;clear b0;generalize w.alloc _=w0 at L0 HB0 HA ⊢;have HA:=hD HA;have c3:=L0.c3;clear L0
 go_loopw [5] (λi wr=>∃(k:Nat),k≤n∧i=.int .i64 k∧(∀j,j<k→(ms.getD j noS).u≠z)∧wr=w0) (λi _=>n-(intOf i).toNat)
 case atStart=>exact⟨0,Nat.zero_le _,rfl,λj hj=>absurd hj (Nat.not_lt_zero _),rfl⟩
 case round =>
  obtain⟨k,hk,rfl,hal,rfl⟩:=hrel;have HAL:=hD hal;clear hal;by_cases hlt:k<n
  ·have hka:k<ms.length:=by rw[←HN.out];exact hlt
   obtain⟨b,off,ha,hat⟩:∃b off,a=some ⟨b,off,none⟩∧At3 wr b (off+k*3) (ms.getD k noS):=by
    obtain⟨a',cap',e,hh⟩:=HA.out.1;cases e
    rcases hh with e|⟨b,off,e,hb,hc⟩
    ·rw[e] at hka;simp at hka
    ·exact⟨b,off,e,hc k hka⟩
   subst ha;generalize hx:ms.getD k noS=x at hat;have HX:=hD hx;clear hx;obtain⟨uu,f,t⟩:=x;obtain⟨d0,d1,d2⟩:=hat;simp only at d0 d1 d2;have HKA:=hD hka;clear hka;by_cases hc:uu=z
   ·have hc':(uu == z)=true:=by simp[hc]
    have HE:Hid ((ms.getD k noS).u=z):=by rw[HX.out];exact hc
    clear hc;go_wp2;go_ret;exact⟨⟨k,rfl,.inl ⟨k,rfl,by have:=HN.out;omega,HE.out⟩⟩,HB0.out⟩
   ·have hc':(uu == z)=false:=by simp[hc]
    have HE:Hid (∀j,j<k+1→(ms.getD j noS).u≠z):=λj hj=>by
     by_cases e:j=k
     ·rw[e,HX.out];exact hc
     ·exact HAL.out j (by omega)
    clear hc;go_wp2
    go_roundw
    case rel=>exact⟨k+1,by omega,by go_num,HE.out,by trivial⟩
    case measure=>simp[intOf];omega
  ·go_wp2;go_ret;exact⟨⟨-1,rfl,.inr ⟨rfl,λj hj=>HAL.out j (by omega)⟩⟩,HB0.out⟩
end bx
end Go.Proofs.YtmnflpmfngjllaaGreatDoor
