/-
  FnReplayCardSaid
-/
import Derived.Test.YtmnflpmfngjllaaGreatDoorPkab
set_option maxHeartbeats 16000000
set_option maxRecDepth 100000
set_option linter.unusedVariables false
namespace Go.Proofs.YtmnflpmfngjllaaGreatDoor
namespace mu
open Go.RowKit
open it
def dGood(s:ByteArray)(j:Nat):Decidable (nm.good s j) :=
 if h:j<s.size then decidable_of_iff (nm.letB ((s[j]'h).toNat:Int)=true∨(0<j∧nm.digB ((s[j]'h).toNat:Int)=true)) ⟨λx=>⟨h,x⟩,λ⟨_,x⟩=>x⟩ else isFalse (λ⟨h',_⟩=>h h')
def dAllGood(s:ByteArray):Decidable (∀j,j<s.size→nm.good s j):=@Nat.decidableBallLT s.size (λj _=>nm.good s j) (λj _=>dGood s j)
def dName(s:ByteArray):Decidable (nm.za9 s):=@instDecidableAnd _ _ _ (@instDecidableAnd _ _ _ (dAllGood s))
def nmB(s:ByteArray):Bool:=@decide (nm.za9 s) (dName s)
theorem nm_of{s:ByteArray}{e:Ending}(h:nm.zb1 s e):e=.returned (.bool (nmB s)):=by
 obtain⟨b,rfl,h⟩:=h;have:b=nmB s:=by
  unfold nmB;cases b
  ·exact(ow.df (λx=>by have:=h.2 x;cases this)).symm
  ·exact(ow.dt (h.1 rfl)).symm
 rw[this]
theorem impl_name(s:ByteArray)(w:World)(hs:s.size≤1048576):Calls Tryz.prog 31 #[.string s] w λe w'=>e=.returned (.bool (nmB s))∧w'=w :=
 (nm.implName_any s w hs).mono λe w' ⟨h,h2⟩=>⟨nm_of h,h2⟩
theorem spec_name(s:ByteArray)(w:World)(hs:s.size≤1048576):Calls Tryz.prog 71 #[.string s] w λe w'=>e=.returned (.bool (nmB s))∧w'=w :=
 (nm.specName_any s w hs).mono λe w' ⟨h,h2⟩=>⟨nm_of h,h2⟩
def kOK(n:Nat):Bool:=decide (1≤n∧n≤200)
def fOK(f:Int):Bool:=decide (0≤f∧f≤31)
def iOK(p:Pr):Bool:=decide ((1≤p.1.size∧p.1.size≤200)∧p.2.size≤4000)
def AllTo(ps:List Pr)(k:Nat):Prop:=∀j,j<k→iOK (ps.getD j no)=true
def dAll(ps:List Pr)(k:Nat):Decidable (AllTo ps k):=inferInstanceAs (Decidable (∀j,j<k→iOK (ps.getD j no)=true))
def zaZ(ps:List Pr):Bool:=@decide (ps.length≤20∧AllTo ps ps.length) (@instDecidableAnd _ _ _ (dAll ps ps.length))
theorem its_no{ps:List Pr}(h:¬(ps.length≤20∧AllTo ps ps.length)):zaZ ps=false:=ow.df h
theorem its_yes{ps:List Pr}(h:ps.length≤20)(h2:AllTo ps ps.length):zaZ ps=true:=ow.dt ⟨h,h2⟩
theorem its_of{ps:List Pr}(h:zaZ ps=true):ps.length≤20∧AllTo ps ps.length:=ow.dof h
theorem all_step{ps:List Pr}{k:Nat}(h:AllTo ps k){a b:ByteArray}(ha:(ps.getD k no).1=a)(hb:(ps.getD k no).2=b)(hi:iOK (a,b)=true):AllTo ps (k+1):=by
 intro j hj;by_cases e:j=k
 ·subst e;have:ps.getD j no=(a,b):=by rw[←ha,←hb]
  rw[this];exact hi
 ·exact h j (by omega)
theorem all_bad{ps:List Pr}{k:Nat}(hk:k<ps.length){a b:ByteArray}(ha:(ps.getD k no).1=a)(hb:(ps.getD k no).2=b)(hi:iOK (a,b)=false):zaZ ps=false:=by
 refine its_no λx=>?_
 have h:=x.2 k hk;have:ps.getD k no=(a,b):=by rw[←ha,←hb]
 rw[this,hi] at h;cases h
def zbb(k u m f:Int)(n:Nat):Bool:=decide ((k=1∨k=4)∧u=0∧m=0∧f=0∧n=0∨k=2∧u=0∧m=0∧f=0∧0<n∨k=3∧n=0∧1≤u∧u≤1000∧1≤m∧m≤3∧0≤f∧f≤31)
def mok(x:Mu):Bool:=nmB x.b&&zaZ x.ps&&zbb x.k x.u x.m x.f x.ps.length
theorem zab{a b:Bool}(h:a=b):Ending.returned (.bool a)=.returned (.bool b):=by rw[h]
theorem mok_name{x:Mu}(h:nmB x.b=false):mok x=false:=by simp[mok,h]
theorem mok_its{x:Mu}(h:zaZ x.ps=false):mok x=false:=by simp[mok,h]
theorem zcH{x:Mu}(h:nmB x.b=true)(h2:zaZ x.ps=true):mok x=zbb x.k x.u x.m x.f x.ps.length:=by simp[mok,h,h2]
theorem zc6(s:ByteArray)(w:World):Calls Tryz.prog 60 #[.string s] w λe w'=>e=.returned (.bool (kOK s.size))∧w'=w:=by
 go_enter Tryz.func60,Tryz.ntmps60;go_wp2
 all_goals (go_ret;exact⟨zab (by rw[Bool.eq_iff_iff];simp[kOK];omega),rfl⟩)
theorem areFlags_any(f:Int)(w:World):Calls Tryz.prog 34 #[.int .i64 f] w λe w'=>e=.returned (.bool (fOK f))∧w'=w:=by
 go_enter Tryz.func34,Tryz.ntmps34;go_wp2
 all_goals (go_ret;exact⟨zab (by rw[Bool.eq_iff_iff];simp[fOK];omega),rfl⟩)
theorem zbw(n a b:Int)(w:World):Calls Tryz.prog 72 #[.int .i64 n,.int .i64 a,.int .i64 b] w λe w'=>e=.returned (.bool (decide (a≤n∧n≤b)))∧w'=w:=by
 go_enter Tryz.func72,Tryz.ntmps72;go_wp2
 all_goals (go_ret;exact⟨zab (by rw[Bool.eq_iff_iff];simp;try omega),rfl⟩)
theorem areItems_any(v:Value)(ps:List Pr)(w:World)(h:zav w v ps)(hs:it.Small ps) :
  Calls Tryz.prog 32 #[v] w λe w'=>e=.returned (.bool (zaZ ps))∧Below w.heap.size w w':=by
 obtain⟨a,cap,rfl,h⟩:=h;obtain⟨n,hn⟩:∃n,n=ps.length:=⟨_,rfl⟩
 have HN:=hD hn;have HH:=hD h;have HS:=hD hs;have hl:n≤1048576:=by rw[hn];exact hs.1
 rw[←hn];clear h hs hn;by_cases g0:20<n
 ·have g0':(20:Int)<(n:Int):=by omega
  rw[its_no (by have:=HN.out;omega)];go_enter Tryz.func32,Tryz.ntmps32;go_wp2;go_ret;exact⟨rfl,Below.refl _ _⟩
 have g0':(n:Int)≤20:=by omega
 go_enter Tryz.func32,Tryz.ntmps32;go_wp2
 go_loopw [10] (λi wr=>∃(k:Nat),k≤n∧i=.int .i64 k∧AllTo ps k∧Below w.heap.size w wr) (λi _=>n-(intOf i).toNat)
 case atStart=>exact⟨0,Nat.zero_le _,rfl,λj hj=>absurd hj (Nat.not_lt_zero _),Below.refl _ _⟩
 case round =>
  obtain⟨k,hk,rfl,hal,hbw⟩:=hrel;have HAL:=hD hal;clear hal;by_cases hlt:k<n
  ·have hka:k<ps.length:=by rw[←HN.out];exact hlt
   rcases HH.out with e|⟨b,off,rfl,hcells⟩
   ·rw[e] at hka;simp at hka
   obtain⟨v0,v1⟩:=hcells k hka;obtain⟨s0,s1⟩:=HS.out.2 k hka;have hblt:b<w.heap.size:=World.block_lt_of_cell? w _ v0;have c0:=(hbw.cell (p:=⟨b,off+k*2,none⟩) hblt).trans v0;have c1:=(hbw.cell (p:=⟨b,off+k*2+1,none⟩) hblt).trans v1;clear hcells v0 v1;generalize hn1:(ps.getD k no).1=nm at c0 s0;generalize hv1:(ps.getD k no).2=vl at c1 s1;have HN1:=hD hn1;have HV1:=hD hv1;have HKA:=hD hka;clear hn1 hv1 hka;have hlt':(k:Int)<(n:Int):=by omega
   have hb2:Below w.heap.size w (wr.alloc (.cells #[.string nm,.string vl] 103)):=hbw.alloc hbw.size _;by_cases q0:1≤nm.size∧nm.size≤200
   ·have e0:kOK nm.size=true:=decide_eq_true q0;by_cases q1:vl.size≤4000
    ·have q1':(vl.size:Int)≤4000:=by omega
     go_wp2_with (go_at_call 60;refine(zc6 _ _).mono ?_;rintro e w' ⟨rfl,rfl⟩;rw[e0])
     go_roundw
     case rel=>exact⟨k+1,by omega,by go_num,all_step HAL.out HN1.out HV1.out (decide_eq_true ⟨q0,q1⟩),hb2⟩
     case measure=>simp[intOf];omega
    ·have q1':(4000:Int)<(vl.size:Int):=by omega
     have HR:=hD (all_bad HKA.out HN1.out HV1.out (decide_eq_false λx=>q1 x.2))
     go_wp2_with (go_at_call 60;refine(zc6 _ _).mono ?_;rintro e w' ⟨rfl,rfl⟩;rw[e0])
     go_ret;exact⟨zab HR.out.symm,hb2⟩
   ·have e0:kOK nm.size=false:=decide_eq_false q0;have HR:=hD (all_bad HKA.out HN1.out HV1.out (decide_eq_false λx=>q0 x.1))
    go_wp2_with (go_at_call 60;refine(zc6 _ _).mono ?_;rintro e w' ⟨rfl,rfl⟩;rw[e0])
    go_ret;exact⟨zab HR.out.symm,hb2⟩
  ·have HR:Hid (zaZ ps=true):=its_yes (by have:=HN.out;omega) (λj hj=>HAL.out j (by have:=HN.out;omega));go_wp2;go_ret;exact⟨zab HR.out.symm,hbw⟩
end mu
namespace bx
open Go.RowKit
open st
def mOK(nx prev:Int)(e:St):Prop:=prev<e.u∧e.u<nx∧(0≤e.f∧e.f≤31)∧e.t.size≤4000
def last(ms:List St)(k:Nat):Int:=if k=0 then 0 else(ms.getD (k-1) noS).u
def zaz(ms:List St)(nx:Int)(k:Nat):Prop:=∀j,j<k→mOK nx (last ms j) (ms.getD j noS)
theorem zc9(ms:List St)(k:Nat):last ms (k+1)=(ms.getD k noS).u:=by simp[last]
theorem last_pos{ms:List St}{nx:Int}:∀{k:Nat},zaz ms nx k→0≤last ms k
 | 0,_=>by simp[last]
 | k+1,h=>by
  rw[zc9];have h1:=last_pos (k:=k) (λj hj=>h j (by omega));have h2:=(h k (by omega)).1;omega
theorem mgood_step{ms:List St}{nx:Int}{k:Nat}(h:zaz ms nx k){x:St}(hx:ms.getD k noS=x)(hm:mOK nx (last ms k) x):zaz ms nx (k+1):=by
 intro j hj;by_cases e:j=k
 ·subst e;rw[hx];exact hm
 ·exact h j (by omega)
def dMail(ms:List St)(nx:Int)(k:Nat):Decidable (zaz ms nx k):=inferInstanceAs (Decidable (∀j,j<k→last ms j<(ms.getD j noS).u∧(ms.getD j noS).u<nx∧(0≤(ms.getD j noS).f∧(ms.getD j noS).f≤31)∧(ms.getD j noS).t.size≤4000))
def zaR(ms:List St)(nx:Int):Bool:=@decide (ms.length≤30∧zaz ms nx ms.length) (@instDecidableAnd _ _ _ (dMail ms nx ms.length))
theorem mails_no{ms:List St}{nx:Int}(h:¬(ms.length≤30∧zaz ms nx ms.length)):zaR ms nx=false:=ow.df h
theorem mails_yes{ms:List St}{nx:Int}(h:ms.length≤30)(h2:zaz ms nx ms.length):zaR ms nx=true:=ow.dt ⟨h,h2⟩
theorem mails_of{ms:List St}{nx:Int}(h:zaR ms nx=true):ms.length≤30∧zaz ms nx ms.length:=ow.dof h
theorem mails_bad{ms:List St}{nx:Int}{k:Nat}(hk:k<ms.length){x:St}(hx:ms.getD k noS=x)(hm:¬mOK nx (last ms k) x):zaR ms nx=false:=mails_no λh=>hm (hx ▸ h.2 k hk)
def zba(ks:List ByteArray)(k:Nat):Prop:=∀j,j<k→1≤(ks.getD j ky.nt).size∧(ks.getD j ky.nt).size≤200
def dKeys(ks:List ByteArray)(k:Nat):Decidable (zba ks k):=inferInstanceAs (Decidable (∀j,j<k→1≤(ks.getD j ky.nt).size∧(ks.getD j ky.nt).size≤200))
def zbf(ks:List ByteArray):Bool:=@decide (ks.length≤60∧zba ks ks.length) (@instDecidableAnd _ _ _ (dKeys ks ks.length))
theorem keys_no{ks:List ByteArray}(h:¬(ks.length≤60∧zba ks ks.length)):zbf ks=false:=ow.df h
theorem keys_yes{ks:List ByteArray}(h:ks.length≤60)(h2:zba ks ks.length):zbf ks=true:=ow.dt ⟨h,h2⟩
theorem keys_of{ks:List ByteArray}(h:zbf ks=true):ks.length≤60∧zba ks ks.length:=ow.dof h
theorem kgood_step{ks:List ByteArray}{k:Nat}(h:zba ks k){x:ByteArray}(hx:ks.getD k ky.nt=x)(hm:1≤x.size∧x.size≤200):zba ks (k+1):=by
 intro j hj;by_cases e:j=k
 ·subst e;rw[hx];exact hm
 ·exact h j (by omega)
def bok(x:Bx):Bool:=mu.nmB x.nm&&decide (1≤x.vd∧x.vd≤1000000)&&decide (1≤x.nx∧x.nx≤1001)&&zaR x.ms x.nx&&decide ((x.ks.length:Int)=x.nx-1)&&zbf x.ks&&bk.dist x.ks
theorem areMails_any(N:Nat)(v:Value)(ms:List St)(nx:Int)(w:World)(h:za5 w N v ms)(hN:N≤w.heap.size)(hs:st.zac ms)(hnx:In nx) :
  Calls Tryz.prog 120 #[v,.int .i64 nx] w λe w'=>e=.returned (.bool (zaR ms nx))∧Below w.heap.size w w':=by
 obtain⟨a,cap,rfl,h⟩:=h;obtain⟨n,hn⟩:∃n,n=ms.length:=⟨_,rfl⟩
 have HN:=hD hn;have HH:=hD h;have HS:=hD hs;have hl:n≤1048576:=by rw[hn];exact hs.1
 rw[←hn];clear h hs hn hnx;have HF:Hid (∀f w,Calls Tryz.prog 34 #[.int .i64 f] w λe w'=>e=.returned (.bool (mu.fOK f))∧w'=w):=λf w=>mu.areFlags_any f w
 by_cases g0:30<n
 ·have g0':(30:Int)<(n:Int):=by omega
  rw[mails_no (by have:=HN.out;omega)];go_enter Tryz.func120,Tryz.ntmps120;go_wp2;go_ret;exact⟨rfl,Below.refl _ _⟩
 have g0':(n:Int)≤30:=by omega
 go_enter Tryz.func120,Tryz.ntmps120;go_wp2
 go_loopw [5,13] (λl i wr=>∃(k:Nat),k≤n∧l=.int .i64 (last ms k)∧i=.int .i64 k∧zaz ms nx k∧Below w.heap.size w wr) (λ_ i _=>n-(intOf i).toNat)
 case atStart=>exact⟨0,Nat.zero_le _,rfl,rfl,λj hj=>absurd hj (Nat.not_lt_zero _),Below.refl _ _⟩
 case round =>
  obtain⟨k,hk,rfl,rfl,hal,hbw⟩:=hrel;have HAL:=hD hal;clear hal;obtain⟨l,hl⟩:∃l,l=last ms k:=⟨_,rfl⟩
  have HLL:=hD hl;rw[←hl];clear hl;by_cases hlt:k<n
  ·have hka:k<ms.length:=by rw[←HN.out];exact hlt
   rcases HH.out with e|⟨b,off,rfl,_,hcells⟩
   ·rw[e] at hka;simp at hka
   have hat:=(hcells k hka).keep hbw (hcells k hka).lt;have HKA:=hD hka;clear hcells hka;generalize hx:ms.getD k noS=x at hat;have HX:=hD hx;clear hx;obtain⟨u,f,t⟩:=x;obtain⟨c0,c1,c2⟩:=hat;simp only at c0 c1 c2;have hlt':(k:Int)<(n:Int):=by omega
   have hb2:Below w.heap.size w (wr.alloc (.cells #[.int .i64 u,.int .i64 f,.string t] 92)):=hbw.alloc hbw.size _;have HB:Hid (¬mOK nx l ⟨u,f,t⟩→zaR ms nx=false):=λh=>mails_bad HKA.out HX.out (by rw[←HLL.out];exact h)
   have HG:Hid (mOK nx l ⟨u,f,t⟩→zaz ms nx (k+1)):=λh=>mgood_step HAL.out HX.out (by rw[←HLL.out];exact h)
   have hls:last ms (k+1)=u:=by rw[zc9,HX.out]
   have HLS:=hD hls;clear hls;clear HAL HX HKA HLL;by_cases q0:u≤l
   ·have HR:Hid (zaR ms nx=false):=HB.out (λx=>by have:=x.1;simp only at this;omega);go_wp2;go_ret;exact⟨mu.zab HR.out.symm,hb2⟩
   have q0':l<u:=by omega
   by_cases q1:nx≤u
   ·have HR:Hid (zaR ms nx=false):=HB.out (λx=>by have:=x.2.1;simp only at this;omega);go_wp2;go_ret;exact⟨mu.zab HR.out.symm,hb2⟩
   have q1':u<nx:=by omega
   by_cases q2:0≤f∧f≤31
   ·have e2:mu.fOK f=true:=decide_eq_true q2;by_cases q3:t.size≤4000
    ·have q3':(t.size:Int)≤4000:=by omega
     have HR:=hD (HG.out ⟨q0',q1',q2,q3⟩)
     go_wp2_with (go_at_call 34;refine(HF.out _ _).mono ?_;rintro e w' ⟨rfl,rfl⟩;rw[e2])
     go_roundw
     case rel=>exact⟨k+1,by omega,by rw[HLS.out],by go_num,HR.out,hb2⟩
     case measure=>simp[intOf];omega
    ·have q3':(4000:Int)<(t.size:Int):=by omega
     have HR:=hD (HB.out (λx=>q3 x.2.2.2))
     go_wp2_with (go_at_call 34;refine(HF.out _ _).mono ?_;rintro e w' ⟨rfl,rfl⟩;rw[e2])
     go_ret;exact⟨mu.zab HR.out.symm,hb2⟩
   ·have e2:mu.fOK f=false:=decide_eq_false q2;have HR:=hD (HB.out (λx=>q2 x.2.2.1))
    go_wp2_with (go_at_call 34;refine(HF.out _ _).mono ?_;rintro e w' ⟨rfl,rfl⟩;rw[e2])
    go_ret;exact⟨mu.zab HR.out.symm,hb2⟩
  ·have HR:Hid (zaR ms nx=true):=mails_yes (by have:=HN.out;omega) (λj hj=>HAL.out j (by have:=HN.out;omega));go_wp2;go_ret;exact⟨mu.zab HR.out.symm,hbw⟩
theorem areKeys_any(N:Nat)(v:Value)(ks:List ByteArray)(w:World)(h:tx.zaU w N v ks)(hs:tx.zac ks) :
  Calls Tryz.prog 121 #[v] w λe w'=>e=.returned (.bool (zbf ks))∧w'=w:=by
 obtain⟨a,cap,rfl,h⟩:=h;obtain⟨n,hn⟩:∃n,n=ks.length:=⟨_,rfl⟩
 have HN:=hD hn;have HH:=hD h;have hl:n≤1048576:=by rw[hn];exact hs.1
 rw[←hn];clear h hs hn;have HF:Hid (∀s w,Calls Tryz.prog 60 #[.string s] w λe w'=>e=.returned (.bool (mu.kOK s.size))∧w'=w):=λf w=>mu.zc6 f w
 by_cases g0:60<n
 ·have g0':(60:Int)<(n:Int):=by omega
  rw[keys_no (by have:=HN.out;omega)];go_enter Tryz.func121,Tryz.ntmps121;go_wp2;go_ret;exact⟨rfl,rfl⟩
 have g0':(n:Int)≤60:=by omega
 go_enter Tryz.func121,Tryz.ntmps121;go_wp2
 go_loopw [10] (λi wr=>∃(k:Nat),k≤n∧i=.int .i64 k∧zba ks k∧wr=w) (λi _=>n-(intOf i).toNat)
 case atStart=>exact⟨0,Nat.zero_le _,rfl,λj hj=>absurd hj (Nat.not_lt_zero _),rfl⟩
 case round =>
  obtain⟨k,hk,rfl,hal,rfl⟩:=hrel;have HAL:=hD hal;clear hal;by_cases hlt:k<n
  ·have hka:k<ks.length:=by rw[←HN.out];exact hlt
   rcases HH.out with e|⟨b,off,rfl,_,hcells⟩
   ·rw[e] at hka;simp at hka
   have c0:=hcells k hka;have HKA:=hD hka;clear hcells hka;generalize hx:ks.getD k ky.nt=x at c0;have HX:=hD hx;clear hx;have hlt':(k:Int)<(n:Int):=by omega
   by_cases q:1≤x.size∧x.size≤200
   ·have e2:mu.kOK x.size=true:=decide_eq_true q;have HR:=hD (kgood_step HAL.out HX.out q);clear q
    go_wp2_with (go_at_call 60;refine(HF.out _ _).mono ?_;rintro e w' ⟨rfl,rfl⟩;rw[e2])
    go_roundw
    case rel=>exact⟨k+1,by omega,by go_num,HR.out,by trivial⟩
    case measure=>simp[intOf];omega
   ·have e2:mu.kOK x.size=false:=decide_eq_false q;have HR:=hD (keys_no (λy=>q (HX.out ▸ y.2 k HKA.out)));clear q
    go_wp2_with (go_at_call 60;refine(HF.out _ _).mono ?_;rintro e w' ⟨rfl,rfl⟩;rw[e2])
    go_ret;exact⟨mu.zab HR.out.symm,rfl⟩
  ·have HR:Hid (zbf ks=true):=keys_yes (by have:=HN.out;omega) (λj hj=>HAL.out j (by have:=HN.out;omega));go_wp2;go_ret;exact⟨mu.zab HR.out.symm,rfl⟩
end bx
end Go.Proofs.YtmnflpmfngjllaaGreatDoor
