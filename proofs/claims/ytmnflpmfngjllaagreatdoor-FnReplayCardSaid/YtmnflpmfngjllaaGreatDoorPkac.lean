/-
  FnReplayCardSaid
-/
import Derived.Test.YtmnflpmfngjllaaGreatDoorPkab
import Derived.Shelf.Small.Wraps
import Derived.Shelf.LaysM
import Derived.Shelf.Strconv.Clone
import Derived.Test.YtmnflpmfngjllaaGreatDoorProg
import Derived.Orders
import Derived.RegionTactic
set_option maxHeartbeats 16000000
set_option maxRecDepth 100000
set_option linter.unusedVariables false
namespace Go.Proofs.YtmnflpmfngjllaaGreatDoor
namespace mu
open Go.RowKit
open it
def dGood(s:ByteArray)(j:Nat):Decidable (nm.good s j) :=
 if h:j<s.size then decidable_of_iff (nm.letB ((s[j]'h).toNat:Int)=true∨(0<j∧nm.digB ((s[j]'h).toNat:Int)=true)) ⟨λx=>⟨h,x⟩,λ⟨_,x⟩=>x⟩ else isFalse (λ⟨h',_⟩=>h h')
def dAllGood(s:ByteArray):Decidable (∀j,j<s.size→nm.good s j):=@Nat.decidableBallLT s.size (λj _=>nm.good s j) (λj _=>dGood s j)
def dName(s:ByteArray):Decidable (nm.za9 s):=@instDecidableAnd _ _ _ (@instDecidableAnd _ _ _ (dAllGood s))
def nmB(s:ByteArray):Bool:=@decide (nm.za9 s) (dName s)
theorem nm_of{s:ByteArray}{e:Ending}(h:nm.zb1 s e):e=.returned (.bool (nmB s)):=by
 obtain⟨b,rfl,h⟩:=h;have:b=nmB s:=by
  unfold nmB;cases b
  ·exact(ow.df (λx=>by have:=h.2 x;cases this)).symm
  ·exact(ow.dt (h.1 rfl)).symm
 rw[this]
theorem impl_name(s:ByteArray)(w:World)(hs:s.size≤1048576):Calls Tryz.prog 31 #[.string s] w λe w'=>e=.returned (.bool (nmB s))∧w'=w :=
 (nm.implName_any s w hs).mono λe w' ⟨h,h2⟩=>⟨nm_of h,h2⟩
theorem spec_name(s:ByteArray)(w:World)(hs:s.size≤1048576):Calls Tryz.prog 71 #[.string s] w λe w'=>e=.returned (.bool (nmB s))∧w'=w :=
 (nm.specName_any s w hs).mono λe w' ⟨h,h2⟩=>⟨nm_of h,h2⟩
def kOK(n:Nat):Bool:=decide (1≤n∧n≤200)
def fOK(f:Int):Bool:=decide (0≤f∧f≤31)
def iOK(p:Pr):Bool:=decide ((1≤p.1.size∧p.1.size≤200)∧p.2.size≤4000)
def AllTo(ps:List Pr)(k:Nat):Prop:=∀j,j<k→iOK (ps.getD j no)=true
def dAll(ps:List Pr)(k:Nat):Decidable (AllTo ps k):=inferInstanceAs (Decidable (∀j,j<k→iOK (ps.getD j no)=true))
def zaZ(ps:List Pr):Bool:=@decide (ps.length≤20∧AllTo ps ps.length) (@instDecidableAnd _ _ _ (dAll ps ps.length))
theorem its_no{ps:List Pr}(h:¬(ps.length≤20∧AllTo ps ps.length)):zaZ ps=false:=ow.df h
theorem its_yes{ps:List Pr}(h:ps.length≤20)(h2:AllTo ps ps.length):zaZ ps=true:=ow.dt ⟨h,h2⟩
theorem its_of{ps:List Pr}(h:zaZ ps=true):ps.length≤20∧AllTo ps ps.length:=ow.dof h
theorem all_step{ps:List Pr}{k:Nat}(h:AllTo ps k){a b:ByteArray}(ha:(ps.getD k no).1=a)(hb:(ps.getD k no).2=b)(hi:iOK (a,b)=true):AllTo ps (k+1):=by
 intro j hj;by_cases e:j=k
 ·subst e;have:ps.getD j no=(a,b):=by rw[←ha,←hb]
  rw[this];exact hi
 ·exact h j (by omega)
theorem all_bad{ps:List Pr}{k:Nat}(hk:k<ps.length){a b:ByteArray}(ha:(ps.getD k no).1=a)(hb:(ps.getD k no).2=b)(hi:iOK (a,b)=false):zaZ ps=false:=by
 refine its_no λx=>?_
 have h:=x.2 k hk;have:ps.getD k no=(a,b):=by rw[←ha,←hb]
 rw[this,hi] at h;cases h
def zbb(k u m f:Int)(n:Nat):Bool:=decide ((k=1∨k=4)∧u=0∧m=0∧f=0∧n=0∨k=2∧u=0∧m=0∧f=0∧0<n∨k=3∧n=0∧1≤u∧u≤1000∧1≤m∧m≤3∧0≤f∧f≤31)
def mok(x:Mu):Bool:=nmB x.b&&zaZ x.ps&&zbb x.k x.u x.m x.f x.ps.length
theorem zab{a b:Bool}(h:a=b):Ending.returned (.bool a)=.returned (.bool b):=by rw[h]
theorem mok_name{x:Mu}(h:nmB x.b=false):mok x=false:=by simp[mok,h]
theorem mok_its{x:Mu}(h:zaZ x.ps=false):mok x=false:=by simp[mok,h]
theorem zcH{x:Mu}(h:nmB x.b=true)(h2:zaZ x.ps=true):mok x=zbb x.k x.u x.m x.f x.ps.length:=by simp[mok,h,h2]
theorem zc6(s:ByteArray)(w:World):Calls Tryz.prog 60 #[.string s] w λe w'=>e=.returned (.bool (kOK s.size))∧w'=w:=by
 go_enter Tryz.func60,Tryz.ntmps60;go_wp2
 all_goals (go_ret;exact⟨zab (by rw[Bool.eq_iff_iff];simp[kOK];omega),rfl⟩)
theorem areFlags_any(f:Int)(w:World):Calls Tryz.prog 34 #[.int .i64 f] w λe w'=>e=.returned (.bool (fOK f))∧w'=w:=by
 go_enter Tryz.func34,Tryz.ntmps34;go_wp2
 all_goals (go_ret;exact⟨zab (by rw[Bool.eq_iff_iff];simp[fOK];omega),rfl⟩)
theorem zbw(n a b:Int)(w:World):Calls Tryz.prog 72 #[.int .i64 n,.int .i64 a,.int .i64 b] w λe w'=>e=.returned (.bool (decide (a≤n∧n≤b)))∧w'=w:=by
 go_enter Tryz.func72,Tryz.ntmps72;go_wp2
 all_goals (go_ret;exact⟨zab (by rw[Bool.eq_iff_iff];simp;try omega),rfl⟩)
theorem areItems_any(v:Value)(ps:List Pr)(w:World)(h:zav w v ps)(hs:it.Small ps) :
  Calls Tryz.prog 32 #[v] w λe w'=>e=.returned (.bool (zaZ ps))∧Below w.heap.size w w':=by
 obtain⟨a,cap,rfl,h⟩:=h;obtain⟨n,hn⟩:∃n,n=ps.length:=⟨_,rfl⟩
 have HN:=hD hn;have HH:=hD h;have HS:=hD hs;have hl:n≤1048576:=by rw[hn];exact hs.1
 rw[←hn];clear h hs hn;by_cases g0:20<n
 ·have g0':(20:Int)<(n:Int):=by omega
  rw[its_no (by have:=HN.out;omega)];go_enter Tryz.func32,Tryz.ntmps32;go_wp2;go_ret;exact⟨rfl,Below.refl _ _⟩
 have g0':(n:Int)≤20:=by omega
 go_enter Tryz.func32,Tryz.ntmps32;go_wp2
 go_loopw [10] (λi wr=>∃(k:Nat),k≤n∧i=.int .i64 k∧AllTo ps k∧Below w.heap.size w wr) (λi _=>n-(intOf i).toNat)
 case atStart=>exact⟨0,Nat.zero_le _,rfl,λj hj=>absurd hj (Nat.not_lt_zero _),Below.refl _ _⟩
 case round =>
  obtain⟨k,hk,rfl,hal,hbw⟩:=hrel;have HAL:=hD hal;clear hal;by_cases hlt:k<n
  ·have hka:k<ps.length:=by rw[←HN.out];exact hlt
   rcases HH.out with e|⟨b,off,rfl,hcells⟩
   ·rw[e] at hka;simp at hka
   obtain⟨v0,v1⟩:=hcells k hka;obtain⟨s0,s1⟩:=HS.out.2 k hka;have hblt:b<w.heap.size:=World.block_lt_of_cell? w _ v0;have c0:=(hbw.cell (p:=⟨b,off+k*2,none⟩) hblt).trans v0;have c1:=(hbw.cell (p:=⟨b,off+k*2+1,none⟩) hblt).trans v1;clear hcells v0 v1;generalize hn1:(ps.getD k no).1=nm at c0 s0;generalize hv1:(ps.getD k no).2=vl at c1 s1;have HN1:=hD hn1;have HV1:=hD hv1;have HKA:=hD hka;clear hn1 hv1 hka;have hlt':(k:Int)<(n:Int):=by omega
   have hb2:Below w.heap.size w (wr.alloc (.cells #[.string nm,.string vl] 103)):=hbw.alloc hbw.size _;by_cases q0:1≤nm.size∧nm.size≤200
   ·have e0:kOK nm.size=true:=decide_eq_true q0;by_cases q1:vl.size≤4000
    ·have q1':(vl.size:Int)≤4000:=by omega
     go_wp2_with (go_at_call 60;refine(zc6 _ _).mono ?_;rintro e w' ⟨rfl,rfl⟩;rw[e0])
     go_roundw
     case rel=>exact⟨k+1,by omega,by go_num,all_step HAL.out HN1.out HV1.out (decide_eq_true ⟨q0,q1⟩),hb2⟩
     case measure=>simp[intOf];omega
    ·have q1':(4000:Int)<(vl.size:Int):=by omega
     have HR:=hD (all_bad HKA.out HN1.out HV1.out (decide_eq_false λx=>q1 x.2))
     go_wp2_with (go_at_call 60;refine(zc6 _ _).mono ?_;rintro e w' ⟨rfl,rfl⟩;rw[e0])
     go_ret;exact⟨zab HR.out.symm,hb2⟩
   ·have e0:kOK nm.size=false:=decide_eq_false q0;have HR:=hD (all_bad HKA.out HN1.out HV1.out (decide_eq_false λx=>q0 x.1))
    go_wp2_with (go_at_call 60;refine(zc6 _ _).mono ?_;rintro e w' ⟨rfl,rfl⟩;rw[e0])
    go_ret;exact⟨zab HR.out.symm,hb2⟩
  ·have HR:Hid (zaZ ps=true):=its_yes (by have:=HN.out;omega) (λj hj=>HAL.out j (by have:=HN.out;omega));go_wp2;go_ret;exact⟨zab HR.out.symm,hbw⟩
end mu
namespace bx
open Go.RowKit
open st
def mOK(nx prev:Int)(e:St):Prop:=prev<e.u∧e.u<nx∧(0≤e.f∧e.f≤31)∧e.t.size≤4000
def last(ms:List St)(k:Nat):Int:=if k=0 then 0 else(ms.getD (k-1) noS).u
def zaz(ms:List St)(nx:Int)(k:Nat):Prop:=∀j,j<k→mOK nx (last ms j) (ms.getD j noS)
theorem zc9(ms:List St)(k:Nat):last ms (k+1)=(ms.getD k noS).u:=by simp[last]
theorem last_pos{ms:List St}{nx:Int}:∀{k:Nat},zaz ms nx k→0≤last ms k
 | 0,_=>by simp[last]
 | k+1,h=>by
  rw[zc9];have h1:=last_pos (k:=k) (λj hj=>h j (by omega));have h2:=(h k (by omega)).1;omega
theorem mgood_step{ms:List St}{nx:Int}{k:Nat}(h:zaz ms nx k){x:St}(hx:ms.getD k noS=x)(hm:mOK nx (last ms k) x):zaz ms nx (k+1):=by
 intro j hj;by_cases e:j=k
 ·subst e;rw[hx];exact hm
 ·exact h j (by omega)
def dMail(ms:List St)(nx:Int)(k:Nat):Decidable (zaz ms nx k):=inferInstanceAs (Decidable (∀j,j<k→last ms j<(ms.getD j noS).u∧(ms.getD j noS).u<nx∧(0≤(ms.getD j noS).f∧(ms.getD j noS).f≤31)∧(ms.getD j noS).t.size≤4000))
def zaR(ms:List St)(nx:Int):Bool:=@decide (ms.length≤30∧zaz ms nx ms.length) (@instDecidableAnd _ _ _ (dMail ms nx ms.length))
theorem mails_no{ms:List St}{nx:Int}(h:¬(ms.length≤30∧zaz ms nx ms.length)):zaR ms nx=false:=ow.df h
theorem mails_yes{ms:List St}{nx:Int}(h:ms.length≤30)(h2:zaz ms nx ms.length):zaR ms nx=true:=ow.dt ⟨h,h2⟩
theorem mails_of{ms:List St}{nx:Int}(h:zaR ms nx=true):ms.length≤30∧zaz ms nx ms.length:=ow.dof h
theorem mails_bad{ms:List St}{nx:Int}{k:Nat}(hk:k<ms.length){x:St}(hx:ms.getD k noS=x)(hm:¬mOK nx (last ms k) x):zaR ms nx=false:=mails_no λh=>hm (hx ▸ h.2 k hk)
def zba(ks:List ByteArray)(k:Nat):Prop:=∀j,j<k→1≤(ks.getD j ky.nt).size∧(ks.getD j ky.nt).size≤200
def dKeys(ks:List ByteArray)(k:Nat):Decidable (zba ks k):=inferInstanceAs (Decidable (∀j,j<k→1≤(ks.getD j ky.nt).size∧(ks.getD j ky.nt).size≤200))
def zbf(ks:List ByteArray):Bool:=@decide (ks.length≤60∧zba ks ks.length) (@instDecidableAnd _ _ _ (dKeys ks ks.length))
theorem keys_no{ks:List ByteArray}(h:¬(ks.length≤60∧zba ks ks.length)):zbf ks=false:=ow.df h
theorem keys_yes{ks:List ByteArray}(h:ks.length≤60)(h2:zba ks ks.length):zbf ks=true:=ow.dt ⟨h,h2⟩
theorem keys_of{ks:List ByteArray}(h:zbf ks=true):ks.length≤60∧zba ks ks.length:=ow.dof h
theorem kgood_step{ks:List ByteArray}{k:Nat}(h:zba ks k){x:ByteArray}(hx:ks.getD k ky.nt=x)(hm:1≤x.size∧x.size≤200):zba ks (k+1):=by
 intro j hj;by_cases e:j=k
 ·subst e;rw[hx];exact hm
 ·exact h j (by omega)
def bok(x:Bx):Bool:=mu.nmB x.nm&&decide (1≤x.vd∧x.vd≤1000000)&&decide (1≤x.nx∧x.nx≤1001)&&zaR x.ms x.nx&&decide ((x.ks.length:Int)=x.nx-1)&&zbf x.ks&&bk.dist x.ks
theorem areMails_any(N:Nat)(v:Value)(ms:List St)(nx:Int)(w:World)(h:za5 w N v ms)(hN:N≤w.heap.size)(hs:st.zac ms)(hnx:In nx) :
  Calls Tryz.prog 120 #[v,.int .i64 nx] w λe w'=>e=.returned (.bool (zaR ms nx))∧Below w.heap.size w w':=by
 obtain⟨a,cap,rfl,h⟩:=h;obtain⟨n,hn⟩:∃n,n=ms.length:=⟨_,rfl⟩
 have HN:=hD hn;have HH:=hD h;have HS:=hD hs;have hl:n≤1048576:=by rw[hn];exact hs.1
 rw[←hn];clear h hs hn hnx;have HF:Hid (∀f w,Calls Tryz.prog 34 #[.int .i64 f] w λe w'=>e=.returned (.bool (mu.fOK f))∧w'=w):=λf w=>mu.areFlags_any f w
 by_cases g0:30<n
 ·have g0':(30:Int)<(n:Int):=by omega
  rw[mails_no (by have:=HN.out;omega)];go_enter Tryz.func120,Tryz.ntmps120;go_wp2;go_ret;exact⟨rfl,Below.refl _ _⟩
 have g0':(n:Int)≤30:=by omega
 go_enter Tryz.func120,Tryz.ntmps120;go_wp2
 go_loopw [5,13] (λl i wr=>∃(k:Nat),k≤n∧l=.int .i64 (last ms k)∧i=.int .i64 k∧zaz ms nx k∧Below w.heap.size w wr) (λ_ i _=>n-(intOf i).toNat)
 case atStart=>exact⟨0,Nat.zero_le _,rfl,rfl,λj hj=>absurd hj (Nat.not_lt_zero _),Below.refl _ _⟩
 case round =>
  obtain⟨k,hk,rfl,rfl,hal,hbw⟩:=hrel;have HAL:=hD hal;clear hal;obtain⟨l,hl⟩:∃l,l=last ms k:=⟨_,rfl⟩
  have HLL:=hD hl;rw[←hl];clear hl;by_cases hlt:k<n
  ·have hka:k<ms.length:=by rw[←HN.out];exact hlt
   rcases HH.out with e|⟨b,off,rfl,_,hcells⟩
   ·rw[e] at hka;simp at hka
   have hat:=(hcells k hka).keep hbw (hcells k hka).lt;have HKA:=hD hka;clear hcells hka;generalize hx:ms.getD k noS=x at hat;have HX:=hD hx;clear hx;obtain⟨u,f,t⟩:=x;obtain⟨c0,c1,c2⟩:=hat;simp only at c0 c1 c2;have hlt':(k:Int)<(n:Int):=by omega
   have hb2:Below w.heap.size w (wr.alloc (.cells #[.int .i64 u,.int .i64 f,.string t] 92)):=hbw.alloc hbw.size _;have HB:Hid (¬mOK nx l ⟨u,f,t⟩→zaR ms nx=false):=λh=>mails_bad HKA.out HX.out (by rw[←HLL.out];exact h)
   have HG:Hid (mOK nx l ⟨u,f,t⟩→zaz ms nx (k+1)):=λh=>mgood_step HAL.out HX.out (by rw[←HLL.out];exact h)
   have hls:last ms (k+1)=u:=by rw[zc9,HX.out]
   have HLS:=hD hls;clear hls;clear HAL HX HKA HLL;by_cases q0:u≤l
   ·have HR:Hid (zaR ms nx=false):=HB.out (λx=>by have:=x.1;simp only at this;omega);go_wp2;go_ret;exact⟨mu.zab HR.out.symm,hb2⟩
   have q0':l<u:=by omega
   by_cases q1:nx≤u
   ·have HR:Hid (zaR ms nx=false):=HB.out (λx=>by have:=x.2.1;simp only at this;omega);go_wp2;go_ret;exact⟨mu.zab HR.out.symm,hb2⟩
   have q1':u<nx:=by omega
   by_cases q2:0≤f∧f≤31
   ·have e2:mu.fOK f=true:=decide_eq_true q2;by_cases q3:t.size≤4000
    ·have q3':(t.size:Int)≤4000:=by omega
     have HR:=hD (HG.out ⟨q0',q1',q2,q3⟩)
     go_wp2_with (go_at_call 34;refine(HF.out _ _).mono ?_;rintro e w' ⟨rfl,rfl⟩;rw[e2])
     go_roundw
     case rel=>exact⟨k+1,by omega,by rw[HLS.out],by go_num,HR.out,hb2⟩
     case measure=>simp[intOf];omega
    ·have q3':(4000:Int)<(t.size:Int):=by omega
     have HR:=hD (HB.out (λx=>q3 x.2.2.2))
     go_wp2_with (go_at_call 34;refine(HF.out _ _).mono ?_;rintro e w' ⟨rfl,rfl⟩;rw[e2])
     go_ret;exact⟨mu.zab HR.out.symm,hb2⟩
   ·have e2:mu.fOK f=false:=decide_eq_false q2;have HR:=hD (HB.out (λx=>q2 x.2.2.1))
    go_wp2_with (go_at_call 34;refine(HF.out _ _).mono ?_;rintro e w' ⟨rfl,rfl⟩;rw[e2])
    go_ret;exact⟨mu.zab HR.out.symm,hb2⟩
  ·have HR:Hid (zaR ms nx=true):=mails_yes (by have:=HN.out;omega) (λj hj=>HAL.out j (by have:=HN.out;omega));go_wp2;go_ret;exact⟨mu.zab HR.out.symm,hbw⟩
theorem areKeys_any(N:Nat)(v:Value)(ks:List ByteArray)(w:World)(h:tx.zaU w N v ks)(hs:tx.zac ks) :
  Calls Tryz.prog 121 #[v] w λe w'=>e=.returned (.bool (zbf ks))∧w'=w:=by
 obtain⟨a,cap,rfl,h⟩:=h;obtain⟨n,hn⟩:∃n,n=ks.length:=⟨_,rfl⟩
 have HN:=hD hn;have HH:=hD h;have hl:n≤1048576:=by rw[hn];exact hs.1
 rw[←hn];clear h hs hn;have HF:Hid (∀s w,Calls Tryz.prog 60 #[.string s] w λe w'=>e=.returned (.bool (mu.kOK s.size))∧w'=w):=λf w=>mu.zc6 f w
 by_cases g0:60<n
 ·have g0':(60:Int)<(n:Int):=by omega
  rw[keys_no (by have:=HN.out;omega)];go_enter Tryz.func121,Tryz.ntmps121;go_wp2;go_ret;exact⟨rfl,rfl⟩
 have g0':(n:Int)≤60:=by omega
 go_enter Tryz.func121,Tryz.ntmps121;go_wp2
 go_loopw [10] (λi wr=>∃(k:Nat),k≤n∧i=.int .i64 k∧zba ks k∧wr=w) (λi _=>n-(intOf i).toNat)
 case atStart=>exact⟨0,Nat.zero_le _,rfl,λj hj=>absurd hj (Nat.not_lt_zero _),rfl⟩
 case round =>
  obtain⟨k,hk,rfl,hal,rfl⟩:=hrel;have HAL:=hD hal;clear hal;by_cases hlt:k<n
  ·have hka:k<ks.length:=by rw[←HN.out];exact hlt
   rcases HH.out with e|⟨b,off,rfl,_,hcells⟩
   ·rw[e] at hka;simp at hka
   have c0:=hcells k hka;have HKA:=hD hka;clear hcells hka;generalize hx:ks.getD k ky.nt=x at c0;have HX:=hD hx;clear hx;have hlt':(k:Int)<(n:Int):=by omega
   by_cases q:1≤x.size∧x.size≤200
   ·have e2:mu.kOK x.size=true:=decide_eq_true q;have HR:=hD (kgood_step HAL.out HX.out q);clear q
    go_wp2_with (go_at_call 60;refine(HF.out _ _).mono ?_;rintro e w' ⟨rfl,rfl⟩;rw[e2])
    go_roundw
    case rel=>exact⟨k+1,by omega,by go_num,HR.out,by trivial⟩
    case measure=>simp[intOf];omega
   ·have e2:mu.kOK x.size=false:=decide_eq_false q;have HR:=hD (keys_no (λy=>q (HX.out ▸ y.2 k HKA.out)));clear q
    go_wp2_with (go_at_call 60;refine(HF.out _ _).mono ?_;rintro e w' ⟨rfl,rfl⟩;rw[e2])
    go_ret;exact⟨mu.zab HR.out.symm,rfl⟩
  ·have HR:Hid (zbf ks=true):=keys_yes (by have:=HN.out;omega) (λj hj=>HAL.out j (by have:=HN.out;omega));go_wp2;go_ret;exact⟨mu.zab HR.out.symm,rfl⟩
end bx
namespace Go.Proofs
open Go.Shelf
def Tryz.lays215_ren : Go.Shelf.Ren := ⟨fun|215 => 150|n => n, fun|3 => 3|4 => 4|n => n, fun|n => n⟩
theorem Tryz.lays215 : Go.Proofs.Lays.n215 Tryz.prog Tryz.lays215_ren := {
  mixed := by kernel_rfl
  f215 := Tryz.func150.trans (congrArg some (by kernel_rfl))
  t3 := Tryz.underlying3
  a3 := Tryz.isAgg3
  z3 := Tryz.sizeOf3
  v3 := Tryz.zeroValue3
  t4 := Tryz.underlying4
  a4 := Tryz.isAgg4
  z4 := Tryz.sizeOf4
  v4 := Tryz.zeroValue4}
open Go.RowKit in
theorem Tryz.cmp_isNaN_int(x : Int)(w : World) :
    Calls Tryz.prog 150 #[.int .i64 x] w λe w' => e = .returned (.bool false) ∧ w' = w := Any.cmp_isNaN_int Tryz.lays215 x w
def Tryz.lays122_ren : Go.Shelf.Ren := ⟨fun|122 => 148|215 => 150|n => n, fun|3 => 3|4 => 4|n => n, fun|n => n⟩
theorem Tryz.lays122 : Go.Proofs.Lays.n122 Tryz.prog Tryz.lays122_ren := {
  mixed := by kernel_rfl
  f122 := Tryz.func148.trans (congrArg some (by kernel_rfl))
  f215 := Tryz.func150.trans (congrArg some (by kernel_rfl))
  t3 := Tryz.underlying3
  a3 := Tryz.isAgg3
  z3 := Tryz.sizeOf3
  v3 := Tryz.zeroValue3
  t4 := Tryz.underlying4
  a4 := Tryz.isAgg4
  z4 := Tryz.sizeOf4
  v4 := Tryz.zeroValue4}
open Go.RowKit in
theorem Tryz.cmp_Compare_int(x y : Int)(w : World) :
    Calls Tryz.prog 148 #[.int .i64 x, .int .i64 y] w λe w' => e = .returned (.int .i64 (Lib.compareInt x y)) ∧ w' = w := Any.cmp_Compare_int Tryz.lays122 x y w
def Tryz.laysM316_ren : Go.Shelf.Ren := ⟨fun|316 => 87|n => n, fun|9 => 9|3 => 3|4 => 4|37 => 22|0 => 0|127 => 150|5 => 5|n => n, fun|n => n⟩
theorem Tryz.laysM316 : Go.Proofs.LaysM.n316 Tryz.prog Tryz.laysM316_ren := {
  mixed := by kernel_rfl
  f316 := Tryz.func87.trans (congrArg some (by kernel_rfl))
  t0 := Tryz.underlying0
  a0 := Tryz.isAgg0
  z0 := Tryz.sizeOf0
  v0 := Tryz.zeroValue0
  t3 := Tryz.underlying3
  a3 := Tryz.isAgg3
  z3 := Tryz.sizeOf3
  v3 := Tryz.zeroValue3
  t4 := Tryz.underlying4
  a4 := Tryz.isAgg4
  z4 := Tryz.sizeOf4
  v4 := Tryz.zeroValue4
  t9 := Tryz.underlying9
  a9 := Tryz.isAgg9
  z9 := Tryz.sizeOf9
  v9 := Tryz.zeroValue9
  t37 := Tryz.underlying22
  a37 := Tryz.isAgg22
  z37 := Tryz.sizeOf22
  v37 := Tryz.zeroValue22
  t127 := Tryz.underlying150
  a127 := Tryz.isAgg150
  z127 := Tryz.sizeOf150
  v127 := Tryz.zeroValue150
  t5 := Tryz.underlying5
  a5 := Tryz.isAgg5
  z5 := Tryz.sizeOf5
  v5 := Tryz.zeroValue5
  i0 := by kernel_rfl
  i3 := by kernel_rfl
  i4 := by kernel_rfl
  i5 := by kernel_rfl
  i9 := by kernel_rfl
  i37 := by kernel_rfl
  i127 := by kernel_rfl}
open Go.RowKit in
theorem Tryz.stringslite_Clone(s : ByteArray)(w : World)(hlim : s.size ≤ 281474976710656) :
    Calls Tryz.prog 87 #[.string s] w λe w' => e = .returned (.string s) ∧ Below w.heap.size w w' := Any.stringslite_Clone Tryz.laysM316 s w hlim
end Go.Proofs
namespace st
open Go.ChangeShapes Go.WideShapes Go.ChangeAt Go.RowKit Go.Deep Go.Joins
def B3(w:World)(g:Nat)(t:TypeId)(a b c:Value):Prop:=w.heap[g]?=some (.cells #[a,b,c] t (0,0))
section
variable {w w':World}{g:Nat}{t:TypeId}{a b c a' b' c':Value}
theorem zbN(w:World)(t:TypeId)(a b c:Value):B3 (w.alloc (.cells #[a,b,c] t)) w.heap.size t a b c:=by
 show(w.heap.push (.cells #[a,b,c] t))[w.heap.size]?=_;simp
theorem B3.c0(h:B3 w g t a b c):w.cell? ⟨g,0,none⟩=some a:=by rw[cell_of_row _ _ 0 _ _ _ h];rfl
theorem B3.c1(h:B3 w g t a b c):w.cell? ⟨g,1,none⟩=some b:=by rw[cell_of_row _ _ 1 _ _ _ h];rfl
theorem B3.c1'(h:B3 w g t a b c):w.cell? ⟨g,0+1,none⟩=some b:=by rw[cell_of_row _ _ _ _ _ _ h];rfl
theorem B3.c2(h:B3 w g t a b c):w.cell? ⟨g,2,none⟩=some c:=by rw[cell_of_row _ _ 2 _ _ _ h];rfl
theorem B3.c2'(h:B3 w g t a b c):w.cell? ⟨g,0+2,none⟩=some c:=by rw[cell_of_row _ _ _ _ _ _ h];rfl
theorem B3.f(h:B3 w g t a b c)(j:Nat):w.frozen? ⟨g,j,none⟩=false:=frozen_of_row _ _ _ _ _ h
theorem B3.lt(h:B3 w g t a b c):g<w.heap.size:=(Array.getElem?_eq_some_iff.1 h).1
theorem B3.keep(h:B3 w g t a b c)(hb:Below w.heap.size w w'):B3 w' g t a b c:=(hb.block g h.lt).trans h
theorem B3.put0(h:B3 w g t a b c)(u:Value):B3 (w.setCell ⟨g,0,none⟩ u) g t u b c:=heap_setCell_same _ g 0 _ _ _ h
theorem B3.put1(h:B3 w g t a b c)(u:Value):B3 (w.setCell ⟨g,1,none⟩ u) g t a u c:=heap_setCell_same _ g 1 _ _ _ h
theorem B3.put2(h:B3 w g t a b c)(u:Value):B3 (w.setCell ⟨g,2,none⟩ u) g t a b u:=heap_setCell_same _ g 2 _ _ _ h
def put(w:World)(g:Nat)(a b c:Value):World:=((w.setCell ⟨g,0,none⟩ a).setCell ⟨g,1,none⟩ b).setCell ⟨g,2,none⟩ c
theorem B3.put(h:B3 w g t a b c):B3 (put w g a' b' c') g t a' b' c':=((h.put0 a').put1 b').put2 c'
theorem zbr{B:Nat}{w0:World}(k:Below B w0 w)(hb:B≤g):Below B w0 (put w g a b c):=((k.setCell (p:=⟨g,0,none⟩) hb _).setCell (p:=⟨g,1,none⟩) hb _).setCell (p:=⟨g,2,none⟩) hb _
theorem B3.other{g':Nat}(h:B3 w g t a b c)(j:Nat)(u:Value)(hg:g≠g'):B3 (w.setCell ⟨g',j,none⟩ u) g t a b c:=by
 unfold B3;rw[heap_setCell_other _ _ _ _ hg];exact h
theorem new_below(w:World)(T:TypeId)(cs:Array Value):Below w.heap.size w (w.alloc (.cells cs T)):=bR.alloc lR _
end
def SV(e:St):Value:=.agg #[.int .i64 e.u,.int .i64 e.f,.string e.t]
theorem zbz(s:ByteArray)(w:World)(hs:s.size≤1048576) :
  Calls Tryz.prog 47 #[.string s] w λe w'=>e=.returned (.string s)∧Below w.heap.size w w':=by
 go_enter Tryz.func47,Tryz.ntmps47
 go_wp2_with fail
 refine(Tryz.stringslite_Clone s _ (by omega)).mono ?_;rintro e w' ⟨rfl,hb⟩;go_wp2;go_ret;exact⟨rfl,hb⟩
def cmpI(a b:Int):Int:=if a<b then -1 else if b<a then 1 else 0
theorem zcY(x:St)(w:World)(hd:x.t.size≤1048576) :
  Calls Tryz.prog 144 #[SV x] w λe w'=>e=.returned (SV x)∧Below w.heap.size w w':=by
 obtain⟨u,f,t⟩:=x;unfold SV;simp only at hd ⊢;have A1:=(zbN w 92 (.int .i64 u) (.int .i64 f) (.string t)).keep (new_below _ 92 #[.int .i64 0,.int .i64 0,.string ⟨#[]⟩]);have R1:=zbN (w.alloc (.cells #[.int .i64 u,.int .i64 f,.string t] 92)) 92 (.int .i64 0) (.int .i64 0) (.string ⟨#[]⟩);have b1:Below w.heap.size w ((w.alloc (.cells #[.int .i64 u,.int .i64 f,.string t] 92)).alloc (.cells #[.int .i64 0,.int .i64 0,.string ⟨#[]⟩] 92)):=(new_below w _ _).trans ((new_below _ _ _).mono (by simp));go_enter Tryz.func144,Tryz.ntmps144
 go_wp2_with fail
 rw[show(w.alloc (.cells #[.int .i64 u,.int .i64 f,.string t] 92)).heap.size=w.heap.size+1 from by simp] at R1;generalize(w.alloc (.cells #[.int .i64 u,.int .i64 f,.string t] 92)).alloc (.cells #[.int .i64 0,.int .i64 0,.string ⟨#[]⟩] 92)=w1 at A1 R1 b1 ⊢;refine(zbz _ w1 hd).mono ?_;rintro e w2 ⟨rfl,k2⟩;have A2:=A1.keep k2;have R2:=R1.keep k2;have b2:=b1.trans (k2.mono b1.size);clear A1 R1 k2 b1;have a0:=A2.c0;have a1:=A2.c1;have a2:=A2.c2;have g2:=A2.f 2;have r0:=R2.c0;have r1:=R2.c1';have r2:=R2.c2';have f0:=R2.f 0;have f1:=R2.f 1;have f2:=R2.f 2;go_wp2;have A5:=(R2.other (g':=w.heap.size) 2 (.string t) (by omega)).put (a':=.int .i64 u) (b':=.int .i64 f) (c':=.string t);have b5:Below w.heap.size w (st.put (w2.setCell ⟨w.heap.size,2,none⟩ (.string t)) (w.heap.size+1) (.int .i64 u) (.int .i64 f) (.string t)):=zbr (b2.setCell (p:=⟨w.heap.size,2,none⟩) lR _) (by omega);change bodyPost _ _ _ _ _ (st.put (w2.setCell ⟨w.heap.size,2,none⟩ (.string t)) (w.heap.size+1) (.int .i64 u) (.int .i64 f) (.string t));generalize st.put _ _ _ _ _=W5 at A5 b5 ⊢;have d0:=A5.c0;have d1:=A5.c1;have d2:=A5.c2;exact bodyPost_ret (v:=.agg #[.int .i64 u,.int .i64 f,.string t]) (by simp[results,Tryz.results144,go_sem,d0,d1,d2]) rfl ⟨rfl,b5⟩
theorem nan_any(a:Int)(w:World):Calls Tryz.prog 150 #[.int .i64 a] w λe w'=>e=.returned (.bool false)∧w'=w:=by
 have h:((a:Int) != a)=false:=by simp
 go_enter Tryz.func150,Tryz.ntmps150;go_wp2;go_ret;exact⟨rfl,rfl⟩
theorem compare_any(a b:Int)(w:World):Calls Tryz.prog 148 #[.int .i64 a,.int .i64 b] w λe w'=>e=.returned (.int .i64 (cmpI a b))∧w'=w:=by
 by_cases h1:a<b
 ·have hc:cmpI a b=-1:=by simp[cmpI,h1]
  have HC:=hD hc;clear hc;go_enter Tryz.func148,Tryz.ntmps148
  go_wp2_with (go_at_call 150;refine(nan_any _ _).mono ?_;rintro e w' ⟨rfl,rfl⟩)
  go_ret;exact⟨by rw[HC.out];rfl,rfl⟩
 by_cases h2:b<a
 ·have hc:cmpI a b=1:=by simp[cmpI,h1,h2]
  have HC:=hD hc;clear hc;have h1':b≤a:=by omega
  go_enter Tryz.func148,Tryz.ntmps148
  go_wp2_with (go_at_call 150;refine(nan_any _ _).mono ?_;rintro e w' ⟨rfl,rfl⟩)
  go_ret;exact⟨by rw[HC.out];rfl,rfl⟩
 ·have hc:cmpI a b=0:=by simp[cmpI,h1,h2]
  have HC:=hD hc;clear hc;have h1':b≤a:=by omega
  have h2':a≤b:=by omega
  go_enter Tryz.func148,Tryz.ntmps148
  go_wp2_with (go_at_call 150;refine(nan_any _ _).mono ?_;rintro e w' ⟨rfl,rfl⟩)
  go_ret;exact⟨by rw[HC.out];rfl,rfl⟩
theorem byUid_any(x:St)(z:Int)(w:World):Calls Tryz.prog 147 #[SV x,.int .i64 z] w λe w'=>e=.returned (.int .i64 (cmpI x.u z))∧Below w.heap.size w w':=by
 obtain⟨u,f,t⟩:=x;have hb:=new_below w 92 #[.int .i64 u,.int .i64 f,.string t];unfold SV;simp only;go_enter Tryz.func147,Tryz.ntmps147
 go_wp2_with fail
 refine(compare_any _ _ _).mono ?_;rintro e w' ⟨rfl,rfl⟩;go_wp2;go_ret;exact⟨rfl,hb⟩
end st
namespace rs
def left(l:Array Bool):Nat:=l.toList.countP (λb=>!b)
theorem count_set:∀(l:List Bool) (i:Nat),l[i]?=some false→(l.set i true).countP (λb=>!b)+1=l.countP (λb=>!b)
 | [],i,h=>by simp at h
 | b::l,0,h=>by
  have hb:b=false:=by simpa using h
  subst hb;simp
 | b::l,i+1,h=>by
  have ih:=count_set l i (by simpa using h);rw[List.set_cons_succ,List.countP_cons,List.countP_cons];omega
theorem zcf{l:Array Bool}{i:Nat}(h:l.getD i true=false):l.toList[i]?=some false:=by
 cases hl:l[i]? with
 | none=>simp[hl] at h
 | some b =>
  simp[hl] at h;subst h;simpa using hl
theorem zcG{l:Array Bool}{i:Nat}(h:l.getD i true=false):left (l.setIfInBounds i true)+1=left l:=by
 unfold left;rw[Array.toList_setIfInBounds];exact count_set _ _ (zcf h)
theorem left_zero{l:Array Bool}(h:left l=0)(i:Nat):l.getD i true=true:=by
 cases hg:l.getD i true with
 | true=>rfl
 | false =>
  have:=zcG hg;omega
section
variable {P:Program}{ops:Array Oper}{Q:Exit→Act→World→Prop}
theorem inv{md:Region.Mode}(I:Array Bool→Act→World→Prop)
  (hstep:∀listed a w i,I listed a w→i∈Region.ready md ops listed→wpOp P ops Q i (λa' w'=>I (listed.setIfInBounds i true) a' w') a w)
  (hend:∀listed a w,I listed a w→Region.ready md ops listed=[]→Q .normal a w) :
  ∀(fuel:Nat) (listed:Array Bool) (a:Act) (w:World),left listed≤fuel→I listed a w→wpAny P md ops Q fuel listed a w
 | 0,listed,a,w,hl,h=>by
  have hr:Region.ready md ops listed=[]:=by
   rw[List.eq_nil_iff_forall_not_mem];intro i hi;have:=(mem_ready.1 hi).1;rw[left_zero (by omega) i] at this;cases this
  exact⟨hr,hend listed a w h hr⟩
 | fuel+1,listed,a,w,hl,h=>by
  refine⟨λhr=>hend listed a w h hr,λi hi=>?_⟩;have h1:=zcG (mem_ready.1 hi).1;exact wpOp_mono (λa' w' h'=>inv I hstep hend fuel _ a' w' (by omega) h') (hstep listed a w i h hi)
def upd(f:Nat→Value)(i:Nat)(v:Value):Nat→Value:=λj=>if j=i then v else f j
theorem upd_same(f:Nat→Value)(i:Nat)(v:Value):upd f i v i=v:=by simp[upd]
theorem zad(f:Nat→Value)(i:Nat)(v:Value){j:Nat}(h:j≠i):upd f i v j=f j:=by simp[upd,h]
theorem zbB{l:Array Bool}{i j:Nat}(h:(l.setIfInBounds i true).getD j false=true):j=i∨l.getD j false=true:=by
 by_cases e:j=i
 ·exact .inl e
 ·right;simpa [Array.getElem?_setIfInBounds_ne (Ne.symm e)] using h
theorem zcc{md:Region.Mode}{listed:Array Bool}(hs:listed.size=ops.size)(hdeps:∀(i:Nat) (o:Oper),ops[i]?=some o→∀e∈o.after,Region.binds md e=true→e.on<i)(hr:Region.ready md ops listed=[]):∀(k i:Nat),i<k→i<ops.size→listed.getD i false=true
 | 0,i,h,_=>by omega
 | k+1,i,h,hi=>by
  by_cases hk:i<k
  ·exact zcc hs hdeps hr k i hk hi
  ·have hik:i=k:=by omega
   subst hik
   cases hg:listed.getD i true with
   | true =>
    have hlt:i<listed.size:=by omega
    simp[Array.getElem?_eq_getElem hlt] at hg ⊢;exact hg
   | false =>
    exfalso
    have ho:=Array.getElem?_eq_getElem hi;have:i∈Region.ready md ops listed:=mem_ready.2 ⟨hg,_,ho,λe he hb=>zcc hs hdeps hr i e.on (hdeps i _ ho e he hb) (Nat.lt_trans (hdeps i _ ho e he hb) hi)⟩;rw[hr] at this;cases this
theorem zaW{id:Nat}{a:Act}{w:World}(hm:P.follows .mixedOrders=true)(act:(Nat→Value)→Act)(J:(Nat→Prop)→(Nat→Value)→World→Prop)(v0:Nat→Value)
  (ha:a=act v0) (h0:J (λ_=>False) v0 w.drew) (hdeps:∀(i:Nat) (o:Oper),ops[i]?=some o→∀e∈o.after,Region.binds .any e=true→e.on<i)
  (hop:∀(i:Nat) (o:Oper),ops[i]?=some o→∀(D:Nat→Prop) (vals:Nat→Value) (w:World),J D vals w→(∀e∈o.after,Region.binds .any e=true→D e.on)→¬D i→(∀(j:Nat) (oj:Oper),D j→ops[j]?=some oj→∀e∈oj.after,Region.binds .any e=true→D e.on) →
   wpOp P ops Q i (λa' w'=>∃v,a'=act (upd vals i v)∧J (λj=>j=i∨D j) (upd vals i v) w') (act vals) w)
  (hend:∀(D:Nat→Prop) (vals:Nat→Value) (w:World),(∀i,i<ops.size→D i)→J D vals w→Q .normal (act vals) w) :
  (Code.region id ops true).wp P Q a w:=by
 refine wp_region_any hm ?_;refine inv (λlisted a w=>listed.size=ops.size∧(∀(j:Nat) (oj:Oper),listed.getD j false=true→ops[j]?=some oj→∀e∈oj.after,Region.binds .any e=true→listed.getD e.on false=true)∧∃vals,a=act vals∧J (λj=>listed.getD j false=true) vals w) ?_ ?_ _ _ _ _ ?_ ?_
 ·rintro listed a w i ⟨hs,hcl,vals,rfl,hJ⟩ hi;obtain⟨hg,o,ho,hall⟩:=mem_ready.1 hi;have hni:¬listed.getD i false=true:=by
   have h1:=zcf hg;have h2:listed[i]?=some false:=by simpa using h1
   simp[h2]
  refine wpOp_mono ?_ (hop i o ho (λj=>listed.getD j false=true) vals w hJ hall hni hcl);rintro a' w' ⟨v,rfl,hJ'⟩;have hup:∀k,listed.getD k false=true→(listed.setIfInBounds i true).getD k false=true:=λk hk=>by
   by_cases e:k=i
   ·subst e;exact absurd hk hni
   ·simpa [Array.getElem?_setIfInBounds_ne (Ne.symm e)] using hk
  have hlt:i<listed.size:=by
   have h1:=zcf hg;have h2:listed[i]?=some false:=by simpa using h1
   exact(Array.getElem?_eq_some_iff.1 h2).1
  have hD:(λj=>(listed.setIfInBounds i true).getD j false=true)=(λj=>j=i∨listed.getD j false=true):=by
   funext j
   refine propext ⟨λh=>zbB h,λh=>?_⟩
   rcases h with h|h
   ·subst h;simp[Array.getElem?_setIfInBounds_self_of_lt hlt]
   ·exact hup j h
  refine⟨by rw[Array.size_setIfInBounds];exact hs,λj oj hj hoj e he hb=>?_,_,rfl,by rw[hD];exact hJ'⟩
  rcases zbB hj with h|h
  ·subst h;rw[ho] at hoj;cases hoj;exact hup _ (hall e he hb)
  ·exact hup _ (hcl j oj h hoj e he hb)
 ·rintro listed a w ⟨hs,_,vals,rfl,hJ⟩ hr;exact hend _ vals w (λi hi=>zcc hs hdeps hr (i+1) i (Nat.lt_succ_self i) hi) hJ
 ·unfold left;refine Nat.le_trans List.countP_le_length ?_;simp
 ·have hno:∀j,¬(Array.replicate ops.size false).getD j false=true:=λj hj=>by
   by_cases hj2:j<ops.size
   ·simp[hj2] at hj
   ·simp[hj2] at hj
  refine⟨by simp,λj _ hj=>absurd hj (hno j),v0,ha,?_⟩;rw[show(λj=>(Array.replicate ops.size false).getD j false=true)=(λ_=>False) from funext λj=>propext ⟨λh=>hno j h,False.elim⟩];exact h0
theorem zaK(h:(ops.toList.zipIdx.all λx=>x.1.after.all λe=>!Region.binds .any e||decide (e.on<x.2))=true):∀(i:Nat) (o:Oper),ops[i]?=some o→∀e∈o.after,Region.binds .any e=true→e.on<i:=by
 intro i o ho e he hbd;have h1:(o,i)∈ops.toList.zipIdx:=by
  rw[List.mk_mem_zipIdx_iff_getElem?];simpa using ho
 have h2:=List.all_eq_true.1 h _ h1;have h3:=Array.all_eq_true_iff_forall_mem.1 h2 e he;rw[hbd] at h3;simpa using h3
end
end rs
namespace rk
open rs
def JK(V:Nat→Option Value)(K:World→Prop)(D:Nat→Prop)(f:Nat→Value)(x:World):Prop:=(∀j,D j→∀y,V j=some y→f j=y)∧K x
theorem JK.step{V:Nat→Option Value}{K:World→Prop}{D:Nat→Prop}{f:Nat→Value}{x x':World}{i:Nat}(y:Value)(h:JK V K D f x)(hy:∀z,V i=some z→y=z)(hk:K x'):JK V K (λj=>j=i∨D j) (upd f i y) x':=by
 refine⟨λj hj z hz=>?_,hk⟩;by_cases e:j=i
 ·subst e;rw[upd_same];exact hy z hz
 ·rw[zad f i y e];exact h.1 j (hj.resolve_left e) z hz
end rk
end Go.Proofs.YtmnflpmfngjllaaGreatDoor
