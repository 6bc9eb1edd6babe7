/-
  FnReplayCardSaid
-/
import Derived.Test.YtmnflpmfngjllaaGreatDoorPkbx
set_option maxHeartbeats 16000000
set_option maxRecDepth 100000
set_option linter.unusedVariables false
namespace Go.Proofs.YtmnflpmfngjllaaGreatDoor
namespace dm
open Go.RowKit Go.Deep
open it
open sr (Src src_keep code_keep code_keep' next_any chance_any)
open se (B6)
theorem infoMut:(Tryz.prog.info? 35).map (λi=>(i.zero,i.size,i.bytes))=some (some (.agg #[.int .i64 0,.int .i64 0,.int .i64 0,.int .i64 0,.string ⟨#[]⟩,.slice none 0 0]),6,72):=by kernel_rfl
def news:ByteArray:=⟨#[110,101,119,115]⟩
def mrow(p:mu.Mu×Value):List Value:=[.int .i64 p.1.k,.int .i64 p.1.u,.int .i64 p.1.m,.int .i64 p.1.f,.string p.1.b,p.2]
def zbE(L:List (mu.Mu×Value)):List Value:=L.flatMap mrow
theorem mcells_snoc(L:List (mu.Mu×Value))(p:mu.Mu×Value):zbE (L++[p])=zbE L++mrow p:=by simp[zbE]
theorem mcells_at:∀(L:List (mu.Mu×Value)) (j i:Nat) (p:mu.Mu×Value),L[j]?=some p→i<6→(zbE L)[j*6+i]?=(mrow p)[i]?
 | [],j,i,p,h,hi=>by simp at h
 | q::L,0,i,p,h,hi=>by
  simp at h;subst h;show(mrow q++zbE L)[0*6+i]?=_;rw[Nat.zero_mul,Nat.zero_add,List.getElem?_append_left (by simp[mrow];omega)]
 | q::L,j+1,i,p,h,hi=>by
  have:=mcells_at L j i p (by simpa using h) hi;show(mrow q++zbE L)[(j+1)*6+i]?=_;rw[List.getElem?_append_right (by simp[mrow];omega)];rw[show(j+1)*6+i-(mrow q).length=j*6+i by simp[mrow];omega];exact this
def OwnM(w:World)(B:Nat)(v:Value)(L:List (mu.Mu×Value)):Prop:=w.ownsRow B 35 6 v L.length (zbE L)∧∀p∈L,zag w B p.2 p.1.ps
theorem row_row{x:World}{b1 b2 e1 e2 s1 s2 n1 n2:Nat}{v u:Value}{xs ys:List Value}(h:x.ownsRow b1 e1 s1 v n1 xs)(h2:x.ownsRow b2 e2 s2 u n2 ys)(hne:e1≠e2):∀k,v.ownBlock=some k→u.ownBlock≠some k:=by
 intro k hk hu
 rcases h.2 with⟨rfl,_⟩|⟨g,cap,cur,rfl,_,hc,_⟩
 ·simp[Value.ownBlock] at hk
 rcases h2.2 with⟨rfl,_⟩|⟨g',cap',cur',rfl,_,hc',_⟩
 ·simp[Value.ownBlock] at hu
 have e1':g=k:=by simpa [Value.ownBlock] using hk
 have e2':g'=k:=by simpa [Value.ownBlock] using hu
 subst e1' e2';rw[hc] at hc';simp at hc';exact hne hc'.2
theorem OwnM.grow{w w':World}{B:Nat}{v:Value}{L:List (mu.Mu×Value)}{row:Option Nat}(h:OwnM w B v L)(hg:w.grownBy w' row)(hr:∀k,row=some k→k<B∨w.heap.size≤k):OwnM w' B v L:=by
 have key:∀{e size n:Nat} {v:Value} {xs:List Value},w.ownsRow B e size v n xs→w'.ownsRow B e size v n xs:=by
  intro e size n v xs ho;refine ho.kept hg ?_
  cases hv:v.ownBlock with
  | none=>exact .inl rfl
  | some k =>
   refine .inr λe=>?_
   have h1:=ho.lt k hv;have h2:=hr k e.symm;omega
 exact⟨key h.1,λp hp=>key (h.2 p hp)⟩
theorem zag.grow{w w':World}{B:Nat}{v:Value}{ps:List Pr}{row:Option Nat}(h:zag w B v ps)(hg:w.grownBy w' row)(hr:∀k,row=some k→k<B∨w.heap.size≤k):zag w' B v ps:=by
 refine h.kept hg ?_
 cases hv:v.ownBlock with
 | none=>exact .inl rfl
 | some k =>
  refine .inr λe=>?_
  have h1:=h.lt k hv;have h2:=hr k e.symm;omega
theorem OwnM.app{y y':World}{B:Nat}{v v':Value}{L:List (mu.Mu×Value)}{p:mu.Mu×Value}(h:OwnM y B v L)(hr:zag y B p.2 p.1.ps)(hg:y.grownBy y' v.ownBlock)(ho:y'.ownsRow B 35 6 v' (L.length+1) (zbE L++mrow p)):OwnM y' B v' (L++[p]):=by
 have key:∀{u:Value} {ps:List Pr},zag y B u ps→zag y' B u ps:=by
  intro u ps hu;refine World.ownsRow.kept hu hg ?_
  cases hv:u.ownBlock with
  | none=>exact .inl rfl
  | some k=>exact .inr λe=>row_row hu h.1 (by decide) k hv e.symm
 refine⟨by rw[mcells_snoc,List.length_append];exact ho,λx hx=>?_⟩
 rcases List.mem_append.1 hx with h'|h'
 ·exact key (h.2 x h')
 ·rw[List.mem_singleton.1 h'];exact key hr
theorem mok_news{x:mu.Mu}(h:mu.mok x=true):mu.mok {x with b:=news} = true:=by
 have h2:mu.zaZ x.ps=true:=by
  cases e:mu.zaZ x.ps with
  | true=>rfl
  | false=>rw[mu.mok_its e] at h;cases h
 have h1:mu.nmB x.b=true:=by
  cases e:mu.nmB x.b with
  | true=>rfl
  | false=>rw[mu.mok_name e] at h;cases h
 rw[mu.zcH h1 h2] at h;rw[mu.zcH (x:={x with b:=news}) (zcv news (by simp[za8,news])) h2];exact h
theorem mok_first:mu.mok ⟨1,0,0,0,news,[]⟩=true:=mok_of (by simp[za8,news]) (Nat.zero_le _) (λj hj=>absurd hj (Nat.not_lt_zero _)) (by show mu.zbb 1 0 0 0 0=true;decide)
theorem size_any(w:World)(b:Nat)(a:Option Addr)(len cap:Nat)(at_ sd:Int)(most:Nat)(hs:Src w b a len cap at_ sd)(hl:len≤1048576)(hm:1≤most)(hm2:most≤1000) :
  Calls Tryz.prog 28 #[.pointer (some ⟨b,0,none⟩),.int .i64 most] w λe w'=>∃z:Nat,e=.returned (.int .i64 z)∧1≤z∧z≤most∧w'=w:=by
 have c0:=hs.c0;obtain⟨q,hd,hd2⟩:∃q:Nat,(len:Int) / 12=(q:Int)∧q≤1048576:=⟨len / 12,rfl,by omega⟩
 clear hs;go_enter Tryz.func28,Tryz.ntmps28;go_wp2;go_ret;have e:((min (1+q) most:Nat):Int)=min (1+(q:Int)) (most:Int):=by omega
 exact⟨min (1+q) most,by rw[e];rfl,by omega,by omega,rfl⟩
def DrawnL(w:World)(b:Nat)(e:Ending)(w':World):Prop :=
 ∃(v:Value) (L:List (mu.Mu×Value)),e=.returned v∧OwnM w' w.heap.size v L∧L.length≤20∧(∀p∈L,mu.mok p.1=true∧p.1.ps.length≤3)∧w.grownBy w' (some b)
theorem mutations_any(w:World)(b:Nat)(a:Option Addr)(len cap:Nat)(at_ sd:Int)(hs:Src w b a len cap at_ sd)(hc:sr.Code w b a len)(h0:0≤at_)(h1:at_≤1000)(s0:0≤sd)(s1:sd<2147483648) :
  Calls Tryz.prog 15 #[.pointer (some ⟨b,0,none⟩)] w λe w'=>DrawnL w b e w':=by
 have hbw:b<w.heap.size:=(Array.getElem?_eq_some_iff.1 hs).1;have hl:len≤1048576:=hc.1;obtain⟨i0,hi,hz0,hz1,hz2⟩:=info_parts infoMut;have hga:w.grownBy (w.alloc (.cells #[.int .i64 1,.int .i64 0,.int .i64 0,.int .i64 0,.string ⟨#[110,101,119,115]⟩,.slice none 0 0] 35)) none:=World.grownBy_alloc _ _ _;have HSA:Hid (Src (w.alloc (.cells #[.int .i64 1,.int .i64 0,.int .i64 0,.int .i64 0,.string ⟨#[110,101,119,115]⟩,.slice none 0 0] 35)) b a len cap at_ sd):=src_keep hs hga (by simp);have HCA:Hid (sr.Code (w.alloc (.cells #[.int .i64 1,.int .i64 0,.int .i64 0,.int .i64 0,.string ⟨#[110,101,119,115]⟩,.slice none 0 0] 35)) b a len):=code_keep' hc hga (by simp);have HGA:Hid (w.grownBy (w.alloc (.cells #[.int .i64 1,.int .i64 0,.int .i64 0,.int .i64 0,.string ⟨#[110,101,119,115]⟩,.slice none 0 0] 35)) (some b)):=grown_wide b hga;have HOA:Hid (OwnM (w.alloc (.cells #[.int .i64 1,.int .i64 0,.int .i64 0,.int .i64 0,.string ⟨#[110,101,119,115]⟩,.slice none 0 0] 35)) w.heap.size (.slice (some ⟨w.heap.size,0,none⟩) 1 1) [(⟨1,0,0,0,news,[]⟩,.slice none 0 0)]):=by
  refine⟨?_,λp hp=>?_⟩
  ·exact⟨by simp[zbE,mrow],.inr ⟨w.heap.size,1,_,rfl,Nat.le_refl _,(MapKept.heap_alloc w _).1,by simp,by unfold maxLen;omega,by simp,by simp[zbE,mrow,news]⟩⟩
  ·rw[List.mem_singleton] at hp;subst hp;exact World.ownsRow_nil _ _ _ _
 clear hs hc hga;go_enter Tryz.func15,Tryz.ntmps15
 go_wp2_with fail
 obtain⟨X,hX⟩:∃X,X=w.alloc (.cells #[.int .i64 1,.int .i64 0,.int .i64 0,.int .i64 0,.string ⟨#[110,101,119,115]⟩,.slice none 0 0] 35):=⟨_,rfl⟩
 rw[←hX] at HSA HCA HGA HOA ⊢;clear hX;refine(size_any X b a len cap at_ sd 16 HSA.out hl (by omega) (by omega)).mono ?_;rintro e w1 ⟨z,rfl,z0,z1,hw1⟩;subst hw1;have hz2':(z:Int)≤16:=by omega
 have hz3:(1:Int)≤(z:Int):=by omega
 go_wp2_with fail
 refine(next_any w1 b a len cap at_ sd _ HSA.out HCA.out h0 (by omega) s0 s1 (by omega) (by omega)).mono ?_;rintro e w2 ⟨r,at2,sd2,rfl,r0,r1,a2,a3,d2,d3,hs2,hg2⟩;have H2:Hid (Src w2 b a len cap at2 sd2∧sr.Code w2 b a len∧w.grownBy w2 (some b)∧OwnM w2 w.heap.size (.slice (some ⟨w.heap.size,0,none⟩) 1 1) [(⟨1,0,0,0,news,[]⟩,.slice none 0 0)]):=⟨hs2,code_keep HCA.out hg2,ow.zah HGA.out hg2,HOA.out.grow hg2 (λk e=>by have:=Option.some.inj e;omega)⟩
 obtain⟨q,rfl⟩:∃q:Nat,r=(q:Int):=⟨r.toNat,by omega⟩
 have hq:q≤18:=by omega
 clear HSA HCA HGA HOA hs2 hg2;go_wp2
 go_loopw [3,4] (λv i wr=>∃(j:Nat) (L:List (mu.Mu×Value)) (at3 sd3:Int),j≤q∧i=.int .i64 j∧L.length+j=q+1∧(∀p∈L,mu.mok p.1=true∧p.1.ps.length≤3)∧OwnM wr w.heap.size v L∧Src wr b a len cap at3 sd3∧sr.Code wr b a len∧w.grownBy wr (some b)∧0≤at3∧at3+300*(j:Int)≤20000∧0≤sd3∧sd3<2147483648) (λ_ i _=>(intOf i).toNat)
 case atStart=>exact⟨q,_,at2,sd2,Nat.le_refl _,rfl,by show 1+q=q+1;omega,λp hp=>by rw[List.mem_singleton] at hp;subst hp;exact⟨mok_first,Nat.zero_le _⟩,H2.out.2.2.2,H2.out.1,H2.out.2.1,H2.out.2.2.1,by omega,by omega,d2,d3⟩
 case round =>
  clear H2;obtain⟨j,L,at3,sd3,hj,rfl,hLj,hL,hown,hs3,hc3,hg3,b0,b1,b2,b3⟩:=hrel;have HL:Hid (∀p∈L,mu.mok p.1=true∧p.1.ps.length≤3):=hL;have HO:Hid (OwnM wr w.heap.size u3 L):=hown;clear hL hown;by_cases hlt:0<j
  ·have hlt':(0:Int)<(j:Int):=by omega
   have HC:Hid (Calls Tryz.prog 29 #[.pointer (some ⟨b,0,none⟩)] wr λe w'=>DrawnM wr b a len cap at3 e w'):=zdl wr b a len cap at3 sd3 hs3 hc3 b0 (by omega) b2 b3;have HG3:Hid (w.grownBy wr (some b)):=hg3;have hsz:=hg3.size;clear hs3 hc3 hg3
   go_wp2_with fail
   refine HC.out.mono ?_;rintro e w4 ⟨x,v,at4,sd4,rfl,hm,hp,hr,a4,a5,d4,d5,hs4,hc4,hg4⟩;obtain⟨k0,u0,m0,f0,bx,ps⟩:=x;have o4:=HO.out.grow hg4 (λk e=>by have:=Option.some.inj e;omega);have r4:zag w4 w.heap.size v ps:=zaM hr hsz;have g4:=ow.zah HG3.out hg4;have hsz4:=hg4.size;unfold mu.MV;simp only;obtain⟨av,nv,cv,rfl⟩:∃a n c,v=.slice a n c:=by
    rcases hr.2 with⟨rfl,_⟩|⟨g,cap,cur,rfl,_⟩
    ·exact⟨_,_,_,rfl⟩
    ·exact⟨_,_,_,rfl⟩
   have hal4:Below w4.heap.size w4 (w4.alloc (.cells #[.int .i64 k0,.int .i64 u0,.int .i64 m0,.int .i64 f0,.string bx,.slice av nv cv] 35)):=(Below.refl _ _).alloc (Nat.le_refl _) _;have gal4:=grown_of hal4;have F5:Hid (Src (w4.alloc (.cells #[.int .i64 k0,.int .i64 u0,.int .i64 m0,.int .i64 f0,.string bx,.slice av nv cv] 35)) b a len cap at4 sd4∧sr.Code (w4.alloc (.cells #[.int .i64 k0,.int .i64 u0,.int .i64 m0,.int .i64 f0,.string bx,.slice av nv cv] 35)) b a len∧w.grownBy (w4.alloc (.cells #[.int .i64 k0,.int .i64 u0,.int .i64 m0,.int .i64 f0,.string bx,.slice av nv cv] 35)) (some b)∧OwnM (w4.alloc (.cells #[.int .i64 k0,.int .i64 u0,.int .i64 m0,.int .i64 f0,.string bx,.slice av nv cv] 35)) w.heap.size u3 L∧zag (w4.alloc (.cells #[.int .i64 k0,.int .i64 u0,.int .i64 m0,.int .i64 f0,.string bx,.slice av nv cv] 35)) w.heap.size (.slice av nv cv) ps) :=
    ⟨src_keep hs4 gal4 (by simp),code_keep' hc4 gal4 (by simp),zbq g4 gal4 (by simp),o4.grow gal4 (λk e=>by cases e),zag.grow r4 gal4 (λk e=>by cases e)⟩
   have M5:Hid (MV6 (w4.alloc (.cells #[.int .i64 k0,.int .i64 u0,.int .i64 m0,.int .i64 f0,.string bx,.slice av nv cv] 35)) w4.heap.size k0 u0 m0 f0 bx (.slice av nv cv)):=(MapKept.heap_alloc w4 _).1;have HM:Hid (mu.mok ⟨k0,u0,m0,f0,bx,ps⟩=true∧ps.length≤3):=⟨hm,hp⟩
   have HLT:Hid (∀k,(Value.slice av nv cv).ownBlock=some k→k<w4.heap.size):=λk e=>(r4.lt k e).2
   have HLT2:Hid (OwnM w4 w.heap.size u3 L):=o4;have hw4:w.heap.size≤w4.heap.size:=by omega
   clear HC hm hp hr hs4 hc4 hg4 o4 r4 g4 hal4 gal4 HO HG3
   go_wp2_with fail
   obtain⟨w5,hw5⟩:∃W,W=w4.alloc (.cells #[.int .i64 k0,.int .i64 u0,.int .i64 m0,.int .i64 f0,.string bx,.slice av nv cv] 35):=⟨_,rfl⟩
   have hz5:w5.heap.size=w4.heap.size+1:=by rw[hw5];simp
   rw[←hw5] at F5 M5 ⊢;refine(chance_any w5 b a len cap at4 sd4 2 F5.out.1 F5.out.2.1 (by omega) (by omega) d4 d5 (by omega) (by omega)).mono ?_;rintro e w6 ⟨c,at5,sd5,rfl,a6,a7,d6,d7,hs6,hg6⟩;have M6:Hid (MV6 w6 w4.heap.size k0 u0 m0 f0 bx (.slice av nv cv)):=B6.grow M5.out hg6 (λe=>by have:=Option.some.inj e;omega);have F6:Hid (Src w6 b a len cap at5 sd5∧sr.Code w6 b a len∧w.grownBy w6 (some b)∧OwnM w6 w.heap.size u3 L∧zag w6 w.heap.size (.slice av nv cv) ps):=⟨hs6,code_keep F5.out.2.1 hg6,ow.zah F5.out.2.2.1 hg6,F5.out.2.2.2.1.grow hg6 (λk e=>by have:=Option.some.inj e;omega),zag.grow F5.out.2.2.2.2 hg6 (λk e=>by have:=Option.some.inj e;omega)⟩
   have hz6:w5.heap.size≤w6.heap.size:=hg6.size;clear hs6 hg6 F5 M5 hw5;cases c
   ·clear HLT HLT2 hz5 hz6;have c0:w6.cell? ⟨w4.heap.size,0,none⟩=_:=(B6.cell M6.out 0 _ rfl)
    have c1:w6.cell? ⟨w4.heap.size,0+1,none⟩=_:=(B6.cell M6.out 1 _ rfl)
    have c2:w6.cell? ⟨w4.heap.size,0+2,none⟩=_:=(B6.cell M6.out 2 _ rfl)
    have c3:w6.cell? ⟨w4.heap.size,0+3,none⟩=_:=(B6.cell M6.out 3 _ rfl)
    have c4:w6.cell? ⟨w4.heap.size,0+4,none⟩=_:=(B6.cell M6.out 4 _ rfl)
    have c5:w6.cell? ⟨w4.heap.size,0+5,none⟩=_:=(B6.cell M6.out 5 _ rfl)
    have ho:=F6.out.2.2.2.1.1;have hle:w.heap.size≤w6.heap.size:=F6.out.2.2.1.size
    go_wp2_with (at_builtin;refine wpList_append_own _ rfl _ _ 30 rfl w.heap.size 35 i0 (.agg #[.int .i64 0,.int .i64 0,.int .i64 0,.int .i64 0,.string ⟨#[]⟩,.slice none 0 0]) 6 72 Tryz.underlying30 hi hz0 hz1 hz2 rfl (by decide) _ _ _ rfl (ho.alloc _) ⟨w6.heap.size,0,none⟩ 1 1 (mrow (⟨k0,u0,m0,f0,bx,ps⟩,.slice av nv cv)) rfl rfl (ow.zaI _ (mrow (⟨k0,u0,m0,f0,bx,ps⟩,.slice av nv cv)) _) (by intro u hu;simp[mrow] at hu;rcases hu with rfl|rfl|rfl|rfl|rfl|rfl<;>rfl) (by unfold maxLen;omega) (by omega) (by simp;omega) ?_;intro v' w8 hown8 hgrow8 hnil8)
    have hal:w6.grownBy (w6.alloc (.cells #[.int .i64 k0,.int .i64 u0,.int .i64 m0,.int .i64 f0,.string bx,.slice av nv cv] 35)) none:=World.grownBy_alloc _ _ _;have HE:Hid (OwnM w8 w.heap.size v' (L++[(⟨k0,u0,m0,f0,bx,ps⟩,.slice av nv cv)])∧Src w8 b a len cap at5 sd5∧sr.Code w8 b a len∧w.grownBy w8 (some b)):=by
     obtain⟨g1,g2,g3,g4,g5⟩:=F6.out;have o9:=g4.grow hal (λk e=>by cases e);have r9:=zag.grow g5 hal (λk e=>by cases e);have hlo:∀k,u3.ownBlock=some k→w.heap.size≤k:=λk e=>(g4.1.lt k e).1
     have hg9:(w6.alloc (.cells #[.int .i64 k0,.int .i64 u0,.int .i64 m0,.int .i64 f0,.string bx,.slice av nv cv] 35)).grownBy w8 u3.ownBlock:=hgrow8;refine⟨OwnM.app o9 r9 hg9 hown8,src_keep (src_keep g1 hal (by simp)) hg9 (λe=>by have:=hlo _ e.symm;omega),code_keep' (code_keep' g2 hal (by simp)) hg9 (λk e=>by have:=hlo k e;omega),zbq (zbq g3 hal (by simp)) hg9 hlo⟩
    clear hown8 hgrow8 hnil8 ho c0 c1 c2 c3 c4 c5 hal F6 M6;go_wp2
    go_roundw
    case rel =>
     refine⟨j-1,L++[(⟨k0,u0,m0,f0,bx,ps⟩,.slice av nv cv)],at5,sd5,by omega,by congr 1;omega,by simp;omega,λy hy=>?_,HE.out.1,HE.out.2.1,HE.out.2.2.1,HE.out.2.2.2,by omega,by omega,d6,d7⟩
     rcases List.mem_append.1 hy with h|h
     ·exact HL.out y h
     ·rw[List.mem_singleton.1 h];exact HM.out
    case measure=>simp[intOf];omega
   ·have c4':w6.cell? ⟨w4.heap.size,0+4,none⟩=_:=B6.cell M6.out 4 _ rfl;have c4'':w6.cell? ⟨w4.heap.size,4,none⟩=_:=B6.cell M6.out 4 _ rfl;have fM:=se.B6.f M6.out;have HZ:Hid (w5.heap.size=w4.heap.size+1∧w5.heap.size≤w6.heap.size):=⟨hz5,hz6⟩
    clear hz5 hz6
    go_upto_region 8 with fail
    generalize hX:World.setCell _ _ _=w7;have eX:w7=w6.setCell ⟨w4.heap.size,4,none⟩ (.string news):=hX.symm;have hg7:w6.grownBy w7 (some w4.heap.size):=by rw[eX];exact sr.zam _ _ _ _
    have M7:Hid (MV6 w7 w4.heap.size k0 u0 m0 f0 news (.slice av nv cv)):=by rw[eX];exact heap_setCell_same _ w4.heap.size 4 _ _ _ M6.out
    have key:∀{e size n:Nat} {v:Value} {xs:List Value},w6.ownsRow w.heap.size e size v n xs→(∀k,v.ownBlock=some k→k<w4.heap.size)→w7.ownsRow w.heap.size e size v n xs:=by
     intro e size n v xs ho hk;refine ho.kept hg7 ?_
     cases hv:v.ownBlock with
     | none=>exact .inl rfl
     | some k=>exact .inr λe=>by have:=hk k hv;have:=Option.some.inj e;omega
    have F7:Hid (Src w7 b a len cap at5 sd5∧sr.Code w7 b a len∧w.grownBy w7 (some b)∧OwnM w7 w.heap.size u3 L∧zag w7 w.heap.size (.slice av nv cv) ps):=by
     obtain⟨g1,g2,g3,g4,g5⟩:=F6.out;exact⟨src_keep g1 hg7 (λe=>by have:=Option.some.inj e;omega),code_keep' g2 hg7 (λk e=>by have:=Option.some.inj e;omega),zbq g3 hg7 (λk e=>by have:=Option.some.inj e;omega),⟨key g4.1 (λk e=>(HLT2.out.1.lt k e).2),λp hp=>key (g4.2 p hp) (λk e=>((HLT2.out.2 p hp).lt k e).2)⟩,key g5 HLT.out⟩
    clear hX eX hg7 key HLT HLT2 M6 F6 HZ c4' c4'' fM;have c0:w7.cell? ⟨w4.heap.size,0,none⟩=_:=(B6.cell M7.out 0 _ rfl)
    have c1:w7.cell? ⟨w4.heap.size,0+1,none⟩=_:=(B6.cell M7.out 1 _ rfl)
    have c2:w7.cell? ⟨w4.heap.size,0+2,none⟩=_:=(B6.cell M7.out 2 _ rfl)
    have c3:w7.cell? ⟨w4.heap.size,0+3,none⟩=_:=(B6.cell M7.out 3 _ rfl)
    have c4:w7.cell? ⟨w4.heap.size,0+4,none⟩=_:=(B6.cell M7.out 4 _ rfl)
    have c5:w7.cell? ⟨w4.heap.size,0+5,none⟩=_:=(B6.cell M7.out 5 _ rfl)
    have ho:=F7.out.2.2.2.1.1;have hle:w.heap.size≤w7.heap.size:=F7.out.2.2.1.size
    go_wp2_with (at_builtin;refine wpList_append_own _ rfl _ _ 30 rfl w.heap.size 35 i0 (.agg #[.int .i64 0,.int .i64 0,.int .i64 0,.int .i64 0,.string ⟨#[]⟩,.slice none 0 0]) 6 72 Tryz.underlying30 hi hz0 hz1 hz2 rfl (by decide) _ _ _ rfl (ho.alloc _) ⟨w7.heap.size,0,none⟩ 1 1 (mrow (⟨k0,u0,m0,f0,news,ps⟩,.slice av nv cv)) rfl rfl (ow.zaI _ (mrow (⟨k0,u0,m0,f0,news,ps⟩,.slice av nv cv)) _) (by intro u hu;simp[mrow] at hu;rcases hu with rfl|rfl|rfl|rfl|rfl|rfl<;>rfl) (by unfold maxLen;omega) (by omega) (by simp;omega) ?_;intro v' w8 hown8 hgrow8 hnil8)
    have hal:w7.grownBy (w7.alloc (.cells #[.int .i64 k0,.int .i64 u0,.int .i64 m0,.int .i64 f0,.string news,.slice av nv cv] 35)) none:=World.grownBy_alloc _ _ _;have HE:Hid (OwnM w8 w.heap.size v' (L++[(⟨k0,u0,m0,f0,news,ps⟩,.slice av nv cv)])∧Src w8 b a len cap at5 sd5∧sr.Code w8 b a len∧w.grownBy w8 (some b)):=by
     obtain⟨g1,g2,g3,g4,g5⟩:=F7.out;have o9:=g4.grow hal (λk e=>by cases e);have r9:=zag.grow g5 hal (λk e=>by cases e);have hlo:∀k,u3.ownBlock=some k→w.heap.size≤k:=λk e=>(g4.1.lt k e).1
     have hg9:(w7.alloc (.cells #[.int .i64 k0,.int .i64 u0,.int .i64 m0,.int .i64 f0,.string news,.slice av nv cv] 35)).grownBy w8 u3.ownBlock:=hgrow8;refine⟨OwnM.app o9 r9 hg9 hown8,src_keep (src_keep g1 hal (by simp)) hg9 (λe=>by have:=hlo _ e.symm;omega),code_keep' (code_keep' g2 hal (by simp)) hg9 (λk e=>by have:=hlo k e;omega),zbq (zbq g3 hal (by simp)) hg9 hlo⟩
    clear hown8 hgrow8 hnil8 ho c0 c1 c2 c3 c4 c5 hal F7 M7;go_wp2
    go_roundw
    case rel =>
     refine⟨j-1,L++[(⟨k0,u0,m0,f0,news,ps⟩,.slice av nv cv)],at5,sd5,by omega,by congr 1;omega,by simp;omega,λy hy=>?_,HE.out.1,HE.out.2.1,HE.out.2.2.1,HE.out.2.2.2,by omega,by omega,d6,d7⟩
     rcases List.mem_append.1 hy with h|h
     ·exact HL.out y h
     ·rw[List.mem_singleton.1 h];exact⟨mok_news HM.out.1,HM.out.2⟩
    case measure=>simp[intOf];omega
  ·have hj0:j=0:=by omega
   subst hj0;go_wp2;go_ret;exact⟨u3,L,rfl,HO.out,by omega,HL.out,hg3⟩
theorem mutationsOf_any(w:World)(a:Option Addr)(len cap:Nat)(h:se.Bytes w a len) :
  Calls Tryz.prog 5 #[.slice a len cap] w λe w'=>(∃(v:Value) (L:List (mu.Mu×Value)),e=.returned v∧OwnM w' w.heap.size v L∧L.length≤20∧(∀p∈L,mu.mok p.1=true∧p.1.ps.length≤3))∧Below w.heap.size w w':=by
 have hl:len≤1048576:=h.1;have hss:=se.src_started w a len cap;have hcs:sr.Code (se.started w a len cap) w.heap.size a len:=se.code_started h;have b0:Below w.heap.size w (se.started w a len cap):=bR.alloc lR _;have hz:w.heap.size<(se.started w a len cap).heap.size:=by unfold se.started;simp
 have HT:=hD (mutations_any _ _ _ _ _ _ _ hss hcs (by omega) (by omega) (Int.emod_nonneg _ (by omega)) (by have:=Int.emod_lt_of_pos (len:Int) (show(0:Int)<1000 by omega);omega));clear h hss hcs;go_enter Tryz.func5,Tryz.ntmps5
 go_wp2_with fail
 refine(se.source_any w a len cap hl).mono ?_;rintro e w1 ⟨rfl,hw1⟩;rw[←hw1] at HT b0 hz;clear hw1
 go_wp2_with fail
 refine HT.out.mono ?_;rintro e w2 ⟨v,L,rfl,ho,hn,hL,hg⟩;have HO:Hid (OwnM w2 w.heap.size v L∧(∀p∈L,mu.mok p.1=true∧p.1.ps.length≤3)):=⟨⟨zaM ho.1 (by omega),λp hp=>zaM (ho.2 p hp) (by omega)⟩,hL⟩
 have b2:Below w.heap.size w w2:=b0.grown hg (by omega) (λk hk=>by simp at hk;omega);obtain⟨av,nv,cv,rfl⟩:∃a n c,v=.slice a n c:=by
  rcases ho.1.2 with⟨rfl,_⟩|⟨g,cap,cur,rfl,_⟩
  ·exact⟨_,_,_,rfl⟩
  ·exact⟨_,_,_,rfl⟩
 clear HT hg ho hL;go_wp2;go_ret;exact⟨⟨_,L,rfl,HO.out.1,hn,HO.out.2⟩,b2⟩
end dm
namespace sa
open Go.ChangeShapes Go.WideShapes Go.ChangeAt Go.RowKit Go.Deep Go.Joins
open st gr bx mx bl wi
end sa
namespace sa
open Go.ChangeShapes Go.WideShapes Go.ChangeAt Go.RowKit Go.Deep Go.Joins
open st gr bx mx bl wi
end sa
namespace bx
open Go.RowKit Go.Deep
open st
end bx
namespace bx
open Go.RowKit
open st
def hasF(f z:Int):Bool:=bits .and .i64 f z == z
def cnt(ms:List St)(z:Int):Nat→Nat
 | 0=>0
 | k+1=>cnt ms z k+(if hasF (ms.getD k noS).f z then 1 else 0)
end bx
namespace bx
open Go.RowKit
open st
end bx
namespace bx
open Go.RowKit
open st
end bx
namespace kp
open Go.RowKit
open bx bl sa wi
open st (St noS Rising)
theorem mu_small{x:mu.Mu}(h:mu.mok x=true):mu.Small x:=by
 unfold mu.mok at h;rw[Bool.and_eq_true,Bool.and_eq_true] at h;obtain⟨⟨h1,h2⟩,h3⟩:=h;have hn:nm.za9 x.b:=by
  unfold mu.nmB at h1;exact ow.dof h1
 have hi:=mu.its_of h2;have hk:=(mu.kind_is _ _ _ _ _).1 h3;have hb:=hn.2.1;refine⟨⟨⟨by omega,by omega⟩,⟨by omega,by omega⟩,⟨by omega,by omega⟩,⟨by omega,by omega⟩⟩,by omega,by omega,λj hj=>?_⟩;have:=of_decide_eq_true (hi.2 j hj);omega
def ListAt(w:World)(v:Value)(L:List (mu.Mu×Value)):Prop :=
 ∃a cap,v=.slice a L.length cap∧(L=[]∨∃b,a=some ⟨b,0,none⟩∧∀j p,L[j]?=some p→w.cell? ⟨b,j*6,none⟩=some (.int .i64 p.1.k)∧w.cell? ⟨b,j*6+1,none⟩=some (.int .i64 p.1.u)∧w.cell? ⟨b,j*6+2,none⟩=some (.int .i64 p.1.m)∧w.cell? ⟨b,j*6+3,none⟩=some (.int .i64 p.1.f)∧w.cell? ⟨b,j*6+4,none⟩=some (.string p.1.b)∧w.cell? ⟨b,j*6+5,none⟩=some p.2)
theorem list_of{w:World}{B:Nat}{v:Value}{L:List (mu.Mu×Value)}(h:dm.OwnM w B v L):ListAt w v L:=by
 have ho:=h.1
 rcases ho.2 with⟨rfl,hz⟩|⟨g,cap,cur,rfl,_⟩
 ·exact⟨none,0,by rw[hz],.inl (List.eq_nil_of_length_eq_zero hz)⟩
 ·refine⟨_,cap,rfl,.inr ⟨g,rfl,λj p hp=>?_⟩⟩;have hj:=(List.getElem?_eq_some_iff.1 hp).1;have key:∀i,i<6→w.cell? ⟨g,j*6+i,none⟩=(dm.mrow p)[i]?:=λi hi=>by
   rw[ho.cellAt _ (by omega),dm.mcells_at L j i p hp hi]
  exact⟨key 0 (by omega),key 1 (by omega),key 2 (by omega),key 3 (by omega),key 4 (by omega),key 5 (by omega)⟩
structure Bag (w:World) (v:Value) (xs:List Bx) (vs:Nat→Value×Value):Prop where
 at_:zaa w v xs vs
 fv:Fine v
 fs:zal xs vs
 sml:zac xs
 cp:sm.Caps v xs vs
 ok:sok xs=true
theorem cap_of{w:World}{B e s n0:Nat}{v:Value}{xs:List Value}(h:w.ownsRow B e s v n0 xs):∀a n c,v=.slice a n c→n≤c:=by
 intro a n c e
 rcases h.2 with⟨rfl,_⟩|⟨g,cap,cur,rfl,_,_,hc,_⟩
 ·cases e;exact Nat.le_refl _
 ·cases e;exact hc
theorem bag_of{w:World}{B:Nat}{v:Value}{xs:List Bx}{vs:Nat→Value×Value}(h:OwnL w B v xs vs)(hs:zac xs)(ho:sok xs=true):Bag w v xs vs :=
 ⟨zbi h,(zcJ h).1,(zcJ h).2,hs,⟨cap_of h.1,λj hj=>cap_of (h.2.1 j hj).2⟩,ho⟩
theorem zbo:zac []:=⟨by simp,λj hj=>absurd hj (Nat.not_lt_zero _)⟩
end kp
end Go.Proofs.YtmnflpmfngjllaaGreatDoor
