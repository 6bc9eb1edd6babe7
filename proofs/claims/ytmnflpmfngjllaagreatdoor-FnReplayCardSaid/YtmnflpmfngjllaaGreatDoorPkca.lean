/-
  For every code of bytes the law FnReplay answers true: the boxes of an engine are those that its log makes, and what it commits is in it, where the two named errors of the log are as the door lays them.
-/
import Derived.Test.YtmnflpmfngjllaaGreatDoorPkbz
import Derived.Test.YtmnflpmfngjllaaGreatDoorCards
import Derived.Test.YtmnflpmfngjllaaGreatDoorTie
import Derived.ShutString
import Derived.OpenVars
import Derived.Deep.DeepHandedRow
import Derived.Deep.DeepWitnessRowRef
import Derived.LaidMore
import Derived.Stop.LaidTwo
set_option maxHeartbeats 16000000
set_option maxRecDepth 100000
set_option linter.unusedVariables false
namespace Go.Proofs.YtmnflpmfngjllaaGreatDoor
namespace eg
open Go.RowKit Go.WideShapes Go.Deep
open bx bl
open lg (LV recR)
theorem cn_recs{r:Int}{d:ByteArray}{s:Int}{bs:List Bx}(hc:Cn r d s bs):(recR r d s).2.2=0:=by
 have he:recR r d s=lg.recs d:=by unfold recR;rw[if_pos hc.1]
 rw[he];exact hc.2.2.1
theorem replay_any(a0:Option Addr)(len0 cap0:Nat)(w:World)(w0:len0≤1048576→se.Bytes w a0 len0)(ec eb:Addr)(eca ecb:Array Value)(eta etb:TypeId)(hE:lg.Errs w ec eb eca ecb eta etb) :
  Calls Tryz.prog 3 #[.slice a0 len0 cap0] w λe w'=>e=.returned (.bool true)∧Below w.heap.size w w':=by
 by_cases hbig:1048576<len0
 ·have hb:(1048576:Int)<(len0:Int):=by omega
  clear w0 hE;go_enter Tryz.func3,Tryz.ntmps3;go_wp2;go_ret;exact⟨rfl,Below.refl _ _⟩
 have hb:=decide_eq_false (by omega);have HB0:=hD (w0 (by omega));have HER0:=hD hE;clear w0 hE;go_enter Tryz.func3,Tryz.ntmps3
 go_wp2_with fail
 refine(nE.ne60 w).mono ?_;rintro e w1 ⟨rfl,b1⟩;have HN:Hid (∀W,W=w1.alloc (.cells #[.int .i64 60000,.string ⟨#[]⟩,.int .i64 0,.slice none 0 0] 27)→zae W w1.heap.size 27 60000 ⟨#[]⟩ 0 (.slice none 0 0)∧Below w.heap.size w W∧Below w1.heap.size w1 W∧W.heap.size=w1.heap.size+1):=λW hW=>by
  subst hW;exact⟨zbg w1 _ _ _ _ _,b1.alloc b1.size _,(Below.refl _ w1).alloc lR _,by simp⟩
 have hsz1:=b1.size;clear b1
 go_wp2_with fail
 have N:=HN.out _ rfl;generalize World.alloc _ _=W at N ⊢;obtain⟨hL0,hB,hB1,hsz⟩:=N;refine(dm.mutationsOf_any W a0 len0 cap0 (se.bytes_below HB0.out hB)).mono ?_;rintro e w2 ⟨⟨v,LL,rfl,ho,hn,hL⟩,b2⟩;obtain⟨la,lc,rfl,hla⟩:=kp.list_of ho;have HV:Hid (∀(j:Nat) (p:mu.Mu×Value),LL[j]?=some p→mu.mok p.1=true):=λj p hp=>(hL p (List.mem_of_getElem? hp)).1
 obtain⟨P,hP⟩:∃P,P=w1.heap.size:=⟨_,rfl⟩
 rw[←hP] at hL0 hB1 hsz hsz1 ⊢;have HPW:Hid (w.heap.size≤P∧W.heap.size=P+1):=⟨hsz1,hsz⟩
 have HIN:Hid (Inv w2 P W.heap.size (.slice la LL.length lc) LL 60000 ⟨#[]⟩ 0 (.slice none 0 0) [] (λ_=>(.slice none 0 0,.slice none 0 0)) w2):=⟨(b2.block _ (by omega)).trans hL0,⟨P+1,by omega,rp.zbJ _ _ _⟩,kp.zbo,cn_new,ho,Below.refl _ _⟩
 have HB2:=hD (hB.trans (b2.mono (by omega)));clear hL0 hB hB1 hsz hsz1 hP b2 ho hL hla hb HB0 HN;obtain⟨n,hnL⟩:∃n,n=LL.length:=⟨_,rfl⟩
 have HNL:=hD hnL;have hn2:n≤20:=by omega
 rw[←hnL] at HIN ⊢;clear hnL hn;go_wp2
 go_loopw [6] (λi wr=>∃(k:Nat) (r:Int) (d:ByteArray) (s:Int) (V:Value) (bs:List Bx) (vs:Nat→Value×Value),k≤n∧i=.int .i64 k∧Inv w2 P W.heap.size (.slice la n lc) LL r d s V bs vs wr) (λi _=>n-(intOf i).toNat)
 case atStart=>exact⟨0,_,_,_,_,_,_,Nat.zero_le _,rfl,HIN.out⟩
 case round =>
  clear HIN;obtain⟨k,r,d,s,V,bs,vs,hk,rfl,hinv⟩:=hrel;obtain⟨B1,hB1,hoL⟩:=hinv.own;obtain⟨Va,Vn,Vc,rfl⟩:=ownL_form hoL;have HI:=hD hinv;have HBG:Hid (∀W',Below wr.heap.size wr W'→kp.Bag W' (.slice Va Vn Vc) bs vs):=λW' hW=>(hinv.below hW).bag
  have HER:Hid (∀W',Below wr.heap.size wr W'→lg.Errs W' ec eb eca ecb eta etb):=λW' hW=>HER0.out.keep (HB2.out.trans ((hinv.bel.mono HPW.out.1).trans (hW.mono (Nat.le_trans HPW.out.1 (Nat.le_of_lt hinv.lies.lt)))))
  have HPL:=hD hinv.lies.lt;have HFR:Hid (∀W',Below wr.heap.size wr W'→Below wr.heap.size wr W'):=λW' h=>h
  have hlist:=hinv.list;clear hB1 hoL;by_cases hlt:k<n
  ·have hkL:k<LL.length:=by rw[←HNL.out];exact hlt
   obtain⟨p,hp⟩:∃p,LL[k]?=some p:=⟨_,List.getElem?_eq_getElem hkL⟩
   have hm:=HV.out k p hp;have hr:=dm.zbX (hlist.2 p (List.mem_of_getElem? hp));obtain⟨la',lc',he,hcc⟩:=kp.list_of hlist
   rcases hcc with e|⟨b,hbb,hcells⟩
   ·rw[e] at hkL;simp at hkL
   have hlae:la=some ⟨b,0,none⟩:=by
    injection he with h1 _ _
    rw[h1,hbb]
   subst hlae;obtain⟨c0,c1,c2,c3,c4,c5⟩:=hcells k p hp;have hbl:=World.block_lt_of_cell? _ _ c0;have hlt':(k:Int)<(n:Int):=by omega
   have hk0:(0:Int)≤(k:Int):=by omega
   obtain⟨x,iv⟩:=p;simp only at hr hm c0 c1 c2 c3 c4 c5;obtain⟨ia,ic,hie,_⟩:=id hr;subst hie;have HC:Hid (∀W',Below wr.heap.size wr W'→W'.cell? ⟨b,k*6,none⟩=some (.int .i64 x.k)∧W'.cell? ⟨b,k*6+1,none⟩=some (.int .i64 x.u)∧W'.cell? ⟨b,k*6+2,none⟩=some (.int .i64 x.m)∧W'.cell? ⟨b,k*6+3,none⟩=some (.int .i64 x.f)∧W'.cell? ⟨b,k*6+4,none⟩=some (.string x.b)∧W'.cell? ⟨b,k*6+5,none⟩=some (.slice ia x.ps.length ic)):=λW' hW =>
    ⟨(hW.cell (p:=⟨b,k*6,none⟩) hbl).trans c0,(hW.cell (p:=⟨b,k*6+1,none⟩) hbl).trans c1,(hW.cell (p:=⟨b,k*6+2,none⟩) hbl).trans c2,(hW.cell (p:=⟨b,k*6+3,none⟩) hbl).trans c3,(hW.cell (p:=⟨b,k*6+4,none⟩) hbl).trans c4,(hW.cell (p:=⟨b,k*6+5,none⟩) hbl).trans c5⟩
   have HX:Hid ((∀W',Below wr.heap.size wr W'→it.zav W' (.slice ia x.ps.length ic) x.ps)∧mu.mok x=true):=⟨λW' hW=>it.zaY hr hW,hm⟩
   clear hcells hkL hp hr hm he hbb hlist hinv;have HBX1:Hid (Below wr.heap.size wr wr):=Below.refl _ _;have HFR1:Hid (∀W',Below wr.heap.size wr W'→Below wr.heap.size wr W'):=λW' h=>h
   have HA1:Hid (∀o,Below wr.heap.size wr (wr.alloc o)):=λo=>HBX1.out.alloc (HBX1.out.size) o
   have HK1:Hid (∀W,Below wr.heap.size wr W→Calls Tryz.prog 6 #[.agg #[.int .i64 r,.string d,.int .i64 s,.slice Va Vn Vc],.agg #[.int .i64 x.k,.int .i64 x.u,.int .i64 x.m,.int .i64 x.f,.string x.b,.slice ia x.ps.length ic]] W λe w'=>(∃(r':Int) (d':ByteArray) (s':Int) (La:Option Addr) (Ln Lc:Nat) (ys:List Bx) (us:Nat→Value×Value) (c:Int),e=.returned (.tuple #[.agg #[.int .i64 r',.string d',.int .i64 s',.slice La Ln Lc],.int .i64 c])∧Cm r d s bs x r' d' s' ys c∧OwnL w' W.heap.size (.slice La Ln Lc) ys us)∧Below W.heap.size W w'∧(W.heap[wr.heap.size]?=some (.cells #[.int .i64 0,.string ⟨#[]⟩,.int .i64 0,.slice none 0 0] 27 (0,0))→Z4 w' wr.heap.size)):=λW hW=>by
     refine(implCm_any r d s (.slice Va Vn Vc) bs vs x (.slice ia x.ps.length ic) W ec eb eca ecb eta etb (zaP HI.out.cn).2.1 (by have:=(zaP HI.out.cn).1;omega) (zaP HI.out.cn).2.2 (HER.out W (HFR1.out W hW)) (HBG.out W (HFR1.out W hW)).at_ (HBG.out W (HFR1.out W hW)).fv (HBG.out W (HFR1.out W hW)).fs HI.out.sml (HX.out.1 W (HFR1.out W hW)) (kp.mu_small HX.out.2)).mono ?_;rintro e w' ⟨⟨r',d',s',L,ys,us,c,rfl,hcm,hown⟩,hb'⟩;obtain⟨La,Ln,Lc,rfl⟩:=ownL_form hown;exact⟨⟨r',d',s',La,Ln,Lc,ys,us,c,rfl,hcm,hown⟩,hb',λh=>z4_of ((hb'.block _ (Array.getElem?_eq_some_iff.1 h).1).trans h)⟩
   obtain⟨c0,c1,c2,c3,c4,c5⟩:=HC.out wr HBX1.out;have e0:=(HI.out.below HBX1.out).lies.c0;have e1:=(HI.out.below HBX1.out).lies.c1;have e2:=(HI.out.below HBX1.out).lies.c2;have e3:=(HI.out.below HBX1.out).lies.c3;have hpl:=Nat.lt_of_lt_of_le HPL.out HBX1.out.size;have hbl:=World.block_lt_of_cell? _ _ c0
   go_upto_region 10 with fail
   go_cut [7,8] (λp c wx=>∃(G:Nat) (r':Int) (d':ByteArray) (s':Int) (La:Option Addr) (Ln Lc:Nat) (ys:List Bx) (us:Nat→Value×Value) (z:Int),p=.pointer (some ⟨G,0,none⟩)∧c=.int .i64 z∧Got wr r d s bs x G r' d' s' (.slice La Ln Lc) ys us z wx)
   case first =>
    go_region_with (go_at_call 6;refine(HK1.out _ (by first|exact(Below.refl _ wr).drew|exact((Below.refl _ wr).alloc lR _).drew|exact Below.refl _ wr|exact(Below.refl _ wr).alloc lR _)).mono ?_;rintro e w' ⟨⟨r',d',s',La,Ln,Lc,ys,us,z,rfl,hcm,hown⟩,hb',hz⟩;first|(have hq:=hz (MapKept.heap_alloc wr _).1;have z0:=hq.c0;have z1:=hq.c1;have z2:=hq.c2;have z3:=hq.c3;have y0:=hq.f 0;have y1:=hq.f 1;have y2:=hq.f 2;have y3:=hq.f 3;have y1':=hq.f (0+1);have y2':=hq.f (0+2);have y3':=hq.f (0+3))|skip)
    all_goals (try go_wp2_with fail)
    all_goals go_meet
    all_goals first|exact⟨wr.heap.size,_,_,_,_,_,_,_,_,_,rfl,rfl,got_put hcm ((Below.refl _ wr).alloc lR _).drew (by simp) hb' hown hq⟩|exact⟨wr.heap.size,_,_,_,_,_,_,_,_,_,rfl,rfl,got_put hcm ((Below.refl _ wr).alloc lR _) (by simp) hb' hown hq⟩|exact⟨_,_,_,_,_,_,_,_,_,_,rfl,rfl,got_new hcm (Below.refl _ wr).drew hb' hown⟩|exact⟨_,_,_,_,_,_,_,_,_,_,rfl,rfl,got_new hcm (Below.refl _ wr) hb' hown⟩
   case rest =>
    obtain⟨G1,r1,d1,s1,Na,Nn,Nc,ys,us,z,rfl,rfl,hg1⟩:=hcut;obtain⟨wa,rfl⟩:∃wa,wa=wc:=⟨wc,rfl⟩
    have HG1:=hD hg1;have HBX2:=hD hg1.bel;have HFR2:Hid (∀W',Below wa.heap.size wa W'→Below wr.heap.size wr W'):=λW' h=>HBX2.out.trans (h.mono HBX2.out.size)
    clear hg1 c0 c1 c2 c3 c4 c5 e0 e1 e2 e3 HK1 hpl hbl HBX1 HFR1 HA1
    go_at_K
    have HA2:Hid (∀o,Below wr.heap.size wr (wa.alloc o)):=λo=>HBX2.out.alloc (HBX2.out.size) o
    have HK2:Hid (∀W,Below wa.heap.size wa W→Calls Tryz.prog 7 #[.agg #[.int .i64 r,.string d,.int .i64 s,.slice Va Vn Vc],.agg #[.int .i64 x.k,.int .i64 x.u,.int .i64 x.m,.int .i64 x.f,.string x.b,.slice ia x.ps.length ic]] W λe w'=>(∃(r':Int) (d':ByteArray) (s':Int) (La:Option Addr) (Ln Lc:Nat) (ys:List Bx) (us:Nat→Value×Value) (c:Int),e=.returned (.tuple #[.agg #[.int .i64 r',.string d',.int .i64 s',.slice La Ln Lc],.int .i64 c])∧Cm r d s bs x r' d' s' ys c∧OwnL w' W.heap.size (.slice La Ln Lc) ys us)∧Below W.heap.size W w'∧(W.heap[wa.heap.size]?=some (.cells #[.int .i64 0,.string ⟨#[]⟩,.int .i64 0,.slice none 0 0] 27 (0,0))→Z4 w' wa.heap.size)):=λW hW=>by
      refine(specCm_any r d s (.slice Va Vn Vc) bs vs x (.slice ia x.ps.length ic) W (zaP HI.out.cn).2.1 (by have:=(zaP HI.out.cn).1;omega) (zaP HI.out.cn).2.2 (HBG.out W (HFR2.out W hW)).at_ (HBG.out W (HFR2.out W hW)).fs HI.out.sml (HBG.out W (HFR2.out W hW)).cp.1 (HBG.out W (HFR2.out W hW)).cp.2 (HX.out.1 W (HFR2.out W hW)) (kp.mu_small HX.out.2)).mono ?_;rintro e w' ⟨⟨r',d',s',L,ys,us,c,rfl,hcm,hown⟩,hb'⟩;obtain⟨La,Ln,Lc,rfl⟩:=ownL_form hown;exact⟨⟨r',d',s',La,Ln,Lc,ys,us,c,rfl,hcm,hown⟩,hb',λh=>z4_of ((hb'.block _ (Array.getElem?_eq_some_iff.1 h).1).trans h)⟩
    obtain⟨c0,c1,c2,c3,c4,c5⟩:=HC.out wa HBX2.out;have e0:=(HI.out.below HBX2.out).lies.c0;have e1:=(HI.out.below HBX2.out).lies.c1;have e2:=(HI.out.below HBX2.out).lies.c2;have e3:=(HI.out.below HBX2.out).lies.c3;have hpl:=Nat.lt_of_lt_of_le HPL.out HBX2.out.size;have hbl:=World.block_lt_of_cell? _ _ c0
    go_upto_region 11 with fail
    go_cut [9,10] (λp c wx=>∃(G:Nat) (r':Int) (d':ByteArray) (s':Int) (La:Option Addr) (Ln Lc:Nat) (ys:List Bx) (us:Nat→Value×Value) (z:Int),p=.pointer (some ⟨G,0,none⟩)∧c=.int .i64 z∧Got wa r d s bs x G r' d' s' (.slice La Ln Lc) ys us z wx)
    case first =>
     go_region_with (go_at_call 7;refine(HK2.out _ (by first|exact(Below.refl _ wa).drew|exact((Below.refl _ wa).alloc lR _).drew|exact Below.refl _ wa|exact(Below.refl _ wa).alloc lR _)).mono ?_;rintro e w' ⟨⟨r',d',s',La,Ln,Lc,ys,us,z,rfl,hcm,hown⟩,hb',hz⟩;first|(have hq:=hz (MapKept.heap_alloc wa _).1;have z0:=hq.c0;have z1:=hq.c1;have z2:=hq.c2;have z3:=hq.c3;have y0:=hq.f 0;have y1:=hq.f 1;have y2:=hq.f 2;have y3:=hq.f 3;have y1':=hq.f (0+1);have y2':=hq.f (0+2);have y3':=hq.f (0+3))|skip)
     all_goals (try go_wp2_with fail)
     all_goals go_meet
     all_goals first|exact⟨wa.heap.size,_,_,_,_,_,_,_,_,_,rfl,rfl,got_put hcm ((Below.refl _ wa).alloc lR _).drew (by simp) hb' hown hq⟩|exact⟨wa.heap.size,_,_,_,_,_,_,_,_,_,rfl,rfl,got_put hcm ((Below.refl _ wa).alloc lR _) (by simp) hb' hown hq⟩|exact⟨_,_,_,_,_,_,_,_,_,_,rfl,rfl,got_new hcm (Below.refl _ wa).drew hb' hown⟩|exact⟨_,_,_,_,_,_,_,_,_,_,rfl,rfl,got_new hcm (Below.refl _ wa) hb' hown⟩
    case rest =>
     obtain⟨G2,r2,d2,s2,Ma,Mn,Mc,ys2,us2,z2,rfl,rfl,hg2⟩:=hcut;obtain⟨e1',e2',e3',e4',e5'⟩:=cm_one HG1.out.cm hg2.cm;subst e1' e2' e3' e4' e5';have HG2:=hD hg2;have HG3:=hD (HG1.out.below hg2.bel);have HI2:=hD (HI.out.below (HBX2.out.trans (hg2.bel.mono HBX2.out.size)));obtain⟨hcn2,hne2⟩:=cn_step HI.out.cn HX.out.2 HG1.out.cm;have hsm2:=(cm_small HI.out.sml (kp.mu_small HX.out.2) HG1.out.cm).1;have HCS:Hid (Cn r1 d1 s1 ys∧zac ys∧(z≠0→r1=r∧d1=d∧s1=s∧ys=bs)):=⟨hcn2,hsm2,hne2⟩
     have HSE:Hid (∀W',Below wc.heap.size wc W'→Calls Tryz.prog 8 #[.agg #[.int .i64 r1,.string d1,.int .i64 s1,.slice Na Nn Nc],.agg #[.int .i64 r1,.string d1,.int .i64 s1,.slice Ma Mn Mc]] W' λe w'=>e=.returned (.bool true)∧Below W'.heap.size W' w'):=λW' hW=>by
      obtain⟨Bx1,_,ho1⟩:=HG3.out.own;obtain⟨Bx2,_,ho2⟩:=HG2.out.own;exact zdu r1 d1 s1 _ _ ys us us2 W' (zaP HCS.out.1).2.1 (by have:=(zaP HCS.out.1).1;omega) (zaP HCS.out.1).2.2 (zbi (zaC ho1 hW)) (zbi (zaC ho2 hW)) HCS.out.2.1
     have HSE2:Hid (z≠0→∀W',Below wc.heap.size wc W'→Calls Tryz.prog 8 #[.agg #[.int .i64 r1,.string d1,.int .i64 s1,.slice Na Nn Nc],.agg #[.int .i64 r,.string d,.int .i64 s,.slice Va Vn Vc]] W' λe w'=>e=.returned (.bool true)∧Below W'.heap.size W' w'):=λhz W' hW=>by
      obtain⟨q1,q2,q3,q4⟩:=HCS.out.2.2 hz;subst q1 q2 q3 q4;obtain⟨Bx1,_,ho1⟩:=HG3.out.own;exact zdu r1 d1 s1 _ _ ys us vs W' (zaP HCS.out.1).2.1 (by have:=(zaP HCS.out.1).1;omega) (zaP HCS.out.1).2.2 (zbi (zaC ho1 hW)) (HI2.out.below hW).bag.at_ HCS.out.2.1
     clear hg2 hcn2 hne2 hsm2 c0 c1 c2 c3 c4 c5 e0 e1 e2 e3 HK2 hpl hbl HFR2 HA2 HG1;have HPL2:=hD HPL.out;have HPB:Hid (P<W.heap.size):=by show _<_;have:=HPW.out.2;omega
     have x0:=HG3.out.lies.c0;have x1:=HG3.out.lies.c1;have x2:=HG3.out.lies.c2;have x3:=HG3.out.lies.c3;have y0:=HG2.out.lies.c0;have y1:=HG2.out.lies.c1;have y2:=HG2.out.lies.c2;have y3:=HG2.out.lies.c3;have v0:=HI2.out.lies.c0;have v1:=HI2.out.lies.c1;have v2:=HI2.out.lies.c2;have v3:=HI2.out.lies.c3;have hzz:((z:Int) != z)=false:=by simp
     have HREL:Hid (∀w',Below wc.heap.size wc w'→Inv w2 P W.heap.size (.slice (some ⟨b,0,none⟩) n lc) LL r1 d1 s1 (.slice Na Nn Nc) ys us ((((w'.setCell ⟨P,0,none⟩ (.int .i64 r1)).setCell ⟨P,1,none⟩ (.string d1)).setCell ⟨P,2,none⟩ (.int .i64 s1)).setCell ⟨P,3,none⟩ (.slice Na Nn Nc))):=λw' hw=>inv_put (HI2.out.below hw) HPB.out HPL2.out (HG3.out.below hw) HX.out.2 (kp.mu_small HX.out.2)
     go_at_K
     by_cases hz:z=0
     ·subst hz
      go_wp2_with fail
      refine(HSE.out _ bR).mono ?_;rintro e w4 ⟨rfl,b4⟩;have HR4:=HREL.out w4 b4;have x0':=(HG3.out.below b4).lies.c0;have x1':=(HG3.out.below b4).lies.c1;have x2':=(HG3.out.below b4).lies.c2;have x3':=(HG3.out.below b4).lies.c3;have v0':=(HI2.out.below b4).lies.c0;have v1':=(HI2.out.below b4).lies.c1;have v2':=(HI2.out.below b4).lies.c2;have v3':=(HI2.out.below b4).lies.c3;have f0:=(HI2.out.below b4).lies.f 0;have f1:=(HI2.out.below b4).lies.f 1;have f2:=(HI2.out.below b4).lies.f 2;have f3:=(HI2.out.below b4).lies.f 3;have HR5:=hD HR4;clear HR4 x0 x1 x2 x3 y0 y1 y2 y3 v0 v1 v2 v3 b4 HSE HSE2 HREL;go_wp2
      go_roundw
      case rel=>exact⟨k+1,_,_,_,_,_,_,by omega,by go_num,HR5.out⟩
      case measure=>simp[intOf];omega
     ·have hz1:((z:Int) != 0)=true:=by rw[bne_iff_ne];exact hz
      have HS2:Hid _:=HSE2.out hz
      go_wp2_with fail
      refine(HSE.out _ bR).mono ?_;rintro e w3 ⟨rfl,b3⟩;have x0':=(HG3.out.below b3).lies.c0;have x1':=(HG3.out.below b3).lies.c1;have x2':=(HG3.out.below b3).lies.c2;have x3':=(HG3.out.below b3).lies.c3;have v0':=(HI2.out.below b3).lies.c0;have v1':=(HI2.out.below b3).lies.c1;have v2':=(HI2.out.below b3).lies.c2;have v3':=(HI2.out.below b3).lies.c3;have HB3:=hD b3;clear x0 x1 x2 x3 y0 y1 y2 y3 v0 v1 v2 v3 b3
      go_wp2_with fail
      refine(HS2.out _ HB3.out).mono ?_;rintro e w4 ⟨rfl,b4'⟩;have b4:=HB3.out.trans (b4'.mono HB3.out.size);have HR5:=hD (HREL.out w4 b4);clear x0' x1' x2' x3' v0' v1' v2' v3';have x0':=(HG3.out.below b4).lies.c0;have x1':=(HG3.out.below b4).lies.c1;have x2':=(HG3.out.below b4).lies.c2;have x3':=(HG3.out.below b4).lies.c3;have v0':=(HI2.out.below b4).lies.c0;have v1':=(HI2.out.below b4).lies.c1;have v2':=(HI2.out.below b4).lies.c2;have v3':=(HI2.out.below b4).lies.c3;have f0:=(HI2.out.below b4).lies.f 0;have f1:=(HI2.out.below b4).lies.f 1;have f2:=(HI2.out.below b4).lies.f 2;have f3:=(HI2.out.below b4).lies.f 3;clear b4 b4' HSE HSE2 HREL HS2;go_wp2
      go_roundw
      case rel=>exact⟨k+1,_,_,_,_,_,_,by omega,by go_num,HR5.out⟩
      case measure=>simp[intOf];omega
  ·have hkn:k=n:=by omega
   subst hkn;obtain⟨e0,e1,e2,e3⟩:=(show wr.cell? ⟨P,0,none⟩=some (.int .i64 r)∧wr.cell? ⟨P,0+1,none⟩=some (.string d)∧wr.cell? ⟨P,0+2,none⟩=some (.int .i64 s)∧wr.cell? ⟨P,0+3,none⟩=some (.slice Va Vn Vc) from⟨hinv.lies.c0,hinv.lies.c1,hinv.lies.c2,hinv.lies.c3⟩)
   have HBE:Hid (∀w',Below wr.heap.size wr w'→Below w.heap.size w w'):=λw' h=>(HB2.out.trans (hinv.bel.mono HPW.out.1)).trans (h.mono (Nat.le_trans HPW.out.1 (Nat.le_of_lt hinv.lies.lt)))
   clear hinv hlist hlt hk HFR;have HRL:Hid (∀W',Below wr.heap.size wr W'→Calls Tryz.prog 9 #[LV r d s] W' λe w'=>(∃(La:Option Addr) (Lc:Nat) (us:Nat→Value×Value),e=.returned (.tuple #[.slice La bs.length Lc,.int .i64 (((recR r d s).1.length:Nat):Int),.int .i64 0])∧zaa w' (.slice La bs.length Lc) bs us)∧Below W'.heap.size W' w'):=λW' hW=>by
    refine(rp.implRl_any r d s W' ec eb eca ecb eta etb (zaP HI.out.cn).2.1 (by have:=(zaP HI.out.cn).1;omega) (zaP HI.out.cn).2.2 (HER.out W' hW)).mono ?_;rintro e w' ⟨⟨L,ys,us,m,c,rfl,hrl,ho,_,_⟩,hb'⟩;obtain⟨rfl,rfl,rfl,_⟩:=cn_replay HI.out.cn hrl;have hba:=zbi ho;obtain⟨⟨La,Lc,rfl,_⟩,_⟩:=id hba;exact⟨⟨La,Lc,us,rfl,hba⟩,hb'⟩
   have HRC:Hid (∀W',Below wr.heap.size wr W'→Calls Tryz.prog 10 #[LV r d s] W' λe w'=>(∃(La:Option Addr) (Lc:Nat) (q:Int),e=.returned (.tuple #[.slice La (recR r d s).1.length Lc,.int .i64 q,.int .i64 0]))∧Below W'.heap.size W' w'):=λW' hW=>by
    refine(lg.impl_recs r d s W' ec eb eca ecb eta etb (zaP HI.out.cn).2.1 (by have:=(zaP HI.out.cn).1;omega) (zaP HI.out.cn).2.2 (HER.out W' hW)).mono ?_;rintro e w' ⟨⟨vv,rfl,ho⟩,hb'⟩;obtain⟨La,Lc,rfl⟩:=zbK (h:=ho);exact⟨⟨La,Lc,(recR r d s).2.1,by rw[cn_recs HI.out.cn];rfl⟩,hb'⟩
   have HSB:Hid (∀(W':World) (La:Option Addr) (Lc:Nat) (us:Nat→Value×Value),Below wr.heap.size wr W'→zaa W' (.slice La bs.length Lc) bs us→Calls Tryz.prog 11 #[.slice La bs.length Lc,.slice Va Vn Vc] W' λe w'=>e=.returned (.bool true)∧Below W'.heap.size W' w'):=λW' La Lc us hW hba=>kp.zdt _ _ bs us vs W' hba (HBG.out W' hW).at_ HI.out.sml
   have HEK:Hid (∀W',Below wr.heap.size wr W'→Calls Tryz.prog 12 #[.agg #[.int .i64 r,.string d,.int .i64 s,.slice Va Vn Vc]] W' λe w'=>e=.returned (.bool true)∧Below W'.heap.size W' w'):=λW' hW=>by
    refine(implEk_any r d s (.slice Va Vn Vc) bs vs W' ec eb eca ecb eta etb (zaP HI.out.cn).2.1 (by have:=(zaP HI.out.cn).1;omega) (zaP HI.out.cn).2.2 (HER.out W' hW) (HBG.out W' hW).at_ HI.out.sml).mono ?_;rintro e w' ⟨⟨o,rfl,ho⟩,hb'⟩;exact⟨by rw[ho.2 HI.out.cn],hb'⟩
   unfold LV at HRL HRC;obtain⟨m,hm⟩:∃m,m=(recR r d s).1.length:=⟨_,rfl⟩
   rw[←hm] at HRL HRC;have hmm:((m:Int) == (m:Int))=true:=beq_self_eq_true _;clear hm
   go_wp2_with fail
   refine(HRL.out _ bR).mono ?_;rintro e w3 ⟨⟨La,Lc,us,rfl,hba⟩,b3⟩;have g0:=(HI.out.below b3).lies.c0;have g1:=(HI.out.below b3).lies.c1;have g2:=(HI.out.below b3).lies.c2;have g3:=(HI.out.below b3).lies.c3;have HBA:=hD hba;have HB3:=hD b3;clear e0 e1 e2 e3 hba b3 HRL
   go_wp2_with fail
   refine(HRC.out _ HB3.out).mono ?_;rintro e w4 ⟨⟨Lb,Ld,q,rfl⟩,b4⟩;have HBA4:=hD (zap HBA.out b4);have HB4:=hD (HB3.out.trans (b4.mono HB3.out.size));clear g0 g1 g2 g3 b4 HRC HBA HB3;have g0:=(HI.out.below HB4.out).lies.c0;have g1:=(HI.out.below HB4.out).lies.c1;have g2:=(HI.out.below HB4.out).lies.c2;have g3:=(HI.out.below HB4.out).lies.c3
   go_wp2_with fail
   refine(HSB.out _ _ _ us HB4.out HBA4.out).mono ?_;rintro e w5 ⟨rfl,b5⟩;have HB5:=hD (HB4.out.trans (b5.mono HB4.out.size));clear g0 g1 g2 g3 b5 HSB HBA4 HB4;have g0:=(HI.out.below HB5.out).lies.c0;have g1:=(HI.out.below HB5.out).lies.c1;have g2:=(HI.out.below HB5.out).lies.c2;have g3:=(HI.out.below HB5.out).lies.c3
   go_wp2_with fail
   refine(HEK.out _ HB5.out).mono ?_;rintro e w6 ⟨rfl,b6⟩;have HB6:=hD (HB5.out.trans (b6.mono HB5.out.size));clear g0 g1 g2 g3 b6;go_wp2;go_ret;exact⟨rfl,HBE.out _ HB6.out⟩
end eg
namespace fnReplay
open Go.ChangeShapes Go.WideShapes Go.ChangeAt Go.RowKit
open Go.ChangeMaps (open_string shut_string)
theorem own : ownKnob Tryz.prog.godebug = none := by kernel_rfl
theorem laidOut : laidOutB Tryz.prog = true := by kernel_rfl
def ag.IsRow(k : IntKind)(w : World)(a : Option Addr)(len cap : Nat)(zs : List Int) : Prop :=
  (a = none ∧ len = 0 ∧ cap = 0 ∧ zs = []) ∨
  ∃x, a = some x ∧ len ≤ cap ∧ cap ≤ maxLen ∧ zs.length = cap ∧ (∀i, i<zs.length → w.cell? (x.add i) = some (.int k (zs.getD i 0))) ∧ ∀n∈zs, (Lit.int k n).wf = true
theorem kp.row_bytes{w : World}{a : Option Addr}{len cap : Nat}{zs : List Int}(h : (a = none ∧ len = 0 ∧ cap = 0 ∧ zs = []) ∨
    ∃x, a = some x ∧ len ≤ cap ∧ cap ≤ maxLen ∧ zs.length = cap ∧ (∀i, i<zs.length → w.cell? (x.add i) = some (.int .u8 (zs.getD i 0))) ∧ ∀n∈zs, (Lit.int .u8 n).wf = true) (hl : len ≤ 1048576) : se.Bytes w a len := by
  refine⟨hl, ?_⟩
  rcases h with⟨rfl, rfl, rfl, rfl⟩|⟨x, rfl, hlc, hm, hz, hcell, hwz⟩
  · exact .inl rfl
  · by_cases h0 : len = 0
    · exact .inl h0
    · right
      obtain⟨b, off, spot⟩ := x;have hc := hcell 0 (by omega);have hspot : spot = none := by simpa [Addr.add] using World.cell?_spot hc
      subst hspot;refine⟨b, off, rfl, λj hj => ?_⟩;have hj2 : j<zs.length := by omega
      have hb := bounds_u8 (hwz (zs.getD j 0) (by rw[List.getD_eq_getElem?_getD, List.getElem?_eq_getElem hj2];exact List.getElem_mem hj2));refine⟨zs.getD j 0, hb.1, hb.2, ?_⟩;rw[←hcell j hj2]
      congr 1
      simp[Addr.add]
theorem walk(a0 : Option Addr)(len0 cap0 : Nat)(z0 : List Int)(w : World)(w0 : ag.IsRow .u8 w a0 len0 cap0 z0)(ec eb : Addr)(eca ecb : Array Value)(eta etb : TypeId)(hS : lg.Errs w ec eb eca ecb eta etb) :
    Calls Tryz.prog 3 #[.slice a0 len0 cap0] w λe w' => e = .returned (.bool true) ∧ Below w.heap.size w w' := by
  exact eg.replay_any a0 len0 cap0 w (λh => kp.row_bytes w0 h) ec eb eca ecb eta etb hS
theorem gC : Tryz.prog.globalNamed ((Rows.fnReplayRow.laid.map (·.1)).getD 0 "") = some 0 := by kernel_rfl
theorem gW : Tryz.prog.globalNamed ((Rows.fnReplayRow.laid.map (·.1)).getD 1 "") = some 1 := by kernel_rfl
theorem errs_of(W : World)(hL : laidMet Tryz.prog Rows.fnReplayRow.laid W) : ∃(c b : Addr) (ca cb : Array Value) (ta tb : TypeId), lg.Errs W c b ca cb ta tb := by
  obtain⟨a0, a1, s0, s1, c0, c1, t0, t1, hv0, hv1, hc0, hs0, hz0, hc1, hs1, hz1, hne, hb0, hb1⟩ := laid_sentinels2 (ti := 58) hL gC (by kernel_rfl) gW (by kernel_rfl) Tryz.underlying58 (λu h => typeName_ptr_named (nm := "errors.errorString") (by kernel_rfl) (by kernel_rfl) (by decide) u (h.trans (congrArg some (by decide)))) Tryz.underlying185 Tryz.underlying208 rfl rfl Tryz.underlying9 (by kernel_rfl) (by kernel_rfl);have hg0 : W.cell? ⟨0, 0, none⟩ = some (.iface 185 (.pointer (some a0))) := by simpa using World.var?_cell gC hv0 0
  have hg1 : W.cell? ⟨1, 0, none⟩ = some (.iface 185 (.pointer (some a1))) := by simpa using World.var?_cell gW hv1 0
  exact⟨a0, a1, c0, c1, t0, t1, hg0, hg1, hne, hb0, hb1⟩
theorem contract(H : Type)(enc : TypeId×Value → H)(W : World)(base : Nat)(args : Array Value)(ds gs : List (DataW H))(before : List MemPlace)
    (hval : ∀(j : Nat) t v, Tryz.f3.params[j]?=some t → args[j]?=some v → Value.okWide Tryz.prog W .any base t v)
    (hW : DataW.Whole enc Tryz.prog Tryz.f3.params.toList Rows.fnReplaySpec.vars false W args.toList ds gs before) (hL : laidMetH Tryz.prog Rows.fnReplayRow.laid W) (hsh : W.ShapedOpen Tryz.prog) :
    Calls Tryz.prog 3 args W λe W' => ∃v, e = .returned v ∧ Rows.fnReplaySpec.post enc Tryz.prog Tryz.f3 false true false false W args v W' := by
  have hW' := hW;obtain⟨p, q, hA0, hV, rfl, hfz, hnd⟩ := hW;have hA : DataW.TrodAll enc Tryz.prog W 0 (λ_ => true) true Tryz.f3.params.toList args.toList ds p := hA0;rw[Tryz.params3] at hA hval;obtain⟨v0, vs0, d0, ds0, p0, q0, hargs0, rfl, rfl, h0, tl0⟩ := trodAll_cons hA;obtain⟨hnil, rfl, rfl⟩ := trodAll_nil tl0;obtain rfl : args = #[v0] := by cases args;simp_all
  obtain⟨a0, len0, cap0, rfl⟩ := okWide_slice Tryz.underlying22 (hval 0 22 v0 rfl rfl);have k0 := h0;have lt0 : ∀x∈p0, x.block<W.heap.size := by obtain⟨m, hm⟩ := k0;exact DataW.trod_lt m _ _ _ hm
  obtain⟨z0, w0⟩ : ∃zs, ag.IsRow .u8 W a0 len0 cap0 zs := by
    obtain⟨fuel, hf⟩ := h0
    rcases open_ints Tryz.underlying22 Tryz.underlying5 (by kernel_rfl) hf with⟨hcs, _⟩|⟨x, l, c, zs, hcs, _, hl, hm, hz, _, hcell, hwz⟩
    · simp[Value.cells] at hcs
      obtain⟨rfl, rfl, rfl⟩ := hcs;exact⟨[], .inl ⟨rfl, rfl, rfl, rfl⟩⟩
    · simp[Value.cells] at hcs
      obtain⟨rfl, rfl, rfl⟩ := hcs;exact⟨zs, .inr ⟨_, rfl, hl, hm, by simpa using hz, hcell, hwz⟩⟩
  clear hA0;simp only[List.append_nil] at hW';have hLL : laidMet Tryz.prog Rows.fnReplayRow.laid W := hL;obtain⟨g, t, cs, fuel, d, pp, g2, t2, cs2, fuel2, d2, pp2, rfl, _⟩ := trodVars_two hV;have hS := errs_of W hLL;obtain⟨ec, eb, eca, ecb, eta, etb, hS⟩ := hS;refine(walk a0 len0 cap0 z0 W w0 _ _ _ _ _ _ hS).mono λe W' ⟨he, bel⟩ => ?_
  subst he;exact⟨_, rfl, _, _, _, [], _, _, hW', trodAll_cons_mk (shut_bool Tryz.underlying4 _) trodAll_mk0, (trodAll_cons_mk (Below.trod laidOut (by kernel_rfl) (of_decide_eq_true (by kernel_rfl)) k0 bel lt0) trodAll_mk0), Below.trodVars laidOut bel (by kernel_rfl) hV, bel.frame _, λh => by cases h⟩
theorem laid_met(os : Os) : laidMet Tryz.prog Rows.fnReplayRow.laid ((World.doorLaid Tryz.prog 47 os).forCall (λ_ _ => 0) ⟨#[], #[Value.slice none 0 0], []⟩).memory :=
  laidMet_of_run' 8 (by kernel_rfl) (by kernel_rfl)
theorem reads(os : Os){H : Type}(enc : TypeId×Value → H) : (DataW.whole enc Tryz.prog ((World.doorLaid Tryz.prog 47 os).forCall (λ_ _ => 0) ⟨#[], #[Value.slice none 0 0], []⟩).memory Tryz.f3.params.toList Rows.fnReplaySpec.vars false #[Value.slice none 0 0].toList 8).isSome = true := by kernel_rfl
theorem lifted(os : Os)(started : os.Started)(H : Type)(enc : TypeId×Value → H)(F : Stop.Interp) :
    ReturnsInHanded {} Tryz.checked os 3 .any ((OpenSpec.ofChange Rows.fnReplaySpec).preRow enc Tryz.prog Tryz.f3 Rows.fnReplayRow.domain false Rows.fnReplayRow.laid) (((OpenSpec.ofChange Rows.fnReplaySpec).at F).post enc Tryz.prog Tryz.f3 false true false false) := by
  obtain⟨x, hx⟩ := Option.isSome_iff_exists.1 (reads os enc);refine returnsInHanded_of_row (C := Tryz.checked) (s := OpenSpec.ofChange Rows.fnReplaySpec) own started (by kernel_rfl) Tryz.func3
    (witness_row_atRef (enc := enc) (C := Tryz.checked) false (World.doorLaid Tryz.prog 47 os) #[Value.slice none 0 0] rfl (by kernel_rfl) (by kernel_rfl) (by kernel_rfl)
      (OpenSpec.preRow_of_cond 8 hx (by kernel_rfl) (λk hk => by cases hk) (by kernel_rfl) (laid_met os))) ?_
  intro W base args ds gs before hval hW _ _ _ hL hsh _;exact contract H enc W base args ds gs before hval hW hL hsh
theorem said : Rows.FnReplaySaid :=
  OpenClaim.holds_of_cond 3 Tryz.f3 rfl rfl rfl rfl rfl rfl rfl ⟨rfl, rfl, rfl, rfl, rfl⟩ rfl rfl rfl rfl rfl (by kernel_rfl) Tryz.func3 (by kernel_rfl)
    (of_decide_eq_true (by kernel_rfl)) (by unfold Func.isWrapper;first|(rw[if_pos (by decide +kernel)];kernel_rfl)|(rw[if_neg (by decide +kernel)];exact⟨rfl, rfl⟩))
    (λos started H enc _ F => by rw[OpenClaim.pre_eq_preRow];exact lifted os started H enc F)
theorem plain(f : FuncId)(fn : Func)(hf : Tryz.pinned.checked.prog.funcNamed Rows.fnReplayRow.func = some f)(hfn : Tryz.pinned.checked.prog.funcs[f]?=some fn) :
    true = Tryz.pinned.checked.prog.looks [] ∧ ∀(j : Nat) t, fn.params[j]?=some t → Tryz.pinned.checked.prog.wantsStandIn t = false := by
  obtain rfl : f = 3 := Option.some.inj ((show Tryz.prog.funcNamed Rows.fnReplayRow.func = some 3 by kernel_rfl).symm.trans hf) |>.symm
  obtain rfl : fn = Tryz.f3 := (Option.some.inj (Tryz.func3.symm.trans hfn)).symm;refine⟨by kernel_rfl, λj t ht => ?_⟩;rw[Tryz.params3] at ht;obtain rfl : t = 22 := by simpa using Array.mem_of_getElem? ht
  exact(show Tryz.prog.wantsStandIn 22 = false by kernel_rfl)
theorem card : Rows.FnReplayCardSaid :=
  Claim7.holds_tied_plain_at .later [] _ _ _ _ said (λ_ h => by cases h) (by kernel_rfl) (λ_ h => by cases h) fnReplay_row_tie rfl ⟨rfl, rfl⟩ (by kernel_rfl) rfl plain (by kernel_rfl)
end fnReplay
theorem fnReplay_card : Rows.FnReplayCardSaid := fnReplay.card
#print axioms fnReplay_card
end Go.Proofs.YtmnflpmfngjllaaGreatDoor
