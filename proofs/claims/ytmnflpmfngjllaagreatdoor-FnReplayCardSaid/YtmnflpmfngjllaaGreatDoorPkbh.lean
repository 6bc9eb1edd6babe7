/-
  FnReplayCardSaid
-/
import Derived.Test.YtmnflpmfngjllaaGreatDoorPkbg
import Derived.Test.YtmnflpmfngjllaaGreatDoorPkbe
set_option maxHeartbeats 16000000
set_option maxRecDepth 100000
set_option linter.unusedVariables false
namespace Go.Proofs.YtmnflpmfngjllaaGreatDoor
namespace mb
open Go.RowKit Go.Deep
open it mu
open lg (be be_len)
def mbl(x:Mu):List UInt8:=if mok x=true∧(mB x).length≤20000 then mB x else[]
def mbc(x:Mu):Int:=if mok x=true then(if(mB x).length≤20000 then 0 else 7) else 1
theorem mb_bad{x:Mu}(h:mok x=false):mbl x=[]∧mbc x=1:=by simp[mbl,mbc,h]
theorem mb_full{x:Mu}(h:mok x=true)(h2:¬(mB x).length≤20000):mbl x=[]∧mbc x=7:=by simp[mbl,mbc,h,h2]
theorem mb_ok{x:Mu}(h:mok x=true)(h2:(mB x).length≤20000):mbl x=mB x∧mbc x=0:=by simp[mbl,mbc,h,h2]
def MbRet(x:Mu)(base:Nat)(e:Ending)(w:World):Prop:=∃u,e=.returned (.tuple #[u,.int .i64 (mbc x)])∧ra.Own w base u (mbl x)
theorem own_nil(w:World)(B:Nat):ra.Own w B (.slice none 0 0) []:=World.ownsRow_nil _ _ _ _
theorem zcx{w:World}{B B':Nat}{v:Value}{l:List UInt8}(h:ra.Own w B v l)(hb:B'≤B):ra.Own w B' v l:=⟨h.1,h.2.imp id λ⟨g,cap,cur,he,hb',r⟩=>⟨g,cap,cur,he,Nat.le_trans hb hb',r⟩⟩
def beA(n:Nat):ByteArray:=⟨(be 2 n).toArray⟩
theorem zb2(n:Nat):(beA n).size=2:=by show(be 2 n).toArray.size=2;simp[be_len]
theorem inB_any(n:Nat)(w:World)(hn:n<65536):Calls Tryz.prog 104 #[.int .i64 n,.int .i64 2] w λe w'=>e=.returned (.string (beA n))∧Below w.heap.size w w':=lg.zdk n 2 w (by omega) (by omega)
def q4(W1:World)(M:Nat)(v0:Value)(l0:List UInt8)(u:Nat)(b:ByteArray):ra.Q1 where
 V:=fun
  | 0=>some v0
  | 1=>some (.pointer (some ⟨M,0+1,none⟩))
  | 2=>some (.int .i64 (u:Nat))
  | 3=>some (.string (beA u))
  | 4=>some (.pointer (some ⟨M,0+4,none⟩))
  | 5=>some (.string b)
  | 6=>some (.string ((beA u)++b))
  | _=>none
 K:=K0 W1
 B1:=W1.heap.size
 v0:=v0
 l0:=l0
 s1:=(beA u++b).data.toList
 a1:=7
theorem zbW{W1:World}{M:Nat}{v0:Value}{l0:List UInt8}{u:Nat}{b:ByteArray}:(q4 W1 M v0 l0 u b).Good :=
 ⟨λx x' h hb=>K0.below h hb,λx x' v l h ho hg=>K0.row h ho hg⟩
theorem itx_list(ky tx:ByteArray):(((beA ky.size++beA tx.size)++ky)++tx).data.toList=itB (ky,tx):=by
 simp[beA,itB,ByteArray.data_append]
theorem itx_size(ky tx:ByteArray):(((beA ky.size++beA tx.size)++ky)++tx).size=4+ky.size+tx.size:=by
 have h:=congrArg List.length (itx_list ky tx);rw[itB_len] at h;exact h
def q8i(W1:World)(G:Nat)(v0:Value)(l0:List UInt8)(ky tx:ByteArray):ra.Q1 where
 V:=fun
  | 0=>some v0
  | 1=>some (.pointer (some ⟨G,0,none⟩))
  | 2=>some (.string ky)
  | 3=>some (.int .i64 (ky.size:Nat))
  | 4=>some (.string (beA ky.size))
  | 5=>some (.pointer (some ⟨G,0+1,none⟩))
  | 6=>some (.string tx)
  | 7=>some (.int .i64 (tx.size:Nat))
  | 8=>some (.string (beA tx.size))
  | 9=>some (.string ((beA ky.size)++(beA tx.size)))
  | 10=>some (.pointer (some ⟨G,0,none⟩))
  | 11=>some (.string ky)
  | 12=>some (.string (((beA ky.size)++(beA tx.size))++ky))
  | 13=>some (.pointer (some ⟨G,0+1,none⟩))
  | 14=>some (.string tx)
  | 15=>some (.string ((((beA ky.size++beA tx.size)++ky)++tx)))
  | _=>none
 K:=λx=>K0 W1 x∧IVar x G ky tx
 B1:=W1.heap.size
 v0:=v0
 l0:=l0
 s1:=((((beA ky.size++beA tx.size)++ky)++tx)).data.toList
 a1:=16
theorem za0{W1:World}{G:Nat}{v0:Value}{l0:List UInt8}{ky tx:ByteArray}:(q8i W1 G v0 l0 ky tx).Good :=
 ⟨λx x' h hb=>⟨K0.below h.1 hb,h.2.below hb⟩,λx x' v l h ho hg=>⟨K0.row h.1 ho hg,h.2.row ho hg⟩⟩
theorem impl_mb(x:Mu)(v:Value)(w:World)(h:zav w v x.ps)(hsm:Small x) :
  Calls Tryz.prog 63 #[MV x v] w λe w'=>MbRet x w.heap.size e w'∧Below w.heap.size w w':=by
 have L0:=zan w 35 x v;have b0:=new_below w 35 #[.int .i64 x.k,.int .i64 x.u,.int .i64 x.m,.int .i64 x.f,.string x.b,v];have hat:=zaY h b0;have HSM:=hD hsm;obtain⟨a,cap,rfl,_⟩:=h;have HB:Hid (mok x=false→mbl x=[]∧mbc x=1):=mb_bad;have HF:Hid (mok x=true→¬(mB x).length≤20000→mbl x=[]∧mbc x=7):=mb_full;have HO:Hid (mok x=true→(mB x).length≤20000→mbl x=mB x∧mbc x=0):=mb_ok;have HFIT:Hid (mok x=true→Fits x):=fits_of;have HMB:Hid (∀l c base w' u,mbl x=l→mbc x=c→ra.Own w' base u l→MbRet x base (.returned (.tuple #[u,.int .i64 c])) w'):=λl c base w' u h1 h2 h3=>⟨u,by rw[h2],by rw[h1];exact h3⟩
 generalize MbRet x=RET at HMB ⊢;generalize mbl x=RL at HB HF HO HMB;generalize mbc x=RC at HB HF HO HMB;have HML:Hid (Fits x→(mB x).length≤100000):=mB_len;obtain⟨k,u,m,fl,b,ps⟩:=x;have HM:Hid (mB ⟨k,u,m,fl,b,ps⟩=[u8 k,u8 m,u8 fl,u8 (ps.length:Int),u8 (b.size:Int)]++be 2 u.toNat++b.data.toList++itsB ps ps.length):=rfl;unfold MV;simp only at L0 b0 hat ⊢;clear hsm;go_enter Tryz.func63,Tryz.ntmps63
 go_wp2_with fail
 generalize w.alloc _=w0 at L0 b0 hat ⊢;have HAT:=hD hat;clear hat;refine(impl_mok ⟨k,u,m,fl,b,ps⟩ _ w0 HAT.out HSM.out).mono ?_;rintro e W1 ⟨rfl,hb1⟩;have HL1:Hid (Lies W1 w.heap.size 35 ⟨k,u,m,fl,b,ps⟩ (.slice a ps.length cap)∧Below w.heap.size w W1∧zav W1 (.slice a ps.length cap) ps∧w.heap.size≤W1.heap.size):=by
  have hb2:=b0.trans (hb1.mono b0.size);exact⟨L0.keep hb1,hb2,zaY HAT.out hb1,hb2.size⟩
 clear L0 b0 HAT hb1 HSM;generalize mok ⟨k,u,m,fl,b,ps⟩=OK at HB HF HO HFIT ⊢;cases OK
 ·have HE:Hid (RL=[]∧RC=1):=HB.out rfl;go_wp2;go_ret2;exact⟨HMB.out _ _ _ _ _ HE.out.1 HE.out.2 (own_nil _ _),HL1.out.2.1⟩
 have hx:=HFIT.out rfl;have HFT:=hD hx;have HML2:=hD (HML.out hx);have HF2:=hD (HF.out rfl);have HO2:=hD (HO.out rfl);clear HF HO HB HFIT HML;have wk:=wrap8 hx.k.1 hx.k.2;have wm:=wrap8 hx.m.1 hx.m.2;have wf:=wrap8 hx.f.1 hx.f.2;have wn:=wrap8 (z:=(ps.length:Int)) (by omega) (by have:=hx.n;simp only at this;omega);have wb:=wrap8 (z:=(b.size:Int)) (by omega) (by have:=hx.b;simp only at this;omega);have hu0:=hx.u;have hb40:=hx.b;have hn20:=hx.n;simp only at wk wm wf hu0 hb40 hn20;obtain⟨u,rfl⟩:=Int.eq_ofNat_of_zero_le hu0.1;have hu1:u<65536:=by omega
 clear hx hu0;have HM2:Hid (mB ⟨k,(u:Nat),m,fl,b,ps⟩=[u8 k,u8 m,u8 fl,u8 (ps.length:Int),u8 (b.size:Int)]++be 2 u++b.data.toList++itsB ps ps.length):=rfl;have HITL:Hid (∀j,j≤ps.length→(itsB ps j).length≤j*4204):=λj hj=>itsB_len HFT.out j hj
 have HIT:=hD HFT.out.i;clear HM HFT;generalize mB ⟨k,(u:Nat),m,fl,b,ps⟩=R at HM2 HML2 HF2 HO2;have c0:=HL1.out.1.c0;have c1:=HL1.out.1.c1;have c2:=HL1.out.1.c2;have c3:=HL1.out.1.c3;have c4:=HL1.out.1.c4;have c5:=HL1.out.1.c5;simp only at c0 c1 c2 c3 c4
 go_upto_region 4 with fail
 clear c0 c1 c2 c3 c4 c5;have O2:=own_five W1 W1.heap.size (u8 k) (u8 m) (u8 fl) (u8 (ps.length:Int)) (u8 (b.size:Int)) lR;have K2:K0 W1 (W1.alloc (.cells #[.int .u8 ((u8 k).toNat:Int),.int .u8 ((u8 m).toNat:Int),.int .u8 ((u8 fl).toNat:Int),.int .u8 ((u8 (ps.length:Int)).toNat:Int),.int .u8 ((u8 (b.size:Int)).toNat:Int)] 5)):=bR.alloc lR _;generalize W1.alloc _=W2 at O2 K2 ⊢;refine rs.zaW (by kernel_rfl) (λf=>{tmps:=List.toArray ((.agg #[.int .i64 k,.int .i64 (u:Nat),.int .i64 m,.int .i64 fl,.string b,.slice a ps.length cap])::(.pointer (some ⟨w.heap.size,0,none⟩))::(.slice none 0 0)::(.int .i64 0)::(f 8)::(undef)::(undef)::(.agg #[.int .i64 k,.int .i64 (u:Nat),.int .i64 m,.int .i64 fl,.string b,.slice a ps.length cap])::(.bool true)::(.bool false)::(.pointer (some ⟨w.heap.size,0,none⟩))::(.int .i64 k)::(.int .u8 ((u8 k).toNat:Int))::(.pointer (some ⟨w.heap.size,2,none⟩))::(.int .i64 m)::(.int .u8 ((u8 m).toNat:Int))::(.pointer (some ⟨w.heap.size,3,none⟩))::(.int .i64 fl)::(.int .u8 ((u8 fl).toNat:Int))::(.pointer (some ⟨w.heap.size,5,none⟩))::(.slice a ps.length cap)::(.int .i64 ps.length)::(.int .u8 ((u8 (ps.length:Int)).toNat:Int))::(.pointer (some ⟨w.heap.size,4,none⟩))::(.string b)::(.int .i64 b.size)::(.int .u8 ((u8 (b.size:Int)).toNat:Int))::(.slice (some ⟨W1.heap.size,0,none⟩) 5 5)::(f 0)::(f 1)::(f 2)::(f 3)::(f 4)::(f 5)::(f 6)::(f 7)::(undef)::(undef)::(undef)::(undef)::(undef)::(undef)::(undef)::(undef)::(undef)::(undef)::(undef)::(undef)::(undef)::(undef)::(undef)::(undef)::(undef)::(undef)::(undef)::(undef)::(undef)::(undef)::(undef)::(undef)::(undef)::(undef)::(undef)::(undef)::(undef)::[]),defers:=[]}) (λD f x=>ra.J1 (q4 W1 w.heap.size (.slice (some ⟨W1.heap.size,0,none⟩) 5 5) [u8 k,u8 m,u8 fl,u8 (ps.length:Int),u8 (b.size:Int)] u b) D f x∧ra.Tie 8 7 (.slice (some ⟨W1.heap.size,0,none⟩) 5 5) D f) (λk=>if k=8 then .slice (some ⟨W1.heap.size,0,none⟩) 5 5 else undef) rfl ⟨⟨λj hj=>hj.elim,K0.below K2 bR.drew,Below.size (K0.below K2 bR.drew),λ_=>ow.own_below O2 bR.drew,λd=>d.elim⟩,λd=>d.elim,λ_=>rfl⟩ (rs.zaK (by kernel_rfl)) ?_ ?_
 ·intro i o ho D f x hJ hall hni hcl
  match i,ho with
  | 0,ho =>
    cases ho;have nz:¬D 8:=λh=>hni (hcl 7 _ (hcl 8 _ h rfl {on:=7,ground:=.data} (by simp) rfl) rfl {on:=0,ground:=.data} (by simp) rfl)
    have h8:f 8=.slice (some ⟨W1.heap.size,0,none⟩) 5 5:=hJ.2.2 nz;have HJ:=hD hJ;clear hJ hall hcl hni nz;refine wpOp_step rfl (λK' hK=>?_);simp only[h8];go_simp;exact hK _ _ ⟨.slice (some ⟨W1.heap.size,0,none⟩) 5 5,by simp[rs.upd,h8],HJ.out.1.step _ zbW (λz hz=>Option.some.inj hz) (show(7:Nat)≠0 by decide) bR,ra.zao HJ.out.2 (by omega) (by omega)⟩
  | 1,ho =>
    cases ho;have HJ:=hD hJ;clear hJ hall hcl hni;refine wpOp_step rfl (λK' hK=>?_);go_simp;exact hK _ _ ⟨.pointer (some ⟨w.heap.size,0+1,none⟩),by simp[rs.upd],HJ.out.1.step _ zbW (λz hz=>Option.some.inj hz) (show(7:Nat)≠1 by decide) bR,ra.zao HJ.out.2 (by omega) (by omega)⟩
  | 2,ho =>
    cases ho;have d1:D 1:=hall {on:=1,ground:=.data} (by simp) rfl;have h1:f 1=.pointer (some ⟨w.heap.size,0+1,none⟩):=hJ.1.1 1 d1 _ rfl;have c1:x.cell? ⟨w.heap.size,0+1,none⟩=_:=(HL1.out.1.keep hJ.1.2.1).c1;have HJ:=hD hJ;clear hJ hall hcl hni;refine wpOp_step rfl (λK' hK=>?_);simp only[h1]
    go_wp2_with fail
    exact⟨.int .i64 (u:Nat),by simp[rs.upd,h1],HJ.out.1.step _ zbW (λz hz=>Option.some.inj hz) (show(7:Nat)≠2 by decide) bR,ra.zao HJ.out.2 (by omega) (by omega)⟩
  | 3,ho =>
    cases ho;have d2:D 2:=hall {on:=2,ground:=.data} (by simp) rfl;have h2:f 2=.int .i64 (u:Nat):=hJ.1.1 2 d2 _ rfl;have HJ:=hD hJ;clear hJ hall hcl hni;refine wpOp_step rfl (λK' hK=>?_);simp only[h2]
    go_wp2_with (go_at_call 104;refine(inB_any u _ (by omega)).mono ?_;rintro e w' ⟨rfl,hb⟩)
    exact⟨.string (beA u),by simp[rs.upd,h2],HJ.out.1.step _ zbW (λz hz=>Option.some.inj hz) (show(7:Nat)≠3 by decide) hb,ra.zao HJ.out.2 (by omega) (by omega)⟩
  | 4,ho =>
    cases ho;have HJ:=hD hJ;clear hJ hall hcl hni;refine wpOp_step rfl (λK' hK=>?_);go_simp;exact hK _ _ ⟨.pointer (some ⟨w.heap.size,0+4,none⟩),by simp[rs.upd],HJ.out.1.step _ zbW (λz hz=>Option.some.inj hz) (show(7:Nat)≠4 by decide) bR,ra.zao HJ.out.2 (by omega) (by omega)⟩
  | 5,ho =>
    cases ho;have d4:D 4:=hall {on:=4,ground:=.data} (by simp) rfl;have h4:f 4=.pointer (some ⟨w.heap.size,0+4,none⟩):=hJ.1.1 4 d4 _ rfl;have c4:x.cell? ⟨w.heap.size,0+4,none⟩=_:=(HL1.out.1.keep hJ.1.2.1).c4;have HJ:=hD hJ;clear hJ hall hcl hni;refine wpOp_step rfl (λK' hK=>?_);simp only[h4]
    go_wp2_with fail
    exact⟨.string b,by simp[rs.upd,h4],HJ.out.1.step _ zbW (λz hz=>Option.some.inj hz) (show(7:Nat)≠5 by decide) bR,ra.zao HJ.out.2 (by omega) (by omega)⟩
  | 6,ho =>
    cases ho;have d3:D 3:=hall {on:=3,ground:=.data} (by simp) rfl;have h3:f 3=.string (beA u):=hJ.1.1 3 d3 _ rfl;have d5:D 5:=hall {on:=5,ground:=.data} (by simp) rfl;have h5:f 5=.string b:=hJ.1.1 5 d5 _ rfl;have hbs:=zb2 u;have HJ:=hD hJ;clear hJ hall hcl hni;refine wpOp_step rfl (λK' hK=>?_);simp only[h3,h5];go_simp
    try (rw[if_neg (by first|omega|(simp only[ByteArray.size_append];omega))];go_simp)
    exact hK _ _ ⟨.string ((beA u)++b),by simp[rs.upd,h3,h5],HJ.out.1.step _ zbW (λz hz=>Option.some.inj hz) (show(7:Nat)≠6 by decide) bR,ra.zao HJ.out.2 (by omega) (by omega)⟩
  | 7,ho =>
    cases ho;have d0:D 0:=hall {on:=0,ground:=.data} (by simp) rfl;have h0:f 0=.slice (some ⟨W1.heap.size,0,none⟩) 5 5:=hJ.1.1 0 d0 _ rfl;have d6:D 6:=hall {on:=6,ground:=.data} (by simp) rfl;have h6:f 6=.string ((beA u)++b):=hJ.1.1 6 d6 _ rfl;have hnz:¬D 8:=λh=>hni (hcl 8 _ h rfl {on:=7,ground:=.data} (by simp) rfl)
    have HJ:=hD hJ;refine wpOp_step rfl (λK' hK=>?_);rw[if_pos (by rfl)];exact ra.app_str (.tmp 28) (.tmp 34) ((beA u)++b) rfl hJ.1 zbW hni (show f 0=_ from h0) (show f 6=_ from h6) rfl rfl (by show 5+(_++_:ByteArray).size≤_;rw[ByteArray.size_append,zb2];omega) (λv' w' hj=>hK _ _ ⟨v',rfl,hj,ra.zcT HJ.out.2 hnz (by omega)⟩)
  | 8,ho =>
    cases ho;have d7:D 7:=hall {on:=7,ground:=.data} (by simp) rfl;have HJ:=hD hJ;clear hJ hall hcl hni;refine wpOp_step rfl (λK' hK=>?_);go_simp;exact hK _ _ ⟨f 7,by simp[rs.upd],HJ.out.1.step _ zbW (λz hz=>by cases hz) (show(7:Nat)≠8 by decide) bR,ra.zcU (by omega)⟩
  | k+9,ho=>simp at ho
 ·intro D F X hD hJ;have h8:F 8=F 7:=hJ.2.1 (hD 8 (by decide));have O3:ra.Own X W1.heap.size (F 7) ([u8 k,u8 m,u8 fl,u8 (ps.length:Int),u8 (b.size:Int)]++(beA u++b).data.toList):=hJ.1.2.2.2.2 (hD 7 (by decide));rw[show(beA u++b).data.toList=be 2 u++b.data.toList from by simp[beA,ByteArray.data_append],←List.append_assoc] at O3;have K3:K0 W1 X:=hJ.1.2.1;rw[h8];clear hJ hD O2 K2 h8 wk wm wf wn wb;generalize F 7=v7 at O3 ⊢;generalize hpre:[u8 k,u8 m,u8 fl,u8 (ps.length:Int),u8 (b.size:Int)]++be 2 u++b.data.toList=pre at HM2 O3;have hpl:pre.length≤47:=by rw[←hpre];simp[be_len];omega
  have HPL:=hD hpl;clear hpre hpl;have HO3:=hD ((show ra.Own X W1.heap.size v7 (pre++itsB ps 0) by rw[show itsB ps 0=[] from rfl,List.append_nil];exact O3));clear O3;have c5:X.cell? ⟨w.heap.size,0+5,none⟩=some (.slice a ps.length cap):=(HL1.out.1.keep K3).c5;go_wp2;clear c5
  go_loopw [4,39] (λs i wr=>∃(n:Nat) (sv:Value),n≤ps.length∧s=sv∧i=.int .i64 n∧ra.Own wr W1.heap.size sv (pre++itsB ps n)∧K0 W1 wr) (λ_ i _=>ps.length-(intOf i).toNat)
  case atStart=>exact⟨0,_,Nat.zero_le _,rfl,rfl,HO3.out,K3⟩
  case round =>
   clear HO3 K3;obtain⟨n,_,hn,rfl,rfl,hown,hk0⟩:=hrel;have HOW:=hD hown;have HK:=hD hk0;clear hown hk0;obtain⟨sa,sc,rfl⟩:=ra.zbK HOW.out;by_cases hlt:n<ps.length
   ·have hat:=zaY HL1.out.2.2.1 HK.out;obtain⟨a',cap',e',hh⟩:=hat;cases e'
    rcases hh with e|⟨bb,off,rfl,hcells⟩
    ·rw[e] at hlt;simp at hlt
    obtain⟨v0,v1⟩:=hcells n hlt;obtain⟨q1,q2⟩:=HIT.out n hlt;have HSTEP:=hD (zc7 hlt);clear hcells;generalize ps.getD n no=pr at v0 v1 q1 q2 HSTEP;obtain⟨ky,tx⟩:=pr;simp only at v0 v1 q1 q2;have hlt':(n:Int)<(ps.length:Int):=by omega
    have hn0:(0:Int)≤(n:Int):=by omega
    obtain⟨sn,hsn⟩:∃sn,sn=(pre++itsB ps n).length:=⟨_,rfl⟩
    rw[←hsn] at HOW ⊢;clear hsn
    go_upto_region 8 with fail
    have HV7:IVar (wr.alloc (.cells #[.string ky,.string tx] 103)) wr.heap.size ky tx:=(MapKept.heap_alloc wr _).1;have k7:Below wr.heap.size wr (wr.alloc (.cells #[.string ky,.string tx] 103)):=bR.alloc lR _;have O7:ra.Own (wr.alloc (.cells #[.string ky,.string tx] 103)) W1.heap.size (.slice sa sn sc) (pre++itsB ps n):=ow.own_below HOW.out k7;have K7:K0 W1 (wr.alloc (.cells #[.string ky,.string tx] 103)):=K0.below HK.out k7;have hll:(pre++itsB ps n).length≤90000:=by
     have h1:=HPL.out;have h2:=HITL.out n hn;rw[List.length_append];omega
    generalize wr.alloc _=W7 at HV7 O7 K7 ⊢;generalize wr.heap.size=G at HV7 ⊢;generalize hl0:pre++itsB ps n=l0 at O7 hll;have HL0:=hD hl0;clear hl0 k7 HOW HK v0 v1;refine rs.zaW (by kernel_rfl) (λf=>{tmps:=List.toArray ((.agg #[.int .i64 k,.int .i64 (u:Nat),.int .i64 m,.int .i64 fl,.string b,.slice (some ⟨bb,off,none⟩) ps.length cap])::(.pointer (some ⟨w.heap.size,0,none⟩))::(.slice none 0 0)::(.int .i64 0)::(f 17)::(undef)::(.pointer (some ⟨G,0,none⟩))::(.agg #[.int .i64 k,.int .i64 (u:Nat),.int .i64 m,.int .i64 fl,.string b,.slice (some ⟨bb,off,none⟩) ps.length cap])::(.bool true)::(.bool false)::(.pointer (some ⟨w.heap.size,0,none⟩))::(.int .i64 k)::(.int .u8 ((u8 k).toNat:Int))::(.pointer (some ⟨w.heap.size,2,none⟩))::(.int .i64 m)::(.int .u8 ((u8 m).toNat:Int))::(.pointer (some ⟨w.heap.size,3,none⟩))::(.int .i64 fl)::(.int .u8 ((u8 fl).toNat:Int))::(.pointer (some ⟨w.heap.size,5,none⟩))::(.slice (some ⟨bb,off,none⟩) ps.length cap)::(.int .i64 ps.length)::(.int .u8 ((u8 (ps.length:Int)).toNat:Int))::(.pointer (some ⟨w.heap.size,4,none⟩))::(.string b)::(.int .i64 b.size)::(.int .u8 ((u8 (b.size:Int)).toNat:Int))::(.slice (some ⟨W1.heap.size,0,none⟩) 5 5)::(F 0)::(F 1)::(F 2)::(F 3)::(F 4)::(F 5)::(F 6)::(v7)::(.pointer (some ⟨w.heap.size,5,none⟩))::(.slice (some ⟨bb,off,none⟩) ps.length cap)::(.int .i64 ps.length)::(.int .i64 n)::(.bool true)::(.pointer (some ⟨bb,off+n*2,none⟩))::(.agg #[.string ky,.string tx])::(f 0)::(f 1)::(f 2)::(f 3)::(f 4)::(f 5)::(f 6)::(f 7)::(f 8)::(f 9)::(f 10)::(f 11)::(f 12)::(f 13)::(f 14)::(f 15)::(f 16)::(u60)::(undef)::(undef)::(undef)::(undef)::[]),defers:=[]}) (λD f x=>ra.J1 (q8i W1 G (.slice sa sn sc) l0 ky tx) D f x∧ra.Tie 17 16 (.slice sa sn sc) D f) (λk=>if k=17 then .slice sa sn sc else([u43,u44,u45,u46,u47,u48,u49,u50,u51,u52,u53,u54,u55,u56,u57,u58,u59]:List Value).getD k undef) rfl ⟨⟨λj hj=>hj.elim,⟨K0.below K7 bR.drew,HV7⟩,Below.size (K0.below K7 bR.drew),λ_=>ow.own_below O7 bR.drew,λd=>d.elim⟩,λd=>d.elim,λ_=>rfl⟩ (rs.zaK (by kernel_rfl)) ?_ ?_
    ·intro i o ho D f x hJ hall hni hcl
     match i,ho with
     | 0,ho =>
       cases ho;have nz:¬D 17:=λh=>hni (hcl 16 _ (hcl 17 _ h rfl {on:=16,ground:=.data} (by simp) rfl) rfl {on:=0,ground:=.data} (by simp) rfl)
       have h17:f 17=.slice sa sn sc:=hJ.2.2 nz;have HJ:=hD hJ;clear hJ hall hcl hni nz;refine wpOp_step rfl (λK' hK=>?_);simp only[h17];go_simp;exact hK _ _ ⟨.slice sa sn sc,by simp[rs.upd,h17],HJ.out.1.step _ za0 (λz hz=>Option.some.inj hz) (show(16:Nat)≠0 by decide) bR,ra.zao HJ.out.2 (by omega) (by omega)⟩
     | 1,ho =>
       cases ho;have HJ:=hD hJ;clear hJ hall hcl hni;refine wpOp_step rfl (λK' hK=>?_);go_simp;exact hK _ _ ⟨.pointer (some ⟨G,0,none⟩),by simp[rs.upd],HJ.out.1.step _ za0 (λz hz=>Option.some.inj hz) (show(16:Nat)≠1 by decide) bR,ra.zao HJ.out.2 (by omega) (by omega)⟩
     | 2,ho =>
       cases ho;have d1:D 1:=hall {on:=1,ground:=.data} (by simp) rfl;have h1:f 1=.pointer (some ⟨G,0,none⟩):=hJ.1.1 1 d1 _ rfl;have c0:=hJ.1.2.1.2.c0;have HJ:=hD hJ;clear hJ hall hcl hni;refine wpOp_step rfl (λK' hK=>?_);simp only[h1]
       go_wp2_with fail
       exact⟨.string ky,by simp[rs.upd,h1],HJ.out.1.step _ za0 (λz hz=>Option.some.inj hz) (show(16:Nat)≠2 by decide) bR,ra.zao HJ.out.2 (by omega) (by omega)⟩
     | 3,ho =>
       cases ho;have d2:D 2:=hall {on:=2,ground:=.data} (by simp) rfl;have h2:f 2=.string ky:=hJ.1.1 2 d2 _ rfl;have HJ:=hD hJ;clear hJ hall hcl hni;refine wpOp_step rfl (λK' hK=>?_);simp only[h2];go_simp;exact hK _ _ ⟨.int .i64 (ky.size:Nat),by simp[rs.upd,h2],HJ.out.1.step _ za0 (λz hz=>Option.some.inj hz) (show(16:Nat)≠3 by decide) bR,ra.zao HJ.out.2 (by omega) (by omega)⟩
     | 4,ho =>
       cases ho;have d3:D 3:=hall {on:=3,ground:=.data} (by simp) rfl;have h3:f 3=.int .i64 (ky.size:Nat):=hJ.1.1 3 d3 _ rfl;have HJ:=hD hJ;clear hJ hall hcl hni;refine wpOp_step rfl (λK' hK=>?_);simp only[h3]
       go_wp2_with (go_at_call 104;refine(inB_any ky.size _ (by omega)).mono ?_;rintro e w' ⟨rfl,hb⟩)
       exact⟨.string (beA ky.size),by simp[rs.upd,h3],HJ.out.1.step _ za0 (λz hz=>Option.some.inj hz) (show(16:Nat)≠4 by decide) hb,ra.zao HJ.out.2 (by omega) (by omega)⟩
     | 5,ho =>
       cases ho;have HJ:=hD hJ;clear hJ hall hcl hni;refine wpOp_step rfl (λK' hK=>?_);go_simp;exact hK _ _ ⟨.pointer (some ⟨G,0+1,none⟩),by simp[rs.upd],HJ.out.1.step _ za0 (λz hz=>Option.some.inj hz) (show(16:Nat)≠5 by decide) bR,ra.zao HJ.out.2 (by omega) (by omega)⟩
     | 6,ho =>
       cases ho;have d5:D 5:=hall {on:=5,ground:=.data} (by simp) rfl;have h5:f 5=.pointer (some ⟨G,0+1,none⟩):=hJ.1.1 5 d5 _ rfl;have c1:=hJ.1.2.1.2.c1;have HJ:=hD hJ;clear hJ hall hcl hni;refine wpOp_step rfl (λK' hK=>?_);simp only[h5]
       go_wp2_with fail
       exact⟨.string tx,by simp[rs.upd,h5],HJ.out.1.step _ za0 (λz hz=>Option.some.inj hz) (show(16:Nat)≠6 by decide) bR,ra.zao HJ.out.2 (by omega) (by omega)⟩
     | 7,ho =>
       cases ho;have d6:D 6:=hall {on:=6,ground:=.data} (by simp) rfl;have h6:f 6=.string tx:=hJ.1.1 6 d6 _ rfl;have HJ:=hD hJ;clear hJ hall hcl hni;refine wpOp_step rfl (λK' hK=>?_);simp only[h6];go_simp;exact hK _ _ ⟨.int .i64 (tx.size:Nat),by simp[rs.upd,h6],HJ.out.1.step _ za0 (λz hz=>Option.some.inj hz) (show(16:Nat)≠7 by decide) bR,ra.zao HJ.out.2 (by omega) (by omega)⟩
     | 8,ho =>
       cases ho;have d7:D 7:=hall {on:=7,ground:=.data} (by simp) rfl;have h7:f 7=.int .i64 (tx.size:Nat):=hJ.1.1 7 d7 _ rfl;have HJ:=hD hJ;clear hJ hall hcl hni;refine wpOp_step rfl (λK' hK=>?_);simp only[h7]
       go_wp2_with (go_at_call 104;refine(inB_any tx.size _ (by omega)).mono ?_;rintro e w' ⟨rfl,hb⟩)
       exact⟨.string (beA tx.size),by simp[rs.upd,h7],HJ.out.1.step _ za0 (λz hz=>Option.some.inj hz) (show(16:Nat)≠8 by decide) hb,ra.zao HJ.out.2 (by omega) (by omega)⟩
     | 9,ho =>
       cases ho;have d4:D 4:=hall {on:=4,ground:=.data} (by simp) rfl;have h4:f 4=.string (beA ky.size):=hJ.1.1 4 d4 _ rfl;have d8:D 8:=hall {on:=8,ground:=.data} (by simp) rfl;have h8:f 8=.string (beA tx.size):=hJ.1.1 8 d8 _ rfl;have hb1:=zb2 ky.size;have hb2:=zb2 tx.size;have HJ:=hD hJ;clear hJ hall hcl hni;refine wpOp_step rfl (λK' hK=>?_);simp only[h4,h8];go_simp
       try (rw[if_neg (by first|omega|(simp only[ByteArray.size_append];omega))];go_simp)
       exact hK _ _ ⟨.string ((beA ky.size)++(beA tx.size)),by simp[rs.upd,h4,h8],HJ.out.1.step _ za0 (λz hz=>Option.some.inj hz) (show(16:Nat)≠9 by decide) bR,ra.zao HJ.out.2 (by omega) (by omega)⟩
     | 10,ho =>
       cases ho;have HJ:=hD hJ;clear hJ hall hcl hni;refine wpOp_step rfl (λK' hK=>?_);go_simp;exact hK _ _ ⟨.pointer (some ⟨G,0,none⟩),by simp[rs.upd],HJ.out.1.step _ za0 (λz hz=>Option.some.inj hz) (show(16:Nat)≠10 by decide) bR,ra.zao HJ.out.2 (by omega) (by omega)⟩
     | 11,ho =>
       cases ho;have d10:D 10:=hall {on:=10,ground:=.data} (by simp) rfl;have h10:f 10=.pointer (some ⟨G,0,none⟩):=hJ.1.1 10 d10 _ rfl;have c0:=hJ.1.2.1.2.c0;have HJ:=hD hJ;clear hJ hall hcl hni;refine wpOp_step rfl (λK' hK=>?_);simp only[h10]
       go_wp2_with fail
       exact⟨.string ky,by simp[rs.upd,h10],HJ.out.1.step _ za0 (λz hz=>Option.some.inj hz) (show(16:Nat)≠11 by decide) bR,ra.zao HJ.out.2 (by omega) (by omega)⟩
     | 12,ho =>
       cases ho;have d9:D 9:=hall {on:=9,ground:=.data} (by simp) rfl;have h9:f 9=.string ((beA ky.size)++(beA tx.size)):=hJ.1.1 9 d9 _ rfl;have d11:D 11:=hall {on:=11,ground:=.data} (by simp) rfl;have h11:f 11=.string ky:=hJ.1.1 11 d11 _ rfl;have hb1:=zb2 ky.size;have hb2:=zb2 tx.size;have HJ:=hD hJ;clear hJ hall hcl hni;refine wpOp_step rfl (λK' hK=>?_);simp only[h9,h11];go_simp
       try (rw[if_neg (by first|omega|(simp only[ByteArray.size_append];omega))];go_simp)
       exact hK _ _ ⟨.string (((beA ky.size)++(beA tx.size))++ky),by simp[rs.upd,h9,h11],HJ.out.1.step _ za0 (λz hz=>Option.some.inj hz) (show(16:Nat)≠12 by decide) bR,ra.zao HJ.out.2 (by omega) (by omega)⟩
     | 13,ho =>
       cases ho;have HJ:=hD hJ;clear hJ hall hcl hni;refine wpOp_step rfl (λK' hK=>?_);go_simp;exact hK _ _ ⟨.pointer (some ⟨G,0+1,none⟩),by simp[rs.upd],HJ.out.1.step _ za0 (λz hz=>Option.some.inj hz) (show(16:Nat)≠13 by decide) bR,ra.zao HJ.out.2 (by omega) (by omega)⟩
     | 14,ho =>
       cases ho;have d13:D 13:=hall {on:=13,ground:=.data} (by simp) rfl;have h13:f 13=.pointer (some ⟨G,0+1,none⟩):=hJ.1.1 13 d13 _ rfl;have c1:=hJ.1.2.1.2.c1;have HJ:=hD hJ;clear hJ hall hcl hni;refine wpOp_step rfl (λK' hK=>?_);simp only[h13]
       go_wp2_with fail
       exact⟨.string tx,by simp[rs.upd,h13],HJ.out.1.step _ za0 (λz hz=>Option.some.inj hz) (show(16:Nat)≠14 by decide) bR,ra.zao HJ.out.2 (by omega) (by omega)⟩
     | 15,ho =>
       cases ho;have d12:D 12:=hall {on:=12,ground:=.data} (by simp) rfl;have h12:f 12=.string (((beA ky.size)++(beA tx.size))++ky):=hJ.1.1 12 d12 _ rfl;have d14:D 14:=hall {on:=14,ground:=.data} (by simp) rfl;have h14:f 14=.string tx:=hJ.1.1 14 d14 _ rfl;have hb1:=zb2 ky.size;have hb2:=zb2 tx.size;have HJ:=hD hJ;clear hJ hall hcl hni;refine wpOp_step rfl (λK' hK=>?_);simp only[h12,h14];go_simp
       try (rw[if_neg (by first|omega|(simp only[ByteArray.size_append];omega))];go_simp)
       exact hK _ _ ⟨.string ((((beA ky.size++beA tx.size)++ky)++tx)),by simp[rs.upd,h12,h14],HJ.out.1.step _ za0 (λz hz=>Option.some.inj hz) (show(16:Nat)≠15 by decide) bR,ra.zao HJ.out.2 (by omega) (by omega)⟩
     | 16,ho =>
       cases ho;have d0:D 0:=hall {on:=0,ground:=.data} (by simp) rfl;have h0:f 0=.slice sa sn sc:=hJ.1.1 0 d0 _ rfl;have d15:D 15:=hall {on:=15,ground:=.data} (by simp) rfl;have h15:f 15=.string ((((beA ky.size++beA tx.size)++ky)++tx)):=hJ.1.1 15 d15 _ rfl;have hnz:¬D 17:=λh=>hni (hcl 17 _ h rfl {on:=16,ground:=.data} (by simp) rfl)
       have HJ:=hD hJ;refine wpOp_step rfl (λK' hK=>?_);rw[if_pos (by rfl)];exact ra.app_str (.tmp 43) (.tmp 58) ((((beA ky.size++beA tx.size)++ky)++tx)) rfl hJ.1 za0 hni (show f 0=_ from h0) (show f 15=_ from h15) rfl rfl (by show l0.length+((((beA ky.size++beA tx.size)++ky)++tx)).size≤_;rw[itx_size];omega) (λv' w' hj=>hK _ _ ⟨v',rfl,hj,ra.zcT HJ.out.2 hnz (by omega)⟩)
     | 17,ho =>
       cases ho;have d16:D 16:=hall {on:=16,ground:=.data} (by simp) rfl;have HJ:=hD hJ;clear hJ hall hcl hni;refine wpOp_step rfl (λK' hK=>?_);go_simp;exact hK _ _ ⟨f 16,by simp[rs.upd],HJ.out.1.step _ za0 (λz hz=>by cases hz) (show(16:Nat)≠17 by decide) bR,ra.zcU (by omega)⟩
     | k+18,ho=>simp at ho
    ·intro D2 F2 X2 hD2 hJ2;have h17:F2 17=F2 16:=hJ2.2.1 (hD2 17 (by decide));have O8:ra.Own X2 W1.heap.size (F2 16) (l0++((((beA ky.size++beA tx.size)++ky)++tx)).data.toList):=hJ2.1.2.2.2.2 (hD2 16 (by decide));have K8:K0 W1 X2:=hJ2.1.2.1.1;rw[h17];have HE:Hid (ra.Own X2 W1.heap.size (F2 16) (pre++itsB ps (n+1))∧K0 W1 X2):=by
      refine⟨?_,K8⟩;rw[HSTEP.out,←List.append_assoc,HL0.out,←itx_list];exact O8
     clear hJ2 hD2 O7 K7 h17 O8 K8;go_wp2
     go_roundw
     case rel=>exact⟨n+1,_,by omega,rfl,by go_num,HE.out.1,HE.out.2⟩
     case measure=>simp[intOf];omega
   ·have hnn:n=ps.length:=by omega
    have hR:R=pre++itsB ps n:=by rw[HM2.out,hnn]
    have HE:Hid (ra.Own wr w.heap.size (.slice sa (pre++itsB ps n).length sc) R∧Below w.heap.size w wr):=by
     refine⟨?_,HL1.out.2.1.trans (Below.mono HK.out HL1.out.2.2.2)⟩;rw[hR];exact zcx HOW.out HL1.out.2.2.2
    have hlt':(ps.length:Int)≤(n:Int):=by omega
    rw[←hR] at HE ⊢;clear hnn hR HOW;have hml:=HML2.out;by_cases hf:R.length≤20000
    ·have hf':(R.length:Int)≤20000:=by omega
     have HC:=hD (HO2.out hf);go_wp2;go_ret2;exact⟨HMB.out _ _ _ _ _ HC.out.1 HC.out.2 HE.out.1,HE.out.2⟩
    ·have hf':(20000:Int)<(R.length:Int):=by omega
     have HC:=hD (HF2.out hf);go_wp2;go_ret2;exact⟨HMB.out _ _ _ _ _ HC.out.1 HC.out.2 (own_nil _ _),HE.out.2⟩
end mb
namespace eg
open Go.RowKit
open bx bl
open lg (LV fr)
def mbt(M:mu.Mu):ByteArray:=⟨(mb.mB M).toArray⟩
def Cx(r:Int)(d:ByteArray)(s:Int)(bs:List Bx)(M:mu.Mu)(zs:List Bx)(k:Int)(r':Int)(d':ByteArray)(s':Int)(ys:List Bx)(c:Int):Prop :=
 r'=r∧((k≠0∧d'=d∧s'=s∧ys=bs∧c=k)∨(k=0∧(20000<(mbt M).size∨r<(d.size:Int)+7+(mbt M).size)∧d'=d∧s'=s∧ys=bs∧c=7)∨(k=0∧¬(20000<(mbt M).size∨r<(d.size:Int)+7+(mbt M).size)∧d'=d++fr (mbt M)∧s'=(((d++fr (mbt M)).size:Nat):Int)∧ys=zs∧c=0))
theorem cx_one{r:Int}{d:ByteArray}{s:Int}{bs:List Bx}{M:mu.Mu}{zs:List Bx}{k r' r'':Int}{d' d'':ByteArray}{s' s'':Int}{ys ys':List Bx}{c c':Int}(h:Cx r d s bs M zs k r' d' s' ys c)(h':Cx r d s bs M zs k r'' d'' s'' ys' c'):r'=r''∧d'=d''∧s'=s''∧ys=ys'∧c=c':=by
 obtain⟨rfl,h⟩:=h;obtain⟨rfl,h'⟩:=h'
 rcases h with⟨h1,rfl,rfl,rfl,rfl⟩|⟨h1,h2,rfl,rfl,rfl,rfl⟩|⟨h1,h2,rfl,rfl,rfl,rfl⟩ <;>
 rcases h' with⟨g1,rfl,rfl,rfl,rfl⟩|⟨g1,g2,rfl,rfl,rfl,rfl⟩|⟨g1,g2,rfl,rfl,rfl,rfl⟩ <;>
 first|exact⟨rfl,rfl,rfl,rfl,rfl⟩|exact absurd g1 h1|exact absurd h1 g1|exact absurd g2 h2|exact absurd h2 g2
def Cm(r:Int)(d:ByteArray)(s:Int)(bs:List Bx)(M:mu.Mu)(r':Int)(d':ByteArray)(s':Int)(ys:List Bx)(c:Int):Prop :=
 (¬(Cn r d s bs∧mu.mok M=true)∧r'=0∧d'=⟨#[]⟩∧s'=0∧ys=[]∧c=1) ∨
 (Cn r d s bs∧mu.mok M=true∧∃zs k,sa.Am bs M zs k∧Cx r d s bs M zs k r' d' s' ys c)
theorem cn_sok{r:Int}{d:ByteArray}{s:Int}{bs:List Bx}(h:Cn r d s bs):sok bs=true:=by
 obtain⟨_,_,h1,_⟩:=h.2.2.2;exact h1
theorem cm_one{r:Int}{d:ByteArray}{s:Int}{bs:List Bx}{M:mu.Mu}{r' r'':Int}{d' d'':ByteArray}{s' s'':Int}{ys ys':List Bx}{c c':Int}(h:Cm r d s bs M r' d' s' ys c)(h':Cm r d s bs M r'' d'' s'' ys' c'):r'=r''∧d'=d''∧s'=s''∧ys=ys'∧c=c':=by
 rcases h with⟨h1,rfl,rfl,rfl,rfl,rfl⟩|⟨h1,h2,zs,k,hA,hx⟩
 ·rcases h' with⟨g1,rfl,rfl,rfl,rfl,rfl⟩|⟨g1,g2,_⟩
  ·exact⟨rfl,rfl,rfl,rfl,rfl⟩
  ·exact absurd ⟨g1,g2⟩ h1
 ·rcases h' with⟨g1,_⟩|⟨g1,g2,zs',k',hA',hx'⟩
  ·exact absurd ⟨h1,h2⟩ g1
  ·obtain⟨rfl,rfl⟩:=sa.am_one (rp.rising_sok (cn_sok h1)) hA hA';exact cx_one hx hx'
theorem cm_small{r:Int}{d:ByteArray}{s:Int}{bs:List Bx}{M:mu.Mu}{r':Int}{d':ByteArray}{s':Int}{ys:List Bx}{c:Int}(hs:zac bs)(hm:mu.Small M)(h:Cm r d s bs M r' d' s' ys c):zac ys∧sok ys=true:=by
 rcases h with⟨h1,rfl,rfl,rfl,rfl,rfl⟩|⟨h1,h2,zs,k,hA,hx⟩
 ·exact⟨rp.zbo,rp.za3⟩
 ·have hso:=cn_sok h1
  rcases hx.2 with⟨_,_,_,rfl,_⟩|⟨_,_,_,_,rfl,_⟩|⟨rfl,_,_,_,rfl,_⟩
  ·exact⟨hs,hso⟩
  ·exact⟨hs,hso⟩
  ·exact⟨sa.am_small hs hm hso h2 hA,sa.am_ok hso h2 hA⟩
end eg
end Go.Proofs.YtmnflpmfngjllaaGreatDoor
