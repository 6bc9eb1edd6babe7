/-
  FnReplayCardSaid
-/
import Derived.Test.YtmnflpmfngjllaaGreatDoorPkbf
import Derived.Test.YtmnflpmfngjllaaGreatDoorPkba
set_option maxHeartbeats 16000000
set_option maxRecDepth 100000
set_option linter.unusedVariables false
namespace Go.Proofs.YtmnflpmfngjllaaGreatDoor
namespace mb
open Go.RowKit Go.Deep
open it mu
open lg (be be_len)
def q2(W1:World)(Bc M:Nat)(v0:Value)(l0:List UInt8)(u:Int)(b:ByteArray):ra.Q2 where
 V:=fun
  | 0=>some v0
  | 1=>some (.pointer (some ⟨M,0+1,none⟩))
  | 2=>some (.int .i64 u)
  | 5=>some (.pointer (some ⟨M,0+4,none⟩))
  | 6=>some (.string b)
  | _=>none
 K:=K0 W1
 B1:=W1.heap.size
 Bc:=Bc
 v0:=v0
 l0:=l0
 s1:=be 2 u.toNat
 s2:=b.data.toList
 a1:=4
 a2:=7
 c1:=3
 c2:=98
theorem q2_good{W1:World}{Bc M:Nat}{v0:Value}{l0:List UInt8}{u:Int}{b:ByteArray}(hf:∀k,v0.ownBlock=some k→k<Bc):(q2 W1 Bc M v0 l0 u b).Good :=
 ⟨λx x' h hb=>K0.below h hb,λx x' v l h ho hg=>K0.row h ho hg,hf,(show(4:Nat)≠7 by decide),(show(4:Nat)≠3 by decide),(show(4:Nat)≠98 by decide),(show(7:Nat)≠3 by decide),(show(7:Nat)≠98 by decide),(show(3:Nat)≠98 by decide)⟩
def q7(W1:World)(Bc G:Nat)(v0:Value)(l0:List UInt8)(ky tx:ByteArray):ra.Q2 where
 V:=fun
  | 0=>some v0
  | 1=>some (.pointer (some ⟨G,0,none⟩))
  | 2=>some (.string ky)
  | 3=>some (.int .i64 (ky.size:Nat))
  | 6=>some (.pointer (some ⟨G,0+1,none⟩))
  | 7=>some (.string tx)
  | 8=>some (.int .i64 (tx.size:Nat))
  | _=>none
 K:=λx=>K0 W1 x∧IVar x G ky tx
 B1:=W1.heap.size
 Bc:=Bc
 v0:=v0
 l0:=l0
 s1:=be 2 ky.size
 s2:=be 2 tx.size
 a1:=5
 a2:=10
 c1:=4
 c2:=9
theorem q7_good{W1:World}{Bc G:Nat}{v0:Value}{l0:List UInt8}{ky tx:ByteArray}(hf:∀k,v0.ownBlock=some k→k<Bc):(q7 W1 Bc G v0 l0 ky tx).Good :=
 ⟨λx x' h hb=>⟨K0.below h.1 hb,h.2.below hb⟩,λx x' v l h ho hg=>⟨K0.row h.1 ho hg,h.2.row ho hg⟩,hf,(show(5:Nat)≠10 by decide),(show(5:Nat)≠4 by decide),(show(5:Nat)≠9 by decide),(show(10:Nat)≠4 by decide),(show(10:Nat)≠9 by decide),(show(4:Nat)≠9 by decide)⟩
def q8(W1:World)(Bc G:Nat)(v0:Value)(l0:List UInt8)(ky tx:ByteArray):ra.Q2 where
 V:=fun
  | 0=>some v0
  | 1=>some (.pointer (some ⟨G,0,none⟩))
  | 2=>some (.string ky)
  | 4=>some (.pointer (some ⟨G,0+1,none⟩))
  | 5=>some (.string tx)
  | _=>none
 K:=λx=>K0 W1 x∧IVar x G ky tx
 B1:=W1.heap.size
 Bc:=Bc
 v0:=v0
 l0:=l0
 s1:=ky.data.toList
 s2:=tx.data.toList
 a1:=3
 a2:=6
 c1:=99
 c2:=98
theorem q8_good{W1:World}{Bc G:Nat}{v0:Value}{l0:List UInt8}{ky tx:ByteArray}(hf:∀k,v0.ownBlock=some k→k<Bc):(q8 W1 Bc G v0 l0 ky tx).Good :=
 ⟨λx x' h hb=>⟨K0.below h.1 hb,h.2.below hb⟩,λx x' v l h ho hg=>⟨K0.row h.1 ho hg,h.2.row ho hg⟩,hf,(show(3:Nat)≠6 by decide),(show(3:Nat)≠99 by decide),(show(3:Nat)≠98 by decide),(show(6:Nat)≠99 by decide),(show(6:Nat)≠98 by decide),(show(99:Nat)≠98 by decide)⟩
theorem lb_any(x:Mu)(v:Value)(w:World)(h:zav w v x.ps)(hx:Fits x) :
  Calls Tryz.prog 40 #[MV x v] w λe w'=>(∃u,e=.returned u∧ra.Own w' w.heap.size u (mB x))∧Below w.heap.size w w':=by
 have L0:=zan w 35 x v;have b0:=new_below w 35 #[.int .i64 x.k,.int .i64 x.u,.int .i64 x.m,.int .i64 x.f,.string x.b,v];have hat:=zaY h b0;obtain⟨a,cap,rfl,_⟩:=h;unfold MV;obtain⟨k,u,m,fl,b,ps⟩:=x;obtain⟨u,rfl⟩:=Int.eq_ofNat_of_zero_le hx.u.1;have HM:Hid (mB ⟨k,u,m,fl,b,ps⟩=[u8 k,u8 m,u8 fl,u8 (ps.length:Int),u8 (b.size:Int)]++be 2 u++b.data.toList++itsB ps ps.length):=rfl;have HFT:=hD hx;have wk:=wrap8 hx.k.1 hx.k.2;have wm:=wrap8 hx.m.1 hx.m.2;have wf:=wrap8 hx.f.1 hx.f.2;have wn:=wrap8 (z:=(ps.length:Int)) (by omega) (by have:=hx.n;simp only at this;omega);have wb:=wrap8 (z:=(b.size:Int)) (by omega) (by have:=hx.b;simp only at this;omega);have hu0:=hx.u;have hb40:=hx.b;have hn20:=hx.n;have hsz:(w.alloc (.cells #[.int .i64 k,.int .i64 u,.int .i64 m,.int .i64 fl,.string b,.slice a ps.length cap] 35)).heap.size=w.heap.size+1:=by simp
 simp only at L0 b0 hat wk wm wf hu0 hb40 hn20 ⊢;have hu1:u<65536:=by omega
 clear hu0;generalize mB ⟨k,u,m,fl,b,ps⟩=R at HM ⊢;clear hx;go_enter Tryz.func40,Tryz.ntmps40
 go_upto_region 2 with fail
 generalize w.alloc _=W1 at L0 b0 hat hsz ⊢;have O2:=own_five W1 W1.heap.size (u8 k) (u8 m) (u8 fl) (u8 (ps.length:Int)) (u8 (b.size:Int)) lR;rw[hsz] at O2;rw[←hsz] at O2;have K2:K0 W1 (W1.alloc (.cells #[.int .u8 ((u8 k).toNat:Int),.int .u8 ((u8 m).toNat:Int),.int .u8 ((u8 fl).toNat:Int),.int .u8 ((u8 (ps.length:Int)).toNat:Int),.int .u8 ((u8 (b.size:Int)).toNat:Int)] 5)):=bR.alloc lR _;rw[←hsz];have hBc:W1.heap.size<(W1.alloc (.cells #[.int .u8 ((u8 k).toNat:Int),.int .u8 ((u8 m).toNat:Int),.int .u8 ((u8 fl).toNat:Int),.int .u8 ((u8 (ps.length:Int)).toNat:Int),.int .u8 ((u8 (b.size:Int)).toNat:Int)] 5)).heap.size:=by simp
 generalize W1.alloc _=W2 at O2 K2 hBc ⊢;have HL1:Hid (Lies W1 w.heap.size 35 ⟨k,u,m,fl,b,ps⟩ (.slice a ps.length cap)∧Below w.heap.size w W1∧zav W1 (.slice a ps.length cap) ps∧w.heap.size≤W1.heap.size):=⟨L0,b0,hat,by omega⟩
 clear L0 b0 hat;have HSZ:=hD hsz;clear hsz;have HFAR:Hid (∀k,(Value.slice (some ⟨W1.heap.size,0,none⟩) 5 5).ownBlock=some k→k<W2.heap.size):=λk hk=>(O2.lt k hk).2
 refine rs.zaW (by kernel_rfl) (λf=>{tmps:=#[.agg #[.int .i64 k,.int .i64 (u:Nat),.int .i64 m,.int .i64 fl,.string b,.slice a ps.length cap],.pointer (some ⟨w.heap.size,0,none⟩),.slice none 0 0,f 8,undef,undef,.pointer (some ⟨w.heap.size,0,none⟩),.int .i64 k,.int .u8 ((u8 k).toNat:Int),.pointer (some ⟨w.heap.size,2,none⟩),.int .i64 m,.int .u8 ((u8 m).toNat:Int),.pointer (some ⟨w.heap.size,3,none⟩),.int .i64 fl,.int .u8 ((u8 fl).toNat:Int),.pointer (some ⟨w.heap.size,5,none⟩),.slice a ps.length cap,.int .i64 ps.length,.int .u8 ((u8 (ps.length:Int)).toNat:Int),.pointer (some ⟨w.heap.size,4,none⟩),.string b,.int .i64 b.size,.int .u8 ((u8 (b.size:Int)).toNat:Int),.slice (some ⟨W1.heap.size,0,none⟩) 5 5,f 0,f 1,f 2,f 3,f 4,f 5,f 6,f 7,undef,undef,undef,undef,undef,undef,undef,undef,undef,undef,undef,undef,undef,undef,undef,undef,undef,undef,undef,undef,undef,undef,undef,undef,undef,undef,undef,undef,undef,undef,undef],defers:=[]}) (λD f x=>ra.J2 (q2 W1 W2.heap.size w.heap.size (.slice (some ⟨W1.heap.size,0,none⟩) 5 5) [u8 k,u8 m,u8 fl,u8 (ps.length:Int),u8 (b.size:Int)] (u:Nat) b) D f x∧ra.Tie 8 7 (.slice (some ⟨W1.heap.size,0,none⟩) 5 5) D f) (λk=>if k=8 then .slice (some ⟨W1.heap.size,0,none⟩) 5 5 else undef) rfl ⟨⟨λj hj=>hj.elim,K0.below K2 bR.drew,Nat.le_refl _,λ_=>ow.own_below O2 bR.drew,λd=>d.elim,λd=>d.elim,λd=>d.elim,λd=>d.elim⟩,λd=>d.elim,λ_=>rfl⟩ (rs.zaK (by kernel_rfl)) ?_ ?_
 ·intro i o ho D f x hJ hall hni hcl
  match i,ho with
  | 0,ho =>
    cases ho;have nz:¬D 8:=λh=>hni (hcl 4 _ (hcl 7 _ (hcl 8 _ h rfl {on:=7,ground:=.data} (by simp) rfl) rfl {on:=4,ground:=.data} (by simp) rfl) rfl {on:=0,ground:=.data} (by simp) rfl)
    have h8:f 8=.slice (some ⟨W1.heap.size,0,none⟩) 5 5:=hJ.2.2 nz;have HJ:=hD hJ;clear hJ hall hcl hni nz;refine wpOp_step rfl (λK' hK=>?_);simp only[h8];go_simp;exact hK _ _ ⟨.slice (some ⟨W1.heap.size,0,none⟩) 5 5,by simp[rs.upd,h8],HJ.out.1.pure _ (λz hz=>Option.some.inj hz) (show(4:Nat)≠0 by decide) (show(7:Nat)≠0 by decide) (show(3:Nat)≠0 by decide) (show(98:Nat)≠0 by decide),ra.zao HJ.out.2 (by omega) (by omega)⟩
  | 1,ho =>
    cases ho;have HJ:=hD hJ;clear hJ hall hcl hni;refine wpOp_step rfl (λK' hK=>?_);go_simp;exact hK _ _ ⟨.pointer (some ⟨w.heap.size,0+1,none⟩),by simp[rs.upd],HJ.out.1.pure _ (λz hz=>Option.some.inj hz) (show(4:Nat)≠1 by decide) (show(7:Nat)≠1 by decide) (show(3:Nat)≠1 by decide) (show(98:Nat)≠1 by decide),ra.zao HJ.out.2 (by omega) (by omega)⟩
  | 2,ho =>
    cases ho;have d1:D 1:=hall {on:=1,ground:=.data} (by simp) rfl;have h1:f 1=.pointer (some ⟨w.heap.size,0+1,none⟩):=hJ.1.1 1 d1 _ rfl;have c1:x.cell? ⟨w.heap.size,0+1,none⟩=_:=(HL1.out.1.keep hJ.1.2.1).c1;have HJ:=hD hJ;clear hJ hall hcl hni;refine wpOp_step rfl (λK' hK=>?_);simp only[h1]
    go_wp2_with fail
    exact⟨.int .i64 (u:Nat),by simp[rs.upd,h1],HJ.out.1.pure _ (λz hz=>Option.some.inj hz) (show(4:Nat)≠2 by decide) (show(7:Nat)≠2 by decide) (show(3:Nat)≠2 by decide) (show(98:Nat)≠2 by decide),ra.zao HJ.out.2 (by omega) (by omega)⟩
  | 3,ho =>
    cases ho;have d2:D 2:=hall {on:=2,ground:=.data} (by simp) rfl;have h2:f 2=.int .i64 (u:Nat):=hJ.1.1 2 d2 _ rfl;have HJ:=hD hJ;clear hJ hall hcl hni;refine wpOp_step rfl (λK' hK=>?_);simp only[h2]
    go_wp2_with (go_at_call 77;refine(lg.zcE u 2 _ (by omega) (by omega)).mono ?_;rintro e w' ⟨⟨vv,rfl,hov⟩,hb⟩)
    exact⟨vv,by simp[rs.upd,h2],HJ.out.1.call1 _ (q2_good HFAR.out) hb (ra.src_of hov (show 2=(be 2 (u)).length by rw[be_len]) (bz_cells _ _) (show 0<(be 2 (u)).length by rw[be_len];omega)) rfl,ra.zao HJ.out.2 (by omega) (by omega)⟩
  | 4,ho =>
    cases ho;have d0:D 0:=hall {on:=0,ground:=.data} (by simp) rfl;have h0:f 0=.slice (some ⟨W1.heap.size,0,none⟩) 5 5:=hJ.1.1 0 d0 _ rfl;have d3:D 3:=hall {on:=3,ground:=.data} (by simp) rfl;have n7:¬D 7:=λh=>hni (hcl 7 _ h rfl {on:=4,ground:=.data} (by simp) rfl)
    have hnz:¬D 8:=λh=>n7 (hcl 8 _ h rfl {on:=7,ground:=.data} (by simp) rfl)
    have HJ:=hD hJ;refine wpOp_step rfl (λK' hK=>?_);rw[if_pos (by rfl)];exact ra.app1_src (.tmp 24) (.tmp 27) rfl hJ.1 (q2_good HFAR.out) hni n7 d3 (show f 0=_ from h0) rfl rfl (Nat.le_of_lt hBc) (by show 5+(be 2 u).length≤_;rw[be_len];omega) (λv' w' hj=>hK _ _ ⟨v',rfl,hj,ra.zao HJ.out.2 (by omega) (by omega)⟩)
  | 5,ho =>
    cases ho;have HJ:=hD hJ;clear hJ hall hcl hni;refine wpOp_step rfl (λK' hK=>?_);go_simp;exact hK _ _ ⟨.pointer (some ⟨w.heap.size,0+4,none⟩),by simp[rs.upd],HJ.out.1.pure _ (λz hz=>Option.some.inj hz) (show(4:Nat)≠5 by decide) (show(7:Nat)≠5 by decide) (show(3:Nat)≠5 by decide) (show(98:Nat)≠5 by decide),ra.zao HJ.out.2 (by omega) (by omega)⟩
  | 6,ho =>
    cases ho;have d5:D 5:=hall {on:=5,ground:=.data} (by simp) rfl;have h5:f 5=.pointer (some ⟨w.heap.size,0+4,none⟩):=hJ.1.1 5 d5 _ rfl;have c4:x.cell? ⟨w.heap.size,0+4,none⟩=_:=(HL1.out.1.keep hJ.1.2.1).c4;have HJ:=hD hJ;clear hJ hall hcl hni;refine wpOp_step rfl (λK' hK=>?_);simp only[h5]
    go_wp2_with fail
    exact⟨.string b,by simp[rs.upd,h5],HJ.out.1.pure _ (λz hz=>Option.some.inj hz) (show(4:Nat)≠6 by decide) (show(7:Nat)≠6 by decide) (show(3:Nat)≠6 by decide) (show(98:Nat)≠6 by decide),ra.zao HJ.out.2 (by omega) (by omega)⟩
  | 7,ho =>
    cases ho;have d6:D 6:=hall {on:=6,ground:=.data} (by simp) rfl;have h6:f 6=.string b:=hJ.1.1 6 d6 _ rfl;have d4:D 4:=hall {on:=4,ground:=.data} (by simp) rfl;have hnz:¬D 8:=λh=>hni (hcl 8 _ h rfl {on:=7,ground:=.data} (by simp) rfl)
    have HJ:=hD hJ;refine wpOp_step rfl (λK' hK=>?_);rw[if_pos (by rfl)];exact ra.app2_str (.tmp 28) (.tmp 30) b rfl hJ.1 (q2_good HFAR.out) d4 hni rfl (show f 6=_ from h6) rfl rfl (Nat.le_of_lt hBc) (by show 5+(be 2 u).length+b.size≤_;rw[be_len];omega) (λv' w' hj=>hK _ _ ⟨v',rfl,hj,ra.zcT HJ.out.2 hnz (by omega)⟩)
  | 8,ho =>
    cases ho;have d7:D 7:=hall {on:=7,ground:=.data} (by simp) rfl;have HJ:=hD hJ;clear hJ hall hcl hni;refine wpOp_step rfl (λK' hK=>?_);go_simp;exact hK _ _ ⟨f 7,by simp[rs.upd],HJ.out.1.pure _ (λz hz=>by cases hz) (show(4:Nat)≠8 by decide) (show(7:Nat)≠8 by decide) (show(3:Nat)≠8 by decide) (show(98:Nat)≠8 by decide),ra.zcU (by omega)⟩
  | k+9,ho=>simp at ho
 ·intro D F X hD hJ;have h8:F 8=F 7:=hJ.2.1 (hD 8 (by decide));have O3:ra.Own X W1.heap.size (F 7) ([u8 k,u8 m,u8 fl,u8 (ps.length:Int),u8 (b.size:Int)]++be 2 u++b.data.toList):=hJ.1.2.2.2.2.2.1 (hD 7 (by decide));have K3:K0 W1 X:=hJ.1.2.1;rw[h8];clear hJ hD O2 K2 hBc HFAR h8 wk wm wf wn wb;generalize F 7=v7 at O3 ⊢;generalize hpre:[u8 k,u8 m,u8 fl,u8 (ps.length:Int),u8 (b.size:Int)]++be 2 u++b.data.toList=pre at HM O3;have hpl:pre.length≤47:=by rw[←hpre];simp[be_len];omega
  have HPL:=hD hpl;have HITL:Hid (∀j,j≤ps.length→(itsB ps j).length≤j*4204):=λj hj=>itsB_len HFT.out j hj
  have HIT:=hD HFT.out.i;clear hpre hpl;have HO3:=hD ((show ra.Own X W1.heap.size v7 (pre++itsB ps 0) by rw[show itsB ps 0=[] from rfl,List.append_nil];exact O3));clear O3;go_wp2
  go_loopw [3,4] (λs i wr=>∃(n:Nat) (sv:Value),n≤ps.length∧s=sv∧i=.int .i64 n∧ra.Own wr W1.heap.size sv (pre++itsB ps n)∧K0 W1 wr) (λ_ i _=>ps.length-(intOf i).toNat)
  case atStart=>exact⟨0,_,Nat.zero_le _,rfl,rfl,HO3.out,K3⟩
  case round =>
   clear HO3 K3;obtain⟨n,_,hn,rfl,rfl,hown,hk0⟩:=hrel;have HOW:=hD hown;have HK:=hD hk0;clear hown hk0;have c5:wr.cell? ⟨w.heap.size,0+5,none⟩=some (.slice a ps.length cap):=(HL1.out.1.keep HK.out).c5;obtain⟨sa,sn,sc,rfl⟩:=ra.own_form HOW.out;by_cases hlt:n<ps.length
   ·have hat:=zaY HL1.out.2.2.1 HK.out;obtain⟨a',cap',e',hh⟩:=hat;cases e'
    rcases hh with e|⟨bb,off,rfl,hcells⟩
    ·rw[e] at hlt;simp at hlt
    obtain⟨v0,v1⟩:=hcells n hlt;obtain⟨q1,q2⟩:=HIT.out n hlt;have HSTEP:=hD (zc7 hlt);clear hcells;generalize ps.getD n no=pr at v0 v1 q1 q2 HSTEP;obtain⟨ky,tx⟩:=pr;simp only at v0 v1 q1 q2;have hlt':(n:Int)<(ps.length:Int):=by omega
    have hn0:(0:Int)≤(n:Int):=by omega
    go_upto_region 7 with fail
    have HV7:IVar (wr.alloc (.cells #[.string ky,.string tx] 103)) wr.heap.size ky tx:=(MapKept.heap_alloc wr _).1;have k7:Below wr.heap.size wr (wr.alloc (.cells #[.string ky,.string tx] 103)):=bR.alloc lR _;have O7:ra.Own (wr.alloc (.cells #[.string ky,.string tx] 103)) W1.heap.size (.slice sa sn sc) (pre++itsB ps n):=ow.own_below HOW.out k7;have K7:K0 W1 (wr.alloc (.cells #[.string ky,.string tx] 103)):=K0.below HK.out k7;have hll:(pre++itsB ps n).length≤90000:=by
     have h1:=HPL.out;have h2:=HITL.out n hn;rw[List.length_append];omega
    generalize wr.alloc _=W7 at HV7 O7 K7 ⊢;generalize wr.heap.size=G at HV7 ⊢;have HB7:=hD (Below.size K7);generalize hl0:pre++itsB ps n=l0 at O7 hll;have HL0:=hD hl0;have HFAR:Hid (∀k,(Value.slice sa sn sc).ownBlock=some k→k<W7.heap.size):=λk hk=>(O7.lt k hk).2
    clear hl0 k7 HOW HK v0 v1 c5;refine rs.zaW (by kernel_rfl) (λf=>{tmps:=#[.agg #[.int .i64 k,.int .i64 (u:Nat),.int .i64 m,.int .i64 fl,.string b,.slice (some ⟨bb,off,none⟩) ps.length cap],.pointer (some ⟨w.heap.size,0,none⟩),.slice none 0 0,f 11,.int .i64 n,.pointer (some ⟨G,0,none⟩),.pointer (some ⟨w.heap.size,0,none⟩),.int .i64 k,.int .u8 ((u8 k).toNat:Int),.pointer (some ⟨w.heap.size,2,none⟩),.int .i64 m,.int .u8 ((u8 m).toNat:Int),.pointer (some ⟨w.heap.size,3,none⟩),.int .i64 fl,.int .u8 ((u8 fl).toNat:Int),.pointer (some ⟨w.heap.size,5,none⟩),.slice (some ⟨bb,off,none⟩) ps.length cap,.int .i64 ps.length,.int .u8 ((u8 (ps.length:Int)).toNat:Int),.pointer (some ⟨w.heap.size,4,none⟩),.string b,.int .i64 b.size,.int .u8 ((u8 (b.size:Int)).toNat:Int),.slice (some ⟨W1.heap.size,0,none⟩) 5 5,F 0,F 1,F 2,F 3,F 4,F 5,F 6,v7,.int .i64 n,.pointer (some ⟨w.heap.size,5,none⟩),.slice (some ⟨bb,off,none⟩) ps.length cap,.int .i64 ps.length,.bool true,u37,u38,.pointer (some ⟨w.heap.size,5,none⟩),.slice (some ⟨bb,off,none⟩) ps.length cap,.int .i64 n,.pointer (some ⟨bb,off+n*2,none⟩),.agg #[.string ky,.string tx],f 0,f 1,f 2,f 3,f 4,f 5,f 6,f 7,f 8,f 9,f 10,u55,u56,u57,u58,u59,u60,u61,undef],defers:=[]}) (λD f x=>ra.J2 (q7 W1 W7.heap.size G (.slice sa sn sc) l0 ky tx) D f x∧ra.Tie 11 10 (.slice sa sn sc) D f) (λk=>if k=11 then .slice sa sn sc else([u44,u45,u46,u47,u48,u49,u50,u51,u52,u53,u54]:List Value).getD k undef) rfl ⟨⟨λj hj=>hj.elim,⟨K0.below K7 bR.drew,HV7⟩,Nat.le_refl _,λ_=>ow.own_below O7 bR.drew,λd=>d.elim,λd=>d.elim,λd=>d.elim,λd=>d.elim⟩,λd=>d.elim,λ_=>rfl⟩ (rs.zaK (by kernel_rfl)) ?_ ?_
    ·intro i o ho D f x hJ hall hni hcl
     match i,ho with
     | 0,ho =>
       cases ho;have nz:¬D 11:=λh=>hni (hcl 5 _ (hcl 10 _ (hcl 11 _ h rfl {on:=10,ground:=.data} (by simp) rfl) rfl {on:=5,ground:=.data} (by simp) rfl) rfl {on:=0,ground:=.data} (by simp) rfl)
       have h11:f 11=.slice sa sn sc:=hJ.2.2 nz;have HJ:=hD hJ;clear hJ hall hcl hni nz;refine wpOp_step rfl (λK' hK=>?_);simp only[h11];go_simp;exact hK _ _ ⟨.slice sa sn sc,by simp[rs.upd,h11],HJ.out.1.pure _ (λz hz=>Option.some.inj hz) (show(5:Nat)≠0 by decide) (show(10:Nat)≠0 by decide) (show(4:Nat)≠0 by decide) (show(9:Nat)≠0 by decide),ra.zao HJ.out.2 (by omega) (by omega)⟩
     | 1,ho =>
       cases ho;have HJ:=hD hJ;clear hJ hall hcl hni;refine wpOp_step rfl (λK' hK=>?_);go_simp;exact hK _ _ ⟨.pointer (some ⟨G,0,none⟩),by simp[rs.upd],HJ.out.1.pure _ (λz hz=>Option.some.inj hz) (show(5:Nat)≠1 by decide) (show(10:Nat)≠1 by decide) (show(4:Nat)≠1 by decide) (show(9:Nat)≠1 by decide),ra.zao HJ.out.2 (by omega) (by omega)⟩
     | 2,ho =>
       cases ho;have d1:D 1:=hall {on:=1,ground:=.data} (by simp) rfl;have h1:f 1=.pointer (some ⟨G,0,none⟩):=hJ.1.1 1 d1 _ rfl;have c0:=hJ.1.2.1.2.c0;have HJ:=hD hJ;clear hJ hall hcl hni;refine wpOp_step rfl (λK' hK=>?_);simp only[h1]
       go_wp2_with fail
       exact⟨.string ky,by simp[rs.upd,h1],HJ.out.1.pure _ (λz hz=>Option.some.inj hz) (show(5:Nat)≠2 by decide) (show(10:Nat)≠2 by decide) (show(4:Nat)≠2 by decide) (show(9:Nat)≠2 by decide),ra.zao HJ.out.2 (by omega) (by omega)⟩
     | 3,ho =>
       cases ho;have d2:D 2:=hall {on:=2,ground:=.data} (by simp) rfl;have h2:f 2=.string ky:=hJ.1.1 2 d2 _ rfl;have HJ:=hD hJ;clear hJ hall hcl hni;refine wpOp_step rfl (λK' hK=>?_);simp only[h2];go_simp;exact hK _ _ ⟨.int .i64 (ky.size:Nat),by simp[rs.upd,h2],HJ.out.1.pure _ (λz hz=>Option.some.inj hz) (show(5:Nat)≠3 by decide) (show(10:Nat)≠3 by decide) (show(4:Nat)≠3 by decide) (show(9:Nat)≠3 by decide),ra.zao HJ.out.2 (by omega) (by omega)⟩
     | 4,ho =>
       cases ho;have d3:D 3:=hall {on:=3,ground:=.data} (by simp) rfl;have h3:f 3=.int .i64 (ky.size:Nat):=hJ.1.1 3 d3 _ rfl;have HJ:=hD hJ;clear hJ hall hcl hni;refine wpOp_step rfl (λK' hK=>?_);simp only[h3]
       go_wp2_with (go_at_call 77;refine(lg.zcE ky.size 2 _ (by omega) (by omega)).mono ?_;rintro e w' ⟨⟨vv,rfl,hov⟩,hb⟩)
       exact⟨vv,by simp[rs.upd,h3],HJ.out.1.call1 _ (q7_good HFAR.out) hb (ra.src_of hov (show 2=(be 2 (ky.size)).length by rw[be_len]) (bz_cells _ _) (show 0<(be 2 (ky.size)).length by rw[be_len];omega)) rfl,ra.zao HJ.out.2 (by omega) (by omega)⟩
     | 5,ho =>
       cases ho;have d0:D 0:=hall {on:=0,ground:=.data} (by simp) rfl;have h0:f 0=.slice sa sn sc:=hJ.1.1 0 d0 _ rfl;have d4:D 4:=hall {on:=4,ground:=.data} (by simp) rfl;have n10:¬D 10:=λh=>hni (hcl 10 _ h rfl {on:=5,ground:=.data} (by simp) rfl)
       have hnz:¬D 11:=λh=>n10 (hcl 11 _ h rfl {on:=10,ground:=.data} (by simp) rfl)
       have HJ:=hD hJ;refine wpOp_step rfl (λK' hK=>?_);rw[if_pos (by rfl)];exact ra.app1_src (.tmp 44) (.tmp 48) rfl hJ.1 (q7_good HFAR.out) hni n10 d4 (show f 0=_ from h0) rfl rfl HB7.out (by show l0.length+(be 2 ky.size).length≤_;rw[be_len];omega) (λv' w' hj=>hK _ _ ⟨v',rfl,hj,ra.zao HJ.out.2 (by omega) (by omega)⟩)
     | 6,ho =>
       cases ho;have HJ:=hD hJ;clear hJ hall hcl hni;refine wpOp_step rfl (λK' hK=>?_);go_simp;exact hK _ _ ⟨.pointer (some ⟨G,0+1,none⟩),by simp[rs.upd],HJ.out.1.pure _ (λz hz=>Option.some.inj hz) (show(5:Nat)≠6 by decide) (show(10:Nat)≠6 by decide) (show(4:Nat)≠6 by decide) (show(9:Nat)≠6 by decide),ra.zao HJ.out.2 (by omega) (by omega)⟩
     | 7,ho =>
       cases ho;have d6:D 6:=hall {on:=6,ground:=.data} (by simp) rfl;have h6:f 6=.pointer (some ⟨G,0+1,none⟩):=hJ.1.1 6 d6 _ rfl;have c1:=hJ.1.2.1.2.c1;have HJ:=hD hJ;clear hJ hall hcl hni;refine wpOp_step rfl (λK' hK=>?_);simp only[h6]
       go_wp2_with fail
       exact⟨.string tx,by simp[rs.upd,h6],HJ.out.1.pure _ (λz hz=>Option.some.inj hz) (show(5:Nat)≠7 by decide) (show(10:Nat)≠7 by decide) (show(4:Nat)≠7 by decide) (show(9:Nat)≠7 by decide),ra.zao HJ.out.2 (by omega) (by omega)⟩
     | 8,ho =>
       cases ho;have d7:D 7:=hall {on:=7,ground:=.data} (by simp) rfl;have h7:f 7=.string tx:=hJ.1.1 7 d7 _ rfl;have HJ:=hD hJ;clear hJ hall hcl hni;refine wpOp_step rfl (λK' hK=>?_);simp only[h7];go_simp;exact hK _ _ ⟨.int .i64 (tx.size:Nat),by simp[rs.upd,h7],HJ.out.1.pure _ (λz hz=>Option.some.inj hz) (show(5:Nat)≠8 by decide) (show(10:Nat)≠8 by decide) (show(4:Nat)≠8 by decide) (show(9:Nat)≠8 by decide),ra.zao HJ.out.2 (by omega) (by omega)⟩
     | 9,ho =>
       cases ho;have d8:D 8:=hall {on:=8,ground:=.data} (by simp) rfl;have h8:f 8=.int .i64 (tx.size:Nat):=hJ.1.1 8 d8 _ rfl;have HJ:=hD hJ;clear hJ hall hcl hni;refine wpOp_step rfl (λK' hK=>?_);simp only[h8]
       go_wp2_with (go_at_call 77;refine(lg.zcE tx.size 2 _ (by omega) (by omega)).mono ?_;rintro e w' ⟨⟨vv,rfl,hov⟩,hb⟩)
       exact⟨vv,by simp[rs.upd,h8],HJ.out.1.call2 _ (q7_good HFAR.out) hb (ra.src_of hov (show 2=(be 2 (tx.size)).length by rw[be_len]) (bz_cells _ _) (show 0<(be 2 (tx.size)).length by rw[be_len];omega)) rfl,ra.zao HJ.out.2 (by omega) (by omega)⟩
     | 10,ho =>
       cases ho;have d5:D 5:=hall {on:=5,ground:=.data} (by simp) rfl;have d9:D 9:=hall {on:=9,ground:=.data} (by simp) rfl;have hnz:¬D 11:=λh=>hni (hcl 11 _ h rfl {on:=10,ground:=.data} (by simp) rfl)
       have HJ:=hD hJ;refine wpOp_step rfl (λK' hK=>?_);rw[if_pos (by rfl)];exact ra.app2_src (.tmp 49) (.tmp 53) rfl hJ.1 (q7_good HFAR.out) d5 hni d9 rfl rfl rfl HB7.out (by show l0.length+(be 2 ky.size).length+(be 2 tx.size).length≤_;rw[be_len,be_len];omega) (λv' w' hj=>hK _ _ ⟨v',rfl,hj,ra.zcT HJ.out.2 hnz (by omega)⟩)
     | 11,ho =>
       cases ho;have d10:D 10:=hall {on:=10,ground:=.data} (by simp) rfl;have HJ:=hD hJ;clear hJ hall hcl hni;refine wpOp_step rfl (λK' hK=>?_);go_simp;exact hK _ _ ⟨f 10,by simp[rs.upd],HJ.out.1.pure _ (λz hz=>by cases hz) (show(5:Nat)≠11 by decide) (show(10:Nat)≠11 by decide) (show(4:Nat)≠11 by decide) (show(9:Nat)≠11 by decide),ra.zcU (by omega)⟩
     | k+12,ho=>simp at ho
    ·intro D2 F2 X2 hD2 hJ2;have h11:F2 11=F2 10:=hJ2.2.1 (hD2 11 (by decide));have O8:ra.Own X2 W1.heap.size (F2 10) (l0++be 2 ky.size++be 2 tx.size):=hJ2.1.2.2.2.2.2.1 (hD2 10 (by decide));have K8:K0 W1 X2∧IVar X2 G ky tx:=hJ2.1.2.1;rw[h11];clear hJ2 hD2 O7 K7 HB7 HFAR h11 HV7;generalize F2 10=v10 at O8 ⊢;have hll2:(l0++be 2 ky.size++be 2 tx.size).length≤90004:=by simp[be_len];omega
     generalize hl1:l0++be 2 ky.size++be 2 tx.size=l1 at O8 hll2;have HL1':Hid (l0++be 2 ky.size++be 2 tx.size=l1):=hl1;have HB8:=hD (Below.size K8.1);have HFAR:Hid (∀k,v10.ownBlock=some k→k<X2.heap.size):=λk hk=>(O8.lt k hk).2
     clear hl1
     go_upto_region 8 with fail
     refine rs.zaW (by kernel_rfl) (λf=>{tmps:=#[.agg #[.int .i64 k,.int .i64 (u:Nat),.int .i64 m,.int .i64 fl,.string b,.slice (some ⟨bb,off,none⟩) ps.length cap],.pointer (some ⟨w.heap.size,0,none⟩),.slice none 0 0,f 7,.int .i64 n,.pointer (some ⟨G,0,none⟩),.pointer (some ⟨w.heap.size,0,none⟩),.int .i64 k,.int .u8 ((u8 k).toNat:Int),.pointer (some ⟨w.heap.size,2,none⟩),.int .i64 m,.int .u8 ((u8 m).toNat:Int),.pointer (some ⟨w.heap.size,3,none⟩),.int .i64 fl,.int .u8 ((u8 fl).toNat:Int),.pointer (some ⟨w.heap.size,5,none⟩),.slice (some ⟨bb,off,none⟩) ps.length cap,.int .i64 ps.length,.int .u8 ((u8 (ps.length:Int)).toNat:Int),.pointer (some ⟨w.heap.size,4,none⟩),.string b,.int .i64 b.size,.int .u8 ((u8 (b.size:Int)).toNat:Int),.slice (some ⟨W1.heap.size,0,none⟩) 5 5,F 0,F 1,F 2,F 3,F 4,F 5,F 6,v7,.int .i64 n,.pointer (some ⟨w.heap.size,5,none⟩),.slice (some ⟨bb,off,none⟩) ps.length cap,.int .i64 ps.length,.bool true,u37,u38,.pointer (some ⟨w.heap.size,5,none⟩),.slice (some ⟨bb,off,none⟩) ps.length cap,.int .i64 n,.pointer (some ⟨bb,off+n*2,none⟩),.agg #[.string ky,.string tx],F2 0,F2 1,F2 2,F2 3,F2 4,F2 5,F2 6,F2 7,F2 8,F2 9,v10,f 0,f 1,f 2,f 3,f 4,f 5,f 6,undef],defers:=[]}) (λD f x=>ra.J2 (q8 W1 X2.heap.size G v10 l1 ky tx) D f x∧ra.Tie 7 6 (v10) D f) (λk=>if k=7 then v10 else([u55,u56,u57,u58,u59,u60,u61]:List Value).getD k undef) rfl ⟨⟨λj hj=>hj.elim,⟨K0.below K8.1 bR.drew,K8.2⟩,Nat.le_refl _,λ_=>ow.own_below O8 bR.drew,λd=>d.elim,λd=>d.elim,λd=>d.elim,λd=>d.elim⟩,λd=>d.elim,λ_=>rfl⟩ (rs.zaK (by kernel_rfl)) ?_ ?_
     ·intro i o ho D f x hJ hall hni hcl
      match i,ho with
      | 0,ho =>
        cases ho;have nz:¬D 7:=λh=>hni (hcl 3 _ (hcl 6 _ (hcl 7 _ h rfl {on:=6,ground:=.data} (by simp) rfl) rfl {on:=3,ground:=.data} (by simp) rfl) rfl {on:=0,ground:=.data} (by simp) rfl)
        have h7:f 7=v10:=hJ.2.2 nz;have HJ:=hD hJ;clear hJ hall hcl hni nz;refine wpOp_step rfl (λK' hK=>?_);simp only[h7];go_simp;exact hK _ _ ⟨v10,by simp[rs.upd,h7],HJ.out.1.pure _ (λz hz=>Option.some.inj hz) (show(3:Nat)≠0 by decide) (show(6:Nat)≠0 by decide) (show(99:Nat)≠0 by decide) (show(98:Nat)≠0 by decide),ra.zao HJ.out.2 (by omega) (by omega)⟩
      | 1,ho =>
        cases ho;have HJ:=hD hJ;clear hJ hall hcl hni;refine wpOp_step rfl (λK' hK=>?_);go_simp;exact hK _ _ ⟨.pointer (some ⟨G,0,none⟩),by simp[rs.upd],HJ.out.1.pure _ (λz hz=>Option.some.inj hz) (show(3:Nat)≠1 by decide) (show(6:Nat)≠1 by decide) (show(99:Nat)≠1 by decide) (show(98:Nat)≠1 by decide),ra.zao HJ.out.2 (by omega) (by omega)⟩
      | 2,ho =>
        cases ho;have d1:D 1:=hall {on:=1,ground:=.data} (by simp) rfl;have h1:f 1=.pointer (some ⟨G,0,none⟩):=hJ.1.1 1 d1 _ rfl;have c0:=hJ.1.2.1.2.c0;have HJ:=hD hJ;clear hJ hall hcl hni;refine wpOp_step rfl (λK' hK=>?_);simp only[h1]
        go_wp2_with fail
        exact⟨.string ky,by simp[rs.upd,h1],HJ.out.1.pure _ (λz hz=>Option.some.inj hz) (show(3:Nat)≠2 by decide) (show(6:Nat)≠2 by decide) (show(99:Nat)≠2 by decide) (show(98:Nat)≠2 by decide),ra.zao HJ.out.2 (by omega) (by omega)⟩
      | 3,ho =>
        cases ho;have d0:D 0:=hall {on:=0,ground:=.data} (by simp) rfl;have h0:f 0=v10:=hJ.1.1 0 d0 _ rfl;have d2:D 2:=hall {on:=2,ground:=.data} (by simp) rfl;have h2:f 2=.string ky:=hJ.1.1 2 d2 _ rfl;have n6:¬D 6:=λh=>hni (hcl 6 _ h rfl {on:=3,ground:=.data} (by simp) rfl)
        have hnz:¬D 7:=λh=>n6 (hcl 7 _ h rfl {on:=6,ground:=.data} (by simp) rfl)
        have HJ:=hD hJ;refine wpOp_step rfl (λK' hK=>?_);rw[if_pos (by rfl)];exact ra.app1_str (.tmp 55) (.tmp 57) ky rfl hJ.1 (q8_good HFAR.out) hni n6 (show f 0=_ from h0) (show f 2=_ from h2) rfl rfl HB8.out (by show l1.length+ky.size≤_;omega) (λv' w' hj=>hK _ _ ⟨v',rfl,hj,ra.zao HJ.out.2 (by omega) (by omega)⟩)
      | 4,ho =>
        cases ho;have HJ:=hD hJ;clear hJ hall hcl hni;refine wpOp_step rfl (λK' hK=>?_);go_simp;exact hK _ _ ⟨.pointer (some ⟨G,0+1,none⟩),by simp[rs.upd],HJ.out.1.pure _ (λz hz=>Option.some.inj hz) (show(3:Nat)≠4 by decide) (show(6:Nat)≠4 by decide) (show(99:Nat)≠4 by decide) (show(98:Nat)≠4 by decide),ra.zao HJ.out.2 (by omega) (by omega)⟩
      | 5,ho =>
        cases ho;have d4:D 4:=hall {on:=4,ground:=.data} (by simp) rfl;have h4:f 4=.pointer (some ⟨G,0+1,none⟩):=hJ.1.1 4 d4 _ rfl;have c1:=hJ.1.2.1.2.c1;have HJ:=hD hJ;clear hJ hall hcl hni;refine wpOp_step rfl (λK' hK=>?_);simp only[h4]
        go_wp2_with fail
        exact⟨.string tx,by simp[rs.upd,h4],HJ.out.1.pure _ (λz hz=>Option.some.inj hz) (show(3:Nat)≠5 by decide) (show(6:Nat)≠5 by decide) (show(99:Nat)≠5 by decide) (show(98:Nat)≠5 by decide),ra.zao HJ.out.2 (by omega) (by omega)⟩
      | 6,ho =>
        cases ho;have d5:D 5:=hall {on:=5,ground:=.data} (by simp) rfl;have h5:f 5=.string tx:=hJ.1.1 5 d5 _ rfl;have d3:D 3:=hall {on:=3,ground:=.data} (by simp) rfl;have hnz:¬D 7:=λh=>hni (hcl 7 _ h rfl {on:=6,ground:=.data} (by simp) rfl)
        have HJ:=hD hJ;refine wpOp_step rfl (λK' hK=>?_);rw[if_pos (by rfl)];exact ra.app2_str (.tmp 58) (.tmp 60) tx rfl hJ.1 (q8_good HFAR.out) d3 hni rfl (show f 5=_ from h5) rfl rfl HB8.out (by show l1.length+ky.size+tx.size≤_;omega) (λv' w' hj=>hK _ _ ⟨v',rfl,hj,ra.zcT HJ.out.2 hnz (by omega)⟩)
      | 7,ho =>
        cases ho;have d6:D 6:=hall {on:=6,ground:=.data} (by simp) rfl;have HJ:=hD hJ;clear hJ hall hcl hni;refine wpOp_step rfl (λK' hK=>?_);go_simp;exact hK _ _ ⟨f 6,by simp[rs.upd],HJ.out.1.pure _ (λz hz=>by cases hz) (show(3:Nat)≠7 by decide) (show(6:Nat)≠7 by decide) (show(99:Nat)≠7 by decide) (show(98:Nat)≠7 by decide),ra.zcU (by omega)⟩
      | k+8,ho=>simp at ho
     ·intro D3 F3 X3 hD3 hJ3;have h7:F3 7=F3 6:=hJ3.2.1 (hD3 7 (by decide));have O9:ra.Own X3 W1.heap.size (F3 6) (l1++ky.data.toList++tx.data.toList):=hJ3.1.2.2.2.2.2.1 (hD3 6 (by decide));have K9:K0 W1 X3:=hJ3.1.2.1.1;rw[h7];have HE:Hid (ra.Own X3 W1.heap.size (F3 6) (pre++itsB ps (n+1))∧K0 W1 X3):=by
       refine⟨?_,K9⟩;rw[HSTEP.out,←List.append_assoc,HL0.out];unfold itB;simp only;rw[←HL1'.out] at O9;simp only[List.append_assoc] at O9 ⊢;exact O9
      clear hJ3 hD3 O8 K8 HB8 HFAR h7 O9 K9;go_wp2
      go_roundw
      case rel=>exact⟨n+1,_,by omega,rfl,by go_num,HE.out.1,HE.out.2⟩
      case measure=>simp[intOf];omega
   ·have hnn:n=ps.length:=by omega
    have HE:Hid (ra.Own wr w.heap.size (.slice sa sn sc) R∧Below w.heap.size w wr):=by
     refine⟨?_,HL1.out.2.1.trans (Below.mono HK.out (by have:=HL1.out.2.2.2;omega))⟩;rw[HM.out,←hnn];have ho:=HOW.out;exact⟨ho.1,ho.2.imp id λ⟨g,cap,cur,he,hb',r⟩=>⟨g,cap,cur,he,Nat.le_trans HL1.out.2.2.2 hb',r⟩⟩
    have hlt':(ps.length:Int)≤(n:Int):=by omega
    clear hnn;go_wp2;go_ret;exact⟨⟨_,rfl,HE.out.1⟩,HE.out.2⟩
end mb
end Go.Proofs.YtmnflpmfngjllaaGreatDoor
