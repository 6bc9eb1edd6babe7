/-
  FnReplayCardSaid
-/
import Derived.Test.YtmnflpmfngjllaaGreatDoorPkar
set_option maxHeartbeats 16000000
set_option maxRecDepth 100000
set_option linter.unusedVariables false
namespace Go.Proofs.YtmnflpmfngjllaaGreatDoor
namespace sa
open Go.ChangeShapes Go.WideShapes Go.ChangeAt Go.RowKit Go.Deep Go.Joins
open st gr bx mx bl wi
theorem and8(n:Nat)(h:n<32):(bits .and .i64 (n:Int) 8 == 0)=!(bits .and .i64 (n:Int) 8 == 8):=by
 have:∀k:Fin 32,(bits .and .i64 (k.val:Int) 8 == 0)=!(bits .and .i64 (k.val:Int) 8 == 8):=by decide
 exact this ⟨n,h⟩
theorem del_zero{f u:Int}{t:ByteArray}(h0:0≤f)(h1:f≤31):(bits .and .i64 f 8 == 0)=!del ⟨u,f,t⟩:=by
 obtain⟨n,rfl⟩:=Int.eq_ofNat_of_zero_le h0;exact and8 n (by omega)
theorem give_mails{x:World}{base B g c:Nat}{xs:List Bx}{us:Nat→Value×Value}{k:Nat}{b:Bx}{v:Value}{ms:List St}{w0:World}(h:OwnL w0 base (.slice (some ⟨g,0,none⟩) xs.length c) xs us)(hk:k<xs.length)(hb:xs.getD k noB=b)(hx:Below w0.heap.size w0 x)(hbs:base≤w0.heap.size)(hm:OwnM x w0.heap.size v ms) :
  OwnL (x.setCell ⟨g,k*5+3,none⟩ v) base (.slice (some ⟨g,0,none⟩) xs.length c) (xs.set k ⟨b.nm,b.vd,b.nx,ms,b.ks⟩) (upd us k (v,(us k).2))∧Below base w0 (x.setCell ⟨g,k*5+3,none⟩ v):=by
 subst hb;have hg2:Gr2 w0 x (us k).1.ownBlock (us k).2.ownBlock:=zcr hx _ _;obtain⟨om,ok⟩:=h.2.1 k hk;have ok2:=ow.own_below ok hx;have hL2:=zbT h hk hg2;have hgb:base≤g:=(hL2.lt g rfl).1;have hm2:OwnM x base v ms:=⟨hm.1,by
  rcases hm.2 with e|⟨g',cap,cur,e,hB,rest⟩
  ·exact .inl e
  ·exact .inr ⟨g',cap,cur,e,Nat.le_trans hbs hB,rest⟩⟩
 refine⟨zcu h hk hg2 hm2 ok2 (.inr λq hq=>(hm.lt q hq).1) (.inl rfl) ?_ (mk.zam _ _ _ _),(hx.mono hbs).setCell (p:=⟨g,_,none⟩) hgb _⟩;have hst:=((show x.ownsRow base 65 5 (.slice (some ⟨g,0,none⟩) xs.length c) xs.length (zai xs us xs.length) from hL2).stored (k*5+3) v).1;unfold OwnB;rw[show(xs.set k ⟨(xs.getD k noB).nm,(xs.getD k noB).vd,(xs.getD k noB).nx,ms,(xs.getD k noB).ks⟩).length=xs.length by simp,←bset (us:=us) hk ⟨(xs.getD k noB).nm,(xs.getD k noB).vd,(xs.getD k noB).nx,ms,(xs.getD k noB).ks⟩ (v,(us k).2) rfl rfl];obtain⟨i0,i1,i2,i3,i4⟩:=za1 xs us xs.length k hk;simp only;rw[zbn i2];have i4':((zai xs us xs.length).set (k*5+3) v)[k*5+4]?=some (us k).2:=by rw[List.getElem?_set_ne (by omega)];exact i4
 rw[zbn i4'];exact hst
theorem apply_gone(v:Value)(xs:List Bx)(vs:Nat→Value×Value)(m:mu.Mu)(iv:Value)(w:World)(h:zaa w v xs vs)(hf:zal xs vs)(hs:bx.zac xs)(hiv:∃a n c,iv=.slice a n c)(hmb:m.b.size≤1048576)(k:Nat)(hk:k<xs.length)(b:Bx)(hbb:xs.getD k noB=b)(hp:Plc xs m.b (k:Int))(hlm:b.ms.length≤30)(hfl:∀j,j<b.ms.length→0≤(b.ms.getD j noS).f∧(b.ms.getD j noS).f≤31)(hmk:m.k=4) :
  Calls Tryz.prog 39 #[v,mu.MV m iv] w λe w'=>Ar xs k (λy' c=>c=0∧y'=⟨b.nm,b.vd,b.nx,kept b.ms,b.ks⟩) e w'∧Below w.heap.size w w':=by
 have HA:=hD h;have HBB:=hD hbb;clear hbb;have HF:=hD hf;obtain⟨ia,inn,ic,rfl⟩:=hiv;obtain⟨⟨a,cap,rfl,hd2⟩,hd3⟩:=h;clear hd2 hd3;obtain⟨W,hW⟩:∃W,W=w.alloc (.cells #[.int .i64 4,.int .i64 m.u,.int .i64 m.m,.int .i64 m.f,.string m.b,.slice ia inn ic] 35):=⟨_,rfl⟩
 have b1:Below w.heap.size w W:=by rw[hW];exact bx.new_below w _ _
 have k1:mu.Lies W w.heap.size 35 m (.slice ia inn ic):=by rw[hW,←hmk];exact mu.zan _ _ _ _
 have HAW:=hD (zap HA.out b1);have HFI:=hD (zb3 W.heap.size _ xs vs m.b W HAW.out.1 hs.1 hp);have HOW:=hD (zcR _ xs vs W HAW.out HF.out hs);have HKP:Hid (∀X,Below W.heap.size W X→mu.Lies X w.heap.size 35 m (.slice ia inn ic)∧zaa X (.slice a xs.length cap) xs vs∧Below w.heap.size w X):=λX hX=>by
  have hb:=b1.trans (hX.mono b1.size);exact⟨k1.keep hX,zap HA.out hb,hb⟩
 have d0:W.cell? ⟨w.heap.size,0,none⟩=some (.int .i64 4):=by rw[←hmk];exact k1.c0
 have d4:=k1.c4;have hxl:=hs.1;have HWW:=hD b1.size;unfold mu.MV;rw[hmk];clear b1 k1 hs HA HAW hp;have hk0:¬(k:Int)<0:=by omega
 go_enter Tryz.func39,Tryz.ntmps39
 go_wp2_with (rw[←hW])
 clear hW;refine HFI.out.mono ?_;rintro e w' ⟨rfl,hw'⟩;have hw':=hw'.symm;subst hw';clear HFI
 go_wp2_with fail
 refine HOW.out.mono ?_;rintro e w2 ⟨⟨L,us0,rfl,hO⟩,hb2⟩;clear HOW d0 d4;obtain⟨g,c,rfl⟩:∃g c,L=.slice (some ⟨g,0,none⟩) xs.length c:=by
  rcases hO.1.2 with⟨_,h0⟩|⟨g,cap,cur,rfl,_⟩
  ·omega
  ·exact⟨g,cap,rfl⟩
 obtain⟨hM,hBX,hBW⟩:=HKP.out w2 hb2;have HBX:Hid (zaa w2 (.slice a xs.length cap) xs vs∧Below w.heap.size w w2):=⟨hBX,hBW⟩
 have hat:=at5 hO hk;have hrows:=hO.2.1 k hk;rw[HBB.out] at hat hrows;obtain⟨t0,t1,t2,t3,t4,tf⟩:=hat;obtain⟨om,ok⟩:=hrows;obtain⟨⟨va,vn,vc,hv1⟩,⟨ua,un,uc,hu1⟩⟩:=(⟨zak (zaj om),zak (zaj ok)⟩:(∃a n c,(us0 k).1=Value.slice a n c)∧(∃a n c,(us0 k).2=Value.slice a n c))
 rw[hv1] at om t3;rw[hu1] at ok t4;obtain rfl:un=b.ks.length:=by rcases ok.2 with⟨e,h0⟩|⟨g,cap,cur,e,_⟩<;>cases e<;>omega
 obtain rfl:vn=b.ms.length:=by rcases om.2 with⟨e,h0⟩|⟨g,cap,cur,e,_⟩<;>cases e<;>omega
 have d0:w2.cell? ⟨w.heap.size,0,none⟩=some (.int .i64 4):=by rw[←hmk];exact hM.c0
 have d1:=hM.c1;have d2:=hM.c2;have d3:=hM.c3;have hkx:(k:Int)<(xs.length:Int):=by omega
 have HO:Hid (OwnL w2 W.heap.size (.slice (some ⟨g,0,none⟩) xs.length c) xs us0∧Below W.heap.size W w2):=⟨hO,hb2⟩
 have HOM:Hid (OwnM w2 W.heap.size (.slice va b.ms.length vc) b.ms∧OwnK w2 W.heap.size (.slice ua b.ks.length uc) b.ks):=⟨om,ok⟩
 have HUV:Hid ((us0 k).1=.slice va b.ms.length vc∧(us0 k).2=.slice ua b.ks.length uc):=⟨hv1,hu1⟩
 clear hO hb2 hM hv1 hu1 om ok hBX hBW;obtain⟨j0,hj0,hy0,hy1,hy2⟩:=info_parts infoS;have HO0:Hid (OwnM (w2.alloc (.cells #[] 92)) w2.heap.size (.slice (some ⟨w2.heap.size,0,none⟩) 0 0) (kept (b.ms.take 0))∧Below w2.heap.size w2 (w2.alloc (.cells #[] 92))):=⟨World.ownsRow_made w2 #[] 0 lR (Nat.zero_le _) rfl,bR.alloc lR _⟩
 go_wp2_with fail
 generalize w2.alloc _=X1 at HO0 ⊢
 go_loopw [11,12] (λv i wr=>∃(j:Nat),j≤b.ms.length∧i=.int .i64 j∧OwnM wr w2.heap.size v (kept (b.ms.take j))∧Below w2.heap.size w2 wr) (λ_ i _=>b.ms.length-(intOf i).toNat)
 case atStart=>exact⟨0,Nat.zero_le _,rfl,HO0.out⟩
 case round =>
  clear HO0;obtain⟨j,hj,rfl,hom,hbr⟩:=hrel;obtain⟨ra,rn,rc,rfl⟩:=zak (zaj hom);obtain rfl:rn=(kept (b.ms.take j)).length:=by rcases hom.2 with⟨e,h0⟩|⟨g,cap,cur,e,_⟩<;>cases e<;>omega
  have hrl:(kept (b.ms.take j)).length≤30:=Nat.le_trans (List.length_filter_le _ _) (by simp;omega);have HOM2:Hid (OwnM wr w2.heap.size (.slice ra (kept (b.ms.take j)).length rc) (kept (b.ms.take j))∧Below w2.heap.size w2 wr):=⟨hom,hbr⟩
  have kp:∀{ad:Addr} {u:Value},w2.cell? ad=some u→wr.cell? ad=some u:=λ{ad u} hh=>(hbr.cell (p:=ad) (World.block_lt_of_cell? w2 _ hh)).trans hh
  have s3:=kp t3;have sf:∀q,wr.frozen? ⟨g,q,none⟩=false:=λq=>by rw[←tf q];exact World.frozen?_of_block (hbr.block g (World.block_lt_of_cell? w2 _ t0))
  by_cases hlt:j<b.ms.length
  ·obtain⟨r,hva⟩:∃r,va=some ⟨r,0,none⟩:=by
    rcases HOM.out.1.2 with⟨e,h0⟩|⟨g,cap,cur,e,_⟩
    ·omega
    ·cases e;exact⟨_,rfl⟩
   subst hva;have hmr:=ow.own_below HOM.out.1 hbr;obtain⟨m0,m1,m2⟩:=mc_at b.ms j hlt;have c0:=(hmr.cellAt (j*3) (by omega)).trans m0;have c1:=(hmr.cellAt (j*3+1) (by omega)).trans m1;have c2:=(hmr.cellAt (j*3+2) (by omega)).trans m2;obtain⟨E,hE⟩:∃E,E=b.ms.getD j noS:=⟨_,rfl⟩
   have hff:=hfl j hlt;have HKT:=zc8 hlt;rw[←hE] at c0 c1 c2 hff HKT;have HKT:=hD HKT;have hd0:(bits .and .i64 E.f 8 == 0)=!del E:=del_zero hff.1 hff.2;have hlt':(j:Int)<(b.ms.length:Int):=by omega
   have hj0':(0:Int)≤(j:Int):=by omega
   clear hmr m0 m1 m2 hE hom hbr kp t0 t1 t2 t3 t4 tf d0 d1 d2 d3 sf;generalize hRR:kept (b.ms.take j)=R at *;cases hdd:del E
   ·rw[hdd] at hd0 HKT;have hd1:(bits .and .i64 E.f 8 == 0)=true:=hd0;have HKN:=hD (HKT.out.trans (if_neg (by simp)));clear hd0 HKT hdd;have hA:Below wr.heap.size wr (wr.alloc (.cells #[.int .i64 E.u,.int .i64 E.f,.string E.t] 92)):=bR.alloc lR _;have hrow:(wr.alloc (.cells #[.int .i64 E.u,.int .i64 E.f,.string E.t] 92)).ownsRow w2.heap.size 92 3 (.slice ra R.length rc) R.length (mc R):=ow.own_below HOM2.out.1 hA;have hszB:w2.heap.size≤(wr.alloc (.cells #[.int .i64 E.u,.int .i64 E.f,.string E.t] 92)).heap.size:=Nat.le_trans HOM2.out.2.size hA.size;have HBA:=hD (HOM2.out.2.trans (hA.mono HOM2.out.2.size));clear hA
    go_wp2_with (at_builtin;refine apk.zdz _ rfl _ _ 63 rfl w2.heap.size 92 j0 (.agg #[.int .i64 0,.int .i64 0,.string ⟨#[]⟩]) 3 32 Tryz.underlying63 hj0 hy0 hy1 hy2 rfl (by decide) _ _ _ rfl hrow ⟨wr.heap.size,0,none⟩ 1 1 (mc [E]) rfl rfl (ow.zaI wr [.int .i64 E.u,.int .i64 E.f,.string E.t] _) (mc_one _) (by unfold maxLen;omega) (by omega) hszB ?_;intro v' w4 ho4 hg4 hk4)
    have HO5:Hid (OwnM w4 w2.heap.size v' (R++[E])∧Below w2.heap.size w2 w4):=by
     refine⟨?_,HBA.out.trans ⟨hg4.os,hg4.tape,hg4.output,hg4.size,λq hq=>hg4.block q (by omega) (λe=>by have:=(hrow.lt q e.symm).1;omega)⟩⟩;unfold OwnM;rw[mc_app,List.length_append];exact ho4
    clear ho4 hg4 hk4 hrow hszB HBA HOM2 c0 c1 c2 s3;go_wp2
    go_roundw
    case rel=>exact⟨j+1,by omega,by go_num,by rw[HKN.out];exact HO5.out.1,HO5.out.2⟩
    case measure=>simp[intOf];omega
   ·rw[hdd] at hd0 HKT;have hd1:=hd0;have HKN:=hD (HKT.out.trans (if_pos rfl));clear hd0 HKT hdd;go_wp2
    go_roundw
    case rel=>exact⟨j+1,by omega,by go_num,by rw[HKN.out];exact HOM2.out.1,HOM2.out.2⟩
    case measure=>simp[intOf];omega
  ·have hjn:j=b.ms.length:=by omega
   have HKE:Hid (kept (b.ms.take j)=kept b.ms):=(show _=_ by rw[hjn,List.take_length])
   have HGM:Hid (OwnL (wr.setCell ⟨g,k*5+3,none⟩ (.slice ra (kept (b.ms.take j)).length rc)) W.heap.size (.slice (some ⟨g,0,none⟩) xs.length c) (xs.set k ⟨b.nm,b.vd,b.nx,kept b.ms,b.ks⟩) (upd us0 k (.slice ra (kept (b.ms.take j)).length rc,(us0 k).2))∧Below w.heap.size w (wr.setCell ⟨g,k*5+3,none⟩ (.slice ra (kept (b.ms.take j)).length rc))):=by
    have hh:=give_mails (v:=.slice ra (kept (b.ms.take j)).length rc) HO.out.1 hk HBB.out HOM2.out.2 HO.out.2.size (ms:=kept b.ms) (B:=0) (by rw[←HKE.out];exact HOM2.out.1);exact⟨hh.1,HBX.out.2.trans (hh.2.mono HWW.out)⟩
   have sf3:=sf (k*5+3);generalize(kept (b.ms.take j)).length=ln at *;clear HOM2 HKE hom hbr kp t0 t1 t2 t3 t4 tf d0 d1 d2 d3 sf HBX HO HOM;go_wp2;go_ret2;exact⟨⟨_,_,_,0,_,rfl,⟨rfl,rfl⟩,.inl ⟨rfl,rfl⟩,zbi HGM.out.1,(zcJ HGM.out.1).2⟩,HGM.out.2⟩
end sa
namespace sa
open Go.ChangeShapes Go.WideShapes Go.ChangeAt Go.RowKit Go.Deep Go.Joins
open st gr bx mx bl wi
def nB(s:ByteArray)(xs:List Bx):Bx:=⟨s,(xs.length:Int)+1,1,[],[]⟩
def F7(base:Nat)(L0:Value)(S:Nat)(s:ByteArray)(xs:List Bx):Nat→Value→World→Prop
 | 0,v,_=>v=L0
 | 1,v,x=>∃us,OwnL x base v xs us
 | 2,v,_=>v=.pointer (some ⟨S,0+4,none⟩)
 | 3,v,_=>v=.string s
 | 4,v,_=>v=L0
 | 5,v,_=>v=.int .i64 (xs.length:Int)
 | 6,v,_=>v=.int .i64 ((xs.length:Int)+1)
 | 7,v,_=>∃ad,v=.slice (some ad) 0 0
 | 8,v,_=>∃ad,v=.slice (some ad) 0 0
 | 9,v,_=>∃a7 a8,v=.agg #[.string s,.int .i64 ((xs.length:Int)+1),.int .i64 1,.slice (some a7) 0 0,.slice (some a8) 0 0]
 | 10,v,x=>∃a7 a8 gq,v=.slice (some ⟨gq,0,none⟩) 1 1∧∀j u,[Value.string s,.int .i64 ((xs.length:Int)+1),.int .i64 1,.slice (some a7) 0 0,.slice (some a8) 0 0][j]?=some u→x.cell? ((⟨gq,0,none⟩:Addr).add j)=some u
 | 11,v,x=>∃us,zaa x v (xs++[nB s xs]) us∧zal (xs++[nB s xs]) us
 | 12,v,x=>∃us,zaa x v (xs++[nB s xs]) us∧zal (xs++[nB s xs]) us
 | 13,v,_=>v=.int .i64 0
 | _,_,_=>True
theorem F7.keep{base:Nat}{L0:Value}{S:Nat}{s:ByteArray}{xs:List Bx}{x x':World}(hb:Below x.heap.size x x'):∀(j:Nat) (v:Value),F7 base L0 S s xs j v x→F7 base L0 S s xs j v x'
 | 0,v,h=>h
 | 1,v,⟨us,h⟩=>⟨us,zaC h hb⟩
 | 2,v,h=>h
 | 3,v,h=>h
 | 4,v,h=>h
 | 5,v,h=>h
 | 6,v,h=>h
 | 7,v,h=>h
 | 8,v,h=>h
 | 9,v,h=>h
 | 10,v,⟨a7,a8,gq,e,h⟩=>⟨a7,a8,gq,e,λj u hu=>(hb.cell (World.block_lt_of_cell? x _ (h j u hu))).trans (h j u hu)⟩
 | 11,v,⟨us,h,hf⟩=>⟨us,zap h hb,hf⟩
 | 12,v,⟨us,h,hf⟩=>⟨us,zap h hb,hf⟩
 | 13,v,h=>h
 | n+14,v,h=>trivial
def J7(base:Nat)(W:World)(F:Nat→Value→World→Prop)(D:Nat→Prop)(f:Nat→Value)(x:World):Prop:=Below base W x∧∀j,D j→(j=1∨j=10→¬D 11)→F j (f j) x
theorem J7.step{base:Nat}{W:World}{F:Nat→Value→World→Prop}{D:Nat→Prop}{f:Nat→Value}{x x':World}{i:Nat}(h:J7 base W F D f x)(y:Value)(hb:Below base W x')(hk:∀j v,D j→j≠i→(j=1∨j=10→i≠11)→F j v x→F j v x')(hi:F i y x'):J7 base W F (λj=>j=i∨D j) (rs.upd f i y) x':=by
 refine⟨hb,λj hj hc=>?_⟩;by_cases e:j=i
 ·subst e;rw[rs.upd_same];exact hi
 ·have hd:=hj.resolve_left e;rw[rs.zad f i y e];exact hk j _ hd e (λh11 e11=>hc h11 (.inl e11.symm)) (h.2 j hd (λh11 d11=>hc h11 (.inr d11)))
theorem J7.pure{base:Nat}{W:World}{F:Nat→Value→World→Prop}{D:Nat→Prop}{f:Nat→Value}{x:World}{i:Nat}(h:J7 base W F D f x)(y:Value)(hi:F i y x):J7 base W F (λj=>j=i∨D j) (rs.upd f i y) x:=h.step y h.1 (λ_ _ _ _ _ hh=>hh) hi
theorem J7.grow{base:Nat}{W:World}{L0:Value}{S:Nat}{s:ByteArray}{xs:List Bx}{D:Nat→Prop}{f:Nat→Value}{x x':World}{i:Nat}(h:J7 base W (F7 base L0 S s xs) D f x)(hW:base≤x.heap.size)(y:Value)(hb:Below x.heap.size x x')(hi:F7 base L0 S s xs i y x'):J7 base W (F7 base L0 S s xs) (λj=>j=i∨D j) (rs.upd f i y) x' :=
 h.step y (h.1.trans (hb.mono hW)) (λj v _ _ _ hh=>F7.keep hb j v hh) hi
theorem J7.app{base:Nat}{W:World}{L0:Value}{S:Nat}{s:ByteArray}{xs:List Bx}{D:Nat→Prop}{f:Nat→Value}{x x':World}(h:J7 base W (F7 base L0 S s xs) D f x)(h12:¬D 12)(h11:¬D 11)(y:Value)(hb:Below base W x')(hi:F7 base L0 S s xs 11 y x'):J7 base W (F7 base L0 S s xs) (λj=>j=11∨D j) (rs.upd f 11 y) x':=by
 refine h.step y hb (λj v hd hne hc hh=>?_) hi
 match j,hd,hne,hc,hh with
 | 0,_,_,_,hh=>exact hh
 | 1,_,_,hc,_=>exact absurd rfl (hc (.inl rfl))
 | 2,_,_,_,hh=>exact hh
 | 3,_,_,_,hh=>exact hh
 | 4,_,_,_,hh=>exact hh
 | 5,_,_,_,hh=>exact hh
 | 6,_,_,_,hh=>exact hh
 | 7,_,_,_,hh=>exact hh
 | 8,_,_,_,hh=>exact hh
 | 9,_,_,_,hh=>exact hh
 | 10,_,_,hc,_=>exact absurd rfl (hc (.inr rfl))
 | 11,_,hne,_,_=>exact absurd rfl hne
 | 12,hd,_,_,_=>exact absurd hd h12
 | 13,_,_,_,hh=>exact hh
 | n+14,_,_,_,_=>trivial
theorem new_boxes{x x':World}{base:Nat}{L v':Value}{xs:List Bx}{us:Nat→Value×Value}{s:ByteArray}{a7 a8:Addr}(hO:OwnL x base L xs us)(hown:x'.ownsRow base 65 5 v' (xs.length+1) (zai xs us xs.length++[.string s,.int .i64 ((xs.length:Int)+1),.int .i64 1,.slice (some a7) 0 0,.slice (some a8) 0 0]))(hgr:x.grownBy x' L.ownBlock) :
  ∃us',zaa x' v' (xs++[nB s xs]) us'∧zal (xs++[nB s xs]) us':=by
 have hl:(xs++[nB s xs]).length=xs.length+1:=by simp
 have hR:=ownR_row hO.2.1 hO.1 hgr (by decide) (by decide);have hB:x'.ownsRow base 65 5 v' (xs++[nB s xs]).length (zai (xs++[nB s xs]) (upd us xs.length (.slice (some a7) 0 0,.slice (some a8) 0 0)) (xs++[nB s xs]).length):=by
  rw[hl,zai,zcD,bcells_app lR,zcV (us:=upd us xs.length (.slice (some a7) 0 0,.slice (some a8) 0 0)) (vs:=us) (λj hj=>by simp only[upd,if_neg (show j≠xs.length by omega)])];simp only[upd,if_true];exact hown
 refine⟨upd us xs.length (.slice (some a7) 0 0,.slice (some a8) 0 0),⟨?_,λj hj=>?_⟩,λj hj=>?_⟩
 ·rcases hB.2 with⟨_,hz⟩|⟨g,cap,cur,rfl,_,hh,_⟩
  ·simp at hz
  ·refine⟨_,cap,rfl,.inr ⟨g,0,rfl,(Array.getElem?_eq_some_iff.1 hh).1,λj hj=>?_⟩⟩;obtain⟨h0,h1,h2,h3,h4⟩:=za1 (xs++[nB s xs]) (upd us xs.length (.slice (some a7) 0 0,.slice (some a8) 0 0)) _ j hj;refine⟨?_,?_,?_,?_,?_⟩
   ·rw[Nat.zero_add,hB.cellAt _ (by omega),h0]
   ·rw[Nat.zero_add,hB.cellAt _ (by omega),h1]
   ·rw[Nat.zero_add,hB.cellAt _ (by omega),h2]
   ·rw[Nat.zero_add,hB.cellAt _ (by omega),h3]
   ·rw[Nat.zero_add,hB.cellAt _ (by omega),h4]
 ·rw[hl] at hj;by_cases e:j=xs.length
  ·subst e;simp only[upd,if_true];rw[zcD];exact⟨⟨_,0,rfl,.inl rfl⟩,⟨_,0,rfl,.inl rfl⟩⟩
  ·simp only[upd,if_neg e];rw[getD_app (by omega)];have hr:=hR j (by omega);exact⟨ownM_in hr.1 lR,ownK_in hr.2 lR⟩
 ·rw[hl] at hj;by_cases e:j=xs.length
  ·subst e;simp only[upd,if_true];exact⟨.inr ⟨_,_,_,rfl⟩,.inr ⟨_,_,_,rfl⟩⟩
  ·simp only[upd,if_neg e];have hr:=hR j (by omega);exact⟨zaj hr.1,zaj hr.2⟩
theorem zbI{x:World}{base b2:Nat}{L:Value}{xs:List Bx}{us:Nat→Value×Value}(h:OwnL x b2 L xs us)(hb:base≤b2):OwnL x base L xs us:=by
 have key:∀{e s n:Nat} {v:Value} {l:List Value},x.ownsRow b2 e s v n l→x.ownsRow base e s v n l:=λ{e s n v l} hh=>⟨hh.1,by
  rcases hh.2 with e|⟨g',cap,cur,e,hB,rest⟩
  ·exact .inl e
  ·exact .inr ⟨g',cap,cur,e,Nat.le_trans hb hB,rest⟩⟩
 exact⟨key h.1,λj hj=>⟨key (h.2.1 j hj).1,key (h.2.1 j hj).2⟩,h.2.2⟩
theorem apply_new(v:Value)(xs:List Bx)(vs:Nat→Value×Value)(m:mu.Mu)(iv:Value)(w:World)(h:zaa w v xs vs)(hf:zal xs vs)(hs:bx.zac xs)(hiv:∃a n c,iv=.slice a n c)(hp:Plc xs m.b (-1))(hx:xs.length≠4)(hx4l:xs.length≤4)(hmk:m.k=1) :
  Calls Tryz.prog 39 #[v,mu.MV m iv] w λe w'=>Ls (λys c=>ys=xs++[⟨m.b,(xs.length:Int)+1,1,[],[]⟩]∧c=0) e w'∧Below w.heap.size w w':=by
 obtain⟨i0,hi,hz0,hz1,hz2⟩:=info_parts infoB;have HA:=hD h;have HF:=hD hf;obtain⟨ia,inn,ic,rfl⟩:=hiv;obtain⟨⟨a,cap,rfl,hd2⟩,hd3⟩:=h;clear hd2 hd3;obtain⟨W,hW⟩:∃W,W=w.alloc (.cells #[.int .i64 1,.int .i64 m.u,.int .i64 m.m,.int .i64 m.f,.string m.b,.slice ia inn ic] 35):=⟨_,rfl⟩
 have b1:Below w.heap.size w W:=by rw[hW];exact bx.new_below w _ _
 have k1:mu.Lies W w.heap.size 35 m (.slice ia inn ic):=by rw[hW,←hmk];exact mu.zan _ _ _ _
 have HAW:=hD (zap HA.out b1);have HFI:=hD (zb3 W.heap.size _ xs vs m.b W HAW.out.1 hs.1 hp);have HZ:Hid (zaa W (.slice a xs.length cap) xs vs∧Below w.heap.size w W):=⟨HAW.out,b1⟩
 have d0:W.cell? ⟨w.heap.size,0,none⟩=some (.int .i64 1):=by rw[←hmk];exact k1.c0
 have d4:=k1.c4;have hx4:((xs.length:Int) == 4)=false:=beq_eq_false_iff_ne.2 (by omega);have HOW:Hid (∀X,Below W.heap.size W X→Calls Tryz.prog 43 #[.slice a xs.length cap] X λe w'=>(∃L us,e=.returned L∧OwnL w' W.heap.size L xs us)∧Below X.heap.size X w'):=λX hX=>(zcR _ xs vs X (zap HAW.out hX) HF.out hs).mono (by rintro e w' ⟨⟨L,us,e1,h1⟩,h2⟩;exact⟨⟨L,us,e1,zbI h1 hX.size⟩,h2⟩)
 unfold mu.MV;rw[hmk];clear b1 k1 hs HA HAW hp hmk hx;go_enter Tryz.func39,Tryz.ntmps39
 go_wp2_with (rw[←hW])
 clear hW;refine HFI.out.mono ?_;rintro e w' ⟨rfl,hw'⟩;have hw':=hw'.symm;subst hw';clear HFI
 go_upto_region 7 with fail
 rename_i K2 hK2;refine rs.zaW (by kernel_rfl) (λf=>{tmps:=List.toArray ((.slice a xs.length cap:Value)::.agg #[.int .i64 1,.int .i64 m.u,.int .i64 m.m,.int .i64 m.f,.string m.b,.slice ia inn ic]::undef::.pointer (some ⟨w.heap.size,0,none⟩)::f 12::f 13::.int .i64 (-1)::undef::undef::undef::undef::undef::undef::.slice a xs.length cap::.pointer (some ⟨w.heap.size,4,none⟩)::.string m.b::.int .i64 (-1)::.pointer (some ⟨w.heap.size,0,none⟩)::.int .i64 1::.bool true::.bool false::.int .i64 (-1)::.bool false::undef::.bool false::.slice a xs.length cap::.int .i64 (xs.length:Int)::.bool false::undef::f 0::f 1::f 2::f 3::f 4::f 5::f 6::f 7::f 8::f 9::f 10::f 11::undef::undef::undef::undef::undef::undef::undef::undef::undef::undef::undef::undef::undef::undef::undef::undef::undef::undef::undef::undef::undef::undef::undef::undef::undef::undef::undef::undef::undef::undef::undef::undef::undef::undef::undef::undef::undef::undef::undef::undef::undef::undef::undef::undef::undef::undef::undef::undef::undef::undef::undef::undef::undef::undef::undef::undef::undef::undef::undef::undef::undef::undef::undef::undef::undef::undef::undef::undef::undef::undef::undef::undef::undef::undef::undef::undef::undef::undef::undef::undef::undef::undef::undef::undef::undef::undef::undef::undef::undef::undef::undef::undef::undef::undef::undef::undef::undef::undef::undef::undef::undef::undef::undef::undef::undef::undef::undef::undef::undef::undef::undef::undef::undef::undef::undef::undef::undef::undef::undef::undef::undef::undef::undef::undef::undef::undef::undef::undef::undef::undef::undef::undef::undef::undef::undef::undef::undef::undef::undef::undef::undef::undef::undef::undef::undef::undef::undef::undef::undef::undef::undef::undef::undef::undef::undef::undef::[]),defers:=[]}) (J7 W.heap.size W (F7 W.heap.size (.slice a xs.length cap) w.heap.size m.b xs)) (λj=>match j with|12=>.slice none 0 0|13=>.int .i64 0|_=>undef) rfl ⟨bR.drew,λj hj=>hj.elim⟩ (rs.zaK (by kernel_rfl)) ?_ ?_
 ·intro i o ho D f x hJ hall hni hcl
  match i,ho with
  | 0,ho =>
   cases ho;have HJ:=hD hJ;clear hJ hall hcl;refine wpOp_step rfl (λK' hK=>?_);go_simp;exact hK _ _ ⟨.slice a xs.length cap,by simp[rs.upd],HJ.out.pure _ rfl⟩
  | 1,ho =>
   cases ho;have d0:D 0:=hall {on:=0,ground:=.data} (by simp) rfl;have h0:f 0=.slice a xs.length cap:=hJ.2 0 d0 (by simp);have hbx:Below W.heap.size W x:=hJ.1;have HJ:=hD hJ;clear hJ hall hcl;refine wpOp_step rfl (λK' hK=>?_);simp only[h0]
   go_wp2_with (go_at_call 43;refine(HOW.out _ hbx).mono ?_;rintro e x' ⟨⟨L,us,rfl,ho⟩,hb⟩)
   exact⟨L,by simp[rs.upd,h0],HJ.out.grow HJ.out.1.size _ hb ⟨us,ho⟩⟩
  | 2,ho =>
   cases ho;have HJ:=hD hJ;clear hJ hall hcl;refine wpOp_step rfl (λK' hK=>?_);go_simp;exact hK _ _ ⟨.pointer (some ⟨w.heap.size,0+4,none⟩),by simp[rs.upd],HJ.out.pure _ rfl⟩
  | 3,ho =>
   cases ho;have d2:D 2:=hall {on:=2,ground:=.data} (by simp) rfl;have h2:f 2=.pointer (some ⟨w.heap.size,0+4,none⟩):=hJ.2 2 d2 (by simp);have cL:=(hJ.1.cell (p:=⟨w.heap.size,0+4,none⟩) (World.block_lt_of_cell? W _ d4)).trans d4;have HJ:=hD hJ;clear hJ hall hcl;refine wpOp_step rfl (λK' hK=>?_);simp only[h2]
   go_wp2_with fail
   exact⟨.string m.b,by simp[rs.upd,h2],HJ.out.pure _ rfl⟩
  | 4,ho =>
   cases ho;have HJ:=hD hJ;clear hJ hall hcl;refine wpOp_step rfl (λK' hK=>?_);go_simp;exact hK _ _ ⟨.slice a xs.length cap,by simp[rs.upd],HJ.out.pure _ rfl⟩
  | 5,ho =>
   cases ho;have d4:D 4:=hall {on:=4,ground:=.data} (by simp) rfl;have h4:f 4=.slice a xs.length cap:=hJ.2 4 d4 (by simp);have HJ:=hD hJ;clear hJ hall hcl;refine wpOp_step rfl (λK' hK=>?_);simp only[h4]
   go_wp2_with fail
   exact⟨.int .i64 (xs.length:Int),by simp[rs.upd,h4],HJ.out.pure _ rfl⟩
  | 6,ho =>
   cases ho;have d5:D 5:=hall {on:=5,ground:=.data} (by simp) rfl;have h5:f 5=.int .i64 (xs.length:Int):=hJ.2 5 d5 (by simp);have HJ:=hD hJ;clear hJ hall hcl;refine wpOp_step rfl (λK' hK=>?_);simp only[h5]
   go_wp2_with fail
   exact⟨.int .i64 ((xs.length:Int)+1),by simp[rs.upd,h5],HJ.out.pure _ rfl⟩
  | 7,ho =>
   cases ho;have HJ:=hD hJ;clear hJ hall hcl;refine wpOp_step rfl (λK' hK=>?_)
   go_wp2_with fail
   exact⟨.slice (some ⟨x.heap.size,0,none⟩) 0 0,by simp[rs.upd],HJ.out.grow HJ.out.1.size _ (bR.alloc lR _) ⟨_,rfl⟩⟩
  | 8,ho =>
   cases ho;have HJ:=hD hJ;clear hJ hall hcl;refine wpOp_step rfl (λK' hK=>?_)
   go_wp2_with fail
   exact⟨.slice (some ⟨x.heap.size,0,none⟩) 0 0,by simp[rs.upd],HJ.out.grow HJ.out.1.size _ (bR.alloc lR _) ⟨_,rfl⟩⟩
  | 9,ho =>
   cases ho;have d3:D 3:=hall {on:=3,ground:=.data} (by simp) rfl;have h3:f 3=.string m.b:=hJ.2 3 d3 (by simp);have d6:D 6:=hall {on:=6,ground:=.data} (by simp) rfl;have h6:f 6=.int .i64 ((xs.length:Int)+1):=hJ.2 6 d6 (by simp);have d7:D 7:=hall {on:=7,ground:=.data} (by simp) rfl;have d8:D 8:=hall {on:=8,ground:=.data} (by simp) rfl;obtain⟨a7,h7⟩:=hJ.2 7 d7 (by simp);obtain⟨a8,h8⟩:=hJ.2 8 d8 (by simp);have HJ:=hD hJ;clear hJ hall hcl;refine wpOp_step rfl (λK' hK=>?_);simp only[h3,h6,h7,h8]
   go_wp2_with fail
   exact⟨.agg #[.string m.b,.int .i64 ((xs.length:Int)+1),.int .i64 1,.slice (some a7) 0 0,.slice (some a8) 0 0],by simp[rs.upd,h3,h6,h7,h8],HJ.out.pure _ ⟨a7,a8,rfl⟩⟩
  | 10,ho =>
   cases ho;have d9:D 9:=hall {on:=9,ground:=.data} (by simp) rfl;obtain⟨a7,a8,h9⟩:=hJ.2 9 d9 (by simp);have HJ:=hD hJ;clear hJ hall hcl;refine wpOp_step rfl (λK' hK=>?_);simp only[h9]
   go_wp2_with fail
   exact⟨.slice (some ⟨x.heap.size,0,none⟩) 1 1,by simp[rs.upd,h9],HJ.out.grow HJ.out.1.size _ (bR.alloc lR _) ⟨a7,a8,_,rfl,ow.zaI x [.string m.b,.int .i64 ((xs.length:Int)+1),.int .i64 1,.slice (some a7) 0 0,.slice (some a8) 0 0] _⟩⟩
  | 11,ho =>
   cases ho;have d1:D 1:=hall {on:=1,ground:=.data} (by simp) rfl;have d10:D 10:=hall {on:=10,ground:=.data} (by simp) rfl;obtain⟨us,hO⟩:=hJ.2 1 d1 (λ_=>hni);obtain⟨a7,a8,gq,hq,hcq⟩:=hJ.2 10 d10 (λ_=>hni);have n12:¬D 12:=λh=>hni (hcl 12 _ h rfl {on:=11,ground:=.data} (by simp) rfl)
   have hszx:=hJ.1.size;refine wpOp_step rfl (λK' hK=>?_);rw[if_pos (by rfl)];refine apk.zcA x (.tmp 30) (.tmp 39) 25 rfl W.heap.size 65 i0 _ 5 80 Tryz.underlying25 hi hz0 hz1 hz2 rfl (by decide) (f 1) xs.length (zai xs us xs.length) rfl hO.1 ⟨gq,0,none⟩ 1 1 [.string m.b,.int .i64 ((xs.length:Int)+1),.int .i64 1,.slice (some a7) 0 0,.slice (some a8) 0 0] hq rfl hcq (by intro u hu;simp at hu;rcases hu with rfl|rfl|rfl|rfl|rfl<;>rfl) (by unfold maxLen;omega) (by omega) hszx (λv' X' hown' hgr' hkp=>hK _ _ ⟨v',by simp[rs.upd,Act.put],hJ.app n12 hni _ (hJ.1.grown hgr' hszx (λj hj=>(hO.1.lt j hj).1)) (new_boxes hO hown' hgr')⟩)
  | 12,ho =>
   cases ho;have d11:D 11:=hall {on:=11,ground:=.data} (by simp) rfl;have h11:=hJ.2 11 d11 (by simp);have HX:=hD h11;have HJ:=hD hJ;clear hJ hall hcl h11;refine wpOp_step rfl (λK' hK=>?_);go_simp;exact hK _ _ ⟨f 11,by simp[rs.upd],HJ.out.pure _ HX.out⟩
  | 13,ho =>
   cases ho;have HJ:=hD hJ;clear hJ hall hcl;refine wpOp_step rfl (λK' hK=>?_);go_simp;exact hK _ _ ⟨.int .i64 0,by simp[rs.upd],HJ.out.pure _ rfl⟩
  | k+14,ho=>simp at ho
 ·intro D f x hD hJ;obtain⟨us,hB,hFi⟩:=hJ.2 12 (hD 12 (by decide)) (by simp);have h13:f 13=.int .i64 0:=hJ.2 13 (hD 13 (by decide)) (by simp);have HQ:Hid (zaa x (f 12) (xs++[nB m.b xs]) us∧zal (xs++[nB m.b xs]) us∧Below w.heap.size w x):=⟨hB,hFi,HZ.out.2.trans (hJ.1.mono HZ.out.2.size)⟩
  obtain⟨ra,rn,rc,h12⟩:∃a n c,f 12=.slice a n c:=by
   obtain⟨⟨a,c,e,_⟩,_⟩:=hB;exact⟨_,_,_,e⟩
  rw[h12] at HQ;rw[h12,h13];clear hJ hD hB hFi h12 h13;generalize f 0=e_0;generalize f 1=e_1;generalize f 2=e_2;generalize f 3=e_3;generalize f 4=e_4;generalize f 5=e_5;generalize f 6=e_6;generalize f 7=e_7;generalize f 8=e_8;generalize f 9=e_9;generalize f 10=e_10;generalize f 11=e_11;clear f D;go_wp2;go_ret2;exact⟨⟨_,_,us,0,rfl,⟨rfl,rfl⟩,HQ.out.1,HQ.out.2.1⟩,HQ.out.2.2⟩
end sa
end Go.Proofs.YtmnflpmfngjllaaGreatDoor
