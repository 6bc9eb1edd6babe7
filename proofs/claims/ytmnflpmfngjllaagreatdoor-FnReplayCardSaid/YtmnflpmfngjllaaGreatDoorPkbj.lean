/-
  FnReplayCardSaid
-/
import Derived.Test.YtmnflpmfngjllaaGreatDoorPkbi
set_option maxHeartbeats 16000000
set_option maxRecDepth 100000
set_option linter.unusedVariables false
namespace Go.Proofs.YtmnflpmfngjllaaGreatDoor
namespace eg
open Go.RowKit Go.WideShapes
open bx bl
open lg (LV RV fr app1)
def LiesI(w:World)(b:Nat)(c:Int):Prop:=w.heap[b]?=some (.cells #[.int .i64 c] 3 (0,0))
theorem LiesI.c0{w:World}{b:Nat}{c:Int}(h:LiesI w b c):w.cell? ⟨b,0,none⟩=some (.int .i64 c):=by rw[cell_of_row w _ _ _ _ _ h];rfl
theorem LiesI.f{w:World}{b:Nat}{c:Int}(h:LiesI w b c)(j:Nat):w.frozen? ⟨b,j,none⟩=false:=frozen_of_row _ _ _ _ _ h
theorem LiesI.lt{w:World}{b:Nat}{c:Int}(h:LiesI w b c):b<w.heap.size:=World.block_lt_of_cell? w _ h.c0
theorem LiesI.keep{w w':World}{b:Nat}{c:Int}(h:LiesI w b c)(hb:Below w.heap.size w w'):LiesI w' b c:=(hb.block b h.lt).trans h
structure Fw (w x:World) (r:Int) (d:ByteArray) (s:Int) (v:Value) (M:mu.Mu) (iv:Value) (r':Int) (d':ByteArray) (s':Int) (L:Value) (c:Int):Prop where
 bel:Below w.heap.size w x
 e:zae x w.heap.size 27 r d s v
 m:LiesM x (w.heap.size+1) M iv
 n:zae x (w.heap.size+1+1) 27 r' d' s' L
 k:LiesI x (w.heap.size+1+1+1) c
section
variable {w x y:World}{r:Int}{d:ByteArray}{s:Int}{v:Value}{M:mu.Mu}{iv:Value}{r':Int}{d':ByteArray}{s':Int}{L:Value}{c:Int}
theorem Fw.keep(h:Fw w x r d s v M iv r' d' s' L c)(hb:Below x.heap.size x y):Fw w y r d s v M iv r' d' s' L c :=
 ⟨h.bel.trans (hb.mono h.bel.size),h.e.keep hb,mu.Lies.keep h.m hb,h.n.keep hb,h.k.keep hb⟩
theorem Fw.keepB{B:Nat}(h:Fw w x r d s v M iv r' d' s' L c)(hb:Below B x y)(hB:w.heap.size+1+1+1<B):Fw w y r d s v M iv r' d' s' L c :=
 ⟨h.bel.trans (hb.mono (by omega)),(hb.block _ (by omega)).trans h.e,(hb.block _ (by omega)).trans h.m,(hb.block _ (by omega)).trans h.n,(hb.block _ hB).trans h.k⟩
theorem Fw.code(h:Fw w x r d s v M iv r' d' s' L c)(c':Int):Fw w (x.setCell ⟨w.heap.size+1+1+1,0,none⟩ (.int .i64 c')) r d s v M iv r' d' s' L c' :=
 ⟨h.bel.setCell (p:=⟨w.heap.size+1+1+1,0,none⟩) (show w.heap.size≤w.heap.size+1+1+1 by omega) _,(heap_setCell_other x ⟨w.heap.size+1+1+1,0,none⟩ w.heap.size _ (by show w.heap.size≠w.heap.size+1+1+1;omega)).trans h.e,(heap_setCell_other x ⟨w.heap.size+1+1+1,0,none⟩ (w.heap.size+1) _ (by show w.heap.size+1≠w.heap.size+1+1+1;omega)).trans h.m,(heap_setCell_other x ⟨w.heap.size+1+1+1,0,none⟩ (w.heap.size+1+1) _ (by show w.heap.size+1+1≠w.heap.size+1+1+1;omega)).trans h.n,heap_setCell_same _ _ 0 _ _ _ h.k⟩
theorem Fw.other(h:Fw w x r d s v M iv r' d' s' L c)(j:Nat)(u:Value):Below w.heap.size w (x.setCell ⟨w.heap.size+1+1,j,none⟩ u)∧zae (x.setCell ⟨w.heap.size+1+1,j,none⟩ u) w.heap.size 27 r d s v∧LiesM (x.setCell ⟨w.heap.size+1+1,j,none⟩ u) (w.heap.size+1) M iv∧LiesI (x.setCell ⟨w.heap.size+1+1,j,none⟩ u) (w.heap.size+1+1+1) c :=
 ⟨h.bel.setCell (p:=⟨w.heap.size+1+1,j,none⟩) (show w.heap.size≤w.heap.size+1+1 by omega) _,(heap_setCell_other x ⟨w.heap.size+1+1,j,none⟩ w.heap.size _ (by show w.heap.size≠w.heap.size+1+1;omega)).trans h.e,(heap_setCell_other x ⟨w.heap.size+1+1,j,none⟩ (w.heap.size+1) _ (by show w.heap.size+1≠w.heap.size+1+1;omega)).trans h.m,(heap_setCell_other x ⟨w.heap.size+1+1,j,none⟩ (w.heap.size+1+1+1) _ (by show w.heap.size+1+1+1≠w.heap.size+1+1;omega)).trans h.k⟩
theorem Fw.n0(h:Fw w x r d s v M iv r' d' s' L c)(r2:Int):Fw w (x.setCell ⟨w.heap.size+1+1,0,none⟩ (.int .i64 r2)) r d s v M iv r2 d' s' L c :=
 ⟨(h.other 0 _).1,(h.other 0 _).2.1,(h.other 0 _).2.2.1,heap_setCell_same _ _ 0 _ _ _ h.n,(h.other 0 _).2.2.2⟩
theorem Fw.n1(h:Fw w x r d s v M iv r' d' s' L c)(d2:ByteArray):Fw w (x.setCell ⟨w.heap.size+1+1,1,none⟩ (.string d2)) r d s v M iv r' d2 s' L c :=
 ⟨(h.other 1 _).1,(h.other 1 _).2.1,(h.other 1 _).2.2.1,heap_setCell_same _ _ 1 _ _ _ h.n,(h.other 1 _).2.2.2⟩
theorem Fw.n2(h:Fw w x r d s v M iv r' d' s' L c)(s2:Int):Fw w (x.setCell ⟨w.heap.size+1+1,2,none⟩ (.int .i64 s2)) r d s v M iv r' d' s2 L c :=
 ⟨(h.other 2 _).1,(h.other 2 _).2.1,(h.other 2 _).2.2.1,heap_setCell_same _ _ 2 _ _ _ h.n,(h.other 2 _).2.2.2⟩
theorem Fw.n3(h:Fw w x r d s v M iv r' d' s' L c)(L2:Value):Fw w (x.setCell ⟨w.heap.size+1+1,3,none⟩ L2) r d s v M iv r' d' s' L2 c :=
 ⟨(h.other 3 _).1,(h.other 3 _).2.1,(h.other 3 _).2.2.1,heap_setCell_same _ _ 3 _ _ _ h.n,(h.other 3 _).2.2.2⟩
theorem Fw.put(h:Fw w x r d s v M iv r' d' s' L c)(r2:Int)(d2:ByteArray)(s2:Int)(L2:Value):Fw w (put4 x (w.heap.size+1+1) (.int .i64 r2) (.string d2) (.int .i64 s2) L2) r d s v M iv r2 d2 s2 L2 c:=(((h.n0 r2).n1 d2).n2 s2).n3 L2
end
theorem fw_new(w:World)(r:Int)(d:ByteArray)(s:Int)(v:Value)(M:mu.Mu)(iv:Value) :
  Fw w ((((w.alloc (.cells #[.int .i64 r,.string d,.int .i64 s,v] 27)).alloc (.cells #[.int .i64 M.k,.int .i64 M.u,.int .i64 M.m,.int .i64 M.f,.string M.b,iv] 35)).alloc (.cells #[.int .i64 0,.string ⟨#[]⟩,.int .i64 0,.slice none 0 0] 27)).alloc (.cells #[.int .i64 0] 3)) r d s v M iv 0 ⟨#[]⟩ 0 (.slice none 0 0) 0:=by
 obtain⟨k0,k1⟩:=two_lie w r d s v M iv;have k2:=zcS w r d s v M iv;refine⟨(((new_below w _ _).alloc (by simp) _).alloc (by simp;omega) _).alloc (by simp;omega) _,(k0.keep (new_below _ _ _)).keep (new_below _ _ _),mu.Lies.keep (mu.Lies.keep k1 (new_below _ _ _)) (new_below _ _ _),k2.keep (new_below _ _ _),?_⟩;have h:=zbS (((w.alloc (.cells #[.int .i64 r,.string d,.int .i64 s,v] 27)).alloc (.cells #[.int .i64 M.k,.int .i64 M.u,.int .i64 M.m,.int .i64 M.f,.string M.b,iv] 35)).alloc (.cells #[.int .i64 0,.string ⟨#[]⟩,.int .i64 0,.slice none 0 0] 27)) (.cells #[.int .i64 0] 3);rw[show(((w.alloc (.cells #[.int .i64 r,.string d,.int .i64 s,v] 27)).alloc (.cells #[.int .i64 M.k,.int .i64 M.u,.int .i64 M.m,.int .i64 M.f,.string M.b,iv] 35)).alloc (.cells #[.int .i64 0,.string ⟨#[]⟩,.int .i64 0,.slice none 0 0] 27)).heap.size=w.heap.size+1+1+1 by simp] at h;exact h
def Cl(w:World)(r:Int)(d:ByteArray)(s:Int)(v:Value)(bs:List Bx)(M:mu.Mu)(iv:Value)(r':Int)(d':ByteArray)(s':Int)(L:Value)(c:Int)(x x':World):Prop :=
 (c=0∧x'=x)∨(c≠0∧∃L2 us,Fw w x' r d s v M iv r d s L2 c∧OwnL x' (w.heap.size+1+1+1+1) L2 bs us)
theorem closure_any(w x:World)(r:Int)(d:ByteArray)(s:Int)(v:Value)(bs:List Bx)(vs:Nat→Value×Value)(M:mu.Mu)(iv:Value)(r':Int)(d':ByteArray)(s':Int)(L:Value)(c:Int)(u:FrameMode)(hF:Fw w x r d s v M iv r' d' s' L c)(hB:zaa w v bs vs)(hv:Fine v)(hf:zal bs vs)(hs:zac bs)(hd:d.size≤1048576) :
  CallsD Tryz.prog 62 #[.pointer (some ⟨w.heap.size+1+1+1,0,none⟩),.pointer (some ⟨w.heap.size,0,none⟩),.pointer (some ⟨w.heap.size+1+1,0,none⟩)] u x λe u' x'=>u'=u∧(e=.returned (.tuple #[])∧Cl w r d s v bs M iv r' d' s' L c x x'):=by
 have HA:Hid (zaa w v bs vs∧Fine v∧zal bs vs∧zac bs):=⟨hB,hv,hf,hs⟩
 have HF:=hD hF;have q:=hF.k.c0;have c0:=hF.e.c0;have c1:=hF.e.c1;have c2:=hF.e.c2;have c3:=hF.e.c3;have hl:=hF.k.lt;clear hB hv hf hs hF;by_cases h0:c=0
 ·subst h0
  go_enter_d Tryz.func62,Tryz.ntmps62
  go_wp2
  go_end0
  exact⟨rfl,.inl ⟨rfl,rfl⟩⟩
 ·have h1:((c:Int) != 0)=true:=by rw[bne_iff_ne];exact h0
  have HN:=hD h0;clear h0
  go_enter_d Tryz.func62,Tryz.ntmps62
  go_wp2_with fail
  refine(copiedE_any r d s v bs vs x (zap HA.out.1 HF.out.bel) HA.out.2.1 HA.out.2.2.1 HA.out.2.2.2 hd).mono ?_;rintro e x1 ⟨⟨L2,us,rfl,hO⟩,hb⟩;obtain⟨La,Ln,Lc,rfl⟩:=zak (zaj hO.1);have HF1:=hD (HF.out.keep hb);have HO:Hid (OwnL x1 (w.heap.size+1+1+1+1) (.slice La Ln Lc) bs us):=sa.zbI hO (by omega);unfold EV;clear hO hb q c0 c1 c2 c3;have e0:=HF1.out.n.c0;have e1:=HF1.out.n.c1;have e2:=HF1.out.n.c2;have e3:=HF1.out.n.c3;have g0:=HF1.out.n.f 0;have g1:=HF1.out.n.f 1;have g2:=HF1.out.n.f 2;have g3:=HF1.out.n.f 3;go_wp2
  go_end0
  exact⟨rfl,.inr ⟨HN.out,.slice La Ln Lc,us,HF1.out.put r d s (.slice La Ln Lc),zbj HO.out (λq hq=>zbU _ _ _ _ _ _ _ (by omega))⟩⟩
end eg
namespace eg
open Go.RowKit Go.WideShapes
open bx bl
open lg (LV RV fr app app1)
def Wx(r:Int)(d:ByteArray)(bs:List Bx)(M:mu.Mu)(zs:List Bx)(k:Int)(d':ByteArray)(ys:List Bx)(c:Int):Prop :=
 (k≠0∧d'=d∧ys=bs∧c=k)∨(k=0∧(20000<(mbt M).size∨r<(d.size:Int)+7+(mbt M).size)∧d'=d∧ys=bs∧c=7)∨(k=0∧¬(20000<(mbt M).size∨r<(d.size:Int)+7+(mbt M).size)∧d'=d++fr (mbt M)∧ys=zs∧c=0)
def Wr(r:Int)(d:ByteArray)(s:Int)(bs:List Bx)(M:mu.Mu)(base:Nat)(e:Ending)(w':World):Prop :=
 ∃(d':ByteArray) (L:Value) (ys:List Bx) (us:Nat→Value×Value) (c:Int),e=.returned (.tuple #[.agg #[.int .i64 r,.string d',.int .i64 s,L],.int .i64 c])∧(∃zs k,sa.Am bs M zs k∧Wx r d bs M zs k d' ys c)∧OwnL w' base L ys us
theorem by_low{w x:World}{N:Nat}{v:Value}{ps:List it.Pr}(h:it.zav w v ps)(hb:Below w.heap.size w x)(hN:w.heap.size≤N):wi.zbx x N v ps:=by
 obtain⟨a,cap,rfl,h⟩:=h;refine⟨a,cap,rfl,?_⟩
 rcases h with h|⟨b,off,rfl,h⟩
 ·exact .inl h
 ·by_cases hp:ps=[]
  ·exact .inl hp
  ·have hl:0<ps.length:=List.length_pos_iff.2 hp;have hbl:b<w.heap.size:=World.block_lt_of_cell? w _ (h 0 hl).1;exact .inr ⟨b,off,rfl,.inl (by omega),λj hj=>⟨(hb.cell (p:=⟨b,off+j*2,none⟩) hbl).trans (h j hj).1,(hb.cell (p:=⟨b,off+j*2+1,none⟩) hbl).trans (h j hj).2⟩⟩
theorem mbt_one(M:mu.Mu):1≤(mbt M).size:=by
 rw[mbt_size];unfold mb.mB;simp[mb.hdB]
theorem written_any(r:Int)(d:ByteArray)(s:Int)(v:Value)(bs:List Bx)(vs:Nat→Value×Value)(M:mu.Mu)(iv:Value)(w:World)(hr:lg.In r)(hd:d.size≤1048576)(hs:lg.In s)(hB:zaa w v bs vs)(hv:Fine v)(hf:zal bs vs)(hsm:zac bs)(hso:sok bs=true)(hok:lg.ok r d.size s=true)(hI:it.zav w iv M.ps)(hM:mu.Small M)(hmo:mu.mok M=true) :
  Calls Tryz.prog 35 #[EV r d s v,mu.MV M iv] w λe w'=>Wr r d s bs M (w.heap.size+1+1+1+1) e w'∧Below w.heap.size w w':=by
 have hmf:∀(fn:Fn) (first cap:Array Value) (w:World),(Instr.makeFunc fn first cap).run Tryz.prog w=.ok (.func fn first cap) w:=λ_ _ _ _=>rfl
 have F0:=fw_new w r d s v M iv;have HCP:Hid (∀x,Below w.heap.size w x→Calls Tryz.prog 61 #[EV r d s v] x λe w'=>(∃L us,e=.returned (EV r d s L)∧OwnL w' (x.heap.size+2) L bs us)∧Below x.heap.size x w'):=λx hx=>copiedE_any r d s v bs vs x (zap hB hx) hv hf hsm hd
 have HCL:Hid (∀x r' d' s' L c,Fw w x r d s v M iv r' d' s' L c→CallsD Tryz.prog 62 #[.pointer (some ⟨w.heap.size+1+1+1,0,none⟩),.pointer (some ⟨w.heap.size,0,none⟩),.pointer (some ⟨w.heap.size+1+1,0,none⟩)] .returning x λe u' x'=>u'=.returning∧(e=.returned (.tuple #[])∧Cl w r d s v bs M iv r' d' s' L c x x')):=λx r' d' s' L c hF=>closure_any w x r d s v bs vs M iv r' d' s' L c .returning hF hB hv hf hsm hd
 have HMU:Hid (∀x L us,OwnL x (w.heap.size+1+1+1+1) L bs us→w.heap.size+1+1+1+1≤x.heap.size→Below w.heap.size w x→Calls Tryz.prog 45 #[L,mu.MV M iv] x λe w'=>(∃L' ys us' c,e=.returned (.tuple #[L',.int .i64 c])∧sa.Am bs M ys c∧OwnL w' (w.heap.size+1+1+1+1) L' ys us')∧Below (w.heap.size+1+1+1+1) x w'):=λx L us hO hl hb=>sa.mutated_any L _ bs us M iv x hO hl hsm (by_low hI hb (by omega)) hM hso hmo
 have HBY:Hid (∀x,Below w.heap.size w x→Calls Tryz.prog 63 #[mu.MV M iv] x λe w'=>mb.MbRet M x.heap.size e w'∧Below x.heap.size x w'):=λx hx=>mb.impl_mb M iv x (it.zaY hI hx) hM
 have HAD:Hid (∀x,(mbt M).size≤20000→Calls Tryz.prog 64 #[LV r d s,.string (mbt M)] x λe w'=>e=.returned (app1 r d s (mbt M))∧Below x.heap.size x w'):=λx hx=>(lg.impl_app r d s (mbt M) x hr hd hs (by omega)).mono λe w' ⟨he,hb⟩=>⟨by
  rw[he];unfold app;rw[if_neg (by omega),if_neg (by rw[hok];decide),if_pos ⟨mbt_one M,hx⟩],hb⟩
 have HMB:=hD (mb.mb_ok hmo);have HMF:=hD (mb.mb_full hmo);obtain⟨⟨a,cap,rfl,_⟩,_⟩:=hB;obtain⟨ia,ic,rfl,_⟩:=hI;clear hr hd hs hv hf hsm hso hok hM hmo;unfold EV at HCP ⊢;unfold mu.MV at HMU HBY ⊢;unfold LV at HAD;have c0:=F0.e.c0;have c1:=F0.e.c1;have c2:=F0.e.c2;have c3:=F0.e.c3
 go_enter_defers Tryz.func35,Tryz.ntmps35
 go_wp2_with fail
 generalize World.alloc _ _=W at F0 c0 c1 c2 c3 ⊢;have hl0:=F0.k.lt;refine(HCP.out W F0.bel).mono ?_;rintro e x1 ⟨⟨L1,us1,rfl,hO1⟩,hb1⟩;obtain⟨La,Ln,Lc,rfl⟩:=zak (zaj hO1.1);have F1:=F0.keep hb1;have HO1:Hid (OwnL x1 (w.heap.size+1+1+1+1) (.slice La Ln Lc) bs us1):=sa.zbI hO1 (by omega);have HF1:=hD F1;have hl1:w.heap.size+1+1+1+1≤x1.heap.size:=F1.k.lt;clear c0 c1 c2 c3 F0 hO1 hb1 HCP hl0;have e0:=F1.n.c0;have e1:=F1.n.c1;have e2:=F1.n.c2;have e3:=F1.n.c3;have g0:=F1.n.f 0;have g1:=F1.n.f 1;have g2:=F1.n.f 2;have g3:=F1.n.f 3;have d0:=mu.Lies.c0 F1.m;have d1:=mu.Lies.c1 F1.m;have d2:=mu.Lies.c2 F1.m;have d3:=mu.Lies.c3 F1.m;have d4:=mu.Lies.c4 F1.m;have d5:=mu.Lies.c5 F1.m;clear F1
 go_wp2_with fail
 have F2:=HF1.out.put r d s (.slice La Ln Lc);have O2:=zbj HO1.out (w':=put4 x1 (w.heap.size+1+1) (.int .i64 r) (.string d) (.int .i64 s) (.slice La Ln Lc)) (λq hq=>zbU _ _ _ _ _ _ _ (by omega));refine(HMU.out (put4 x1 (w.heap.size+1+1) (.int .i64 r) (.string d) (.int .i64 s) (.slice La Ln Lc)) _ us1 O2 (by rw[put4_size];exact hl1) F2.bel).mono ?_;rintro e x3 ⟨⟨L',zs,us',k,rfl,hA,hO3⟩,hb3⟩;obtain⟨La',Ln',Lc',rfl⟩:=zak (zaj hO3.1);have F3:=F2.keepB hb3 (by omega);have HO3:=hD hO3;have HA:=hD hA;have HF3:=hD F3;clear e0 e1 e2 e3 g0 g1 g2 g3 d0 d1 d2 d3 d4 d5 F2 O2 hb3 hO3 hA HO1 HF1 HMU hl1;have e0:=F3.n.c0;have e1:=F3.n.c1;have e2:=F3.n.c2;have e3:=F3.n.c3;have g0:=F3.n.f 0;have g1:=F3.n.f 1;have g2:=F3.n.f 2;have g3:=F3.n.f 3;have kc:=F3.k.c0;have kf:=F3.k.f 0;have hl3:w.heap.size+1+1+1+1≤x3.heap.size:=F3.k.lt;clear F3;have F4:=(HF3.out.n3 (.slice La' Ln' Lc')).code k;have O4:OwnL ((x3.setCell ⟨w.heap.size+1+1,3,none⟩ (.slice La' Ln' Lc')).setCell ⟨w.heap.size+1+1+1,0,none⟩ (.int .i64 k)) (w.heap.size+1+1+1+1) (.slice La' Ln' Lc') zs us':=zbj HO3.out (λq hq=>(heap_setCell_other _ ⟨w.heap.size+1+1+1,0,none⟩ q _ (by show q≠w.heap.size+1+1+1;omega)).trans (heap_setCell_other _ ⟨w.heap.size+1+1,3,none⟩ q _ (by show q≠w.heap.size+1+1;omega)));by_cases hk:k=0
 rotate_left
 ·have hk1:((k:Int) != 0)=true:=by rw[bne_iff_ne];exact hk
  have HX:Hid (∃zs k',sa.Am bs M zs k'∧Wx r d bs M zs k' d bs k):=⟨zs,k,HA.out,.inl ⟨hk,rfl,rfl,rfl⟩⟩
  have HK0:=hD hk;clear hk HA HO3 O4 HAD HBY HMB HMF
  go_wp2_with fail
  generalize World.setCell _ _ _=x4 at F4 ⊢;have HF5:=hD F4;clear e0 e1 e2 e3 g0 g1 g2 g3 kc kf F4;have e0:=HF5.out.n.c0;have e1:=HF5.out.n.c1;have e2:=HF5.out.n.c2;have e3:=HF5.out.n.c3;have e1':x4.cell? ⟨w.heap.size+1+1,1,none⟩=some (.string d):=e1;have e2':x4.cell? ⟨w.heap.size+1+1,2,none⟩=some (.int .i64 s):=e2;have e3':x4.cell? ⟨w.heap.size+1+1,3,none⟩=some (.slice La' Ln' Lc'):=e3;have g0:=HF5.out.n.f 0;have g1:=HF5.out.n.f 1;have g2:=HF5.out.n.f 2;have g3:=HF5.out.n.f 3;have kc:=HF5.out.k.c0;have kf:=HF5.out.k.f 0
  go_region
  go_wp2;refine leaves_cons (f:=62) (args:=#[.pointer (some ⟨w.heap.size+1+1+1,0,none⟩),.pointer (some ⟨w.heap.size,0,none⟩),.pointer (some ⟨w.heap.size+1+1,0,none⟩)]) (by simp) (by simp[go_sem]) ?_;refine(HCL.out _ r d s (.slice La' Ln' Lc') k ((((((HF5.out.n0 r).n1 d).n2 s).n3 (.slice La' Ln' Lc')).code k).keep bR.drew)).mono ?_;rintro e u' x' ⟨rfl,rfl,hC⟩
  rcases hC with⟨h,_⟩|⟨_,L2,us2,hF,hO⟩
  ·exact absurd h HK0.out
  obtain⟨La2,Ln2,Lc2,rfl⟩:=zak (zaj hO.1);have y0:x'.cell? ⟨w.heap.size+1+1,0,none⟩=some (.int .i64 r):=hF.n.c0;have y1:x'.cell? ⟨w.heap.size+1+1,1,none⟩=some (.string d):=hF.n.c1;have y2:x'.cell? ⟨w.heap.size+1+1,2,none⟩=some (.int .i64 s):=hF.n.c2;have y3:=hF.n.c3;have y3:x'.cell? ⟨w.heap.size+1+1,3,none⟩=some (.slice La2 Ln2 Lc2):=y3;have yk:=hF.k.c0;exact⟨.tuple #[.agg #[.int .i64 r,.string d,.int .i64 s,.slice La2 Ln2 Lc2],.int .i64 k],(by simp[results,Tryz.results35,go_sem,y0,y1,y2,y3,yk]),⟨d,_,bs,us2,k,rfl,HX.out,hO⟩,hF.bel⟩
 subst hk;have HO4:=hD O4;have d0:=mu.Lies.c0 HF3.out.m;have d1:=mu.Lies.c1 HF3.out.m;have d2:=mu.Lies.c2 HF3.out.m;have d3:=mu.Lies.c3 HF3.out.m;have d4:=mu.Lies.c4 HF3.out.m;have d5:=mu.Lies.c5 HF3.out.m;clear O4 HO3 HF3
 go_wp2_with fail
 generalize World.setCell _ _ _=x4 at F4 HO4 ⊢;refine(HBY.out x4 F4.bel).mono ?_;rintro e x5 ⟨⟨u,rfl,hu⟩,hb5⟩;have F5:=F4.keep hb5;have HF5':Hid (Fw w x5 r d s (.slice a bs.length cap) M (.slice ia M.ps.length ic) r d s (.slice La' Ln' Lc') 0):=F5;have HO5:=hD (zaC HO4.out hb5);have hl4:w.heap.size+1+1+1+1≤x4.heap.size:=F4.k.lt;clear d0 d1 d2 d3 d4 d5 e0 e1 e2 e3 g0 g1 g2 g3 kc kf hl3 HO4 F4 hb5 HBY;have e0:=F5.n.c0;have e1:=F5.n.c1;have e2:=F5.n.c2;have e3:=F5.n.c3;have g0:=F5.n.f 0;have g1:=F5.n.f 1;have g2:=F5.n.f 2;have g3:=F5.n.f 3;have kc:=F5.k.c0;have kf:=F5.k.f 0;clear F5;by_cases hL:(mb.mB M).length≤20000
 rotate_left
 ·obtain⟨m1,m2⟩:=HMF.out hL;rw[m1] at hu;rw[m2];obtain⟨ua,uc,rfl⟩:=zbK hu;have HX:Hid (∃zs k',sa.Am bs M zs k'∧Wx r d bs M zs k' d bs 7):=⟨zs,0,HA.out,.inr (.inl ⟨rfl,.inl (by rw[mbt_size];omega),rfl,rfl,rfl⟩)⟩
  have HK0:=hD ((by decide:(7:Int)≠0));have F4:=HF5'.out.code 7;clear hL m1 m2 hu HA HO5 HAD HMB HMF HF5'
  go_wp2_with fail
  generalize World.setCell _ _ _=x4 at F4 ⊢;have HF5:=hD F4;clear e0 e1 e2 e3 g0 g1 g2 g3 kc kf F4;have e0:=HF5.out.n.c0;have e1:=HF5.out.n.c1;have e2:=HF5.out.n.c2;have e3:=HF5.out.n.c3;have e1':x4.cell? ⟨w.heap.size+1+1,1,none⟩=some (.string d):=e1;have e2':x4.cell? ⟨w.heap.size+1+1,2,none⟩=some (.int .i64 s):=e2;have e3':x4.cell? ⟨w.heap.size+1+1,3,none⟩=some (.slice La' Ln' Lc'):=e3;have g0:=HF5.out.n.f 0;have g1:=HF5.out.n.f 1;have g2:=HF5.out.n.f 2;have g3:=HF5.out.n.f 3;have kc:=HF5.out.k.c0;have kf:=HF5.out.k.f 0
  go_region
  go_wp2;refine leaves_cons (f:=62) (args:=#[.pointer (some ⟨w.heap.size+1+1+1,0,none⟩),.pointer (some ⟨w.heap.size,0,none⟩),.pointer (some ⟨w.heap.size+1+1,0,none⟩)]) (by simp) (by simp[go_sem]) ?_;refine(HCL.out _ r d s (.slice La' Ln' Lc') 7 ((((((HF5.out.n0 r).n1 d).n2 s).n3 (.slice La' Ln' Lc')).code 7).keep bR.drew)).mono ?_;rintro e u' x' ⟨rfl,rfl,hC⟩
  rcases hC with⟨h,_⟩|⟨_,L2,us2,hF,hO⟩
  ·exact absurd h HK0.out
  obtain⟨La2,Ln2,Lc2,rfl⟩:=zak (zaj hO.1);have y0:x'.cell? ⟨w.heap.size+1+1,0,none⟩=some (.int .i64 r):=hF.n.c0;have y1:x'.cell? ⟨w.heap.size+1+1,1,none⟩=some (.string d):=hF.n.c1;have y2:x'.cell? ⟨w.heap.size+1+1,2,none⟩=some (.int .i64 s):=hF.n.c2;have y3:=hF.n.c3;have y3:x'.cell? ⟨w.heap.size+1+1,3,none⟩=some (.slice La2 Ln2 Lc2):=y3;have yk:=hF.k.c0;exact⟨.tuple #[.agg #[.int .i64 r,.string d,.int .i64 s,.slice La2 Ln2 Lc2],.int .i64 7],(by simp[results,Tryz.results35,go_sem,y0,y1,y2,y3,yk]),⟨d,_,bs,us2,7,rfl,HX.out,hO⟩,hF.bel⟩
 obtain⟨m1,m2⟩:=HMB.out hL;rw[m1] at hu;rw[m2];have hu2:ra.Own (x5.setCell ⟨w.heap.size+1+1+1,0,none⟩ (.int .i64 0)) x4.heap.size u (mb.mB M):=own_hi hu (λq hq=>heap_setCell_other _ ⟨w.heap.size+1+1+1,0,none⟩ q _ (by show q≠w.heap.size+1+1+1;omega));have hcv:=ow.zcd (P:=Tryz.prog) (src:=22) (dst:=9) (mb.mB M) hu2 Tryz.underlying22 Tryz.underlying5 Tryz.underlying9;obtain⟨ua,uc,rfl⟩:=zbK hu;have hcv:(convert 22 9 (.slice ua (mb.mB M).length uc)).run Tryz.prog (x5.setCell ⟨w.heap.size+1+1+1,0,none⟩ (.int .i64 0))=.ok (.string (mbt M)) (x5.setCell ⟨w.heap.size+1+1+1,0,none⟩ (.int .i64 0)):=hcv;have HLL:Hid ((mbt M).size≤20000):=by rw[mbt_size];exact hL
 have F6:=HF5'.out.code 0;have HO6:Hid (OwnL (x5.setCell ⟨w.heap.size+1+1+1,0,none⟩ (.int .i64 0)) (w.heap.size+1+1+1+1) (.slice La' Ln' Lc') zs us'):=zbj HO5.out (λq hq=>heap_setCell_other _ ⟨w.heap.size+1+1+1,0,none⟩ q _ (by show q≠w.heap.size+1+1+1;omega));obtain⟨x6,hx6⟩:∃x6,x6=x5.setCell ⟨w.heap.size+1+1+1,0,none⟩ (.int .i64 0):=⟨_,rfl⟩
 rw[←hx6] at F6 HO6 hcv;have HF6:=hD F6;have n0:=F6.n.c0;have n1:=F6.n.c1;have n2:=F6.n.c2;have n3:=F6.n.c3;have nk:=F6.k.c0;clear hL m1 m2 hu hu2 HO5 HF5' F6 HMB HMF;have HAD2:=HAD.out x6 HLL.out;unfold app1 RV LV at HAD2;by_cases hroom:r<(d.size:Int)+7+(mbt M).size
 ·rw[if_pos hroom] at HAD2;have HX:Hid (∃zs k',sa.Am bs M zs k'∧Wx r d bs M zs k' d bs 7):=⟨zs,0,HA.out,.inr (.inl ⟨rfl,.inr hroom,rfl,rfl,rfl⟩)⟩
  have HK0:=hD ((by decide:(7:Int)≠0));have HAD3:=hD HAD2;clear hroom HA HAD HAD2 HLL
  go_wp2_with (rw[←hx6])
  refine HAD3.out.mono ?_;rintro e x7 ⟨rfl,hb7⟩;have F7:=HF6.out.keep hb7;clear n0 n1 n2 n3 nk hcv hx6 HAD3 HO6 HF6 hb7 e0 e1 e2 e3 g0 g1 g2 g3 kc kf;have e0:=F7.n.c0;have e1:=F7.n.c1;have e2:=F7.n.c2;have e3:=F7.n.c3;have g0:=F7.n.f 0;have g1:=F7.n.f 1;have g2:=F7.n.f 2;have g3:=F7.n.f 3;have kc:=F7.k.c0;have kf:=F7.k.f 0;have F4:=(((F7.n0 r).n1 d).n2 s).code 7;clear F7
  go_wp2_with fail
  generalize World.setCell _ _ _=x4 at F4 ⊢;have HF5:=hD F4;clear e0 e1 e2 e3 g0 g1 g2 g3 kc kf F4;have e0:=HF5.out.n.c0;have e1:=HF5.out.n.c1;have e2:=HF5.out.n.c2;have e3:=HF5.out.n.c3;have e1':x4.cell? ⟨w.heap.size+1+1,1,none⟩=some (.string d):=e1;have e2':x4.cell? ⟨w.heap.size+1+1,2,none⟩=some (.int .i64 s):=e2;have e3':x4.cell? ⟨w.heap.size+1+1,3,none⟩=some (.slice La' Ln' Lc'):=e3;have g0:=HF5.out.n.f 0;have g1:=HF5.out.n.f 1;have g2:=HF5.out.n.f 2;have g3:=HF5.out.n.f 3;have kc:=HF5.out.k.c0;have kf:=HF5.out.k.f 0
  go_region
  go_wp2;refine leaves_cons (f:=62) (args:=#[.pointer (some ⟨w.heap.size+1+1+1,0,none⟩),.pointer (some ⟨w.heap.size,0,none⟩),.pointer (some ⟨w.heap.size+1+1,0,none⟩)]) (by simp) (by simp[go_sem]) ?_;refine(HCL.out _ r d s (.slice La' Ln' Lc') 7 ((((((HF5.out.n0 r).n1 d).n2 s).n3 (.slice La' Ln' Lc')).code 7).keep bR.drew)).mono ?_;rintro e u' x' ⟨rfl,rfl,hC⟩
  rcases hC with⟨h,_⟩|⟨_,L2,us2,hF,hO⟩
  ·exact absurd h HK0.out
  obtain⟨La2,Ln2,Lc2,rfl⟩:=zak (zaj hO.1);have y0:x'.cell? ⟨w.heap.size+1+1,0,none⟩=some (.int .i64 r):=hF.n.c0;have y1:x'.cell? ⟨w.heap.size+1+1,1,none⟩=some (.string d):=hF.n.c1;have y2:x'.cell? ⟨w.heap.size+1+1,2,none⟩=some (.int .i64 s):=hF.n.c2;have y3:=hF.n.c3;have y3:x'.cell? ⟨w.heap.size+1+1,3,none⟩=some (.slice La2 Ln2 Lc2):=y3;have yk:=hF.k.c0;exact⟨.tuple #[.agg #[.int .i64 r,.string d,.int .i64 s,.slice La2 Ln2 Lc2],.int .i64 7],(by simp[results,Tryz.results35,go_sem,y0,y1,y2,y3,yk]),⟨d,_,bs,us2,7,rfl,HX.out,hO⟩,hF.bel⟩
 rw[if_neg hroom] at HAD2;have HX:Hid (∃zs' k',sa.Am bs M zs' k'∧Wx r d bs M zs' k' (d++fr (mbt M)) zs 0):=⟨zs,0,HA.out,.inr (.inr ⟨rfl,λh=>h.elim (λh=>by have:=HLL.out;omega) hroom,rfl,rfl,rfl⟩)⟩
 have HAD3:=hD HAD2;clear hroom HA HAD HAD2 HLL
 go_wp2_with (rw[←hx6])
 refine HAD3.out.mono ?_;rintro e x7 ⟨rfl,hb7⟩;have F7:=HF6.out.keep hb7;have HO7:=hD (zaC HO6.out hb7);generalize d++fr (mbt M)=D at HX ⊢;clear n0 n1 n2 n3 nk hcv hx6 HAD3 HO6 HF6 hb7 e0 e1 e2 e3 g0 g1 g2 g3 kc kf;have e0:=F7.n.c0;have e1:=F7.n.c1;have e2:=F7.n.c2;have e3:=F7.n.c3;have g0:=F7.n.f 0;have g1:=F7.n.f 1;have g2:=F7.n.f 2;have g3:=F7.n.f 3;have kc:=F7.k.c0;have kf:=F7.k.f 0;have F4:=(((F7.n0 r).n1 D).n2 s).code 0;have HO8:Hid (OwnL ((((x7.setCell ⟨w.heap.size+1+1,0,none⟩ (.int .i64 r)).setCell ⟨w.heap.size+1+1,1,none⟩ (.string D)).setCell ⟨w.heap.size+1+1,2,none⟩ (.int .i64 s)).setCell ⟨w.heap.size+1+1+1,0,none⟩ (.int .i64 0)) (w.heap.size+1+1+1+1) (.slice La' Ln' Lc') zs us'):=zbj HO7.out (λq hq=>by
  rw[heap_setCell_other _ ⟨w.heap.size+1+1+1,0,none⟩ q _ (by show q≠w.heap.size+1+1+1;omega),heap_setCell_other _ ⟨w.heap.size+1+1,2,none⟩ q _ (by show q≠w.heap.size+1+1;omega),heap_setCell_other _ ⟨w.heap.size+1+1,1,none⟩ q _ (by show q≠w.heap.size+1+1;omega),heap_setCell_other _ ⟨w.heap.size+1+1,0,none⟩ q _ (by show q≠w.heap.size+1+1;omega)])
 clear F7 HO7
 go_wp2_with fail
 generalize World.setCell _ _ _=x4 at F4 HO8 ⊢;have HF5:=hD F4;clear e0 e1 e2 e3 g0 g1 g2 g3 kc kf F4;have e0:=HF5.out.n.c0;have e1:=HF5.out.n.c1;have e2:=HF5.out.n.c2;have e3:=HF5.out.n.c3;have e1':x4.cell? ⟨w.heap.size+1+1,1,none⟩=some (.string D):=e1;have e2':x4.cell? ⟨w.heap.size+1+1,2,none⟩=some (.int .i64 s):=e2;have e3':x4.cell? ⟨w.heap.size+1+1,3,none⟩=some (.slice La' Ln' Lc'):=e3;have g0:=HF5.out.n.f 0;have g1:=HF5.out.n.f 1;have g2:=HF5.out.n.f 2;have g3:=HF5.out.n.f 3;have kc:=HF5.out.k.c0;have kf:=HF5.out.k.f 0
 go_region
 go_wp2;refine leaves_cons (f:=62) (args:=#[.pointer (some ⟨w.heap.size+1+1+1,0,none⟩),.pointer (some ⟨w.heap.size,0,none⟩),.pointer (some ⟨w.heap.size+1+1,0,none⟩)]) (by simp) (by simp[go_sem]) ?_;have F9:=((((((HF5.out.n0 r).n1 D).n2 s).n3 (.slice La' Ln' Lc')).code 0).keep bR.drew)
 refine(HCL.out _ r D s (.slice La' Ln' Lc') 0 F9).mono ?_;rintro e u' x' ⟨rfl,rfl,hC⟩
 rcases hC with⟨_,rfl⟩|⟨h,_⟩
 rotate_left
 ·exact absurd rfl h
 have hF:=F9;have y0:World.cell? _ ⟨w.heap.size+1+1,0,none⟩=some (.int .i64 r):=hF.n.c0;have y1:World.cell? _ ⟨w.heap.size+1+1,1,none⟩=some (.string D):=hF.n.c1;have y2:World.cell? _ ⟨w.heap.size+1+1,2,none⟩=some (.int .i64 s):=hF.n.c2;have y3:=hF.n.c3;have y3:World.cell? _ ⟨w.heap.size+1+1,3,none⟩=some (.slice La' Ln' Lc'):=y3;have yk:=hF.k.c0;refine⟨.tuple #[.agg #[.int .i64 r,.string D,.int .i64 s,.slice La' Ln' Lc'],.int .i64 0],(by simp[results,Tryz.results35,go_sem,y0,y1,y2,y3,yk]),⟨D,_,zs,us',0,rfl,HX.out,?_⟩,hF.bel⟩;refine zbj HO8.out (λq hq=>?_);show(World.setCell _ _ _).heap[q]?=_;rw[heap_setCell_other _ ⟨w.heap.size+1+1+1,0,none⟩ q _ (by show q≠w.heap.size+1+1+1;omega),heap_setCell_other _ ⟨w.heap.size+1+1,3,none⟩ q _ (by show q≠w.heap.size+1+1;omega),heap_setCell_other _ ⟨w.heap.size+1+1,2,none⟩ q _ (by show q≠w.heap.size+1+1;omega),heap_setCell_other _ ⟨w.heap.size+1+1,1,none⟩ q _ (by show q≠w.heap.size+1+1;omega),heap_setCell_other _ ⟨w.heap.size+1+1,0,none⟩ q _ (by show q≠w.heap.size+1+1;omega)]
end eg
end Go.Proofs.YtmnflpmfngjllaaGreatDoor
