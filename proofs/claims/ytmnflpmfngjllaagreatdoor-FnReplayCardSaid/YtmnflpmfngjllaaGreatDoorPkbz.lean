/-
  FnReplayCardSaid
-/
import Derived.Test.YtmnflpmfngjllaaGreatDoorPkby
set_option maxHeartbeats 16000000
set_option maxRecDepth 100000
set_option linter.unusedVariables false
namespace Go.Proofs.YtmnflpmfngjllaaGreatDoor
namespace eg
open Go.RowKit Go.WideShapes
open bx bl
open lg (LV RV fr recs catR Rights Right recR)
theorem sameS_self(xs:List Bx):sm.zat xs xs=true:=sm.sameS_yes ⟨rfl,λj hj=>⟨rfl,rfl,rfl,⟨rfl,λ_ _=>rfl⟩,⟨rfl,λ_ _=>rfl⟩⟩⟩
theorem cn_new:Cn 60000 ⟨#[]⟩ 0 []:=by
 have h:=lg.recs_whole (λx hx=>absurd hx List.not_mem_nil);have e:catR []=⟨#[]⟩:=rfl;rw[e] at h;refine⟨decide_eq_true (by decide),rfl,by rw[h],[],?_,rp.za3,sameS_self _⟩;rw[h];rfl
theorem cn_step{r:Int}{d:ByteArray}{s:Int}{bs:List Bx}{M:mu.Mu}{r':Int}{d':ByteArray}{s':Int}{ys:List Bx}{c:Int}(hc:Cn r d s bs)(hm:mu.mok M=true)(h:Cm r d s bs M r' d' s' ys c):Cn r' d' s' ys∧(c≠0→r'=r∧d'=d∧s'=s∧ys=bs):=by
 rcases h with⟨h1,_⟩|⟨h1,h2,zs,k,hA,hx⟩
 ·exact absurd ⟨hc,hm⟩ h1
 obtain⟨rfl,hx⟩:=hx
 rcases hx with⟨g1,rfl,rfl,rfl,rfl⟩|⟨g1,g2,rfl,rfl,rfl,rfl⟩|⟨rfl,g2,rfl,rfl,rfl,rfl⟩
 ·exact⟨hc,λ_=>⟨rfl,rfl,rfl,rfl⟩⟩
 ·exact⟨hc,λ_=>⟨rfl,rfl,rfl,rfl⟩⟩
 ·refine⟨?_,λh=>absurd rfl h⟩;have hso:=cn_sok hc;obtain⟨hok,hs,h0,ws,hR,_,hsa⟩:=hc;obtain rfl:=same_eq hsa;have hkk:=of_decide_eq_true hok;obtain⟨hd,hrt⟩:=lg.recs_cat h0 (recs_zero h0);have hm1:Right (mbt M):=⟨mbt_one M,by omega⟩
  have hrt2:Rights ((recs d).1++[mbt M]):=by
   intro x hx
   rcases List.mem_append.1 hx with hx|hx
   ·exact hrt x hx
   ·rw[List.mem_singleton] at hx;subst hx;exact hm1
  have hD:d++fr (mbt M)=catR ((recs d).1++[mbt M]):=by rw[lg.catR_app,←hd]
  have hw:=lg.recs_whole hrt2;rw[←hD] at hw;refine⟨decide_eq_true ?_,rfl,by rw[hw],ys,?_,sa.am_ok hso h2 hA,sameS_self _⟩
  ·rw[ByteArray.size_append,lg.zbA];omega
  ·rw[hw];refine rp_app hR ?_;obtain⟨b1,b2⟩:=mb.mb_back hm;refine .inr ⟨b1,ys,0,?_,.inr ⟨rfl,rfl⟩⟩;show sa.Am ws (rm.mtn (mbt M,false)) ys 0;rw[show rm.mtn (mbt M,false)=M from b2];exact hA
theorem cn_replay{r:Int}{d:ByteArray}{s:Int}{bs:List Bx}{ys:List Bx}{n c:Int}(hc:Cn r d s bs)(h:rp.RlIs r d s ys n c):ys=bs∧n=((recR r d s).1.length:Nat)∧c=0∧(recR r d s).2.2=0:=by
 obtain⟨hok,hs,h0,ws,hR,hso,hsa⟩:=hc;obtain rfl:=same_eq hsa;have he:recR r d s=recs d:=by unfold recR;rw[if_pos hok]
 have hthis:rp.RlIs r d s ws (((recs d).1.length:Nat):Int) 0:=.inr ⟨hok,ws,true,hR,.inr (.inr ⟨rfl,by rw[h0];decide,rfl,rfl,rfl⟩)⟩;obtain⟨e1,e2,e3⟩:=rp.rl_one h hthis;rw[he];exact⟨e1,e2,e3,h0⟩
theorem zaP{r:Int}{d:ByteArray}{s:Int}{bs:List Bx}(h:Cn r d s bs):d.size≤60000∧lg.In r∧lg.In s:=by
 have hkk:=of_decide_eq_true h.1;have hs:=h.2.1;refine⟨by omega,?_,?_⟩
 ·refine⟨by omega,by omega⟩
 ·refine⟨by omega,by omega⟩
def litsL(r:Int)(d:ByteArray)(s:Int):List Lit:=[.int .i64 r,.string d.data.toList,.int .i64 s]
theorem litsL_of(r:Int)(d:ByteArray)(s:Int)(hr:lg.In r)(hd:d.size≤1048576)(hs:lg.In s):Tryz.prog.keyLits 2 24 [.int .i64 r,.string d,.int .i64 s]=some (litsL r d s):=by
 have w0:=WalkArith.wf_i64 hr;have w1:=WalkArith.wf_i64 hs;have hce:Tryz.prog.cellsOf 24=3:=by kernel_rfl
 have hci:Tryz.prog.cellsOf 3=1:=by kernel_rfl
 have hcs:Tryz.prog.cellsOf 9=1:=by kernel_rfl
 simp[Program.keyLits,Tryz.underlying24,Tryz.underlying3,Tryz.underlying9,hce,hci,hcs,w0,w1,litsL,show d.size≤maxLen by unfold maxLen;omega]
theorem formedL(r:Int)(d:ByteArray)(s:Int):(Value.agg #[.int .i64 r,.string d,.int .i64 s]).formed Tryz.prog 24=true:=by
 have hc:Tryz.prog.cellsOf 24=3:=by kernel_rfl
 simp[Value.formed,Tryz.underlying24,hc]
theorem keyL:Tryz.prog.keyTypeAt 2 24=true:=by kernel_rfl
theorem eqL_run(r:Int)(d:ByteArray)(s:Int)(hr:lg.In r)(hd:d.size≤1048576)(hs:lg.In s)(w:World):(Op.equal 24 (.agg #[.int .i64 r,.string d,.int .i64 s]) (.agg #[.int .i64 r,.string d,.int .i64 s])).run Tryz.prog w=.ok true w:=by
 have hL:=litsL_of r d s hr hd hs;obtain⟨b,h1,h2⟩:=run_equalIn_deep (P:=Tryz.prog) 9998 2 24 keyL w 2 2 (.agg #[.int .i64 r,.string d,.int .i64 s]) (.agg #[.int .i64 r,.string d,.int .i64 s]) (litsL r d s) (litsL r d s) (formedL r d s) (formedL r d s) (by simpa [Value.cells] using hL) (by simpa [Value.cells] using hL);rw[←h2.2 rfl];exact h1
theorem eqLB_run(r:Int)(d:ByteArray)(s:Int)(hr:lg.In r)(hd:d.size≤1048576)(hs:lg.In s)(w:World):(Go.binOp .eql 24 (.agg #[.int .i64 r,.string d,.int .i64 s]) (.agg #[.int .i64 r,.string d,.int .i64 s])).run Tryz.prog w=.ok (.bool true) w:=by
 simp[Go.binOp,eqL_run r d s hr hd hs w,Result.andThen]
theorem guardL_run(x y:Operand)(a b:Array Value)(w:World):(eqGuard .eql 24 x y (.agg a) (.agg b)).run Tryz.prog w=.ok () w:=by
 have h:Tryz.prog.eqGuardType Tryz.prog.depth 24=false:=by kernel_rfl
 simp[eqGuard,h,Result.andThen]
theorem zdu(r:Int)(d:ByteArray)(s:Int)(v u:Value)(xs:List Bx)(vs us:Nat→Value×Value)(w:World)(hr:lg.In r)(hd:d.size≤1048576)(hs:lg.In s)(h1:zaa w v xs vs)(h2:zaa w u xs us)(hsm:zac xs) :
  Calls Tryz.prog 8 #[EV r d s v,EV r d s u] w λe w'=>e=.returned (.bool true)∧Below w.heap.size w w':=by
 have HS:Hid (∀W,Below w.heap.size w W→Calls Tryz.prog 11 #[v,u] W λe w'=>e=.returned (.bool true)∧Below W.heap.size W w'):=λW hW=>kp.zdt v u xs vs us W (zap h1 hW) (zap h2 hW) hsm
 have HB:Hid (∀o o',Below w.heap.size w ((w.alloc o).alloc o')):=λo o'=>((Below.refl _ w).alloc lR o).alloc (by simp) o'
 have he:=eqLB_run r d s hr hd hs;have hg:=guardL_run;obtain⟨⟨va,vc,rfl,_⟩,_⟩:=h1;obtain⟨⟨ua,uc,rfl,_⟩,_⟩:=h2;clear hsm hr hd hs;unfold EV;go_enter Tryz.func8,Tryz.ntmps8
 go_wp2_with fail
 refine(HS.out _ (HB.out _ _)).mono ?_;rintro e w1 ⟨rfl,b1⟩;have HB1:=(HB.out _ _).trans (b1.mono (HB.out _ _).size);go_wp2;go_ret;exact⟨rfl,HB1⟩
end eg
namespace nE
open Go.ChangeShapes Go.WideShapes Go.ChangeAt Go.RowKit Go.Deep Go.Joins
open lg (newLog RV LV new_below)
def EV(r:Int)(d:ByteArray)(s:Int)(v:Value):Value:=.agg #[.int .i64 r,.string d,.int .i64 s,v]
def zae(w:World)(b:Nat)(r:Int)(d:ByteArray)(s:Int)(v:Value):Prop:=w.heap[b]?=some (.cells #[.int .i64 r,.string d,.int .i64 s,v] 27 (0,0))
section
variable {w w':World}{b:Nat}{r:Int}{d:ByteArray}{s:Int}{v:Value}
theorem zae.c0(h:zae w b r d s v):w.cell? ⟨b,0,none⟩=some (.int .i64 r):=by rw[cell_of_row w _ _ _ _ _ h];rfl
theorem zae.c1(h:zae w b r d s v):w.cell? ⟨b,0+1,none⟩=some (.string d):=by rw[cell_of_row w _ _ _ _ _ h];rfl
theorem zae.c2(h:zae w b r d s v):w.cell? ⟨b,0+2,none⟩=some (.int .i64 s):=by rw[cell_of_row w _ _ _ _ _ h];rfl
theorem zae.c3(h:zae w b r d s v):w.cell? ⟨b,0+3,none⟩=some v:=by rw[cell_of_row w _ _ _ _ _ h];rfl
theorem zae.c1'(h:zae w b r d s v):w.cell? ⟨b,1,none⟩=some (.string d):=h.c1
theorem zae.c2'(h:zae w b r d s v):w.cell? ⟨b,2,none⟩=some (.int .i64 s):=h.c2
theorem zae.c3'(h:zae w b r d s v):w.cell? ⟨b,3,none⟩=some v:=h.c3
theorem zae.f(h:zae w b r d s v)(j:Nat):w.frozen? ⟨b,j,none⟩=false:=frozen_of_row _ _ _ _ _ h
theorem zae.lt(h:zae w b r d s v):b<w.heap.size:=World.block_lt_of_cell? w _ h.c0
theorem zae.keep(h:zae w b r d s v)(hb:Below w.heap.size w w'):zae w' b r d s v:=(hb.block b h.lt).trans h
theorem zbg(w:World)(r:Int)(d:ByteArray)(s:Int)(v:Value):zae (w.alloc (.cells #[.int .i64 r,.string d,.int .i64 s,v] 27)) w.heap.size r d s v:=by show(w.heap.push _)[w.heap.size]?=_;simp
def put4(w:World)(g:Nat)(a b c d:Value):World:=(((w.setCell ⟨g,0,none⟩ a).setCell ⟨g,1,none⟩ b).setCell ⟨g,2,none⟩ c).setCell ⟨g,3,none⟩ d
theorem zae.put{r':Int}{d':ByteArray}{s':Int}{v':Value}(h:zae w b r d s v):zae (put4 w b (.int .i64 r') (.string d') (.int .i64 s') v') b r' d' s' v' :=
 heap_setCell_same _ b 3 _ _ _ (heap_setCell_same _ b 2 _ _ _ (heap_setCell_same _ b 1 _ _ _ (heap_setCell_same _ b 0 _ _ _ h)))
theorem zbd{B g:Nat}{w0:World}{a b c d:Value}(k:Below B w0 w)(hb:B≤g):Below B w0 (put4 w g a b c d) :=
 (((k.setCell (p:=⟨g,0,none⟩) hb _).setCell (p:=⟨g,1,none⟩) hb _).setCell (p:=⟨g,2,none⟩) hb _).setCell (p:=⟨g,3,none⟩) hb _
end
theorem ne60(w:World):Calls Tryz.prog 4 #[.int .i64 60000] w λe w'=>e=.returned (.tuple #[.agg #[.int .i64 60000,.string ⟨#[]⟩,.int .i64 0,.slice none 0 0],.int .i64 0])∧Below w.heap.size w w':=by
 have hx:newLog 60000=RV 60000 ⟨#[]⟩ 0 0:=if_pos (by decide);have L0:=zbg w 0 ⟨#[]⟩ 0 (.slice none 0 0);have b0:=new_below w 27 #[.int .i64 0,.string ⟨#[]⟩,.int .i64 0,.slice none 0 0];go_enter Tryz.func4,Tryz.ntmps4
 go_wp2_with fail
 generalize w.alloc _=w0 at L0 b0 ⊢;refine(lg.impl_new 60000 _).mono ?_;rintro e w1 ⟨rfl,b1⟩;rw[hx];unfold RV LV;have L1:=L0.keep b1;have b2:=b0.trans (b1.mono b0.size);clear L0 b0 b1;have L2:=L1.keep (new_below w1 24 #[.int .i64 60000,.string ⟨#[]⟩,.int .i64 0]);have b3:=b2.trans ((new_below w1 24 #[.int .i64 60000,.string ⟨#[]⟩,.int .i64 0]).mono b2.size);have c0:=L2.c0;have c1:=L2.c1;have c2:=L2.c2;have c3:=L2.c3;have f0:=L2.f 0;have f1:=L2.f 1;have f2:=L2.f 2;have f3:=L2.f 3;have HL:=hD L2;clear L1 L2 b2;clear hx;go_wp2;have A5:=HL.out.put (r':=60000) (d':=⟨#[]⟩) (s':=0) (v':=.slice none 0 0);have b5:=zbd (a:=.int .i64 60000) (b:=.string ⟨#[]⟩) (c:=.int .i64 0) (d:=.slice none 0 0) b3 (Nat.le_refl w.heap.size);change bodyPost _ _ _ _ _ (put4 _ w.heap.size (.int .i64 60000) (.string ⟨#[]⟩) (.int .i64 0) (.slice none 0 0));generalize put4 _ _ _ _ _ _=W5 at A5 b5 ⊢;have d0:=A5.c0;have d1:=A5.c1';have d2:=A5.c2';have d3:=A5.c3';exact bodyPost_ret (v:=.tuple #[.agg #[.int .i64 60000,.string ⟨#[]⟩,.int .i64 0,.slice none 0 0],.int .i64 0]) (by simp[results,Tryz.results4,go_sem,d0,d1,d2,d3]) rfl ⟨rfl,b5⟩
end nE
namespace eg
open Go.RowKit Go.WideShapes Go.Deep
open bx bl
open lg (LV recR)
theorem own_kept{w w':World}{B e s n:Nat}{v:Value}{xs:List Value}(h:w.ownsRow B e s v n xs)(hw:∀q,B≤q→q<w.heap.size→w'.heap[q]?=w.heap[q]?):w'.ownsRow B e s v n xs:=by
 obtain⟨h1,h2⟩:=h;refine⟨h1,?_⟩
 rcases h2 with h2|⟨g,cap,cur,rfl,hg,hc,hr⟩
 ·exact .inl h2
 ·exact .inr ⟨g,cap,cur,rfl,hg,by rw[hw g hg (Array.getElem?_eq_some_iff.1 hc).1];exact hc,hr⟩
theorem zda{w w':World}{B:Nat}{v:Value}{L:List (mu.Mu×Value)}(h:dm.OwnM w B v L)(hw:∀q,B≤q→q<w.heap.size→w'.heap[q]?=w.heap[q]?):dm.OwnM w' B v L:=⟨own_kept h.1 hw,λp hp=>own_kept (h.2 p hp) hw⟩
def Z4(w:World)(g:Nat):Prop:=zae w g 27 0 ⟨#[]⟩ 0 (.slice none 0 0)
theorem z4_of{w:World}{g:Nat}(h:w.heap[g]?=some (.cells #[.int .i64 0,.string ⟨#[]⟩,.int .i64 0,.slice none 0 0] 27 (0,0))):Z4 w g:=h
structure Got (wr:World) (r:Int) (d:ByteArray) (s:Int) (bs:List Bx) (M:mu.Mu) (G:Nat) (r':Int) (d':ByteArray) (s':Int) (L:Value) (ys:List Bx) (us:Nat→Value×Value) (c:Int) (wx:World):Prop where
 cm:Cm r d s bs M r' d' s' ys c
 lies:zae wx G 27 r' d' s' L
 own:∃B,wr.heap.size≤B∧OwnL wx B L ys us
 at_:wr.heap.size≤G
 bel:Below wr.heap.size wr wx
theorem got_new{wr W w':World}{r:Int}{d:ByteArray}{s:Int}{bs:List Bx}{M:mu.Mu}{r':Int}{d':ByteArray}{s':Int}{L:Value}{ys:List Bx}{us:Nat→Value×Value}{c:Int}(hm:Cm r d s bs M r' d' s' ys c)(hW:Below wr.heap.size wr W)(hb:Below W.heap.size W w')(ho:OwnL w' W.heap.size L ys us) :
  Got wr r d s bs M w'.heap.size r' d' s' L ys us c (w'.alloc (.cells #[.int .i64 r',.string d',.int .i64 s',L] 27)) :=
 ⟨hm,zbg w' _ _ _ _ _,⟨W.heap.size,hW.size,zaC ho ((Below.refl _ w').alloc lR _)⟩,Nat.le_trans hW.size hb.size,(hW.trans (hb.mono hW.size)).alloc (Nat.le_trans hW.size hb.size) _⟩
theorem got_put{wr W w':World}{r:Int}{d:ByteArray}{s:Int}{bs:List Bx}{M:mu.Mu}{r':Int}{d':ByteArray}{s':Int}{L:Value}{ys:List Bx}{us:Nat→Value×Value}{c:Int}(hm:Cm r d s bs M r' d' s' ys c)(hW:Below wr.heap.size wr W)(hg:wr.heap.size<W.heap.size)(hb:Below W.heap.size W w')(ho:OwnL w' W.heap.size L ys us)(hz:Z4 w' wr.heap.size) :
  Got wr r d s bs M wr.heap.size r' d' s' L ys us c ((((w'.setCell ⟨wr.heap.size,0,none⟩ (.int .i64 r')).setCell ⟨wr.heap.size,1,none⟩ (.string d')).setCell ⟨wr.heap.size,2,none⟩ (.int .i64 s')).setCell ⟨wr.heap.size,3,none⟩ L):=by
 refine⟨hm,heap_setCell_same _ _ 3 _ _ _ (heap_setCell_same _ _ 2 _ _ _ (heap_setCell_same _ _ 1 _ _ _ (heap_setCell_same _ _ 0 _ _ _ hz))),⟨W.heap.size,hW.size,zbj ho λq hq=>?_⟩,Nat.le_refl _,((((hW.trans (hb.mono hW.size)).setCell (p:=⟨wr.heap.size,0,none⟩) lR _).setCell (p:=⟨wr.heap.size,1,none⟩) lR _).setCell (p:=⟨wr.heap.size,2,none⟩) lR _).setCell (p:=⟨wr.heap.size,3,none⟩) lR _⟩;have hne:q≠wr.heap.size:=by omega
 rw[heap_setCell_other _ ⟨wr.heap.size,3,none⟩ q _ hne,heap_setCell_other _ ⟨wr.heap.size,2,none⟩ q _ hne,heap_setCell_other _ ⟨wr.heap.size,1,none⟩ q _ hne,heap_setCell_other _ ⟨wr.heap.size,0,none⟩ q _ hne]
theorem Got.below{wr w w':World}{r:Int}{d:ByteArray}{s:Int}{bs:List Bx}{M:mu.Mu}{G:Nat}{r':Int}{d':ByteArray}{s':Int}{L:Value}{ys:List Bx}{us:Nat→Value×Value}{c:Int}(h:Got wr r d s bs M G r' d' s' L ys us c w)(hb:Below w.heap.size w w'):Got wr r d s bs M G r' d' s' L ys us c w':=by
 obtain⟨h1,h2,⟨B,h3,h4⟩,h5,h6⟩:=h;exact⟨h1,h2.keep hb,⟨B,h3,zaC h4 hb⟩,h5,h6.trans (hb.mono h6.size)⟩
structure Inv (w2:World) (P:Nat) (B0:Nat) (v:Value) (LL:List (mu.Mu×Value)) (r:Int) (d:ByteArray) (s:Int) (V:Value) (bs:List Bx) (vs:Nat→Value×Value) (wr:World):Prop where
 lies:zae wr P 27 r d s V
 own:∃B,P<B∧OwnL wr B V bs vs
 sml:zac bs
 cn:Cn r d s bs
 list:dm.OwnM wr B0 v LL
 bel:Below P w2 wr
theorem Inv.below{w2:World}{P B0:Nat}{v:Value}{LL:List (mu.Mu×Value)}{r:Int}{d:ByteArray}{s:Int}{V:Value}{bs:List Bx}{vs:Nat→Value×Value}{w w':World}(h:Inv w2 P B0 v LL r d s V bs vs w)(hb:Below w.heap.size w w'):Inv w2 P B0 v LL r d s V bs vs w':=by
 obtain⟨h1,⟨B,h2,h3⟩,h4,h5,h6,h7⟩:=h;exact⟨h1.keep hb,⟨B,h2,zaC h3 hb⟩,h4,h5,zda h6 (λq _ hq=>hb.block q hq),h7.trans (hb.mono (Nat.le_of_lt h1.lt))⟩
theorem inv_put{w2 wr:World}{P B0:Nat}{v:Value}{LL:List (mu.Mu×Value)}{r:Int}{d:ByteArray}{s:Int}{V:Value}{bs:List Bx}{vs:Nat→Value×Value}{w0:World}{M:mu.Mu}{G:Nat}{r':Int}{d':ByteArray}{s':Int}{L:Value}{ys:List Bx}{us:Nat→Value×Value}{c:Int}(h:Inv w2 P B0 v LL r d s V bs vs wr)(hB:P<B0)(hP:P<w0.heap.size)(hg:Got w0 r d s bs M G r' d' s' L ys us c wr)(hm:mu.mok M=true)(hs:mu.Small M) :
  Inv w2 P B0 v LL r' d' s' L ys us ((((wr.setCell ⟨P,0,none⟩ (.int .i64 r')).setCell ⟨P,1,none⟩ (.string d')).setCell ⟨P,2,none⟩ (.int .i64 s')).setCell ⟨P,3,none⟩ L):=by
 obtain⟨g1,g2,⟨B,g3,g4⟩,g5,g6⟩:=hg;have hoth:∀q,q≠P→((((wr.setCell ⟨P,0,none⟩ (.int .i64 r')).setCell ⟨P,1,none⟩ (.string d')).setCell ⟨P,2,none⟩ (.int .i64 s')).setCell ⟨P,3,none⟩ L).heap[q]?=wr.heap[q]?:=λq hne=>by
  rw[heap_setCell_other _ ⟨P,3,none⟩ q _ hne,heap_setCell_other _ ⟨P,2,none⟩ q _ hne,heap_setCell_other _ ⟨P,1,none⟩ q _ hne,heap_setCell_other _ ⟨P,0,none⟩ q _ hne]
 refine⟨heap_setCell_same _ _ 3 _ _ _ (heap_setCell_same _ _ 2 _ _ _ (heap_setCell_same _ _ 1 _ _ _ (heap_setCell_same _ _ 0 _ _ _ h.lies))),⟨B,by omega,zbj g4 λq hq=>hoth q (by omega)⟩,(cm_small h.sml hs g1).1,(cn_step h.cn hm g1).1,zda h.list (λq hq _=>hoth q (by omega)),?_⟩;exact(((h.bel.setCell (p:=⟨P,0,none⟩) lR _).setCell (p:=⟨P,1,none⟩) lR _).setCell (p:=⟨P,2,none⟩) lR _).setCell (p:=⟨P,3,none⟩) lR _
theorem Inv.bag{w2:World}{P B0:Nat}{v:Value}{LL:List (mu.Mu×Value)}{r:Int}{d:ByteArray}{s:Int}{V:Value}{bs:List Bx}{vs:Nat→Value×Value}{w:World}(h:Inv w2 P B0 v LL r d s V bs vs w):kp.Bag w V bs vs:=by
 obtain⟨B,_,ho⟩:=h.own;exact kp.bag_of ho h.sml (cn_sok h.cn)
theorem ownL_form{w:World}{B:Nat}{L:Value}{ys:List Bx}{us:Nat→Value×Value}(h:OwnL w B L ys us):∃a n c,L=.slice a n c:=by
 have ho:=h.1
 rcases ho.2 with⟨rfl,_⟩|⟨g,cap,cur,rfl,_⟩
 ·exact⟨_,_,_,rfl⟩
 ·exact⟨_,_,_,rfl⟩
end eg
end Go.Proofs.YtmnflpmfngjllaaGreatDoor
