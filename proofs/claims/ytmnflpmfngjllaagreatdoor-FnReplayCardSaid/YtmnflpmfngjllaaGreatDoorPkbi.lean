/-
  FnReplayCardSaid
-/
import Derived.Test.YtmnflpmfngjllaaGreatDoorPkbh
import Derived.Defers
set_option maxHeartbeats 16000000
set_option maxRecDepth 100000
set_option linter.unusedVariables false
namespace Go.Proofs.YtmnflpmfngjllaaGreatDoor
namespace eg
open Go.RowKit Go.WideShapes
open bx bl
open lg (LV fr)
def put4(w:World)(g:Nat)(a b c d:Value):World:=(((w.setCell ⟨g,0,none⟩ a).setCell ⟨g,1,none⟩ b).setCell ⟨g,2,none⟩ c).setCell ⟨g,3,none⟩ d
theorem zae.put{w:World}{b:Nat}{T:TypeId}{r:Int}{d:ByteArray}{s:Int}{v:Value}{r':Int}{d':ByteArray}{s':Int}{v':Value}(h:zae w b T r d s v):zae (put4 w b (.int .i64 r') (.string d') (.int .i64 s') v') b T r' d' s' v' :=
 heap_setCell_same _ b 3 _ _ _ (heap_setCell_same _ b 2 _ _ _ (heap_setCell_same _ b 1 _ _ _ (heap_setCell_same _ b 0 _ _ _ h)))
theorem zbd{B g:Nat}{w0 w:World}{a b c d:Value}(k:Below B w0 w)(hb:B≤g):Below B w0 (put4 w g a b c d) :=
 (((k.setCell (p:=⟨g,0,none⟩) hb _).setCell (p:=⟨g,1,none⟩) hb _).setCell (p:=⟨g,2,none⟩) hb _).setCell (p:=⟨g,3,none⟩) hb _
theorem zbU(w:World)(g q:Nat)(a b c d:Value)(h:q≠g):(put4 w g a b c d).heap[q]?=w.heap[q]?:=by
 unfold put4;rw[heap_setCell_other _ _ _ _ h,heap_setCell_other _ _ _ _ h,heap_setCell_other _ _ _ _ h,heap_setCell_other _ _ _ _ h]
theorem put4_size(w:World)(g:Nat)(a b c d:Value):(put4 w g a b c d).heap.size=w.heap.size:=by
 unfold put4;simp
theorem own_hi{w w':World}{B e s n:Nat}{v:Value}{xs:List Value}(h:w.ownsRow B e s v n xs)(hw:∀q,B≤q→w'.heap[q]?=w.heap[q]?):w'.ownsRow B e s v n xs:=by
 obtain⟨h1,h2⟩:=h;refine⟨h1,?_⟩
 rcases h2 with h2|⟨g,cap,cur,e1,hb,hh,r⟩
 ·exact .inl h2
 ·exact .inr ⟨g,cap,cur,e1,hb,(hw g hb).trans hh,r⟩
theorem zbj{w w':World}{B:Nat}{v:Value}{xs:List Bx}{vs:Nat→Value×Value}(h:OwnL w B v xs vs)(hw:∀q,B≤q→w'.heap[q]?=w.heap[q]?):OwnL w' B v xs vs :=
 ⟨own_hi h.1 hw,λj hj=>⟨own_hi (h.2.1 j hj).1 hw,own_hi (h.2.1 j hj).2 hw⟩,h.2.2⟩
theorem copiedE_any(r:Int)(d:ByteArray)(s:Int)(v:Value)(bs:List Bx)(vs:Nat→Value×Value)(w:World)(hB:zaa w v bs vs)(hv:Fine v)(hf:zal bs vs)(hs:zac bs)(hd:d.size≤1048576) :
  Calls Tryz.prog 61 #[EV r d s v] w λe w'=>(∃L us,e=.returned (EV r d s L)∧OwnL w' (w.heap.size+2) L bs us)∧Below w.heap.size w w':=by
 have HA:Hid (zaa w v bs vs∧Fine v∧zal bs vs∧zac bs):=⟨hB,hv,hf,hs⟩
 obtain⟨⟨a,cap,rfl,_⟩,_⟩:=hB;clear hv hf hs;obtain⟨W,hW⟩:∃W,W=((w.alloc (.cells #[.int .i64 r,.string d,.int .i64 s,.slice a bs.length cap] 27)).alloc (.cells #[.int .i64 0,.string ⟨#[]⟩,.int .i64 0,.slice none 0 0] 27)):=⟨_,rfl⟩
 unfold EV;go_enter Tryz.func61,Tryz.ntmps61
 go_wp2_with fail
 have b2:Below w.heap.size w W:=by rw[hW];exact(new_below w _ _).alloc (by simp) _
 have sz:W.heap.size=w.heap.size+2:=by rw[hW];simp
 have k0:zae W w.heap.size 27 r d s (.slice a bs.length cap):=by
  rw[hW];exact(zbg w 27 r d s (.slice a bs.length cap)).keep (new_below _ _ _)
 have k1:zae W (w.heap.size+1) 27 0 ⟨#[]⟩ 0 (.slice none 0 0):=by
  have:=zbg (w.alloc (.cells #[.int .i64 r,.string d,.int .i64 s,.slice a bs.length cap] 27)) 27 0 ⟨#[]⟩ 0 (.slice none 0 0);rw[show(w.alloc (.cells #[.int .i64 r,.string d,.int .i64 s,.slice a bs.length cap] 27)).heap.size=w.heap.size+1 by simp] at this;rw[hW];exact this
 rw[←hW];clear hW;have HK:Hid (∀x,Below W.heap.size W x→zae x w.heap.size 27 r d s (.slice a bs.length cap)∧zae x (w.heap.size+1) 27 0 ⟨#[]⟩ 0 (.slice none 0 0)):=λx hx=>⟨k0.keep hx,k1.keep hx⟩
 have HB2:=hD b2;have HC:Hid (∀x,Below W.heap.size W x→Calls Tryz.prog 103 #[.slice a bs.length cap] x λe w'=>(∃La Ln Lc us,e=.returned (.slice La Ln Lc)∧Hid (OwnL w' (w.heap.size+2) (.slice La Ln Lc) bs us))∧Below W.heap.size W w'):=λx hx =>
  (copied_all _ bs vs x (zap HA.out.1 (HB2.out.trans (hx.mono HB2.out.size))) HA.out.2.1 HA.out.2.2.1 HA.out.2.2.2).mono λe w' ⟨⟨L,us,he,hO⟩,hb⟩=>by
   obtain⟨La,Ln,Lc,rfl⟩:=zak (zaj hO.1);exact⟨⟨La,Ln,Lc,us,he,sa.zbI hO (by rw[←sz];exact hx.size)⟩,hx.trans (hb.mono hx.size)⟩
 have HL:Hid (∀x,Below W.heap.size W x→Calls Tryz.prog 102 #[.agg #[.int .i64 r,.string d,.int .i64 s]] x λe w'=>e=.returned (.agg #[.int .i64 r,.string d,.int .i64 s])∧Below W.heap.size W w'):=λx hx =>
  (lg.zcY r d s x hd).mono λe w' ⟨he,hb⟩=>⟨he,hx.trans (hb.mono hx.size)⟩
 have hD0:Below W.heap.size W W.drew:=bR.drew;have q0:=(HK.out _ hD0).1.c0;have q1:=(HK.out _ hD0).1.c1;have q2:=(HK.out _ hD0).1.c2;have q3:=(HK.out _ hD0).1.c3;have HSZ:=hD sz;clear k0 k1 b2 sz HA
 go_region_with (first|(go_at_call 102;refine(HL.out _ hD0).mono ?_;rintro e x1 ⟨rfl,hb1⟩;have t0:=(HK.out _ hb1).1.c0;have t1:=(HK.out _ hb1).1.c1;have t2:=(HK.out _ hb1).1.c2;have t3:=(HK.out _ hb1).1.c3)|(go_at_call 103;refine(HC.out _ hb1).mono ?_;rintro e x2 ⟨⟨La,Ln,Lc,us,rfl,hO⟩,hb2⟩;have e0:=(HK.out _ hb2).2.c0;have e1:=(HK.out _ hb2).2.c1;have e2:=(HK.out _ hb2).2.c2;have e3:=(HK.out _ hb2).2.c3;have f0:=(HK.out _ hb2).2.f 0;have f1:=(HK.out _ hb2).2.f 1;have f2:=(HK.out _ hb2).2.f 2;have f3:=(HK.out _ hb2).2.f 3))
 all_goals
  go_wp2;change bodyPost _ _ _ _ _ (put4 x2 (w.heap.size+1) (.int .i64 r) (.string d) (.int .i64 s) (.slice La Ln Lc));have A5:=(HK.out _ hb2).2.put (r':=r) (d':=d) (s':=s) (v':=.slice La Ln Lc);have b5:=zbd (a:=.int .i64 r) (b:=.string d) (c:=.int .i64 s) (d:=.slice La Ln Lc) (HB2.out.trans (hb2.mono HB2.out.size)) (Nat.le_succ w.heap.size);have O5:=zbj hO.out (w':=put4 x2 (w.heap.size+1) (.int .i64 r) (.string d) (.int .i64 s) (.slice La Ln Lc)) (λq hq=>zbU _ _ _ _ _ _ _ (by omega));generalize put4 _ _ _ _ _ _=W5 at A5 b5 O5 ⊢;have d0:W5.cell? ⟨w.heap.size+1,0,none⟩=some (.int .i64 r):=A5.c0;have d1:W5.cell? ⟨w.heap.size+1,1,none⟩=some (.string d):=A5.c1;have d2:W5.cell? ⟨w.heap.size+1,2,none⟩=some (.int .i64 s):=A5.c2;have d3:W5.cell? ⟨w.heap.size+1,3,none⟩=some (.slice La Ln Lc):=A5.c3;exact bodyPost_ret (v:=.agg #[.int .i64 r,.string d,.int .i64 s,.slice La Ln Lc]) (by simp[results,Tryz.results61,go_sem,d0,d1,d2,d3]) rfl ⟨⟨_,us,rfl,O5⟩,b5⟩
end eg
namespace eg
open Go.RowKit Go.WideShapes
open bx bl
open lg (LV RV fr app1)
theorem zcB{w:World}{g:Nat}{T:TypeId}(h:zae w g T 0 ⟨#[]⟩ 0 (.slice none 0 0)){i:Nat}{y:Value}(hc:w.cell? ⟨g,i,none⟩=some y):(i=0∧y=.int .i64 0)∨(i=1∧y=.string ⟨#[]⟩)∨(i=2∧y=.int .i64 0)∨(i=3∧y=.slice none 0 0):=by
 rw[cell_of_row w _ _ _ _ _ h] at hc
 match i,hc with
 | 0,hc=>exact .inl ⟨rfl,by simpa using hc.symm⟩
 | 1,hc=>exact .inr (.inl ⟨rfl,by simpa using hc.symm⟩)
 | 2,hc=>exact .inr (.inr (.inl ⟨rfl,by simpa using hc.symm⟩))
 | 3,hc=>exact .inr (.inr (.inr ⟨rfl,by simpa using hc.symm⟩))
 | n+4,hc=>simp at hc
theorem mails_eng{w w':World}{n g:Nat}{T:TypeId}{u:Value}{ms:List st.St}(h:st.za5 w n u ms)(hg:zae w g T 0 ⟨#[]⟩ 0 (.slice none 0 0))(hw:∀q,q≠g→w'.heap[q]?=w.heap[q]?):st.za5 w' n u ms:=by
 obtain⟨a,cap,e,h⟩:=h;refine⟨a,cap,e,?_⟩
 rcases h with h|⟨b,off,rfl,hb,h⟩
 ·exact .inl h
 ·refine .inr ⟨b,off,rfl,hb,λj hj=>?_⟩;obtain⟨h0,h1,h2⟩:=h j hj;have hne:b≠g:=by
   rintro rfl
   rcases zcB hg h0 with⟨i0,y0⟩|⟨i0,y0⟩|⟨i0,y0⟩|⟨i0,y0⟩<;>rcases zcB hg h1 with⟨i1,y1⟩|⟨i1,y1⟩|⟨i1,y1⟩|⟨i1,y1⟩<;>first|cases y0;done|cases y1;done|omega
  have hb':=hw b hne;exact⟨by rw[←h0];simp only[World.cell?,hb'],by rw[←h1];simp only[World.cell?,hb'],by rw[←h2];simp only[World.cell?,hb']⟩
theorem texts_eng{w w':World}{n g:Nat}{T:TypeId}{u:Value}{ks:List ByteArray}(h:tx.zaU w n u ks)(hk:∀j,j<ks.length→1≤(ks.getD j ky.nt).size)(hg:zae w g T 0 ⟨#[]⟩ 0 (.slice none 0 0))(hw:∀q,q≠g→w'.heap[q]?=w.heap[q]?):tx.zaU w' n u ks:=by
 obtain⟨a,cap,e,h⟩:=h;refine⟨a,cap,e,?_⟩
 rcases h with h|⟨b,off,rfl,hb,h⟩
 ·exact .inl h
 ·refine .inr ⟨b,off,rfl,hb,λj hj=>?_⟩;have h0:=h j hj;have hne:b≠g:=by
   rintro rfl
   rcases zcB hg h0 with⟨i0,y0⟩|⟨i0,y0⟩|⟨i0,y0⟩|⟨i0,y0⟩
   ·cases y0
   ·have:=hk j hj;rw[Value.string.inj y0] at this;exact absurd this (by decide)
   ·cases y0
   ·cases y0
  rw[←h0];simp only[World.cell?,hw b hne]
theorem boxes_eng{w w':World}{g:Nat}{T:TypeId}{L:Value}{ys:List Bx}{us:Nat→Value×Value}(h:zaa w L ys us)(hok:sok ys=true)(hg:zae w g T 0 ⟨#[]⟩ 0 (.slice none 0 0))(hw:∀q,q≠g→w'.heap[q]?=w.heap[q]?)(hs:w'.heap.size=w.heap.size):zaa w' L ys us:=by
 obtain⟨⟨a,cap,e,h⟩,h2⟩:=h;unfold zaa;rw[hs];refine⟨⟨a,cap,e,?_⟩,λj hj=>⟨mails_eng (h2 j hj).1 hg hw,texts_eng (h2 j hj).2 (λi hi=>?_) hg hw⟩⟩
 ·rcases h with h|⟨b,off,rfl,hb,h⟩
  ·exact .inl h
  ·refine .inr ⟨b,off,rfl,hb,λj hj=>?_⟩;obtain⟨h0,h1,h2,h3,h4⟩:=h j hj;have hne:b≠g:=by
    rintro rfl
    rcases zcB hg h0 with⟨i0,y0⟩|⟨i0,y0⟩|⟨i0,y0⟩|⟨i0,y0⟩<;>rcases zcB hg h2 with⟨i1,y1⟩|⟨i1,y1⟩|⟨i1,y1⟩|⟨i1,y1⟩<;>first|cases y0;done|cases y1;done|omega
   have hb':=hw b hne;exact⟨by rw[←h0];simp only[World.cell?,hb'],by rw[←h1];simp only[World.cell?,hb'],by rw[←h2];simp only[World.cell?,hb'],by rw[←h3];simp only[World.cell?,hb'],by rw[←h4];simp only[World.cell?,hb']⟩
 ·have:=(sa.zbP.1 ((sok_of hok).2 j hj).1).2.2.2.2.2.1.2;exact(this i hi).1
theorem ownE_any(r:Int)(d:ByteArray)(s:Int)(v:Value)(bs:List Bx)(vs:Nat→Value×Value)(w:World)(hB:zaa w v bs vs)(hf:zal bs vs)(hs:zac bs) :
  Calls Tryz.prog 20 #[EV r d s v] w λe w'=>(∃L us,e=.returned (EV r d s L)∧OwnL w' (w.heap.size+2) L bs us)∧Below w.heap.size w w':=by
 have HA:Hid (zaa w v bs vs∧zal bs vs∧zac bs):=⟨hB,hf,hs⟩
 obtain⟨⟨a,cap,rfl,_⟩,_⟩:=hB;clear hf hs;obtain⟨W,hW⟩:∃W,W=((w.alloc (.cells #[.int .i64 r,.string d,.int .i64 s,.slice a bs.length cap] 27)).alloc (.cells #[.int .i64 0,.string ⟨#[]⟩,.int .i64 0,.slice none 0 0] 27)):=⟨_,rfl⟩
 unfold EV;go_enter Tryz.func20,Tryz.ntmps20
 go_wp2_with fail
 have b2:Below w.heap.size w W:=by rw[hW];exact(new_below w _ _).alloc (by simp) _
 have sz:W.heap.size=w.heap.size+2:=by rw[hW];simp
 have k0:zae W w.heap.size 27 r d s (.slice a bs.length cap):=by
  rw[hW];exact(zbg w 27 r d s (.slice a bs.length cap)).keep (new_below _ _ _)
 have k1:zae W (w.heap.size+1) 27 0 ⟨#[]⟩ 0 (.slice none 0 0):=by
  have:=zbg (w.alloc (.cells #[.int .i64 r,.string d,.int .i64 s,.slice a bs.length cap] 27)) 27 0 ⟨#[]⟩ 0 (.slice none 0 0);rw[show(w.alloc (.cells #[.int .i64 r,.string d,.int .i64 s,.slice a bs.length cap] 27)).heap.size=w.heap.size+1 by simp] at this;rw[hW];exact this
 rw[←hW];clear hW;refine(zcR _ bs vs W (zap HA.out.1 b2) HA.out.2.1 HA.out.2.2).mono ?_;rintro e w2 ⟨⟨L,us,rfl,hO⟩,hb2⟩;obtain⟨La,Ln,Lc,rfl⟩:=zak (zaj hO.1);rw[sz] at hO;have HO:=hD hO;have m0:=k0.keep hb2;have m1:=k1.keep hb2;have HM:Hid (zae w2 w.heap.size 27 r d s (.slice a bs.length cap)∧zae w2 (w.heap.size+1) 27 0 ⟨#[]⟩ 0 (.slice none 0 0)):=⟨m0,m1⟩
 have HB:=hD (b2.trans (hb2.mono b2.size));clear k0 k1 b2 sz hO hb2 HA;have c0:=m0.c0;have c1:=m0.c1;have c2:=m0.c2;have c3:=m0.c3;have f3:=m0.f 3;have f3':w2.frozen? ⟨w.heap.size,0+3,none⟩=false:=m0.f 3;have e0:=m1.c0;have e1:=m1.c1;have e2:=m1.c2;have e3:=m1.c3;have g0:=m1.f 0;have g1:=m1.f 1;have g2:=m1.f 2;have g3:=m1.f 3;clear m0 m1;go_wp2;change bodyPost _ _ _ _ _ (put4 (w2.setCell ⟨w.heap.size,3,none⟩ (.slice La Ln Lc)) (w.heap.size+1) (.int .i64 r) (.string d) (.int .i64 s) (.slice La Ln Lc));have M1:zae (w2.setCell ⟨w.heap.size,3,none⟩ (.slice La Ln Lc)) (w.heap.size+1) 27 0 ⟨#[]⟩ 0 (.slice none 0 0):=(heap_setCell_other w2 ⟨w.heap.size,3,none⟩ (w.heap.size+1) _ (by simp)).trans HM.out.2;have A5:=M1.put (r':=r) (d':=d) (s':=s) (v':=.slice La Ln Lc);have b4:Below w.heap.size w (w2.setCell ⟨w.heap.size,3,none⟩ (.slice La Ln Lc)):=HB.out.setCell (p:=⟨w.heap.size,3,none⟩) lR _;have b5:=zbd (a:=.int .i64 r) (b:=.string d) (c:=.int .i64 s) (d:=.slice La Ln Lc) b4 (Nat.le_succ w.heap.size);have O5:=zbj HO.out (w':=put4 (w2.setCell ⟨w.heap.size,3,none⟩ (.slice La Ln Lc)) (w.heap.size+1) (.int .i64 r) (.string d) (.int .i64 s) (.slice La Ln Lc)) (λq hq=>(zbU _ _ _ _ _ _ _ (by omega)).trans (heap_setCell_other w2 ⟨w.heap.size,3,none⟩ q _ (by simp;omega)));generalize put4 _ _ _ _ _ _=W5 at A5 b5 O5 ⊢;have d0:W5.cell? ⟨w.heap.size+1,0,none⟩=some (.int .i64 r):=A5.c0;have d1:W5.cell? ⟨w.heap.size+1,1,none⟩=some (.string d):=A5.c1;have d2:W5.cell? ⟨w.heap.size+1,2,none⟩=some (.int .i64 s):=A5.c2;have d3:W5.cell? ⟨w.heap.size+1,3,none⟩=some (.slice La Ln Lc):=A5.c3;exact bodyPost_ret (v:=.agg #[.int .i64 r,.string d,.int .i64 s,.slice La Ln Lc]) (by simp[results,Tryz.results20,go_sem,d0,d1,d2,d3]) rfl ⟨⟨_,us,rfl,O5⟩,b5⟩
end eg
namespace eg
open Go.RowKit Go.WideShapes
open bx bl
open lg (LV RV fr app1)
theorem zbK{w:World}{B e s n:Nat}{v:Value}{xs:List Value}(h:w.ownsRow B e s v n xs):∃a c,v=.slice a n c:=by
 rcases h.2 with⟨rfl,h0⟩|⟨g,cap,cur,rfl,_⟩
 ·exact⟨none,0,by rw[h0]⟩
 ·exact⟨_,_,rfl⟩
theorem mbt_size(M:mu.Mu):(mbt M).size=(mb.mB M).length:=by simp[mbt,ByteArray.size]
def LiesM(w:World)(b:Nat)(M:mu.Mu)(iv:Value):Prop:=mu.Lies w b 35 M iv
theorem two_lie(w:World)(r:Int)(d:ByteArray)(s:Int)(v:Value)(M:mu.Mu)(iv:Value) :
  zae ((w.alloc (.cells #[.int .i64 r,.string d,.int .i64 s,v] 27)).alloc (.cells #[.int .i64 M.k,.int .i64 M.u,.int .i64 M.m,.int .i64 M.f,.string M.b,iv] 35)) w.heap.size 27 r d s v∧LiesM ((w.alloc (.cells #[.int .i64 r,.string d,.int .i64 s,v] 27)).alloc (.cells #[.int .i64 M.k,.int .i64 M.u,.int .i64 M.m,.int .i64 M.f,.string M.b,iv] 35)) (w.heap.size+1) M iv:=by
 refine⟨(zbg w 27 r d s v).keep (new_below _ _ _),?_⟩;have:=mu.zan (w.alloc (.cells #[.int .i64 r,.string d,.int .i64 s,v] 27)) 35 M iv;rw[show(w.alloc (.cells #[.int .i64 r,.string d,.int .i64 s,v] 27)).heap.size=w.heap.size+1 by simp] at this;exact this
theorem zcS(w:World)(r:Int)(d:ByteArray)(s:Int)(v:Value)(M:mu.Mu)(iv:Value) :
  zae (((w.alloc (.cells #[.int .i64 r,.string d,.int .i64 s,v] 27)).alloc (.cells #[.int .i64 M.k,.int .i64 M.u,.int .i64 M.m,.int .i64 M.f,.string M.b,iv] 35)).alloc (.cells #[.int .i64 0,.string ⟨#[]⟩,.int .i64 0,.slice none 0 0] 27)) (w.heap.size+1+1) 27 0 ⟨#[]⟩ 0 (.slice none 0 0):=by
 have:=zbg ((w.alloc (.cells #[.int .i64 r,.string d,.int .i64 s,v] 27)).alloc (.cells #[.int .i64 M.k,.int .i64 M.u,.int .i64 M.m,.int .i64 M.f,.string M.b,iv] 35)) 27 0 ⟨#[]⟩ 0 (.slice none 0 0);rw[show((w.alloc (.cells #[.int .i64 r,.string d,.int .i64 s,v] 27)).alloc (.cells #[.int .i64 M.k,.int .i64 M.u,.int .i64 M.m,.int .i64 M.f,.string M.b,iv] 35)).heap.size=w.heap.size+1+1 by simp] at this;exact this
def Ak(r:Int)(d:ByteArray)(s:Int)(bs:List Bx)(M:mu.Mu)(e:Ending):Prop:=∃k:Int,e=.returned (.int .i64 k)∧((k=0∧Cn r d s bs∧mu.mok M=true)∨(k=1∧¬(Cn r d s bs∧mu.mok M=true)))
theorem ask_any(r:Int)(d:ByteArray)(s:Int)(v:Value)(bs:List Bx)(vs:Nat→Value×Value)(M:mu.Mu)(iv:Value)(w:World)(hr:lg.In r)(hd:d.size≤1048576)(hs:lg.In s)(hB:zaa w v bs vs)(hsm:zac bs)(hcv:∀a n c,v=.slice a n c→n≤c)(hcu:∀j,j<bs.length→∀a n c,(vs j).2=.slice a n c→n≤c)(hI:it.zav w iv M.ps)(hM:mu.Small M) :
  Calls Tryz.prog 18 #[EV r d s v,mu.MV M iv] w λe w'=>Ak r d s bs M e∧Below w.heap.size w w':=by
 have HEN:Hid (∀W,Below w.heap.size w W→Calls Tryz.prog 37 #[EV r d s v] W λe w'=>Er r d s bs e∧Below W.heap.size W w'):=λW hW=>specEk_any r d s v bs vs W hr hd hs (zap hB hW) hsm hcv hcu
 have HMO:Hid (∀W,Below w.heap.size w W→Calls Tryz.prog 38 #[mu.MV M iv] W λe w'=>e=.returned (.bool (mu.mok M))∧Below W.heap.size W w'):=λW hW=>mu.spec_mok M iv W (it.zaY hI hW) hM
 obtain⟨⟨a,cap,rfl,_⟩,_⟩:=hB;obtain⟨ia,ic,rfl,_⟩:=hI;clear hr hd hs hsm hcv hcu hM;obtain⟨k0,k1⟩:=two_lie w r d s (.slice a bs.length cap) M (.slice ia M.ps.length ic);have b2:Below w.heap.size w ((w.alloc (.cells #[.int .i64 r,.string d,.int .i64 s,.slice a bs.length cap] 27)).alloc (.cells #[.int .i64 M.k,.int .i64 M.u,.int .i64 M.m,.int .i64 M.f,.string M.b,.slice ia M.ps.length ic] 35)):=(new_below w _ _).alloc (by simp) _;unfold EV mu.MV at *;have c0:=k0.c0;have c1:=k0.c1;have c2:=k0.c2;have c3:=k0.c3;go_enter Tryz.func18,Tryz.ntmps18
 go_wp2_with fail
 generalize World.alloc _ _=W at k0 k1 b2 c0 c1 c2 c3 ⊢;refine(HEN.out W b2).mono ?_;rintro e w1 ⟨⟨o,rfl,hEk⟩,hb1⟩;have b3:=b2.trans (hb1.mono b2.size);have m1:=k1.keep hb1;have d0:=m1.c0;have d1:=m1.c1;have d2:=m1.c2;have d3:=m1.c3;have d4:=m1.c4;have d5:=m1.c5;have HE:=hD hEk;clear c0 c1 c2 c3 k0 k1 b2 hb1 hEk m1 HEN
 cases o with
 | false =>
  have HA:Hid (Ak r d s bs M (.returned (.int .i64 1))):=⟨1,rfl,.inr ⟨rfl,λh=>by have:=HE.out.2 h.1;cases this⟩⟩
  go_wp2;go_ret;exact⟨HA.out,b3⟩
 | true =>
  go_wp2_with fail
  refine(HMO.out w1 b3).mono ?_;rintro e w2 ⟨rfl,hb2⟩;have b4:=b3.trans (hb2.mono b3.size);have HK:Hid (mu.mok M=true→Ak r d s bs M (.returned (.int .i64 0))):=λh=>⟨0,rfl,.inl ⟨rfl,HE.out.1 rfl,h⟩⟩
  have HN:Hid (mu.mok M=false→Ak r d s bs M (.returned (.int .i64 1))):=λh=>⟨1,rfl,.inr ⟨rfl,λh'=>by rw[h] at h';exact absurd h'.2 (by decide)⟩⟩
  clear b3 hb2 d0 d1 d2 d3 d4 d5 HMO HE
  cases hmo:mu.mok M with
  | false =>
   have HA:=HN.out hmo;clear hmo HK HN;have HA:=hD HA;go_wp2;go_ret;exact⟨HA.out,b4⟩
  | true =>
   have HA:=HK.out hmo;clear hmo HK HN;have HA:=hD HA;go_wp2;go_ret;exact⟨HA.out,b4⟩
def Lk(r:Int)(d:ByteArray)(s:Int)(bs:List Bx)(M:mu.Mu)(e:Ending)(w':World):Prop:=∃(r':Int) (d':ByteArray) (s':Int) (L:Value) (ys:List Bx) (us:Nat→Value×Value) (c:Int),e=.returned (.tuple #[.agg #[.int .i64 r',.string d',.int .i64 s',L],.int .i64 c])∧(∃zs k,sa.Am bs M zs k∧Cx r d s bs M zs k r' d' s' ys c)∧zaa w' L ys us∧zal ys us
theorem commitS_any(r:Int)(d:ByteArray)(s:Int)(v:Value)(bs:List Bx)(vs:Nat→Value×Value)(M:mu.Mu)(iv:Value)(w:World)(hr:lg.In r)(hd:d.size≤1048576)(hB:zaa w v bs vs)(hf:zal bs vs)(hsm:zac bs)(hso:sok bs=true)(hI:it.zav w iv M.ps)(hM:mu.Small M)(hmo:mu.mok M=true) :
  Calls Tryz.prog 19 #[EV r d s v,mu.MV M iv] w λe w'=>Lk r d s bs M e w'∧Below w.heap.size w w':=by
 have HAP:Hid (∀W,Below w.heap.size w W→Calls Tryz.prog 39 #[v,mu.MV M iv] W λe w'=>sa.Ls (sa.Am bs M) e w'∧Below W.heap.size W w'):=λW hW=>sa.apply_any v bs vs M iv W (zap hB hW) hf hsm (it.zaY hI hW) hM hso hmo
 have HBY:Hid (∀W,Below w.heap.size w W→Calls Tryz.prog 40 #[mu.MV M iv] W λe w'=>(∃u,e=.returned u∧ra.Own w' W.heap.size u (mb.mB M))∧Below W.heap.size W w'):=λW hW=>mb.lb_any M iv W (it.zaY hI hW) (mb.fits_of hmo)
 have HAD:Hid (∀W,(mbt M).size≤20000→Calls Tryz.prog 41 #[LV r d s,.string (mbt M)] W λe w'=>e=.returned (app1 r d s (mbt M))∧Below W.heap.size W w'):=λW hx=>lg.l08Append_any r d s (mbt M) W hd hr hx
 have HBV:Hid (zaa w v bs vs∧zal bs vs):=⟨hB,hf⟩
 have HOK:Hid (∀zs,sa.Am bs M zs 0→sok zs=true):=λzs h=>sa.am_ok hso hmo h
 obtain⟨⟨a,cap,rfl,_⟩,_⟩:=hB;obtain⟨ia,ic,rfl,_⟩:=hI;clear hr hd hf hsm hso hM hmo;obtain⟨k0,k1⟩:=two_lie w r d s (.slice a bs.length cap) M (.slice ia M.ps.length ic);have k2:=zcS w r d s (.slice a bs.length cap) M (.slice ia M.ps.length ic);have k0:=k0.keep (new_below _ 27 #[.int .i64 0,.string ⟨#[]⟩,.int .i64 0,.slice none 0 0]);have k1:LiesM (((w.alloc (.cells #[.int .i64 r,.string d,.int .i64 s,.slice a bs.length cap] 27)).alloc (.cells #[.int .i64 M.k,.int .i64 M.u,.int .i64 M.m,.int .i64 M.f,.string M.b,.slice ia M.ps.length ic] 35)).alloc (.cells #[.int .i64 0,.string ⟨#[]⟩,.int .i64 0,.slice none 0 0] 27)) (w.heap.size+1) M (.slice ia M.ps.length ic):=mu.Lies.keep k1 (new_below _ 27 #[.int .i64 0,.string ⟨#[]⟩,.int .i64 0,.slice none 0 0]);have b2:Below w.heap.size w (((w.alloc (.cells #[.int .i64 r,.string d,.int .i64 s,.slice a bs.length cap] 27)).alloc (.cells #[.int .i64 M.k,.int .i64 M.u,.int .i64 M.m,.int .i64 M.f,.string M.b,.slice ia M.ps.length ic] 35)).alloc (.cells #[.int .i64 0,.string ⟨#[]⟩,.int .i64 0,.slice none 0 0] 27)):=((new_below w _ _).alloc (by simp) _).alloc (by simp;omega) _;unfold EV;unfold mu.MV at HAP HBY ⊢;unfold LV at HAD;have c3:=k0.c3;have d0:=mu.Lies.c0 k1;have d1:=mu.Lies.c1 k1;have d2:=mu.Lies.c2 k1;have d3:=mu.Lies.c3 k1;have d4:=mu.Lies.c4 k1;have d5:=mu.Lies.c5 k1;go_enter Tryz.func19,Tryz.ntmps19
 go_wp2_with fail
 generalize World.alloc _ _=W at k0 k1 k2 b2 c3 d0 d1 d2 d3 d4 d5 ⊢;refine(HAP.out W b2).mono ?_;rintro e w1 ⟨⟨L',zs,us,k,rfl,hA,hLB,hLF⟩,hb1⟩;have HZ:Hid (zaa w1 L' zs us∧zal zs us):=⟨hLB,hLF⟩
 obtain⟨⟨La,Lc,rfl,_⟩,_⟩:=hLB;have HA:=hD hA;have HL1:Hid (zae w1 w.heap.size 27 r d s (.slice a bs.length cap)∧LiesM w1 (w.heap.size+1) M (.slice ia M.ps.length ic)∧zae w1 (w.heap.size+1+1) 27 0 ⟨#[]⟩ 0 (.slice none 0 0)):=⟨k0.keep hb1,mu.Lies.keep k1 hb1,k2.keep hb1⟩
 have HB1:=hD (b2.trans (hb1.mono b2.size));clear hLF hA c3 d0 d1 d2 d3 d4 d5 k0 k1 k2 b2 hb1 HAP;by_cases hk:k=0
 rotate_left
 ·have hk1:((k:Int) != 0)=true:=by rw[bne_iff_ne];exact hk
  have HX:Hid (∃zs k',sa.Am bs M zs k'∧Cx r d s bs M zs k' r d s bs k):=⟨zs,k,HA.out,rfl,.inl ⟨hk,rfl,rfl,rfl,rfl⟩⟩
  clear hk HA HZ;have c0:=HL1.out.1.c0;have c1:=HL1.out.1.c1;have c2:=HL1.out.1.c2;have c3:=HL1.out.1.c3;have e0:=HL1.out.2.2.c0;have e1:=HL1.out.2.2.c1;have e2:=HL1.out.2.2.c2;have e3:=HL1.out.2.2.c3;have g0:=HL1.out.2.2.f 0;have g1:=HL1.out.2.2.f 1;have g2:=HL1.out.2.2.f 2;have g3:=HL1.out.2.2.f 3;go_wp2;change bodyPost _ _ _ _ _ (put4 w1 (w.heap.size+1+1) (.int .i64 r) (.string d) (.int .i64 (s)) (.slice a bs.length cap));have A5:=HL1.out.2.2.put (r':=r) (d':=d) (s':=s) (v':=.slice a bs.length cap);have b5:=zbd (a:=.int .i64 r) (b:=.string d) (c:=.int .i64 (s)) (d:=.slice a bs.length cap) HB1.out (show w.heap.size≤w.heap.size+1+1 by omega);have B5:zaa (put4 w1 (w.heap.size+1+1) (.int .i64 r) (.string d) (.int .i64 (s)) (.slice a bs.length cap)) (.slice a bs.length cap) bs vs:=zap HBV.out.1 b5;generalize put4 _ _ _ _ _ _=W5 at A5 b5 B5 ⊢;have x0:W5.cell? ⟨w.heap.size+1+1,0,none⟩=some (.int .i64 r):=A5.c0;have x1:W5.cell? ⟨w.heap.size+1+1,1,none⟩=some (.string d):=A5.c1;have x2:W5.cell? ⟨w.heap.size+1+1,2,none⟩=some (.int .i64 (s)):=A5.c2;have x3:W5.cell? ⟨w.heap.size+1+1,3,none⟩=some (.slice a bs.length cap):=A5.c3;exact bodyPost_ret (v:=.tuple #[.agg #[.int .i64 r,.string d,.int .i64 (s),.slice a bs.length cap],.int .i64 k]) (by simp[results,Tryz.results19,go_sem,x0,x1,x2,x3]) rfl ⟨⟨_,_,_,_,bs,vs,_,rfl,HX.out,B5,HBV.out.2⟩,b5⟩
 subst hk;have d0:=mu.Lies.c0 HL1.out.2.1;have d1:=mu.Lies.c1 HL1.out.2.1;have d2:=mu.Lies.c2 HL1.out.2.1;have d3:=mu.Lies.c3 HL1.out.2.1;have d4:=mu.Lies.c4 HL1.out.2.1;have d5:=mu.Lies.c5 HL1.out.2.1
 go_wp2_with fail
 refine(HBY.out w1 HB1.out).mono ?_;rintro e w2 ⟨⟨u,rfl,hu⟩,hb2⟩;have hcv:=ow.zcd (P:=Tryz.prog) (src:=22) (dst:=9) (mb.mB M) hu Tryz.underlying22 Tryz.underlying5 Tryz.underlying9;obtain⟨ua,uc,rfl⟩:=zbK hu;have HL2:Hid (zae w2 w.heap.size 27 r d s (.slice a bs.length cap)∧zae w2 (w.heap.size+1+1) 27 0 ⟨#[]⟩ 0 (.slice none 0 0)):=⟨HL1.out.1.keep hb2,HL1.out.2.2.keep hb2⟩
 have HB2:=hD (HB1.out.trans (hb2.mono HB1.out.size));have HZ2:Hid (zaa w2 (.slice La zs.length Lc) zs us∧zal zs us):=⟨zap HZ.out.1 hb2,HZ.out.2⟩
 have hcv:(convert 22 9 (.slice ua (mb.mB M).length uc)).run Tryz.prog w2=.ok (.string (mbt M)) w2:=hcv;have HMS:=hD ((mbt_size M).symm);rw[HMS.out] at hcv ⊢;clear hu hb2 HL1 HB1 HZ d0 d1 d2 d3 d4 d5;by_cases h20:20000<(mbt M).size
 ·have h20':(20000:Int)<(((mbt M).size:Nat):Int):=by omega
  have HX:Hid (∃zs k',sa.Am bs M zs k'∧Cx r d s bs M zs k' r d s bs 7):=⟨zs,0,HA.out,rfl,.inr (.inl ⟨rfl,.inl h20,rfl,rfl,rfl,rfl⟩)⟩
  clear h20 HA HZ2 hcv;have c0:=HL2.out.1.c0;have c1:=HL2.out.1.c1;have c2:=HL2.out.1.c2;have c3:=HL2.out.1.c3;have e0:=HL2.out.2.c0;have e1:=HL2.out.2.c1;have e2:=HL2.out.2.c2;have e3:=HL2.out.2.c3;have g0:=HL2.out.2.f 0;have g1:=HL2.out.2.f 1;have g2:=HL2.out.2.f 2;have g3:=HL2.out.2.f 3;go_wp2;change bodyPost _ _ _ _ _ (put4 w2 (w.heap.size+1+1) (.int .i64 r) (.string d) (.int .i64 (s)) (.slice a bs.length cap));have A5:=HL2.out.2.put (r':=r) (d':=d) (s':=s) (v':=.slice a bs.length cap);have b5:=zbd (a:=.int .i64 r) (b:=.string d) (c:=.int .i64 (s)) (d:=.slice a bs.length cap) HB2.out (show w.heap.size≤w.heap.size+1+1 by omega);have B5:zaa (put4 w2 (w.heap.size+1+1) (.int .i64 r) (.string d) (.int .i64 (s)) (.slice a bs.length cap)) (.slice a bs.length cap) bs vs:=zap HBV.out.1 b5;generalize put4 _ _ _ _ _ _=W5 at A5 b5 B5 ⊢;have x0:W5.cell? ⟨w.heap.size+1+1,0,none⟩=some (.int .i64 r):=A5.c0;have x1:W5.cell? ⟨w.heap.size+1+1,1,none⟩=some (.string d):=A5.c1;have x2:W5.cell? ⟨w.heap.size+1+1,2,none⟩=some (.int .i64 (s)):=A5.c2;have x3:W5.cell? ⟨w.heap.size+1+1,3,none⟩=some (.slice a bs.length cap):=A5.c3;exact bodyPost_ret (v:=.tuple #[.agg #[.int .i64 r,.string d,.int .i64 (s),.slice a bs.length cap],.int .i64 7]) (by simp[results,Tryz.results19,go_sem,x0,x1,x2,x3]) rfl ⟨⟨_,_,_,_,bs,vs,_,rfl,HX.out,B5,HBV.out.2⟩,b5⟩
 have h20':(((mbt M).size:Nat):Int)≤20000:=by omega
 have HAD2:=HAD.out w2 (by omega);unfold app1 RV LV at HAD2;have c0:=HL2.out.1.c0;have c1:=HL2.out.1.c1;have c2:=HL2.out.1.c2;by_cases hroom:r<(d.size:Int)+7+(mbt M).size
 ·rw[if_pos hroom] at HAD2;have HX:Hid (∃zs k',sa.Am bs M zs k'∧Cx r d s bs M zs k' r d s bs 7):=⟨zs,0,HA.out,rfl,.inr (.inl ⟨rfl,.inr hroom,rfl,rfl,rfl,rfl⟩)⟩
  have HAD3:=hD HAD2;clear hroom HA HZ2 h20 HAD HAD2
  go_wp2_with fail
  refine HAD3.out.mono ?_;rintro e w3 ⟨rfl,hb3⟩;have hb4:=hb3.trans ((new_below w3 24 #[.int .i64 r,.string d,.int .i64 s]).mono hb3.size);have HL4:Hid (zae (w3.alloc (.cells #[.int .i64 r,.string d,.int .i64 s] 24)) w.heap.size 27 r d s (.slice a bs.length cap)∧zae (w3.alloc (.cells #[.int .i64 r,.string d,.int .i64 s] 24)) (w.heap.size+1+1) 27 0 ⟨#[]⟩ 0 (.slice none 0 0)):=⟨HL2.out.1.keep hb4,HL2.out.2.keep hb4⟩
  have HB4:=hD (HB2.out.trans (hb4.mono HB2.out.size));clear hb3 hb4 HL2 HB2 c0 c1 c2 hcv HAD3;have c0:=HL4.out.1.c0;have c1:=HL4.out.1.c1;have c2:=HL4.out.1.c2;have c3:=HL4.out.1.c3;have e0:=HL4.out.2.c0;have e1:=HL4.out.2.c1;have e2:=HL4.out.2.c2;have e3:=HL4.out.2.c3;have g0:=HL4.out.2.f 0;have g1:=HL4.out.2.f 1;have g2:=HL4.out.2.f 2;have g3:=HL4.out.2.f 3;go_wp2;change bodyPost _ _ _ _ _ (put4 (w3.alloc (.cells #[.int .i64 r,.string d,.int .i64 s] 24)) (w.heap.size+1+1) (.int .i64 r) (.string d) (.int .i64 (s)) (.slice a bs.length cap));have A5:=HL4.out.2.put (r':=r) (d':=d) (s':=s) (v':=.slice a bs.length cap);have b5:=zbd (a:=.int .i64 r) (b:=.string d) (c:=.int .i64 (s)) (d:=.slice a bs.length cap) HB4.out (show w.heap.size≤w.heap.size+1+1 by omega);have B5:zaa (put4 (w3.alloc (.cells #[.int .i64 r,.string d,.int .i64 s] 24)) (w.heap.size+1+1) (.int .i64 r) (.string d) (.int .i64 (s)) (.slice a bs.length cap)) (.slice a bs.length cap) bs vs:=zap HBV.out.1 b5;generalize put4 _ _ _ _ _ _=W5 at A5 b5 B5 ⊢;have x0:W5.cell? ⟨w.heap.size+1+1,0,none⟩=some (.int .i64 r):=A5.c0;have x1:W5.cell? ⟨w.heap.size+1+1,1,none⟩=some (.string d):=A5.c1;have x2:W5.cell? ⟨w.heap.size+1+1,2,none⟩=some (.int .i64 (s)):=A5.c2;have x3:W5.cell? ⟨w.heap.size+1+1,3,none⟩=some (.slice a bs.length cap):=A5.c3;exact bodyPost_ret (v:=.tuple #[.agg #[.int .i64 r,.string d,.int .i64 (s),.slice a bs.length cap],.int .i64 7]) (by simp[results,Tryz.results19,go_sem,x0,x1,x2,x3]) rfl ⟨⟨_,_,_,_,bs,vs,_,rfl,HX.out,B5,HBV.out.2⟩,b5⟩
 rw[if_neg hroom] at HAD2;have HX:Hid (∃zs' k',sa.Am bs M zs' k'∧Cx r d s bs M zs' k' r (d++fr (mbt M)) (((d++fr (mbt M)).size:Nat):Int) zs 0):=⟨zs,0,HA.out,rfl,.inr (.inr ⟨rfl,λh=>h.elim h20 hroom,rfl,rfl,rfl,rfl⟩)⟩
 have HSO:=hD (HOK.out zs HA.out);have HAD3:=hD HAD2;clear hroom HA h20 HAD HAD2 HOK
 go_wp2_with fail
 refine HAD3.out.mono ?_;rintro e w3 ⟨rfl,hb3⟩;have L4:=lg.zan w3 24 r (d++fr (mbt M)) s;have n4:=new_below w3 24 #[.int .i64 r,.string (d++fr (mbt M)),.int .i64 s];have hb4:=hb3.trans (n4.mono hb3.size);have HSY:Hid (∀W,Calls Tryz.prog 42 #[.agg #[.int .i64 r,.string (d++fr (mbt M)),.int .i64 s]] W λe w'=>e=.returned (.agg #[.int .i64 r,.string (d++fr (mbt M)),.int .i64 (((d++fr (mbt M)).size:Nat):Int)])∧Below W.heap.size W w'):=λW=>lg.l08Sync_any r (d++fr (mbt M)) s W
 have l0:=L4.c0;have l1:=L4.c1;have l2:=L4.c2;clear hb3 c0 c1 c2 hcv HAD3;generalize d++fr (mbt M)=D at L4 n4 hb4 HSY l0 l1 l2 HX ⊢
 go_wp2_with fail
 generalize w3.alloc _=w4 at L4 n4 hb4 l0 l1 l2 ⊢;refine(HSY.out w4).mono ?_;rintro e w5 ⟨rfl,hb5⟩;have hb6:=hb4.trans (hb5.mono hb4.size);have HL5:Hid (zae w5 w.heap.size 27 r d s (.slice a bs.length cap)∧zae w5 (w.heap.size+1+1) 27 0 ⟨#[]⟩ 0 (.slice none 0 0)):=⟨HL2.out.1.keep hb6,HL2.out.2.keep hb6⟩
 have HB5:=hD (HB2.out.trans (hb6.mono HB2.out.size));have HZ5:Hid (zaa w5 (.slice La zs.length Lc) zs us∧zal zs us):=⟨zap HZ2.out.1 hb6,HZ2.out.2⟩
 clear hb5 hb6 hb4 n4 L4 l0 l1 l2 HSY HL2 HB2 HZ2;have c0:=HL5.out.1.c0;have c1:=HL5.out.1.c1;have c2:=HL5.out.1.c2;have c3:=HL5.out.1.c3;have e0:=HL5.out.2.c0;have e1:=HL5.out.2.c1;have e2:=HL5.out.2.c2;have e3:=HL5.out.2.c3;have g0:=HL5.out.2.f 0;have g1:=HL5.out.2.f 1;have g2:=HL5.out.2.f 2;have g3:=HL5.out.2.f 3;go_wp2;change bodyPost _ _ _ _ _ (put4 w5 (w.heap.size+1+1) (.int .i64 r) (.string D) (.int .i64 (((D.size:Nat):Int))) (.slice La zs.length Lc));have A5:=HL5.out.2.put (r':=r) (d':=D) (s':=((D.size:Nat):Int)) (v':=.slice La zs.length Lc);have b5:=zbd (a:=.int .i64 r) (b:=.string D) (c:=.int .i64 (((D.size:Nat):Int))) (d:=.slice La zs.length Lc) HB5.out (show w.heap.size≤w.heap.size+1+1 by omega);have B5:zaa (put4 w5 (w.heap.size+1+1) (.int .i64 r) (.string D) (.int .i64 (((D.size:Nat):Int))) (.slice La zs.length Lc)) (.slice La zs.length Lc) zs us:=boxes_eng HZ5.out.1 HSO.out HL5.out.2 (λq hq=>zbU _ _ _ _ _ _ _ hq) (put4_size _ _ _ _ _ _);generalize put4 _ _ _ _ _ _=W5 at A5 b5 B5 ⊢;have x0:W5.cell? ⟨w.heap.size+1+1,0,none⟩=some (.int .i64 r):=A5.c0;have x1:W5.cell? ⟨w.heap.size+1+1,1,none⟩=some (.string D):=A5.c1;have x2:W5.cell? ⟨w.heap.size+1+1,2,none⟩=some (.int .i64 (((D.size:Nat):Int))):=A5.c2;have x3:W5.cell? ⟨w.heap.size+1+1,3,none⟩=some (.slice La zs.length Lc):=A5.c3;exact bodyPost_ret (v:=.tuple #[.agg #[.int .i64 r,.string D,.int .i64 (((D.size:Nat):Int)),.slice La zs.length Lc],.int .i64 0]) (by simp[results,Tryz.results19,go_sem,x0,x1,x2,x3]) rfl ⟨⟨_,_,_,_,zs,us,_,rfl,HX.out,B5,HZ5.out.2⟩,b5⟩
end eg
end Go.Proofs.YtmnflpmfngjllaaGreatDoor
