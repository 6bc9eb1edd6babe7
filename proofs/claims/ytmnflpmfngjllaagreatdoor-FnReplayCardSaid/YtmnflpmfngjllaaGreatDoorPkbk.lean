/-
  FnReplayCardSaid
-/
import Derived.Test.YtmnflpmfngjllaaGreatDoorPkbj
set_option maxHeartbeats 16000000
set_option maxRecDepth 100000
set_option linter.unusedVariables false
namespace Go.Proofs.YtmnflpmfngjllaaGreatDoor
namespace eg
open Go.RowKit Go.WideShapes
open bx bl
open lg (LV RV fr sync)
def Cr(r:Int)(d:ByteArray)(s:Int)(bs:List Bx)(M:mu.Mu)(base:Nat)(e:Ending)(w':World):Prop:=∃(r':Int) (d':ByteArray) (s':Int) (L:Value) (ys:List Bx) (us:Nat→Value×Value) (c:Int),e=.returned (.tuple #[.agg #[.int .i64 r',.string d',.int .i64 s',L],.int .i64 c])∧(∃zs k,sa.Am bs M zs k∧Cx r d s bs M zs k r' d' s' ys c)∧OwnL w' base L ys us
theorem wx_bad{r:Int}{d:ByteArray}{s:Int}{bs:List Bx}{M:mu.Mu}{zs:List Bx}{k:Int}{d':ByteArray}{ys:List Bx}{c:Int}(h:Wx r d bs M zs k d' ys c)(hc:c≠0):Cx r d s bs M zs k r d' s ys c:=by
 rcases h with⟨h1,rfl,rfl,rfl⟩|⟨h1,h2,rfl,rfl,rfl⟩|⟨_,_,_,_,h⟩
 ·exact⟨rfl,.inl ⟨h1,rfl,rfl,rfl,rfl⟩⟩
 ·exact⟨rfl,.inr (.inl ⟨h1,h2,rfl,rfl,rfl,rfl⟩)⟩
 ·exact absurd h hc
theorem wx_good{r:Int}{d:ByteArray}{s:Int}{bs:List Bx}{M:mu.Mu}{zs:List Bx}{k:Int}{d':ByteArray}{ys:List Bx}(h:Wx r d bs M zs k d' ys 0)(hok:lg.ok r d.size s=true):Cx r d s bs M zs k r d' ((d'.size:Nat):Int) ys 0∧lg.ok r d'.size s=true:=by
 rcases h with⟨h1,rfl,rfl,h⟩|⟨h1,h2,rfl,rfl,h⟩|⟨h1,h2,rfl,rfl,_⟩
 ·exact absurd h.symm h1
 ·cases h
 ·refine⟨⟨rfl,.inr (.inr ⟨h1,h2,rfl,rfl,rfl,rfl⟩)⟩,?_⟩;have hk:=of_decide_eq_true hok;have hsz:(d++fr (mbt M)).size=d.size+(7+(mbt M).size):=by rw[ByteArray.size_append,lg.zbA]
  refine decide_eq_true ?_;rw[hsz];omega
theorem committed_any(r:Int)(d:ByteArray)(s:Int)(v:Value)(bs:List Bx)(vs:Nat→Value×Value)(M:mu.Mu)(iv:Value)(w:World)(hr:lg.In r)(hd:d.size≤1048576)(hs:lg.In s)(hB:zaa w v bs vs)(hv:Fine v)(hf:zal bs vs)(hsm:zac bs)(hso:sok bs=true)(hok:lg.ok r d.size s=true)(hI:it.zav w iv M.ps)(hM:mu.Small M)(hmo:mu.mok M=true) :
  Calls Tryz.prog 17 #[EV r d s v,mu.MV M iv] w λe w'=>Cr r d s bs M (w.heap.size+1+1+1) e w'∧Below w.heap.size w w':=by
 have HWR:Hid (∀W,Below w.heap.size w W→Calls Tryz.prog 35 #[EV r d s v,mu.MV M iv] W λe w'=>Wr r d s bs M (W.heap.size+1+1+1+1) e w'∧Below W.heap.size W w'):=λW hW=>written_any r d s v bs vs M iv W hr hd hs (zap hB hW) hv hf hsm hso hok (it.zaY hI hW) hM hmo
 have HSY:Hid (∀W D,lg.ok r D.size s=true→Calls Tryz.prog 36 #[.agg #[.int .i64 r,.string D,.int .i64 s]] W λe w'=>e=.returned (.tuple #[.agg #[.int .i64 r,.string D,.int .i64 ((D.size:Nat):Int)],.int .i64 0])∧Below W.heap.size W w'):=λW D h=>(lg.impl_sync r D s W hr (by have:=of_decide_eq_true h;omega) hs).mono λe w' ⟨he,hb⟩=>⟨by rw[he];unfold sync;rw[if_pos h];rfl,hb⟩
 have HOK:=hD hok;obtain⟨⟨a,cap,rfl,_⟩,_⟩:=hB;obtain⟨ia,ic,rfl,_⟩:=hI;obtain⟨k0,k1⟩:=two_lie w r d s (.slice a bs.length cap) M (.slice ia M.ps.length ic);have k2:=zcS w r d s (.slice a bs.length cap) M (.slice ia M.ps.length ic);have k0:=k0.keep (new_below _ 27 #[.int .i64 0,.string ⟨#[]⟩,.int .i64 0,.slice none 0 0]);have k1:LiesM (((w.alloc (.cells #[.int .i64 r,.string d,.int .i64 s,.slice a bs.length cap] 27)).alloc (.cells #[.int .i64 M.k,.int .i64 M.u,.int .i64 M.m,.int .i64 M.f,.string M.b,.slice ia M.ps.length ic] 35)).alloc (.cells #[.int .i64 0,.string ⟨#[]⟩,.int .i64 0,.slice none 0 0] 27)) (w.heap.size+1) M (.slice ia M.ps.length ic):=mu.Lies.keep k1 (new_below _ 27 #[.int .i64 0,.string ⟨#[]⟩,.int .i64 0,.slice none 0 0]);have b2:Below w.heap.size w (((w.alloc (.cells #[.int .i64 r,.string d,.int .i64 s,.slice a bs.length cap] 27)).alloc (.cells #[.int .i64 M.k,.int .i64 M.u,.int .i64 M.m,.int .i64 M.f,.string M.b,.slice ia M.ps.length ic] 35)).alloc (.cells #[.int .i64 0,.string ⟨#[]⟩,.int .i64 0,.slice none 0 0] 27)):=((new_below w _ _).alloc (by simp) _).alloc (by simp;omega) _;have sz:(((w.alloc (.cells #[.int .i64 r,.string d,.int .i64 s,.slice a bs.length cap] 27)).alloc (.cells #[.int .i64 M.k,.int .i64 M.u,.int .i64 M.m,.int .i64 M.f,.string M.b,.slice ia M.ps.length ic] 35)).alloc (.cells #[.int .i64 0,.string ⟨#[]⟩,.int .i64 0,.slice none 0 0] 27)).heap.size=w.heap.size+1+1+1:=by simp
 clear hr hd hs hv hf hsm hso hM hmo hok;unfold EV mu.MV at *;have c0:=k0.c0;have c1:=k0.c1;have c2:=k0.c2;have c3:=k0.c3;have d0:=mu.Lies.c0 k1;have d1:=mu.Lies.c1 k1;have d2:=mu.Lies.c2 k1;have d3:=mu.Lies.c3 k1;have d4:=mu.Lies.c4 k1;have d5:=mu.Lies.c5 k1;go_enter Tryz.func17,Tryz.ntmps17
 go_wp2_with fail
 generalize World.alloc _ _=W at k0 k1 k2 b2 sz c0 c1 c2 c3 d0 d1 d2 d3 d4 d5 ⊢;refine(HWR.out W b2).mono ?_;rintro e x1 ⟨⟨D,L,ys,us,c,rfl,⟨zs,k,hA,hX⟩,hO⟩,hb1⟩;obtain⟨La,Ln,Lc,rfl⟩:=zak (zaj hO.1);have N1:=zbg x1 27 r D s (.slice La Ln Lc);have nb:=new_below x1 27 #[.int .i64 r,.string D,.int .i64 s,.slice La Ln Lc];have z1:=(k2.keep hb1).keep nb;have hb2:=hb1.trans (nb.mono hb1.size);have HB2:=hD (b2.trans (hb2.mono b2.size));have HO1:Hid (OwnL x1 (w.heap.size+1+1+1) (.slice La Ln Lc) ys us):=sa.zbI hO (by omega);have HA:Hid (sa.Am bs M zs k∧Wx r d bs M zs k D ys c):=⟨hA,hX⟩
 have hW1:w.heap.size+1+1+1≤x1.heap.size:=by rw[←sz];exact hb1.size
 clear c0 c1 c2 c3 d0 d1 d2 d3 d4 d5 k0 k1 k2 hO hA hX HWR hb1 hb2;by_cases hc:c=0
 rotate_left
 ·have hc1:((c:Int) == 0)=false:=by rw[beq_eq_false_iff_ne];exact hc
  have HX:Hid (∃zs k',sa.Am bs M zs k'∧Cx r d s bs M zs k' r D s ys c):=⟨zs,k,HA.out.1,wx_bad HA.out.2 hc⟩
  have n0:=N1.c0;have n1:=N1.c1;have n2:=N1.c2;have n3:=N1.c3;have HZ:=hD z1;have HO2:=hD (zaC HO1.out nb);have e0:=z1.c0;have e1:=z1.c1;have e2:=z1.c2;have e3:=z1.c3;have g0:=z1.f 0;have g1:=z1.f 1;have g2:=z1.f 2;have g3:=z1.f 3;clear hc HA N1 nb z1 HO1;go_wp2;change bodyPost _ _ _ _ _ (put4 (x1.alloc (.cells #[.int .i64 r,.string D,.int .i64 s,.slice La Ln Lc] 27)) (w.heap.size+1+1) (.int .i64 r) (.string D) (.int .i64 (s)) (.slice La Ln Lc));have A5:=(HZ.out).put (r':=r) (d':=D) (s':=s) (v':=.slice La Ln Lc);have b5:=zbd (a:=.int .i64 r) (b:=.string D) (c:=.int .i64 (s)) (d:=.slice La Ln Lc) (HB2.out) (show w.heap.size≤w.heap.size+1+1 by omega);have O5:=zbj (w':=put4 (x1.alloc (.cells #[.int .i64 r,.string D,.int .i64 s,.slice La Ln Lc] 27)) (w.heap.size+1+1) (.int .i64 r) (.string D) (.int .i64 (s)) (.slice La Ln Lc)) (HO2.out) (λq hq=>zbU _ _ _ _ _ _ _ (by omega));generalize put4 _ _ _ _ _ _=W5 at A5 b5 O5 ⊢;have x0:W5.cell? ⟨w.heap.size+1+1,0,none⟩=some (.int .i64 r):=A5.c0;have x1:W5.cell? ⟨w.heap.size+1+1,1,none⟩=some (.string D):=A5.c1;have x2:W5.cell? ⟨w.heap.size+1+1,2,none⟩=some (.int .i64 (s)):=A5.c2;have x3:W5.cell? ⟨w.heap.size+1+1,3,none⟩=some (.slice La Ln Lc):=A5.c3;exact bodyPost_ret (v:=.tuple #[.agg #[.int .i64 r,.string D,.int .i64 (s),.slice La Ln Lc],.int .i64 c]) (by simp[results,Tryz.results17,go_sem,x0,x1,x2,x3]) rfl ⟨⟨_,_,_,_,_,us,_,rfl,HX.out,O5⟩,b5⟩
 subst hc;obtain⟨hCx,hok2⟩:=wx_good HA.out.2 HOK.out;have HX:Hid (∃zs k',sa.Am bs M zs k'∧Cx r d s bs M zs k' r D ((D.size:Nat):Int) ys 0):=⟨zs,k,HA.out.1,hCx⟩
 have HSY2:Hid (∀W,Calls Tryz.prog 36 #[.agg #[.int .i64 r,.string D,.int .i64 s]] W λe w'=>e=.returned (.tuple #[.agg #[.int .i64 r,.string D,.int .i64 ((D.size:Nat):Int)],.int .i64 0])∧Below W.heap.size W w'):=λW=>HSY.out W D hok2
 have n0:=N1.c0;have n1:=N1.c1;have n2:=N1.c2;clear hCx hok2 HA HOK HSY
 go_wp2_with fail
 generalize x1.alloc _=x2 at N1 nb z1 HB2 n0 n1 n2 ⊢;refine(HSY2.out x2).mono ?_;rintro e x3 ⟨rfl,hb3⟩;have N3:=N1.keep hb3;have z3:=z1.keep hb3;have hb13:=nb.trans (hb3.mono nb.size);have HB3:=hD (HB2.out.trans (hb3.mono HB2.out.size));have HN3:Hid (zae x3 x1.heap.size 27 r D s (.slice La Ln Lc)∧zae x3 (w.heap.size+1+1) 27 0 ⟨#[]⟩ 0 (.slice none 0 0)):=⟨N3,z3⟩
 have HO3:Hid (OwnL (put3 x3 x1.heap.size r D ((D.size:Nat):Int)) (w.heap.size+1+1+1) (.slice La Ln Lc) ys us):=zaC HO1.out (put3_below hb13 (Nat.le_refl _) _ _ _);clear n0 n1 n2 N1 nb z1 HB2 hb3 hb13 HO1 HSY2;have n0:=N3.c0;have n1:=N3.c1;have n2:=N3.c2;have n3:=N3.c3;have m0:=N3.f 0;have m1:=N3.f 1;have m2:=N3.f 2;have e0:=z3.c0;have e1:=z3.c1;have e2:=z3.c2;have e3:=z3.c3;have g0:=z3.f 0;have g1:=z3.f 1;have g2:=z3.f 2;have g3:=z3.f 3;clear N3 z3;have hne:x1.heap.size≠w.heap.size+1+1:=by omega
 have hne':w.heap.size+1+1≠x1.heap.size:=by omega
 go_wp2;change bodyPost _ _ _ _ _ (put4 (put3 x3 x1.heap.size r D ((D.size:Nat):Int)) (w.heap.size+1+1) (.int .i64 r) (.string D) (.int .i64 (((D.size:Nat):Int))) (.slice La Ln Lc));have A5:=(show zae (put3 x3 x1.heap.size r D ((D.size:Nat):Int)) (w.heap.size+1+1) 27 0 ⟨#[]⟩ 0 (.slice none 0 0) from(put3_other x3 x1.heap.size (w.heap.size+1+1) r D ((D.size:Nat):Int) hne').trans HN3.out.2).put (r':=r) (d':=D) (s':=((D.size:Nat):Int)) (v':=.slice La Ln Lc);have b5:=zbd (a:=.int .i64 r) (b:=.string D) (c:=.int .i64 (((D.size:Nat):Int))) (d:=.slice La Ln Lc) (put3_below (g:=x1.heap.size) HB3.out (by omega) r D ((D.size:Nat):Int)) (show w.heap.size≤w.heap.size+1+1 by omega);have O5:=zbj (w':=put4 (put3 x3 x1.heap.size r D ((D.size:Nat):Int)) (w.heap.size+1+1) (.int .i64 r) (.string D) (.int .i64 (((D.size:Nat):Int))) (.slice La Ln Lc)) (HO3.out) (λq hq=>zbU _ _ _ _ _ _ _ (by omega));generalize put4 _ _ _ _ _ _=W5 at A5 b5 O5 ⊢;have x0:W5.cell? ⟨w.heap.size+1+1,0,none⟩=some (.int .i64 r):=A5.c0;have x1:W5.cell? ⟨w.heap.size+1+1,1,none⟩=some (.string D):=A5.c1;have x2:W5.cell? ⟨w.heap.size+1+1,2,none⟩=some (.int .i64 (((D.size:Nat):Int))):=A5.c2;have x3:W5.cell? ⟨w.heap.size+1+1,3,none⟩=some (.slice La Ln Lc):=A5.c3;exact bodyPost_ret (v:=.tuple #[.agg #[.int .i64 r,.string D,.int .i64 (((D.size:Nat):Int)),.slice La Ln Lc],.int .i64 0]) (by simp[results,Tryz.results17,go_sem,x0,x1,x2,x3]) rfl ⟨⟨_,_,_,_,_,us,_,rfl,HX.out,O5⟩,b5⟩
def CmRet(r:Int)(d:ByteArray)(s:Int)(bs:List Bx)(M:mu.Mu)(base:Nat)(e:Ending)(w':World):Prop:=∃(r':Int) (d':ByteArray) (s':Int) (L:Value) (ys:List Bx) (us:Nat→Value×Value) (c:Int),e=.returned (.tuple #[.agg #[.int .i64 r',.string d',.int .i64 s',L],.int .i64 c])∧Cm r d s bs M r' d' s' ys c∧OwnL w' base L ys us
theorem implCm_any(r:Int)(d:ByteArray)(s:Int)(v:Value)(bs:List Bx)(vs:Nat→Value×Value)(M:mu.Mu)(iv:Value)(w:World)(ec eb:Addr)(ca cb:Array Value)(ta tb:TypeId)(hr:lg.In r)(hd:d.size≤1048576)(hs:lg.In s)(hE:lg.Errs w ec eb ca cb ta tb)(hB:zaa w v bs vs)(hv:Fine v)(hf:zal bs vs)(hsm:zac bs)(hI:it.zav w iv M.ps)(hM:mu.Small M) :
  Calls Tryz.prog 6 #[EV r d s v,mu.MV M iv] w λe w'=>CmRet r d s bs M w.heap.size e w'∧Below w.heap.size w w':=by
 have HEN:Hid (∀W,Below w.heap.size w W→Calls Tryz.prog 12 #[EV r d s v] W λe w'=>Er r d s bs e∧Below W.heap.size W w'):=λW hW=>implEk_any r d s v bs vs W ec eb ca cb ta tb hr hd hs (hE.keep hW) (zap hB hW) hsm
 have HMO:Hid (∀W,Below w.heap.size w W→Calls Tryz.prog 16 #[mu.MV M iv] W λe w'=>e=.returned (.bool (mu.mok M))∧Below W.heap.size W w'):=λW hW=>mu.impl_mok M iv W (it.zaY hI hW) hM
 have HCO:Hid (∀W,Below w.heap.size w W→Cn r d s bs→mu.mok M=true→Calls Tryz.prog 17 #[EV r d s v,mu.MV M iv] W λe w'=>Cr r d s bs M (W.heap.size+1+1+1) e w'∧Below W.heap.size W w'):=λW hW hC hm=>committed_any r d s v bs vs M iv W hr hd hs (zap hB hW) hv hf hsm (cn_sok hC) hC.1 (it.zaY hI hW) hM hm
 obtain⟨⟨a,cap,rfl,_⟩,_⟩:=hB;obtain⟨ia,ic,rfl,_⟩:=hI;obtain⟨k0,k1⟩:=two_lie w r d s (.slice a bs.length cap) M (.slice ia M.ps.length ic);have k2:=zcS w r d s (.slice a bs.length cap) M (.slice ia M.ps.length ic);have k0:=k0.keep (new_below _ 27 #[.int .i64 0,.string ⟨#[]⟩,.int .i64 0,.slice none 0 0]);have k1:LiesM (((w.alloc (.cells #[.int .i64 r,.string d,.int .i64 s,.slice a bs.length cap] 27)).alloc (.cells #[.int .i64 M.k,.int .i64 M.u,.int .i64 M.m,.int .i64 M.f,.string M.b,.slice ia M.ps.length ic] 35)).alloc (.cells #[.int .i64 0,.string ⟨#[]⟩,.int .i64 0,.slice none 0 0] 27)) (w.heap.size+1) M (.slice ia M.ps.length ic):=mu.Lies.keep k1 (new_below _ 27 #[.int .i64 0,.string ⟨#[]⟩,.int .i64 0,.slice none 0 0]);have b2:Below w.heap.size w (((w.alloc (.cells #[.int .i64 r,.string d,.int .i64 s,.slice a bs.length cap] 27)).alloc (.cells #[.int .i64 M.k,.int .i64 M.u,.int .i64 M.m,.int .i64 M.f,.string M.b,.slice ia M.ps.length ic] 35)).alloc (.cells #[.int .i64 0,.string ⟨#[]⟩,.int .i64 0,.slice none 0 0] 27)):=((new_below w _ _).alloc (by simp) _).alloc (by simp;omega) _;have sz:(((w.alloc (.cells #[.int .i64 r,.string d,.int .i64 s,.slice a bs.length cap] 27)).alloc (.cells #[.int .i64 M.k,.int .i64 M.u,.int .i64 M.m,.int .i64 M.f,.string M.b,.slice ia M.ps.length ic] 35)).alloc (.cells #[.int .i64 0,.string ⟨#[]⟩,.int .i64 0,.slice none 0 0] 27)).heap.size=w.heap.size+1+1+1:=by simp
 clear hr hd hs hv hf hsm hM hE;unfold EV mu.MV at *;have c0:=k0.c0;have c1:=k0.c1;have c2:=k0.c2;have c3:=k0.c3;have d0:=mu.Lies.c0 k1;have d1:=mu.Lies.c1 k1;have d2:=mu.Lies.c2 k1;have d3:=mu.Lies.c3 k1;have d4:=mu.Lies.c4 k1;have d5:=mu.Lies.c5 k1;go_enter Tryz.func6,Tryz.ntmps6
 go_wp2_with fail
 generalize World.alloc _ _=W at k0 k1 k2 b2 sz c0 c1 c2 c3 d0 d1 d2 d3 d4 d5 ⊢;refine(HEN.out W b2).mono ?_;rintro e w1 ⟨⟨o,rfl,hEk⟩,hb1⟩;have HE:=hD hEk;have b3:=b2.trans (hb1.mono b2.size);have k0:=k0.keep hb1;have k1:LiesM w1 (w.heap.size+1) M (.slice ia M.ps.length ic):=mu.Lies.keep k1 hb1;have k2:=k2.keep hb1;clear c0 c1 c2 c3 d0 d1 d2 d3 d4 d5 b2 hb1 hEk HEN sz
 cases o with
 | false =>
  have HX:Hid (Cm r d s bs M 0 ⟨#[]⟩ 0 [] 1):=.inl ⟨λh=>absurd (HE.out.2 h.1) (by decide),rfl,rfl,rfl,rfl,rfl⟩;have HZ:=hD k2;have e0:=k2.c0;have e1:=k2.c1;have e2:=k2.c2;have e3:=k2.c3;have g0:=k2.f 0;have g1:=k2.f 1;have g2:=k2.f 2;have g3:=k2.f 3;go_wp2;change bodyPost _ _ _ _ _ (put4 (w1) (w.heap.size+1+1) (.int .i64 0) (.string ⟨#[]⟩) (.int .i64 (0)) (.slice none 0 0));have A5:=(HZ.out).put (r':=0) (d':=⟨#[]⟩) (s':=0) (v':=.slice none 0 0);have b5:=zbd (a:=.int .i64 0) (b:=.string ⟨#[]⟩) (c:=.int .i64 (0)) (d:=.slice none 0 0) (b3) (show w.heap.size≤w.heap.size+1+1 by omega);have O5:=(rp.zbJ _ _ _:OwnL (put4 (w1) (w.heap.size+1+1) (.int .i64 0) (.string ⟨#[]⟩) (.int .i64 (0)) (.slice none 0 0)) w.heap.size (.slice none 0 0) [] rp.nv)
  generalize put4 _ _ _ _ _ _=W5 at A5 b5 O5 ⊢;have x0:W5.cell? ⟨w.heap.size+1+1,0,none⟩=some (.int .i64 0):=A5.c0;have x1:W5.cell? ⟨w.heap.size+1+1,1,none⟩=some (.string ⟨#[]⟩):=A5.c1;have x2:W5.cell? ⟨w.heap.size+1+1,2,none⟩=some (.int .i64 (0)):=A5.c2;have x3:W5.cell? ⟨w.heap.size+1+1,3,none⟩=some (.slice none 0 0):=A5.c3;exact bodyPost_ret (v:=.tuple #[.agg #[.int .i64 0,.string ⟨#[]⟩,.int .i64 (0),.slice none 0 0],.int .i64 1]) (by simp[results,Tryz.results6,go_sem,x0,x1,x2,x3]) rfl ⟨⟨_,_,_,_,_,rp.nv,_,rfl,HX.out,O5⟩,b5⟩
 | true =>
  have c0:=k0.c0;have c1:=k0.c1;have c2:=k0.c2;have c3:=k0.c3;have d0:=mu.Lies.c0 k1;have d1:=mu.Lies.c1 k1;have d2:=mu.Lies.c2 k1;have d3:=mu.Lies.c3 k1;have d4:=mu.Lies.c4 k1;have d5:=mu.Lies.c5 k1
  go_wp2_with fail
  refine(HMO.out w1 b3).mono ?_;rintro e w2 ⟨rfl,hb2⟩;have b4:=b3.trans (hb2.mono b3.size);have k0:=k0.keep hb2;have k1:LiesM w2 (w.heap.size+1) M (.slice ia M.ps.length ic):=mu.Lies.keep k1 hb2;have k2:=k2.keep hb2;clear c0 c1 c2 c3 d0 d1 d2 d3 d4 d5 b3 hb2 HMO;have HZ:=hD k2
  cases hmo:mu.mok M with
  | false =>
   have HX:Hid (Cm r d s bs M 0 ⟨#[]⟩ 0 [] 1):=.inl ⟨λh=>by rw[hmo] at h;exact absurd h.2 (by decide),rfl,rfl,rfl,rfl,rfl⟩;clear hmo HCO;have e0:=k2.c0;have e1:=k2.c1;have e2:=k2.c2;have e3:=k2.c3;have g0:=k2.f 0;have g1:=k2.f 1;have g2:=k2.f 2;have g3:=k2.f 3;go_wp2;change bodyPost _ _ _ _ _ (put4 (w2) (w.heap.size+1+1) (.int .i64 0) (.string ⟨#[]⟩) (.int .i64 (0)) (.slice none 0 0));have A5:=(HZ.out).put (r':=0) (d':=⟨#[]⟩) (s':=0) (v':=.slice none 0 0);have b5:=zbd (a:=.int .i64 0) (b:=.string ⟨#[]⟩) (c:=.int .i64 (0)) (d:=.slice none 0 0) (b4) (show w.heap.size≤w.heap.size+1+1 by omega);have O5:=(rp.zbJ _ _ _:OwnL (put4 (w2) (w.heap.size+1+1) (.int .i64 0) (.string ⟨#[]⟩) (.int .i64 (0)) (.slice none 0 0)) w.heap.size (.slice none 0 0) [] rp.nv)
   generalize put4 _ _ _ _ _ _=W5 at A5 b5 O5 ⊢;have x0:W5.cell? ⟨w.heap.size+1+1,0,none⟩=some (.int .i64 0):=A5.c0;have x1:W5.cell? ⟨w.heap.size+1+1,1,none⟩=some (.string ⟨#[]⟩):=A5.c1;have x2:W5.cell? ⟨w.heap.size+1+1,2,none⟩=some (.int .i64 (0)):=A5.c2;have x3:W5.cell? ⟨w.heap.size+1+1,3,none⟩=some (.slice none 0 0):=A5.c3;exact bodyPost_ret (v:=.tuple #[.agg #[.int .i64 0,.string ⟨#[]⟩,.int .i64 (0),.slice none 0 0],.int .i64 1]) (by simp[results,Tryz.results6,go_sem,x0,x1,x2,x3]) rfl ⟨⟨_,_,_,_,_,rp.nv,_,rfl,HX.out,O5⟩,b5⟩
  | true =>
   have HCN:Hid (Cn r d s bs∧mu.mok M=true):=⟨HE.out.1 rfl,hmo⟩
   have HC2:=hD (HCO.out w2 b4 HCN.out.1 hmo);clear hmo HCO;have c0:=k0.c0;have c1:=k0.c1;have c2:=k0.c2;have c3:=k0.c3;have d0:=mu.Lies.c0 k1;have d1:=mu.Lies.c1 k1;have d2:=mu.Lies.c2 k1;have d3:=mu.Lies.c3 k1;have d4:=mu.Lies.c4 k1;have d5:=mu.Lies.c5 k1;clear k0 k1
   go_wp2_with fail
   refine HC2.out.mono ?_;rintro e w3 ⟨⟨r',d',s',L,ys,us,c,rfl,hX,hO⟩,hb3⟩;obtain⟨La,Ln,Lc,rfl⟩:=zak (zaj hO.1);have HX:Hid (Cm r d s bs M r' d' s' ys c):=.inr ⟨HCN.out.1,HCN.out.2,hX⟩;have hl2:=k2.lt;have HO3:Hid (OwnL w3 (w.heap.size+1+1+1) (.slice La Ln Lc) ys us):=sa.zbI hO (by omega);have k3:=k2.keep hb3;have HZ3:=hD k3;have HB3:=hD (b4.trans (hb3.mono b4.size));clear c0 c1 c2 c3 d0 d1 d2 d3 d4 d5 hX hO k2 hb3 HZ HC2;have e0:=k3.c0;have e1:=k3.c1;have e2:=k3.c2;have e3:=k3.c3;have g0:=k3.f 0;have g1:=k3.f 1;have g2:=k3.f 2;have g3:=k3.f 3;go_wp2;change bodyPost _ _ _ _ _ (put4 (w3) (w.heap.size+1+1) (.int .i64 r') (.string d') (.int .i64 (s')) (.slice La Ln Lc));have A5:=(HZ3.out).put (r':=r') (d':=d') (s':=s') (v':=.slice La Ln Lc);have b5:=zbd (a:=.int .i64 r') (b:=.string d') (c:=.int .i64 (s')) (d:=.slice La Ln Lc) (HB3.out) (show w.heap.size≤w.heap.size+1+1 by omega);have O5:=zbj (w':=put4 (w3) (w.heap.size+1+1) (.int .i64 r') (.string d') (.int .i64 (s')) (.slice La Ln Lc)) (HO3.out) (λq hq=>zbU _ _ _ _ _ _ _ (by omega));generalize put4 _ _ _ _ _ _=W5 at A5 b5 O5 ⊢;have x0:W5.cell? ⟨w.heap.size+1+1,0,none⟩=some (.int .i64 r'):=A5.c0;have x1:W5.cell? ⟨w.heap.size+1+1,1,none⟩=some (.string d'):=A5.c1;have x2:W5.cell? ⟨w.heap.size+1+1,2,none⟩=some (.int .i64 (s')):=A5.c2;have x3:W5.cell? ⟨w.heap.size+1+1,3,none⟩=some (.slice La Ln Lc):=A5.c3;exact bodyPost_ret (v:=.tuple #[.agg #[.int .i64 r',.string d',.int .i64 (s'),.slice La Ln Lc],.int .i64 c]) (by simp[results,Tryz.results6,go_sem,x0,x1,x2,x3]) rfl ⟨⟨_,_,_,_,_,us,_,rfl,HX.out,sa.zbI O5 (by omega)⟩,b5⟩
theorem specCm_any(r:Int)(d:ByteArray)(s:Int)(v:Value)(bs:List Bx)(vs:Nat→Value×Value)(M:mu.Mu)(iv:Value)(w:World)(hr:lg.In r)(hd:d.size≤1048576)(hs:lg.In s)(hB:zaa w v bs vs)(hf:zal bs vs)(hsm:zac bs)(hcv:∀a n c,v=.slice a n c→n≤c)(hcu:∀j,j<bs.length→∀a n c,(vs j).2=.slice a n c→n≤c)(hI:it.zav w iv M.ps)(hM:mu.Small M) :
  Calls Tryz.prog 7 #[EV r d s v,mu.MV M iv] w λe w'=>CmRet r d s bs M w.heap.size e w'∧Below w.heap.size w w':=by
 have HAK:Hid (∀W,Below w.heap.size w W→Calls Tryz.prog 18 #[EV r d s v,mu.MV M iv] W λe w'=>Ak r d s bs M e∧Below W.heap.size W w'):=λW hW=>ask_any r d s v bs vs M iv W hr hd hs (zap hB hW) hsm hcv hcu (it.zaY hI hW) hM
 have HCO:Hid (∀W,Below w.heap.size w W→Cn r d s bs→mu.mok M=true→Calls Tryz.prog 19 #[EV r d s v,mu.MV M iv] W λe w'=>Lk r d s bs M e w'∧Below W.heap.size W w'):=λW hW hC hm=>commitS_any r d s v bs vs M iv W hr hd (zap hB hW) hf hsm (cn_sok hC) (it.zaY hI hW) hM hm
 have HSM:Hid (zac bs∧mu.Small M):=⟨hsm,hM⟩
 obtain⟨⟨a,cap,rfl,_⟩,_⟩:=hB;obtain⟨ia,ic,rfl,_⟩:=hI;obtain⟨k0,k1⟩:=two_lie w r d s (.slice a bs.length cap) M (.slice ia M.ps.length ic);have k2:=zcS w r d s (.slice a bs.length cap) M (.slice ia M.ps.length ic);have k0:=k0.keep (new_below _ 27 #[.int .i64 0,.string ⟨#[]⟩,.int .i64 0,.slice none 0 0]);have k1:LiesM (((w.alloc (.cells #[.int .i64 r,.string d,.int .i64 s,.slice a bs.length cap] 27)).alloc (.cells #[.int .i64 M.k,.int .i64 M.u,.int .i64 M.m,.int .i64 M.f,.string M.b,.slice ia M.ps.length ic] 35)).alloc (.cells #[.int .i64 0,.string ⟨#[]⟩,.int .i64 0,.slice none 0 0] 27)) (w.heap.size+1) M (.slice ia M.ps.length ic):=mu.Lies.keep k1 (new_below _ 27 #[.int .i64 0,.string ⟨#[]⟩,.int .i64 0,.slice none 0 0]);have b2:Below w.heap.size w (((w.alloc (.cells #[.int .i64 r,.string d,.int .i64 s,.slice a bs.length cap] 27)).alloc (.cells #[.int .i64 M.k,.int .i64 M.u,.int .i64 M.m,.int .i64 M.f,.string M.b,.slice ia M.ps.length ic] 35)).alloc (.cells #[.int .i64 0,.string ⟨#[]⟩,.int .i64 0,.slice none 0 0] 27)):=((new_below w _ _).alloc (by simp) _).alloc (by simp;omega) _;have sz:(((w.alloc (.cells #[.int .i64 r,.string d,.int .i64 s,.slice a bs.length cap] 27)).alloc (.cells #[.int .i64 M.k,.int .i64 M.u,.int .i64 M.m,.int .i64 M.f,.string M.b,.slice ia M.ps.length ic] 35)).alloc (.cells #[.int .i64 0,.string ⟨#[]⟩,.int .i64 0,.slice none 0 0] 27)).heap.size=w.heap.size+1+1+1:=by simp
 clear hr hd hs hf hsm hM hcv hcu;unfold EV mu.MV at *;have c0:=k0.c0;have c1:=k0.c1;have c2:=k0.c2;have c3:=k0.c3;have d0:=mu.Lies.c0 k1;have d1:=mu.Lies.c1 k1;have d2:=mu.Lies.c2 k1;have d3:=mu.Lies.c3 k1;have d4:=mu.Lies.c4 k1;have d5:=mu.Lies.c5 k1;go_enter Tryz.func7,Tryz.ntmps7
 go_wp2_with fail
 generalize World.alloc _ _=W at k0 k1 k2 b2 sz c0 c1 c2 c3 d0 d1 d2 d3 d4 d5 ⊢;refine(HAK.out W b2).mono ?_;rintro e w1 ⟨⟨k,rfl,hk⟩,hb1⟩;have b3:=b2.trans (hb1.mono b2.size);have k0:=k0.keep hb1;have k1:LiesM w1 (w.heap.size+1) M (.slice ia M.ps.length ic):=mu.Lies.keep k1 hb1;have k2:=k2.keep hb1;clear c0 c1 c2 c3 d0 d1 d2 d3 d4 d5 b2 hb1 HAK sz
 rcases hk with⟨rfl,hC,hm⟩|⟨rfl,hn⟩
 rotate_left
 ·have HX:Hid (Cm r d s bs M 0 ⟨#[]⟩ 0 [] 1):=.inl ⟨hn,rfl,rfl,rfl,rfl,rfl⟩;have HZ:=hD k2;clear hn HCO;have e0:=k2.c0;have e1:=k2.c1;have e2:=k2.c2;have e3:=k2.c3;have g0:=k2.f 0;have g1:=k2.f 1;have g2:=k2.f 2;have g3:=k2.f 3;go_wp2;change bodyPost _ _ _ _ _ (put4 (w1) (w.heap.size+1+1) (.int .i64 0) (.string ⟨#[]⟩) (.int .i64 (0)) (.slice none 0 0));have A5:=(HZ.out).put (r':=0) (d':=⟨#[]⟩) (s':=0) (v':=.slice none 0 0);have b5:=zbd (a:=.int .i64 0) (b:=.string ⟨#[]⟩) (c:=.int .i64 (0)) (d:=.slice none 0 0) (b3) (show w.heap.size≤w.heap.size+1+1 by omega);have O5:=(rp.zbJ _ _ _:OwnL (put4 (w1) (w.heap.size+1+1) (.int .i64 0) (.string ⟨#[]⟩) (.int .i64 (0)) (.slice none 0 0)) w.heap.size (.slice none 0 0) [] rp.nv)
  generalize put4 _ _ _ _ _ _=W5 at A5 b5 O5 ⊢;have x0:W5.cell? ⟨w.heap.size+1+1,0,none⟩=some (.int .i64 0):=A5.c0;have x1:W5.cell? ⟨w.heap.size+1+1,1,none⟩=some (.string ⟨#[]⟩):=A5.c1;have x2:W5.cell? ⟨w.heap.size+1+1,2,none⟩=some (.int .i64 (0)):=A5.c2;have x3:W5.cell? ⟨w.heap.size+1+1,3,none⟩=some (.slice none 0 0):=A5.c3;exact bodyPost_ret (v:=.tuple #[.agg #[.int .i64 0,.string ⟨#[]⟩,.int .i64 (0),.slice none 0 0],.int .i64 1]) (by simp[results,Tryz.results7,go_sem,x0,x1,x2,x3]) rfl ⟨⟨_,_,_,_,_,rp.nv,_,rfl,HX.out,O5⟩,b5⟩
 have HCN:Hid (Cn r d s bs∧mu.mok M=true):=⟨hC,hm⟩
 have HC2:=hD (HCO.out w1 b3 hC hm);clear hC hm HCO;have c0:=k0.c0;have c1:=k0.c1;have c2:=k0.c2;have c3:=k0.c3;have d0:=mu.Lies.c0 k1;have d1:=mu.Lies.c1 k1;have d2:=mu.Lies.c2 k1;have d3:=mu.Lies.c3 k1;have d4:=mu.Lies.c4 k1;have d5:=mu.Lies.c5 k1;clear k0 k1
 go_wp2_with fail
 refine HC2.out.mono ?_;rintro e w3 ⟨⟨r',d',s',L,ys,us,c,rfl,hX,hLB,hLF⟩,hb3⟩;have HX:Hid (Cm r d s bs M r' d' s' ys c):=.inr ⟨HCN.out.1,HCN.out.2,hX⟩;have HSMQ:=hD ((cm_small HSM.out.1 HSM.out.2 HX.out).1);have HLB:Hid (zaa w3 L ys us∧zal ys us):=⟨hLB,hLF⟩
 obtain⟨⟨La,Lc,rfl,_⟩,_⟩:=hLB;have N4:=zbg w3 27 r' d' s' (.slice La ys.length Lc);have n4:=new_below w3 27 #[.int .i64 r',.string d',.int .i64 s',.slice La ys.length Lc];have k3:=(k2.keep hb3).keep n4;have hl2:=k2.lt;have hb4:=hb3.trans (n4.mono hb3.size);have HB4:=hD (b3.trans (hb4.mono b3.size));have hs4:=hb4.size;have HOW:=hD (ownE_any r' d' s' _ ys us _ (zap HLB.out.1 n4) HLB.out.2 HSMQ.out);have n0:=N4.c0;have n1:=N4.c1;have n2:=N4.c2;have n3:=N4.c3;clear c0 c1 c2 c3 d0 d1 d2 d3 d4 d5 hX hLF HC2 hb3 hb4 N4 n4 k2
 go_wp2_with fail
 generalize w3.alloc _=w4 at HOW k3 HB4 n0 n1 n2 n3 hs4 ⊢;refine HOW.out.mono ?_;rintro e w5 ⟨⟨L2,us2,rfl,hO⟩,hb5⟩;obtain⟨La2,Ln2,Lc2,rfl⟩:=zak (zaj hO.1);have HO5:Hid (OwnL w5 (w.heap.size+1+1+1) (.slice La2 Ln2 Lc2) ys us2):=sa.zbI hO (by omega);have k5:=k3.keep hb5;have HZ5:=hD k5;have HB5:=hD (HB4.out.trans (hb5.mono HB4.out.size));unfold EV;clear hO hb5 k3 n0 n1 n2 n3 HOW HLB HSMQ;have e0:=k5.c0;have e1:=k5.c1;have e2:=k5.c2;have e3:=k5.c3;have g0:=k5.f 0;have g1:=k5.f 1;have g2:=k5.f 2;have g3:=k5.f 3;go_wp2;change bodyPost _ _ _ _ _ (put4 (w5) (w.heap.size+1+1) (.int .i64 r') (.string d') (.int .i64 (s')) (.slice La2 Ln2 Lc2));have A5:=(HZ5.out).put (r':=r') (d':=d') (s':=s') (v':=.slice La2 Ln2 Lc2);have b5:=zbd (a:=.int .i64 r') (b:=.string d') (c:=.int .i64 (s')) (d:=.slice La2 Ln2 Lc2) (HB5.out) (show w.heap.size≤w.heap.size+1+1 by omega);have O5:=zbj (w':=put4 (w5) (w.heap.size+1+1) (.int .i64 r') (.string d') (.int .i64 (s')) (.slice La2 Ln2 Lc2)) (HO5.out) (λq hq=>zbU _ _ _ _ _ _ _ (by omega));generalize put4 _ _ _ _ _ _=W5 at A5 b5 O5 ⊢;have x0:W5.cell? ⟨w.heap.size+1+1,0,none⟩=some (.int .i64 r'):=A5.c0;have x1:W5.cell? ⟨w.heap.size+1+1,1,none⟩=some (.string d'):=A5.c1;have x2:W5.cell? ⟨w.heap.size+1+1,2,none⟩=some (.int .i64 (s')):=A5.c2;have x3:W5.cell? ⟨w.heap.size+1+1,3,none⟩=some (.slice La2 Ln2 Lc2):=A5.c3;exact bodyPost_ret (v:=.tuple #[.agg #[.int .i64 r',.string d',.int .i64 (s'),.slice La2 Ln2 Lc2],.int .i64 c]) (by simp[results,Tryz.results7,go_sem,x0,x1,x2,x3]) rfl ⟨⟨_,_,_,_,_,us2,_,rfl,HX.out,sa.zbI O5 (by omega)⟩,b5⟩
end eg
namespace lg
open Go.RowKit
def catR:List ByteArray→ByteArray
 | []=>nt
 | x::l=>fr x++catR l
def Right(x:ByteArray):Prop:=1≤x.size∧x.size≤20000
def Rights(l:List ByteArray):Prop:=∀x∈l,Right x
theorem nt_app(a:ByteArray):nt++a=a:=ByteArray.empty_append
theorem app_nt(a:ByteArray):a++nt=a:=ByteArray.append_empty
theorem catR_app(l:List ByteArray)(x:ByteArray):catR (l++[x])=catR l++fr x:=by
 induction l with
 | nil=>show fr x++nt=nt++fr x;rw[nt_app,app_nt]
 | cons y l ih=>show fr y++catR (l++[x])=fr y++catR l++fr x;rw[ih,ByteArray.append_assoc]
theorem catR_cons(x:ByteArray)(l:List ByteArray):(catR (x::l)).size=7+x.size+(catR l).size:=by
 show(fr x++catR l).size=_;rw[ByteArray.size_append,zbA]
theorem num_be3(n:Nat)(h:n<16777216):num (be 3 n)=n:=by
 simp only[be,num,List.foldl_cons,List.foldl_nil,Nat.pow_zero,Nat.pow_one,Nat.div_one];rw[UInt8.toNat_ofNat',UInt8.toNat_ofNat',UInt8.toNat_ofNat',show 256 ^ 2=65536 from rfl];omega
theorem ex_mid{A b C:ByteArray}{i j:Nat}(h:i≤j)(hj:j≤b.size):(A++b++C).extract (A.size+i) (A.size+j)=b.extract i j:=by
 rw[ByteArray.append_assoc,ByteArray.extract_append_size_add,ByteArray.extract_append,show i-b.size=0 from by omega,show j-b.size=0 from by omega];have:C.extract 0 0=nt:=by
  apply ByteArray.ext;simp[nt]
 rw[this,app_nt]
theorem ex_over{b:ByteArray}{k:Nat}(h:b.size≤k):b.extract 0 k=b:=by
 have e:b.extract 0 k=b.extract 0 b.size:=by
  apply ByteArray.ext_getElem
  ·rw[ByteArray.size_extract,ByteArray.size_extract];omega
  ·intro i hi hi';rw[ByteArray.getElem_extract,ByteArray.getElem_extract]
 rw[e];exact ByteArray.extract_zero_size
theorem fr_head(x:ByteArray):(fr x).extract 0 3=hb x:=by
 unfold fr;rw[ByteArray.append_assoc];exact ByteArray.extract_append_eq_left (hb_size x).symm
theorem fr_body(x:ByteArray):(fr x).extract 7 (7+x.size)=x:=by
 unfold fr;have h:(hb x++sb (hb x) x).size=7:=by rw[ByteArray.size_append,hb_size,sb_size]
 exact ByteArray.extract_append_eq_right h.symm (by rw[h])
theorem fr_all(x:ByteArray):(fr x).extract 0 (7+x.size)=fr x:=by
 rw[←zbA x];exact ByteArray.extract_zero_size
theorem next_at{A C x:ByteArray}(h:Right x):next (A++fr x++C) A.size=(0,x):=by
 have hsz:(A++fr x++C).size=A.size+(7+x.size)+C.size:=by rw[ByteArray.size_append,ByteArray.size_append,zbA]
 have hf:=zbA x;have e1:(A++fr x++C).extract A.size (A.size+3)=hb x:=by
  have:=ex_mid (A:=A) (b:=fr x) (C:=C) (i:=0) (j:=3) (by omega) (by omega);rw[Nat.add_zero] at this;rw[this,fr_head]
 have hn:numB (hb x)=x.size:=by
  show num (be 3 x.size)=x.size;exact num_be3 _ (by have:=h.2;omega)
 have e2:(A++fr x++C).extract (A.size+7) (A.size+7+x.size)=x:=by
  have:=ex_mid (A:=A) (b:=fr x) (C:=C) (i:=7) (j:=7+x.size) (by omega) (by omega);rw[←Nat.add_assoc] at this;rw[this,fr_body]
 have e3:(A++fr x++C).extract A.size (A.size+7+x.size)=fr x:=by
  have:=ex_mid (A:=A) (b:=fr x) (C:=C) (i:=0) (j:=7+x.size) (by omega) (by omega);rw[Nat.add_zero,←Nat.add_assoc] at this;rw[this,fr_all]
 unfold next;have h1:=h.1;have h2:=h.2;rw[e1,hn,if_neg (by omega),if_neg (by omega),if_neg (by omega),e2,e3,if_neg (λhh=>hh rfl)]
theorem scan_whole:∀(l:List ByteArray) (A:ByteArray) (acc:List ByteArray) (f:Nat),Rights l→(catR l).size<f→scan (A++catR l) f A.size acc=(acc++l,(A++catR l).size,0)
 | [],A,acc,f,_,_=>by
  rw[show catR []=nt from rfl,app_nt,scan_end lR,List.append_nil]
 | x::l,A,acc,f,hl,hf=>by
  have hx:=hl x (by simp);have hc:=catR_cons x l;have e:A++catR (x::l)=A++fr x++catR l:=by show A++(fr x++catR l)=_;rw[ByteArray.append_assoc]
  have hsz:(A++fr x++catR l).size=A.size+(7+x.size)+(catR l).size:=by rw[ByteArray.size_append,ByteArray.size_append,zbA]
  have hnx:=next_at (A:=A) (C:=catR l) hx;rw[e];obtain⟨g,hg,hs⟩:=scan_step (t:=A++fr x++catR l) (f:=f) (p:=A.size) (acc:=acc) (by omega) (by omega) (by rw[hnx]);rw[hnx] at hs hg;simp only at hs hg;have hp:A.size+7+x.size=(A++fr x).size:=by rw[ByteArray.size_append,zbA];omega
  rw[hs,hp,scan_whole l (A++fr x) (acc++[x]) g (λy hy=>hl y (by simp[hy])) (by omega)];simp
theorem recs_whole{l:List ByteArray}(h:Rights l):recs (catR l)=(l,(catR l).size,0):=by
 have:=scan_whole l nt [] ((catR l).size+1) h (by omega);rw[nt_app] at this;exact this
end lg
namespace lg
open Go.ChangeShapes Go.WideShapes Go.ChangeAt Go.RowKit Go.Deep Go.Joins
def left(n:Nat)(s keep:Int):Nat:=(s+min (max keep 0) ((n:Int)-s)).toNat
end lg
end Go.Proofs.YtmnflpmfngjllaaGreatDoor
