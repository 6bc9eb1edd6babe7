/-
  The specification's Commit: its parts and the whole.
-/
import Derived.Test.YtnhcbiomkiljpaaGreatDoorPkbo
namespace Go.Proofs.YtnhcbiomkiljpaaGreatDoor.eg
open Go.RowKit Go.WideShapes
open bx bl
open lg (LV RV fr app1)
set_option linter.unusedVariables false
theorem own_len {w:World} {B e s n:Nat} {v:Value} {xs:List Value} (h:w.ownsRow B e s v n xs):∃ a c,v=.slice a n c:=by
 rcases h.2 with ⟨rfl,h0⟩ | ⟨g,cap,cur,rfl,_⟩
 ·exact ⟨none,0,by rw [h0]⟩
 ·exact ⟨_,_,rfl⟩
theorem mbt_size (M:mu.Mu):(mbt M).size=(mb.mB M).length:=by simp [mbt,ByteArray.size]
def LiesM (w:World) (b:Nat) (M:mu.Mu) (iv:Value):Prop:=mu.Lies w b 41 M iv
theorem two_lie (w:World) (r:Int) (d:ByteArray) (s:Int) (v:Value) (M:mu.Mu) (iv:Value) :
  LiesE ((w.alloc (.cells #[.int .i64 r,.string d,.int .i64 s,v] 35)).alloc (.cells #[.int .i64 M.k,.int .i64 M.u,.int .i64 M.m,.int .i64 M.f,.string M.b,iv] 41)) w.heap.size 35 r d s v∧LiesM ((w.alloc (.cells #[.int .i64 r,.string d,.int .i64 s,v] 35)).alloc (.cells #[.int .i64 M.k,.int .i64 M.u,.int .i64 M.m,.int .i64 M.f,.string M.b,iv] 41)) (w.heap.size+1) M iv:=by
 refine ⟨(liesE_new w 35 r d s v).keep (new_below _ _ _),?_⟩
 have:=mu.lies_new (w.alloc (.cells #[.int .i64 r,.string d,.int .i64 s,v] 35)) 41 M iv
 rw [show (w.alloc (.cells #[.int .i64 r,.string d,.int .i64 s,v] 35)).heap.size=w.heap.size+1 by simp] at this
 exact this
theorem three_lie (w:World) (r:Int) (d:ByteArray) (s:Int) (v:Value) (M:mu.Mu) (iv:Value) :
  LiesE (((w.alloc (.cells #[.int .i64 r,.string d,.int .i64 s,v] 35)).alloc (.cells #[.int .i64 M.k,.int .i64 M.u,.int .i64 M.m,.int .i64 M.f,.string M.b,iv] 41)).alloc (.cells #[.int .i64 0,.string ⟨#[]⟩,.int .i64 0,.slice none 0 0] 35)) (w.heap.size+1+1) 35 0 ⟨#[]⟩ 0 (.slice none 0 0):=by
 have:=liesE_new ((w.alloc (.cells #[.int .i64 r,.string d,.int .i64 s,v] 35)).alloc (.cells #[.int .i64 M.k,.int .i64 M.u,.int .i64 M.m,.int .i64 M.f,.string M.b,iv] 41)) 35 0 ⟨#[]⟩ 0 (.slice none 0 0)
 rw [show ((w.alloc (.cells #[.int .i64 r,.string d,.int .i64 s,v] 35)).alloc (.cells #[.int .i64 M.k,.int .i64 M.u,.int .i64 M.m,.int .i64 M.f,.string M.b,iv] 41)).heap.size=w.heap.size+1+1 by simp] at this
 exact this
def Ak (r:Int) (d:ByteArray) (s:Int) (bs:List Bx) (M:mu.Mu) (e:Ending):Prop:=∃ k:Int,e=.returned (.int .i64 k)∧((k=0∧Cn r d s bs∧mu.mok M=true) ∨ (k=1∧¬ (Cn r d s bs∧mu.mok M=true)))
set_option maxHeartbeats 4000000 in
set_option maxRecDepth 100000 in
theorem ask_any (r:Int) (d:ByteArray) (s:Int) (v:Value) (bs:List Bx) (vs:Nat→Value × Value) (M:mu.Mu) (iv:Value) (w:World) (hr:lg.In r) (hd:d.size≤1048576) (hs:lg.In s) (hB:BoxesAt w v bs vs) (hsm:Smalls bs) (hcv:∀ a n c,v=.slice a n c→n≤c) (hcu:∀ j,j < bs.length→∀ a n c,(vs j).2=.slice a n c→n≤c) (hI:it.AttrsAt w iv M.ps) (hM:mu.Small M) :
  Calls Tryz.prog 21 #[EV r d s v,mu.MV M iv] w fun e w'=>Ak r d s bs M e∧Below w.heap.size w w':=by
 have HEN:Hid (∀ W,Below w.heap.size w W→Calls Tryz.prog 41 #[EV r d s v] W fun e w'=>Er r d s bs e∧Below W.heap.size W w'):=fun W hW=>specEk_any r d s v bs vs W hr hd hs (boxes_below hB hW) hsm hcv hcu
 have HMO:Hid (∀ W,Below w.heap.size w W→Calls Tryz.prog 42 #[mu.MV M iv] W fun e w'=>e=.returned (.bool (mu.mok M))∧Below W.heap.size W w'):=fun W hW=>mu.spec_mok M iv W (it.at_below hI hW) hM
 obtain ⟨⟨a,cap,rfl,_⟩,_⟩:=hB
 obtain ⟨ia,ic,rfl,_⟩:=hI
 clear hr hd hs hsm hcv hcu hM
 obtain ⟨k0,k1⟩:=two_lie w r d s (.slice a bs.length cap) M (.slice ia M.ps.length ic)
 have b2:Below w.heap.size w ((w.alloc (.cells #[.int .i64 r,.string d,.int .i64 s,.slice a bs.length cap] 35)).alloc (.cells #[.int .i64 M.k,.int .i64 M.u,.int .i64 M.m,.int .i64 M.f,.string M.b,.slice ia M.ps.length ic] 41)):=(new_below w _ _).alloc (by simp) _
 unfold EV mu.MV at *
 have c0:=k0.c0
 have c1:=k0.c1
 have c2:=k0.c2
 have c3:=k0.c3
 go_enter Tryz.func21,Tryz.ntmps21
 go_wp2_with fail
 generalize World.alloc _ _=W at k0 k1 b2 c0 c1 c2 c3 ⊢
 refine (HEN.out W b2).mono ?_
 rintro e w1 ⟨⟨o,rfl,hEk⟩,hb1⟩
 have b3:=b2.trans (hb1.mono b2.size)
 have m1:=k1.keep hb1
 have d0:=m1.c0
 have d1:=m1.c1
 have d2:=m1.c2
 have d3:=m1.c3
 have d4:=m1.c4
 have d5:=m1.c5
 have HE:Hid (Ek r d s bs o):=hEk
 clear c0 c1 c2 c3 k0 k1 b2 hb1 hEk m1 HEN
 cases o with
 | false =>
  have HA:Hid (Ak r d s bs M (.returned (.int .i64 1))):=⟨1,rfl,.inr ⟨rfl,fun h=>by have:=HE.out.2 h.1; cases this⟩⟩
  go_wp2
  go_ret
  exact ⟨HA.out,b3⟩
 | true =>
  go_wp2_with fail
  refine (HMO.out w1 b3).mono ?_
  rintro e w2 ⟨rfl,hb2⟩
  have b4:=b3.trans (hb2.mono b3.size)
  have HK:Hid (mu.mok M=true→Ak r d s bs M (.returned (.int .i64 0))):=fun h=>⟨0,rfl,.inl ⟨rfl,HE.out.1 rfl,h⟩⟩
  have HN:Hid (mu.mok M=false→Ak r d s bs M (.returned (.int .i64 1))):=fun h=>⟨1,rfl,.inr ⟨rfl,fun h'=>by rw [h] at h'; exact absurd h'.2 (by decide)⟩⟩
  clear b3 hb2 d0 d1 d2 d3 d4 d5 HMO HE
  cases hmo:mu.mok M with
  | false =>
   have HA:=HN.out hmo
   clear hmo HK HN
   have HA:Hid (Ak r d s bs M (.returned (.int .i64 1))):=HA
   go_wp2
   go_ret
   exact ⟨HA.out,b4⟩
  | true =>
   have HA:=HK.out hmo
   clear hmo HK HN
   have HA:Hid (Ak r d s bs M (.returned (.int .i64 0))):=HA
   go_wp2
   go_ret
   exact ⟨HA.out,b4⟩
def Lk (r:Int) (d:ByteArray) (s:Int) (bs:List Bx) (M:mu.Mu) (e:Ending) (w':World):Prop:=∃ (r':Int) (d':ByteArray) (s':Int) (L:Value) (ys:List Bx) (us:Nat→Value × Value) (c:Int),e=.returned (.tuple #[.agg #[.int .i64 r',.string d',.int .i64 s',L],.int .i64 c])∧(∃ zs k,sa.Am bs M zs k∧Cx r d s bs M zs k r' d' s' ys c)∧BoxesAt w' L ys us∧Fines ys us
set_option maxHeartbeats 8000000 in
set_option maxRecDepth 100000 in
theorem commitS_any (r:Int) (d:ByteArray) (s:Int) (v:Value) (bs:List Bx) (vs:Nat→Value × Value) (M:mu.Mu) (iv:Value) (w:World) (hr:lg.In r) (hd:d.size≤1048576) (hB:BoxesAt w v bs vs) (hf:Fines bs vs) (hsm:Smalls bs) (hso:sok bs=true) (hI:it.AttrsAt w iv M.ps) (hM:mu.Small M) (hmo:mu.mok M=true) :
  Calls Tryz.prog 22 #[EV r d s v,mu.MV M iv] w fun e w'=>Lk r d s bs M e w'∧Below w.heap.size w w':=by
 have HAP:Hid (∀ W,Below w.heap.size w W→Calls Tryz.prog 43 #[v,mu.MV M iv] W fun e w'=>sa.Ls (sa.Am bs M) e w'∧Below W.heap.size W w'):=fun W hW=>sa.apply_any v bs vs M iv W (boxes_below hB hW) hf hsm (it.at_below hI hW) hM hso hmo
 have HBY:Hid (∀ W,Below w.heap.size w W→Calls Tryz.prog 44 #[mu.MV M iv] W fun e w'=>(∃ u,e=.returned u∧ra.Own w' W.heap.size u (mb.mB M))∧Below W.heap.size W w'):=fun W hW=>mb.lb_any M iv W (it.at_below hI hW) (mb.fits_of hmo)
 have HAD:Hid (∀ W,(mbt M).size≤20000→Calls Tryz.prog 45 #[LV r d s,.string (mbt M)] W fun e w'=>e=.returned (app1 r d s (mbt M))∧Below W.heap.size W w'):=fun W hx=>lg.l08Append_any r d s (mbt M) W hd hr hx
 have HBV:Hid (BoxesAt w v bs vs∧Fines bs vs):=⟨hB,hf⟩
 have HOK:Hid (∀ zs,sa.Am bs M zs 0→sok zs=true):=fun zs h=>sa.am_ok hso hmo h
 obtain ⟨⟨a,cap,rfl,_⟩,_⟩:=hB
 obtain ⟨ia,ic,rfl,_⟩:=hI
 clear hr hd hf hsm hso hM hmo
 obtain ⟨k0,k1⟩:=two_lie w r d s (.slice a bs.length cap) M (.slice ia M.ps.length ic)
 have k2:=three_lie w r d s (.slice a bs.length cap) M (.slice ia M.ps.length ic)
 have k0:=k0.keep (new_below _ 35 #[.int .i64 0,.string ⟨#[]⟩,.int .i64 0,.slice none 0 0])
 have k1:LiesM (((w.alloc (.cells #[.int .i64 r,.string d,.int .i64 s,.slice a bs.length cap] 35)).alloc (.cells #[.int .i64 M.k,.int .i64 M.u,.int .i64 M.m,.int .i64 M.f,.string M.b,.slice ia M.ps.length ic] 41)).alloc (.cells #[.int .i64 0,.string ⟨#[]⟩,.int .i64 0,.slice none 0 0] 35)) (w.heap.size+1) M (.slice ia M.ps.length ic):=mu.Lies.keep k1 (new_below _ 35 #[.int .i64 0,.string ⟨#[]⟩,.int .i64 0,.slice none 0 0])
 have b2:Below w.heap.size w (((w.alloc (.cells #[.int .i64 r,.string d,.int .i64 s,.slice a bs.length cap] 35)).alloc (.cells #[.int .i64 M.k,.int .i64 M.u,.int .i64 M.m,.int .i64 M.f,.string M.b,.slice ia M.ps.length ic] 41)).alloc (.cells #[.int .i64 0,.string ⟨#[]⟩,.int .i64 0,.slice none 0 0] 35)):=((new_below w _ _).alloc (by simp) _).alloc (by simp; omega) _
 unfold EV
 unfold mu.MV at HAP HBY ⊢
 unfold LV at HAD
 have c3:=k0.c3
 have d0:=mu.Lies.c0 k1
 have d1:=mu.Lies.c1 k1
 have d2:=mu.Lies.c2 k1
 have d3:=mu.Lies.c3 k1
 have d4:=mu.Lies.c4 k1
 have d5:=mu.Lies.c5 k1
 go_enter Tryz.func22,Tryz.ntmps22
 go_wp2_with fail
 generalize World.alloc _ _=W at k0 k1 k2 b2 c3 d0 d1 d2 d3 d4 d5 ⊢
 refine (HAP.out W b2).mono ?_
 rintro e w1 ⟨⟨L',zs,us,k,rfl,hA,hLB,hLF⟩,hb1⟩
 have HZ:Hid (BoxesAt w1 L' zs us∧Fines zs us):=⟨hLB,hLF⟩
 obtain ⟨⟨La,Lc,rfl,_⟩,_⟩:=hLB
 have HA:Hid (sa.Am bs M zs k):=hA
 have HL1:Hid (LiesE w1 w.heap.size 35 r d s (.slice a bs.length cap)∧LiesM w1 (w.heap.size+1) M (.slice ia M.ps.length ic)∧LiesE w1 (w.heap.size+1+1) 35 0 ⟨#[]⟩ 0 (.slice none 0 0)):=⟨k0.keep hb1,mu.Lies.keep k1 hb1,k2.keep hb1⟩
 have HB1:Hid (Below w.heap.size w w1):=b2.trans (hb1.mono b2.size)
 clear hLF hA c3 d0 d1 d2 d3 d4 d5 k0 k1 k2 b2 hb1 HAP
 by_cases hk:k=0
 rotate_left
 ·have hk1:((k:Int) != 0)=true:=by rw [bne_iff_ne]; exact hk
  have HX:Hid (∃ zs k',sa.Am bs M zs k'∧Cx r d s bs M zs k' r d s bs k):=⟨zs,k,HA.out,rfl,.inl ⟨hk,rfl,rfl,rfl,rfl⟩⟩
  clear hk HA HZ
  have c0:=HL1.out.1.c0
  have c1:=HL1.out.1.c1
  have c2:=HL1.out.1.c2
  have c3:=HL1.out.1.c3
  have e0:=HL1.out.2.2.c0
  have e1:=HL1.out.2.2.c1
  have e2:=HL1.out.2.2.c2
  have e3:=HL1.out.2.2.c3
  have g0:=HL1.out.2.2.f 0
  have g1:=HL1.out.2.2.f 1
  have g2:=HL1.out.2.2.f 2
  have g3:=HL1.out.2.2.f 3
  go_wp2
  change bodyPost _ _ _ _ _ (put4 w1 (w.heap.size+1+1) (.int .i64 r) (.string d) (.int .i64 (s)) (.slice a bs.length cap))
  have A5:=HL1.out.2.2.put (r':=r) (d':=d) (s':=s) (v':=.slice a bs.length cap)
  have b5:=put4_below (a:=.int .i64 r) (b:=.string d) (c:=.int .i64 (s)) (d:=.slice a bs.length cap) HB1.out (show w.heap.size≤w.heap.size+1+1 by omega)
  have B5:BoxesAt (put4 w1 (w.heap.size+1+1) (.int .i64 r) (.string d) (.int .i64 (s)) (.slice a bs.length cap)) (.slice a bs.length cap) bs vs:=boxes_below HBV.out.1 b5
  generalize put4 _ _ _ _ _ _=W5 at A5 b5 B5 ⊢
  have x0:W5.cell? ⟨w.heap.size+1+1,0,none⟩=some (.int .i64 r):=A5.c0
  have x1:W5.cell? ⟨w.heap.size+1+1,1,none⟩=some (.string d):=A5.c1
  have x2:W5.cell? ⟨w.heap.size+1+1,2,none⟩=some (.int .i64 (s)):=A5.c2
  have x3:W5.cell? ⟨w.heap.size+1+1,3,none⟩=some (.slice a bs.length cap):=A5.c3
  exact bodyPost_ret (v:=.tuple #[.agg #[.int .i64 r,.string d,.int .i64 (s),.slice a bs.length cap],.int .i64 k]) (by simp [results,Tryz.results22,go_sem,x0,x1,x2,x3]) rfl ⟨⟨_,_,_,_,bs,vs,_,rfl,HX.out,B5,HBV.out.2⟩,b5⟩
 subst hk
 have d0:=mu.Lies.c0 HL1.out.2.1
 have d1:=mu.Lies.c1 HL1.out.2.1
 have d2:=mu.Lies.c2 HL1.out.2.1
 have d3:=mu.Lies.c3 HL1.out.2.1
 have d4:=mu.Lies.c4 HL1.out.2.1
 have d5:=mu.Lies.c5 HL1.out.2.1
 go_wp2_with fail
 refine (HBY.out w1 HB1.out).mono ?_
 rintro e w2 ⟨⟨u,rfl,hu⟩,hb2⟩
 have hcv:=ow.conv_bytes (P:=Tryz.prog) (src:=77) (dst:=9) (mb.mB M) hu Tryz.underlying77 Tryz.underlying5 Tryz.underlying9
 obtain ⟨ua,uc,rfl⟩:=own_len hu
 have HL2:Hid (LiesE w2 w.heap.size 35 r d s (.slice a bs.length cap)∧LiesE w2 (w.heap.size+1+1) 35 0 ⟨#[]⟩ 0 (.slice none 0 0)):=⟨HL1.out.1.keep hb2,HL1.out.2.2.keep hb2⟩
 have HB2:Hid (Below w.heap.size w w2):=HB1.out.trans (hb2.mono HB1.out.size)
 have HZ2:Hid (BoxesAt w2 (.slice La zs.length Lc) zs us∧Fines zs us):=⟨boxes_below HZ.out.1 hb2,HZ.out.2⟩
 have hcv:(convert 77 9 (.slice ua (mb.mB M).length uc)).run Tryz.prog w2=.ok (.string (mbt M)) w2:=hcv
 have HMS:Hid ((mb.mB M).length=(mbt M).size):=(mbt_size M).symm
 rw [HMS.out] at hcv ⊢
 clear hu hb2 HL1 HB1 HZ d0 d1 d2 d3 d4 d5
 by_cases h20:20000 < (mbt M).size
 ·have h20':(20000:Int) < (((mbt M).size:Nat):Int):=by omega
  have HX:Hid (∃ zs k',sa.Am bs M zs k'∧Cx r d s bs M zs k' r d s bs 7):=⟨zs,0,HA.out,rfl,.inr (.inl ⟨rfl,.inl h20,rfl,rfl,rfl,rfl⟩)⟩
  clear h20 HA HZ2 hcv
  have c0:=HL2.out.1.c0
  have c1:=HL2.out.1.c1
  have c2:=HL2.out.1.c2
  have c3:=HL2.out.1.c3
  have e0:=HL2.out.2.c0
  have e1:=HL2.out.2.c1
  have e2:=HL2.out.2.c2
  have e3:=HL2.out.2.c3
  have g0:=HL2.out.2.f 0
  have g1:=HL2.out.2.f 1
  have g2:=HL2.out.2.f 2
  have g3:=HL2.out.2.f 3
  go_wp2
  change bodyPost _ _ _ _ _ (put4 w2 (w.heap.size+1+1) (.int .i64 r) (.string d) (.int .i64 (s)) (.slice a bs.length cap))
  have A5:=HL2.out.2.put (r':=r) (d':=d) (s':=s) (v':=.slice a bs.length cap)
  have b5:=put4_below (a:=.int .i64 r) (b:=.string d) (c:=.int .i64 (s)) (d:=.slice a bs.length cap) HB2.out (show w.heap.size≤w.heap.size+1+1 by omega)
  have B5:BoxesAt (put4 w2 (w.heap.size+1+1) (.int .i64 r) (.string d) (.int .i64 (s)) (.slice a bs.length cap)) (.slice a bs.length cap) bs vs:=boxes_below HBV.out.1 b5
  generalize put4 _ _ _ _ _ _=W5 at A5 b5 B5 ⊢
  have x0:W5.cell? ⟨w.heap.size+1+1,0,none⟩=some (.int .i64 r):=A5.c0
  have x1:W5.cell? ⟨w.heap.size+1+1,1,none⟩=some (.string d):=A5.c1
  have x2:W5.cell? ⟨w.heap.size+1+1,2,none⟩=some (.int .i64 (s)):=A5.c2
  have x3:W5.cell? ⟨w.heap.size+1+1,3,none⟩=some (.slice a bs.length cap):=A5.c3
  exact bodyPost_ret (v:=.tuple #[.agg #[.int .i64 r,.string d,.int .i64 (s),.slice a bs.length cap],.int .i64 7]) (by simp [results,Tryz.results22,go_sem,x0,x1,x2,x3]) rfl ⟨⟨_,_,_,_,bs,vs,_,rfl,HX.out,B5,HBV.out.2⟩,b5⟩
 have h20':(((mbt M).size:Nat):Int)≤20000:=by omega
 have HAD2:=HAD.out w2 (by omega)
 unfold app1 RV LV at HAD2
 have c0:=HL2.out.1.c0
 have c1:=HL2.out.1.c1
 have c2:=HL2.out.1.c2
 by_cases hroom:r < (d.size:Int)+7+(mbt M).size
 ·rw [if_pos hroom] at HAD2
  have HX:Hid (∃ zs k',sa.Am bs M zs k'∧Cx r d s bs M zs k' r d s bs 7):=⟨zs,0,HA.out,rfl,.inr (.inl ⟨rfl,.inr hroom,rfl,rfl,rfl,rfl⟩)⟩
  have HAD3:Hid (Calls Tryz.prog 45 #[.agg #[.int .i64 r,.string d,.int .i64 s],.string (mbt M)] w2 fun e w'=>e=.returned (.tuple #[.agg #[.int .i64 r,.string d,.int .i64 s],.int .i64 7])∧Below w2.heap.size w2 w'):=HAD2
  clear hroom HA HZ2 h20 HAD HAD2
  go_wp2_with fail
  refine HAD3.out.mono ?_
  rintro e w3 ⟨rfl,hb3⟩
  have hb4:=hb3.trans ((new_below w3 32 #[.int .i64 r,.string d,.int .i64 s]).mono hb3.size)
  have HL4:Hid (LiesE (w3.alloc (.cells #[.int .i64 r,.string d,.int .i64 s] 32)) w.heap.size 35 r d s (.slice a bs.length cap)∧LiesE (w3.alloc (.cells #[.int .i64 r,.string d,.int .i64 s] 32)) (w.heap.size+1+1) 35 0 ⟨#[]⟩ 0 (.slice none 0 0)):=⟨HL2.out.1.keep hb4,HL2.out.2.keep hb4⟩
  have HB4:Hid (Below w.heap.size w (w3.alloc (.cells #[.int .i64 r,.string d,.int .i64 s] 32))):=HB2.out.trans (hb4.mono HB2.out.size)
  clear hb3 hb4 HL2 HB2 c0 c1 c2 hcv HAD3
  have c0:=HL4.out.1.c0
  have c1:=HL4.out.1.c1
  have c2:=HL4.out.1.c2
  have c3:=HL4.out.1.c3
  have e0:=HL4.out.2.c0
  have e1:=HL4.out.2.c1
  have e2:=HL4.out.2.c2
  have e3:=HL4.out.2.c3
  have g0:=HL4.out.2.f 0
  have g1:=HL4.out.2.f 1
  have g2:=HL4.out.2.f 2
  have g3:=HL4.out.2.f 3
  go_wp2
  change bodyPost _ _ _ _ _ (put4 (w3.alloc (.cells #[.int .i64 r,.string d,.int .i64 s] 32)) (w.heap.size+1+1) (.int .i64 r) (.string d) (.int .i64 (s)) (.slice a bs.length cap))
  have A5:=HL4.out.2.put (r':=r) (d':=d) (s':=s) (v':=.slice a bs.length cap)
  have b5:=put4_below (a:=.int .i64 r) (b:=.string d) (c:=.int .i64 (s)) (d:=.slice a bs.length cap) HB4.out (show w.heap.size≤w.heap.size+1+1 by omega)
  have B5:BoxesAt (put4 (w3.alloc (.cells #[.int .i64 r,.string d,.int .i64 s] 32)) (w.heap.size+1+1) (.int .i64 r) (.string d) (.int .i64 (s)) (.slice a bs.length cap)) (.slice a bs.length cap) bs vs:=boxes_below HBV.out.1 b5
  generalize put4 _ _ _ _ _ _=W5 at A5 b5 B5 ⊢
  have x0:W5.cell? ⟨w.heap.size+1+1,0,none⟩=some (.int .i64 r):=A5.c0
  have x1:W5.cell? ⟨w.heap.size+1+1,1,none⟩=some (.string d):=A5.c1
  have x2:W5.cell? ⟨w.heap.size+1+1,2,none⟩=some (.int .i64 (s)):=A5.c2
  have x3:W5.cell? ⟨w.heap.size+1+1,3,none⟩=some (.slice a bs.length cap):=A5.c3
  exact bodyPost_ret (v:=.tuple #[.agg #[.int .i64 r,.string d,.int .i64 (s),.slice a bs.length cap],.int .i64 7]) (by simp [results,Tryz.results22,go_sem,x0,x1,x2,x3]) rfl ⟨⟨_,_,_,_,bs,vs,_,rfl,HX.out,B5,HBV.out.2⟩,b5⟩
 rw [if_neg hroom] at HAD2
 have HX:Hid (∃ zs' k',sa.Am bs M zs' k'∧Cx r d s bs M zs' k' r (d ++ fr (mbt M)) (((d ++ fr (mbt M)).size:Nat):Int) zs 0):=⟨zs,0,HA.out,rfl,.inr (.inr ⟨rfl,fun h=>h.elim h20 hroom,rfl,rfl,rfl,rfl⟩)⟩
 have HSO:Hid (sok zs=true):=HOK.out zs HA.out
 have HAD3:Hid (Calls Tryz.prog 45 #[.agg #[.int .i64 r,.string d,.int .i64 s],.string (mbt M)] w2 fun e w'=>e=.returned (.tuple #[.agg #[.int .i64 r,.string (d ++ fr (mbt M)),.int .i64 s],.int .i64 0])∧Below w2.heap.size w2 w'):=HAD2
 clear hroom HA h20 HAD HAD2 HOK
 go_wp2_with fail
 refine HAD3.out.mono ?_
 rintro e w3 ⟨rfl,hb3⟩
 have L4:=lg.lies_new w3 32 r (d ++ fr (mbt M)) s
 have n4:=new_below w3 32 #[.int .i64 r,.string (d ++ fr (mbt M)),.int .i64 s]
 have hb4:=hb3.trans (n4.mono hb3.size)
 have HSY:Hid (∀ W,Calls Tryz.prog 46 #[.agg #[.int .i64 r,.string (d ++ fr (mbt M)),.int .i64 s]] W fun e w'=>e=.returned (.agg #[.int .i64 r,.string (d ++ fr (mbt M)),.int .i64 (((d ++ fr (mbt M)).size:Nat):Int)])∧Below W.heap.size W w'):=fun W=>lg.l08Sync_any r (d ++ fr (mbt M)) s W
 have l0:=L4.c0
 have l1:=L4.c1
 have l2:=L4.c2
 clear hb3 c0 c1 c2 hcv HAD3
 generalize d ++ fr (mbt M)=D at L4 n4 hb4 HSY l0 l1 l2 HX ⊢
 go_wp2_with fail
 generalize w3.alloc _=w4 at L4 n4 hb4 l0 l1 l2 ⊢
 refine (HSY.out w4).mono ?_
 rintro e w5 ⟨rfl,hb5⟩
 have hb6:=hb4.trans (hb5.mono hb4.size)
 have HL5:Hid (LiesE w5 w.heap.size 35 r d s (.slice a bs.length cap)∧LiesE w5 (w.heap.size+1+1) 35 0 ⟨#[]⟩ 0 (.slice none 0 0)):=⟨HL2.out.1.keep hb6,HL2.out.2.keep hb6⟩
 have HB5:Hid (Below w.heap.size w w5):=HB2.out.trans (hb6.mono HB2.out.size)
 have HZ5:Hid (BoxesAt w5 (.slice La zs.length Lc) zs us∧Fines zs us):=⟨boxes_below HZ2.out.1 hb6,HZ2.out.2⟩
 clear hb5 hb6 hb4 n4 L4 l0 l1 l2 HSY HL2 HB2 HZ2
 have c0:=HL5.out.1.c0
 have c1:=HL5.out.1.c1
 have c2:=HL5.out.1.c2
 have c3:=HL5.out.1.c3
 have e0:=HL5.out.2.c0
 have e1:=HL5.out.2.c1
 have e2:=HL5.out.2.c2
 have e3:=HL5.out.2.c3
 have g0:=HL5.out.2.f 0
 have g1:=HL5.out.2.f 1
 have g2:=HL5.out.2.f 2
 have g3:=HL5.out.2.f 3
 go_wp2
 change bodyPost _ _ _ _ _ (put4 w5 (w.heap.size+1+1) (.int .i64 r) (.string D) (.int .i64 (((D.size:Nat):Int))) (.slice La zs.length Lc))
 have A5:=HL5.out.2.put (r':=r) (d':=D) (s':=((D.size:Nat):Int)) (v':=.slice La zs.length Lc)
 have b5:=put4_below (a:=.int .i64 r) (b:=.string D) (c:=.int .i64 (((D.size:Nat):Int))) (d:=.slice La zs.length Lc) HB5.out (show w.heap.size≤w.heap.size+1+1 by omega)
 have B5:BoxesAt (put4 w5 (w.heap.size+1+1) (.int .i64 r) (.string D) (.int .i64 (((D.size:Nat):Int))) (.slice La zs.length Lc)) (.slice La zs.length Lc) zs us:=boxes_eng HZ5.out.1 HSO.out HL5.out.2 (fun q hq=>put4_other _ _ _ _ _ _ _ hq) (put4_size _ _ _ _ _ _)
 generalize put4 _ _ _ _ _ _=W5 at A5 b5 B5 ⊢
 have x0:W5.cell? ⟨w.heap.size+1+1,0,none⟩=some (.int .i64 r):=A5.c0
 have x1:W5.cell? ⟨w.heap.size+1+1,1,none⟩=some (.string D):=A5.c1
 have x2:W5.cell? ⟨w.heap.size+1+1,2,none⟩=some (.int .i64 (((D.size:Nat):Int))):=A5.c2
 have x3:W5.cell? ⟨w.heap.size+1+1,3,none⟩=some (.slice La zs.length Lc):=A5.c3
 exact bodyPost_ret (v:=.tuple #[.agg #[.int .i64 r,.string D,.int .i64 (((D.size:Nat):Int)),.slice La zs.length Lc],.int .i64 0]) (by simp [results,Tryz.results22,go_sem,x0,x1,x2,x3]) rfl ⟨⟨_,_,_,_,zs,us,_,rfl,HX.out,B5,HZ5.out.2⟩,b5⟩
end Go.Proofs.YtnhcbiomkiljpaaGreatDoor.eg
