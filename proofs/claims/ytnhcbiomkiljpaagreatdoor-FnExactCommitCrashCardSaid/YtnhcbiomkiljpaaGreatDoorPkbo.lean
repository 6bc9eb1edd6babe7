/-
  The specification's l10Crash.
  The specification's CommitCrash.
  The regions of CommitCrash's law that copy both arguments, call, and keep what is answered.
  A list of boxes that is one's own, marked: variables of engines are as they were.
  The marks of an engine of one's own: variables of engines are as they were.
-/
import Derived.Test.YtnhcbiomkiljpaaGreatDoorPkbn
import Derived.Test.YtnhcbiomkiljpaaGreatDoorPkbm
import Derived.Test.YtnhcbiomkiljpaaGreatDoorPkbd

namespace Go.Proofs.YtnhcbiomkiljpaaGreatDoor.eg
open Go.RowKit Go.WideShapes
open bx bl
open lg (LV RV fr app1 recs left)
set_option linter.unusedVariables false
theorem four_lie (w:World) (r:Int) (d:ByteArray) (s:Int) (a:Option Addr) (cap:Nat) (bs:List Bx) (M:mu.Mu) (ia:Option Addr) (ic:Nat) :
  LiesE ((((w.alloc (.cells #[.int .i64 r,.string d,.int .i64 s,.slice a bs.length cap] 35)).alloc (.cells #[.int .i64 M.k,.int .i64 M.u,.int .i64 M.m,.int .i64 M.f,.string M.b,.slice ia M.ps.length ic] 41)).alloc (.cells #[.int .i64 0,.string ⟨#[]⟩,.int .i64 0,.slice none 0 0] 35)).alloc (.cells #[.int .i64 r,.string d,.int .i64 s] 32)) w.heap.size 35 r d s (.slice a bs.length cap)∧LiesM ((((w.alloc (.cells #[.int .i64 r,.string d,.int .i64 s,.slice a bs.length cap] 35)).alloc (.cells #[.int .i64 M.k,.int .i64 M.u,.int .i64 M.m,.int .i64 M.f,.string M.b,.slice ia M.ps.length ic] 41)).alloc (.cells #[.int .i64 0,.string ⟨#[]⟩,.int .i64 0,.slice none 0 0] 35)).alloc (.cells #[.int .i64 r,.string d,.int .i64 s] 32)) (w.heap.size+1) M (.slice ia M.ps.length ic)∧LiesE ((((w.alloc (.cells #[.int .i64 r,.string d,.int .i64 s,.slice a bs.length cap] 35)).alloc (.cells #[.int .i64 M.k,.int .i64 M.u,.int .i64 M.m,.int .i64 M.f,.string M.b,.slice ia M.ps.length ic] 41)).alloc (.cells #[.int .i64 0,.string ⟨#[]⟩,.int .i64 0,.slice none 0 0] 35)).alloc (.cells #[.int .i64 r,.string d,.int .i64 s] 32)) (w.heap.size+1+1) 35 0 ⟨#[]⟩ 0 (.slice none 0 0)∧lg.B3 ((((w.alloc (.cells #[.int .i64 r,.string d,.int .i64 s,.slice a bs.length cap] 35)).alloc (.cells #[.int .i64 M.k,.int .i64 M.u,.int .i64 M.m,.int .i64 M.f,.string M.b,.slice ia M.ps.length ic] 41)).alloc (.cells #[.int .i64 0,.string ⟨#[]⟩,.int .i64 0,.slice none 0 0] 35)).alloc (.cells #[.int .i64 r,.string d,.int .i64 s] 32)) (w.heap.size+1+1+1) 32 (.int .i64 r) (.string d) (.int .i64 s)∧Below w.heap.size w ((((w.alloc (.cells #[.int .i64 r,.string d,.int .i64 s,.slice a bs.length cap] 35)).alloc (.cells #[.int .i64 M.k,.int .i64 M.u,.int .i64 M.m,.int .i64 M.f,.string M.b,.slice ia M.ps.length ic] 41)).alloc (.cells #[.int .i64 0,.string ⟨#[]⟩,.int .i64 0,.slice none 0 0] 35)).alloc (.cells #[.int .i64 r,.string d,.int .i64 s] 32)):=by
 obtain ⟨k0,k1⟩:=two_lie w r d s (.slice a bs.length cap) M (.slice ia M.ps.length ic)
 have k2:=three_lie w r d s (.slice a bs.length cap) M (.slice ia M.ps.length ic)
 have n3:=new_below ((w.alloc (.cells #[.int .i64 r,.string d,.int .i64 s,.slice a bs.length cap] 35)).alloc (.cells #[.int .i64 M.k,.int .i64 M.u,.int .i64 M.m,.int .i64 M.f,.string M.b,.slice ia M.ps.length ic] 41)) 35 #[.int .i64 0,.string ⟨#[]⟩,.int .i64 0,.slice none 0 0]
 have n4:=new_below (((w.alloc (.cells #[.int .i64 r,.string d,.int .i64 s,.slice a bs.length cap] 35)).alloc (.cells #[.int .i64 M.k,.int .i64 M.u,.int .i64 M.m,.int .i64 M.f,.string M.b,.slice ia M.ps.length ic] 41)).alloc (.cells #[.int .i64 0,.string ⟨#[]⟩,.int .i64 0,.slice none 0 0] 35)) 32 #[.int .i64 r,.string d,.int .i64 s]
 have k3:=lg.b3_new (((w.alloc (.cells #[.int .i64 r,.string d,.int .i64 s,.slice a bs.length cap] 35)).alloc (.cells #[.int .i64 M.k,.int .i64 M.u,.int .i64 M.m,.int .i64 M.f,.string M.b,.slice ia M.ps.length ic] 41)).alloc (.cells #[.int .i64 0,.string ⟨#[]⟩,.int .i64 0,.slice none 0 0] 35)) 32 (.int .i64 r) (.string d) (.int .i64 s)
 rw [show (((w.alloc (.cells #[.int .i64 r,.string d,.int .i64 s,.slice a bs.length cap] 35)).alloc (.cells #[.int .i64 M.k,.int .i64 M.u,.int .i64 M.m,.int .i64 M.f,.string M.b,.slice ia M.ps.length ic] 41)).alloc (.cells #[.int .i64 0,.string ⟨#[]⟩,.int .i64 0,.slice none 0 0] 35)).heap.size=w.heap.size+1+1+1 by simp] at k3
 exact ⟨(k0.keep n3).keep n4,mu.Lies.keep (mu.Lies.keep k1 n3) n4,k2.keep n4,k3,(((new_below w _ _).alloc (by simp) _).alloc (by simp; omega) _).alloc (by simp; omega) _⟩
set_option maxHeartbeats 8000000 in
set_option maxRecDepth 100000 in
theorem crashS_any (r:Int) (d:ByteArray) (s:Int) (v:Value) (bs:List Bx) (vs:Nat→Value × Value) (M:mu.Mu) (iv:Value) (keep:Int) (w:World) (hr:lg.In r) (hd:d.size≤1048576) (hs:lg.In s) (hkp:lg.In keep) (hB:BoxesAt w v bs vs) (hf:Fines bs vs) (hsm:Smalls bs) (hC:Cn r d s bs) (hI:it.AttrsAt w iv M.ps) (hM:mu.Small M) (hmo:mu.mok M=true) :
  Calls Tryz.prog 36 #[EV r d s v,mu.MV M iv,.int .i64 keep] w fun e w'=>Lc r d s bs M keep e w'∧Below w.heap.size w w':=by
 have hso:=cn_sok hC
 have HAP:Hid (∀ W,Below w.heap.size w W→Calls Tryz.prog 43 #[v,mu.MV M iv] W fun e w'=>sa.Ls (sa.Am bs M) e w'∧Below W.heap.size W w'):=fun W hW=>sa.apply_any v bs vs M iv W (boxes_below hB hW) hf hsm (it.at_below hI hW) hM hso hmo
 have HBY:Hid (∀ W,Below w.heap.size w W→Calls Tryz.prog 44 #[mu.MV M iv] W fun e w'=>(∃ u,e=.returned u∧ra.Own w' W.heap.size u (mb.mB M))∧Below W.heap.size W w'):=fun W hW=>mb.lb_any M iv W (it.at_below hI hW) (mb.fits_of hmo)
 have HAD:Hid (∀ W,(mbt M).size≤20000→Calls Tryz.prog 45 #[LV r d s,.string (mbt M)] W fun e w'=>e=.returned (app1 r d s (mbt M))∧Below W.heap.size W w'):=fun W hx=>lg.l08Append_any r d s (mbt M) W hd hr hx
 have HEND:Hid (∀ D,Wd r d bs M D→(∀ x,Calls Tryz.prog 66 #[.agg #[.int .i64 r,.string D,.int .i64 s],.int .i64 keep] x fun e w'=>e=.returned (.agg #[.int .i64 r,.string (D.extract 0 (left D.size s keep)),.int .i64 ((left D.size s keep:Nat):Int)])∧Below x.heap.size x w')∧(∀ x,Calls Tryz.prog 65 #[.agg #[.int .i64 r,.string (D.extract 0 (left D.size s keep)),.int .i64 ((left D.size s keep:Nat):Int)]] x fun e w'=>Rt r (fx D s keep) e w'∧Below x.heap.size x w')):=fun D hD =>
  have hF:=fx_of keep hC hmo hD
  ⟨fun x=>lg.l08Crash_any r D s keep x (by have:=hF.size; omega) hF.ok hkp,fun x=>restart_any r d D s keep x hF⟩
 obtain ⟨⟨a,cap,rfl,_⟩,_⟩:=hB
 obtain ⟨ia,ic,rfl,_⟩:=hI
 clear hr hd hs hkp hf hsm hC hso hM hmo
 obtain ⟨k0,k1,k2,k3,b2⟩:=four_lie w r d s a cap bs M ia ic
 unfold EV
 unfold mu.MV at HAP HBY ⊢
 unfold LV at HAD
 have q0:=(liesE_new w 35 r d s (.slice a bs.length cap)).c0
 have c0:=k0.c0
 have c1:=k0.c1
 have c2:=k0.c2
 have c3:=k0.c3
 have d0:=mu.Lies.c0 k1
 have d1:=mu.Lies.c1 k1
 have d2:=mu.Lies.c2 k1
 have d3:=mu.Lies.c3 k1
 have d4:=mu.Lies.c4 k1
 have d5:=mu.Lies.c5 k1
 go_enter Tryz.func36,Tryz.ntmps36
 go_wp2_with fail
 generalize World.alloc _ _=W at k0 k1 k2 k3 b2 c0 c1 c2 c3 d0 d1 d2 d3 d4 d5 ⊢
 clear q0
 refine (HAP.out W b2).mono ?_
 rintro e w1 ⟨⟨L',zs,us,k,rfl,hA,hLB,hLF⟩,hb1⟩
 obtain ⟨⟨La,Lc,rfl,_⟩,_⟩:=hLB
 have HA:Hid (sa.Am bs M zs k):=hA
 have k1:LiesM w1 (w.heap.size+1) M (.slice ia M.ps.length ic):=mu.Lies.keep k1 hb1
 have k2:=k2.keep hb1
 have k3:=k3.keep hb1
 have b3:=b2.trans (hb1.mono b2.size)
 clear hLF hA c0 c1 c2 c3 d0 d1 d2 d3 d4 d5 k0 b2 hb1 HAP
 by_cases hk:k=0
 rotate_left
 ·have hk1:((k:Int) == 0)=false:=by rw [beq_eq_false_iff_ne]; exact hk
  have HD:Hid (Wd r d bs M d):=⟨zs,k,HA.out,.inl ⟨hk,rfl⟩⟩
  clear hk HA HAD HBY k1
  have HE2:=HEND.out (d) HD.out
  have HCR:Hid (∀ x,Calls Tryz.prog 66 #[.agg #[.int .i64 r,.string (d),.int .i64 s],.int .i64 keep] x fun e w'=>e=.returned (.agg #[.int .i64 r,.string ((d).extract 0 (left (d).size s keep)),.int .i64 ((left (d).size s keep:Nat):Int)])∧Below x.heap.size x w'):=HE2.1
  have HRT:Hid (∀ x,Calls Tryz.prog 65 #[.agg #[.int .i64 r,.string ((d).extract 0 (left (d).size s keep)),.int .i64 ((left (d).size s keep:Nat):Int)]] x fun e w'=>Rt r (fx (d) s keep) e w'∧Below x.heap.size x w'):=HE2.2
  clear HE2 HEND
  have c0:=k3.c0
  have c1:=k3.c1'
  have c2:=k3.c2'
  have HZZ:Hid (LiesE w1 (w.heap.size+1+1) 35 0 ⟨#[]⟩ 0 (.slice none 0 0)):=k2
  have HBB:Hid (Below w.heap.size w w1):=b3
  generalize hCC:d.extract 0 (left d.size s keep)=C at HCR HRT ⊢
  clear hCC
  generalize hKK:((left d.size s keep:Nat):Int)=K at HCR HRT ⊢
  clear hKK
  go_wp2_with fail
  refine (HCR.out _).mono ?_
  rintro e y1 ⟨rfl,yb1⟩
  clear c0 c1 c2
  go_wp2_with fail
  refine (HRT.out _).mono ?_
  rintro e y2 ⟨⟨L',ys,us',rfl,hRl,hB5,hf5,hs5,ho5⟩,yb2⟩
  have hb5':=yb1.trans (yb2.mono yb1.size)
  have k5:=HZZ.out.keep hb5'
  have HZ5:Hid (LiesE y2 (w.heap.size+1+1) 35 0 ⟨#[]⟩ 0 (.slice none 0 0)):=k5
  have HB5:Hid (Below w.heap.size w y2):=HBB.out.trans (hb5'.mono HBB.out.size)
  have HQ5:Hid (BoxesAt y2 L' ys us'∧Fines ys us'∧Smalls ys∧sok ys=true):=⟨hB5,hf5,hs5,ho5⟩
  obtain ⟨⟨La',Lc',rfl,_⟩,_⟩:=hB5
  have HX:Hid (Cd r d s bs M keep r (fx d s keep) (((fx d s keep).size:Nat):Int) ys 0):=⟨d,HD.out,rfl,rfl,rfl,rfl,hRl⟩
  generalize fx d s keep=F at HX ⊢
  generalize ((F.size:Nat):Int)=N' at HX ⊢
  have e0:=k5.c0
  have e1:=k5.c1
  have e2:=k5.c2
  have e3:=k5.c3
  have g0:=k5.f 0
  have g1:=k5.f 1
  have g2:=k5.f 2
  have g3:=k5.f 3
  clear hRl hf5 hs5 ho5 hb5' yb1 yb2 k5 HCR HRT HZZ HBB
  go_wp2
  change bodyPost _ _ _ _ _ (put4 y2 (w.heap.size+1+1) (.int .i64 r) (.string F) (.int .i64 N') (.slice La' ys.length Lc'))
  have A5:=(HZ5.out).put (r':=r) (d':=F) (s':=N') (v':=.slice La' ys.length Lc')
  have b5:=put4_below (a:=.int .i64 r) (b:=.string F) (c:=.int .i64 N') (d:=.slice La' ys.length Lc') (HB5.out) (show w.heap.size≤w.heap.size+1+1 by omega)
  have B5:BoxesAt (put4 y2 (w.heap.size+1+1) (.int .i64 r) (.string F) (.int .i64 N') (.slice La' ys.length Lc')) (.slice La' ys.length Lc') ys us':=boxes_eng HQ5.out.1 HQ5.out.2.2.2 HZ5.out (fun q hq=>put4_other _ _ _ _ _ _ _ hq) (put4_size _ _ _ _ _ _)
  generalize put4 _ _ _ _ _ _=W5 at A5 b5 B5 ⊢
  have x0:W5.cell? ⟨w.heap.size+1+1,0,none⟩=some (.int .i64 r):=A5.c0
  have x1:W5.cell? ⟨w.heap.size+1+1,1,none⟩=some (.string F):=A5.c1
  have x2:W5.cell? ⟨w.heap.size+1+1,2,none⟩=some (.int .i64 N'):=A5.c2
  have x3:W5.cell? ⟨w.heap.size+1+1,3,none⟩=some (.slice La' ys.length Lc'):=A5.c3
  exact bodyPost_ret (v:=.tuple #[.agg #[.int .i64 r,.string F,.int .i64 N',.slice La' ys.length Lc'],.int .i64 0]) (by simp [results,Tryz.results36,go_sem,x0,x1,x2,x3]) rfl ⟨⟨_,_,_,_,ys,us',_,rfl,HX.out,B5,HQ5.out.2⟩,b5⟩
 subst hk
 have d0:=mu.Lies.c0 k1
 have d1:=mu.Lies.c1 k1
 have d2:=mu.Lies.c2 k1
 have d3:=mu.Lies.c3 k1
 have d4:=mu.Lies.c4 k1
 have d5:=mu.Lies.c5 k1
 go_wp2_with fail
 refine (HBY.out w1 b3).mono ?_
 rintro e w2 ⟨⟨u,rfl,hu⟩,hb2⟩
 have hcv:=ow.conv_bytes (P:=Tryz.prog) (src:=77) (dst:=9) (mb.mB M) hu Tryz.underlying77 Tryz.underlying5 Tryz.underlying9
 obtain ⟨ua,uc,rfl⟩:=own_len hu
 have k2:=k2.keep hb2
 have k3:=k3.keep hb2
 have b4:=b3.trans (hb2.mono b3.size)
 have hcv:(convert 77 9 (.slice ua (mb.mB M).length uc)).run Tryz.prog w2=.ok (.string (mbt M)) w2:=hcv
 have HMS:Hid ((mb.mB M).length=(mbt M).size):=(mbt_size M).symm
 rw [HMS.out] at hcv ⊢
 clear hu hb2 d0 d1 d2 d3 d4 d5 k1 b3 HBY
 by_cases h20:20000 < (mbt M).size
 ·have h20':(20000:Int) < (((mbt M).size:Nat):Int):=by omega
  have HD:Hid (Wd r d bs M d):=⟨zs,0,HA.out,.inr (.inl ⟨rfl,.inl h20,rfl⟩)⟩
  clear h20 HA hcv HAD
  have HE2:=HEND.out (d) HD.out
  have HCR:Hid (∀ x,Calls Tryz.prog 66 #[.agg #[.int .i64 r,.string (d),.int .i64 s],.int .i64 keep] x fun e w'=>e=.returned (.agg #[.int .i64 r,.string ((d).extract 0 (left (d).size s keep)),.int .i64 ((left (d).size s keep:Nat):Int)])∧Below x.heap.size x w'):=HE2.1
  have HRT:Hid (∀ x,Calls Tryz.prog 65 #[.agg #[.int .i64 r,.string ((d).extract 0 (left (d).size s keep)),.int .i64 ((left (d).size s keep:Nat):Int)]] x fun e w'=>Rt r (fx (d) s keep) e w'∧Below x.heap.size x w'):=HE2.2
  clear HE2 HEND
  have c0:=k3.c0
  have c1:=k3.c1'
  have c2:=k3.c2'
  have HZZ:Hid (LiesE w2 (w.heap.size+1+1) 35 0 ⟨#[]⟩ 0 (.slice none 0 0)):=k2
  have HBB:Hid (Below w.heap.size w w2):=b4
  generalize hCC:d.extract 0 (left d.size s keep)=C at HCR HRT ⊢
  clear hCC
  generalize hKK:((left d.size s keep:Nat):Int)=K at HCR HRT ⊢
  clear hKK
  go_wp2_with fail
  refine (HCR.out _).mono ?_
  rintro e y1 ⟨rfl,yb1⟩
  clear c0 c1 c2
  go_wp2_with fail
  refine (HRT.out _).mono ?_
  rintro e y2 ⟨⟨L',ys,us',rfl,hRl,hB5,hf5,hs5,ho5⟩,yb2⟩
  have hb5':=yb1.trans (yb2.mono yb1.size)
  have k5:=HZZ.out.keep hb5'
  have HZ5:Hid (LiesE y2 (w.heap.size+1+1) 35 0 ⟨#[]⟩ 0 (.slice none 0 0)):=k5
  have HB5:Hid (Below w.heap.size w y2):=HBB.out.trans (hb5'.mono HBB.out.size)
  have HQ5:Hid (BoxesAt y2 L' ys us'∧Fines ys us'∧Smalls ys∧sok ys=true):=⟨hB5,hf5,hs5,ho5⟩
  obtain ⟨⟨La',Lc',rfl,_⟩,_⟩:=hB5
  have HX:Hid (Cd r d s bs M keep r (fx d s keep) (((fx d s keep).size:Nat):Int) ys 0):=⟨d,HD.out,rfl,rfl,rfl,rfl,hRl⟩
  generalize fx d s keep=F at HX ⊢
  generalize ((F.size:Nat):Int)=N' at HX ⊢
  have e0:=k5.c0
  have e1:=k5.c1
  have e2:=k5.c2
  have e3:=k5.c3
  have g0:=k5.f 0
  have g1:=k5.f 1
  have g2:=k5.f 2
  have g3:=k5.f 3
  clear hRl hf5 hs5 ho5 hb5' yb1 yb2 k5 HCR HRT HZZ HBB
  go_wp2
  change bodyPost _ _ _ _ _ (put4 y2 (w.heap.size+1+1) (.int .i64 r) (.string F) (.int .i64 N') (.slice La' ys.length Lc'))
  have A5:=(HZ5.out).put (r':=r) (d':=F) (s':=N') (v':=.slice La' ys.length Lc')
  have b5:=put4_below (a:=.int .i64 r) (b:=.string F) (c:=.int .i64 N') (d:=.slice La' ys.length Lc') (HB5.out) (show w.heap.size≤w.heap.size+1+1 by omega)
  have B5:BoxesAt (put4 y2 (w.heap.size+1+1) (.int .i64 r) (.string F) (.int .i64 N') (.slice La' ys.length Lc')) (.slice La' ys.length Lc') ys us':=boxes_eng HQ5.out.1 HQ5.out.2.2.2 HZ5.out (fun q hq=>put4_other _ _ _ _ _ _ _ hq) (put4_size _ _ _ _ _ _)
  generalize put4 _ _ _ _ _ _=W5 at A5 b5 B5 ⊢
  have x0:W5.cell? ⟨w.heap.size+1+1,0,none⟩=some (.int .i64 r):=A5.c0
  have x1:W5.cell? ⟨w.heap.size+1+1,1,none⟩=some (.string F):=A5.c1
  have x2:W5.cell? ⟨w.heap.size+1+1,2,none⟩=some (.int .i64 N'):=A5.c2
  have x3:W5.cell? ⟨w.heap.size+1+1,3,none⟩=some (.slice La' ys.length Lc'):=A5.c3
  exact bodyPost_ret (v:=.tuple #[.agg #[.int .i64 r,.string F,.int .i64 N',.slice La' ys.length Lc'],.int .i64 0]) (by simp [results,Tryz.results36,go_sem,x0,x1,x2,x3]) rfl ⟨⟨_,_,_,_,ys,us',_,rfl,HX.out,B5,HQ5.out.2⟩,b5⟩
 have h20':(((mbt M).size:Nat):Int)≤20000:=by omega
 have HAD2:=HAD.out w2 (by omega)
 unfold app1 RV LV at HAD2
 have c0:=k3.c0
 have c1:=k3.c1'
 have c2:=k3.c2'
 have hDD:∃ (D:ByteArray) (c:Int),Wd r d bs M D∧Calls Tryz.prog 45 #[.agg #[.int .i64 r,.string d,.int .i64 s],.string (mbt M)] w2 fun e w'=>e=.returned (.tuple #[.agg #[.int .i64 r,.string D,.int .i64 s],.int .i64 c])∧Below w2.heap.size w2 w':=by
  by_cases hroom:r < (d.size:Int)+7+(mbt M).size
  ·rw [if_pos hroom] at HAD2
   exact ⟨d,7,⟨zs,0,HA.out,.inr (.inl ⟨rfl,.inr hroom,rfl⟩)⟩,HAD2⟩
  ·rw [if_neg hroom] at HAD2
   exact ⟨d ++ fr (mbt M),0,⟨zs,0,HA.out,.inr (.inr ⟨rfl,fun h=>h.elim h20 hroom,rfl⟩)⟩,HAD2⟩
 obtain ⟨D,cD,hWd,hAd⟩:=hDD
 have HD:Hid (Wd r d bs M D):=hWd
 have HAD3:Hid (Calls Tryz.prog 45 #[.agg #[.int .i64 r,.string d,.int .i64 s],.string (mbt M)] w2 fun e w'=>e=.returned (.tuple #[.agg #[.int .i64 r,.string D,.int .i64 s],.int .i64 cD])∧Below w2.heap.size w2 w'):=hAd
 clear HA h20 HAD HAD2 hWd hAd
 go_wp2_with fail
 refine HAD3.out.mono ?_
 rintro e w3 ⟨rfl,hb3⟩
 have k2:=k2.keep hb3
 have k3:=k3.keep hb3
 have b5:=b4.trans (hb3.mono b4.size)
 clear c0 c1 c2 hcv HAD3 b4 hb3
 have y0:=k3.c0
 have y1:=k3.c1
 have y2:=k3.c2
 have f0:=k3.f 0
 have f1:=k3.f 1
 have f2:=k3.f 2
 have P0:lg.B3 (((w3.setCell ⟨w.heap.size+1+1+1,0,none⟩ (.int .i64 r)).setCell ⟨w.heap.size+1+1+1,1,none⟩ (.string D)).setCell ⟨w.heap.size+1+1+1,2,none⟩ (.int .i64 s)) (w.heap.size+1+1+1) 32 (.int .i64 r) (.string D) (.int .i64 s):=k3.put
 have P1:=liesE_put3 (g:=w.heap.size+1+1+1) (x:=.int .i64 r) (y:=.string D) (z:=.int .i64 s) k2 (by omega)
 have P2:Below w.heap.size w (((w3.setCell ⟨w.heap.size+1+1+1,0,none⟩ (.int .i64 r)).setCell ⟨w.heap.size+1+1+1,1,none⟩ (.string D)).setCell ⟨w.heap.size+1+1+1,2,none⟩ (.int .i64 s)):=lg.put_below b5 (by omega)
 clear k2 k3 b5
 go_upto_region 7 with fail
 generalize World.setCell _ _ _=x4 at P0 P1 P2 ⊢
 clear y0 y1 y2 f0 f1 f2
 have HE2:=HEND.out (D) HD.out
 have HCR:Hid (∀ x,Calls Tryz.prog 66 #[.agg #[.int .i64 r,.string (D),.int .i64 s],.int .i64 keep] x fun e w'=>e=.returned (.agg #[.int .i64 r,.string ((D).extract 0 (left (D).size s keep)),.int .i64 ((left (D).size s keep:Nat):Int)])∧Below x.heap.size x w'):=HE2.1
 have HRT:Hid (∀ x,Calls Tryz.prog 65 #[.agg #[.int .i64 r,.string ((D).extract 0 (left (D).size s keep)),.int .i64 ((left (D).size s keep:Nat):Int)]] x fun e w'=>Rt r (fx (D) s keep) e w'∧Below x.heap.size x w'):=HE2.2
 clear HE2 HEND
 have c0:=P0.c0
 have c1:=P0.c1'
 have c2:=P0.c2'
 have HZZ:Hid (LiesE x4 (w.heap.size+1+1) 35 0 ⟨#[]⟩ 0 (.slice none 0 0)):=P1
 have HBB:Hid (Below w.heap.size w x4):=P2
 generalize hCC:D.extract 0 (left D.size s keep)=C at HCR HRT ⊢
 clear hCC
 generalize hKK:((left D.size s keep:Nat):Int)=K at HCR HRT ⊢
 clear hKK
 go_wp2_with fail
 refine (HCR.out _).mono ?_
 rintro e y1 ⟨rfl,yb1⟩
 clear c0 c1 c2
 go_wp2_with fail
 refine (HRT.out _).mono ?_
 rintro e y2 ⟨⟨L',ys,us',rfl,hRl,hB5,hf5,hs5,ho5⟩,yb2⟩
 have hb5':=yb1.trans (yb2.mono yb1.size)
 have k5:=HZZ.out.keep hb5'
 have HZ5:Hid (LiesE y2 (w.heap.size+1+1) 35 0 ⟨#[]⟩ 0 (.slice none 0 0)):=k5
 have HB5:Hid (Below w.heap.size w y2):=HBB.out.trans (hb5'.mono HBB.out.size)
 have HQ5:Hid (BoxesAt y2 L' ys us'∧Fines ys us'∧Smalls ys∧sok ys=true):=⟨hB5,hf5,hs5,ho5⟩
 obtain ⟨⟨La',Lc',rfl,_⟩,_⟩:=hB5
 have HX:Hid (Cd r d s bs M keep r (fx D s keep) (((fx D s keep).size:Nat):Int) ys 0):=⟨D,HD.out,rfl,rfl,rfl,rfl,hRl⟩
 generalize fx D s keep=F at HX ⊢
 generalize ((F.size:Nat):Int)=N' at HX ⊢
 have e0:=k5.c0
 have e1:=k5.c1
 have e2:=k5.c2
 have e3:=k5.c3
 have g0:=k5.f 0
 have g1:=k5.f 1
 have g2:=k5.f 2
 have g3:=k5.f 3
 clear hRl hf5 hs5 ho5 hb5' yb1 yb2 k5 HCR HRT HZZ HBB
 go_wp2
 change bodyPost _ _ _ _ _ (put4 y2 (w.heap.size+1+1) (.int .i64 r) (.string F) (.int .i64 N') (.slice La' ys.length Lc'))
 have A5:=(HZ5.out).put (r':=r) (d':=F) (s':=N') (v':=.slice La' ys.length Lc')
 have b5:=put4_below (a:=.int .i64 r) (b:=.string F) (c:=.int .i64 N') (d:=.slice La' ys.length Lc') (HB5.out) (show w.heap.size≤w.heap.size+1+1 by omega)
 have B5:BoxesAt (put4 y2 (w.heap.size+1+1) (.int .i64 r) (.string F) (.int .i64 N') (.slice La' ys.length Lc')) (.slice La' ys.length Lc') ys us':=boxes_eng HQ5.out.1 HQ5.out.2.2.2 HZ5.out (fun q hq=>put4_other _ _ _ _ _ _ _ hq) (put4_size _ _ _ _ _ _)
 generalize put4 _ _ _ _ _ _=W5 at A5 b5 B5 ⊢
 have x0:W5.cell? ⟨w.heap.size+1+1,0,none⟩=some (.int .i64 r):=A5.c0
 have x1:W5.cell? ⟨w.heap.size+1+1,1,none⟩=some (.string F):=A5.c1
 have x2:W5.cell? ⟨w.heap.size+1+1,2,none⟩=some (.int .i64 N'):=A5.c2
 have x3:W5.cell? ⟨w.heap.size+1+1,3,none⟩=some (.slice La' ys.length Lc'):=A5.c3
 exact bodyPost_ret (v:=.tuple #[.agg #[.int .i64 r,.string F,.int .i64 N',.slice La' ys.length Lc'],.int .i64 0]) (by simp [results,Tryz.results36,go_sem,x0,x1,x2,x3]) rfl ⟨⟨_,_,_,_,ys,us',_,rfl,HX.out,B5,HQ5.out.2⟩,b5⟩
end Go.Proofs.YtnhcbiomkiljpaaGreatDoor.eg

namespace Go.Proofs.YtnhcbiomkiljpaaGreatDoor.eg
open Go.RowKit Go.WideShapes
open bx bl
open lg (LV RV fr recs left)
set_option linter.unusedVariables false
set_option maxHeartbeats 8000000 in
set_option maxRecDepth 100000 in
theorem specCc_any (r:Int) (d:ByteArray) (s:Int) (v:Value) (bs:List Bx) (vs:Nat→Value × Value) (M:mu.Mu) (iv:Value) (keep:Int) (w:World) (hr:lg.In r) (hd:d.size≤1048576) (hs:lg.In s) (hB:BoxesAt w v bs vs) (hf:Fines bs vs) (hsm:Smalls bs) (hcv:∀ a n c,v=.slice a n c→n≤c) (hcu:∀ j,j < bs.length→∀ a n c,(vs j).2=.slice a n c→n≤c) (hI:it.AttrsAt w iv M.ps) (hM:mu.Small M) (hkp:lg.In keep) :
  Calls Tryz.prog 16 #[EV r d s v,mu.MV M iv,.int .i64 keep] w fun e w'=>CcRet r d s bs M keep w.heap.size e w'∧Below w.heap.size w w':=by
 have HAK:Hid (∀ W,Below w.heap.size w W→Calls Tryz.prog 21 #[EV r d s v,mu.MV M iv] W fun e w'=>Ak r d s bs M e∧Below W.heap.size W w'):=fun W hW=>ask_any r d s v bs vs M iv W hr hd hs (boxes_below hB hW) hsm hcv hcu (it.at_below hI hW) hM
 have HCO:Hid (∀ W,Below w.heap.size w W→Cn r d s bs→mu.mok M=true→Calls Tryz.prog 36 #[EV r d s v,mu.MV M iv,.int .i64 keep] W fun e w'=>Lc r d s bs M keep e w'∧Below W.heap.size W w'):=fun W hW hC hm=>crashS_any r d s v bs vs M iv keep W hr hd hs hkp (boxes_below hB hW) hf hsm hC (it.at_below hI hW) hM hm
 have HSM:Hid (Smalls bs∧mu.Small M):=⟨hsm,hM⟩
 obtain ⟨⟨a,cap,rfl,_⟩,_⟩:=hB
 obtain ⟨ia,ic,rfl,_⟩:=hI
 obtain ⟨k0,k1⟩:=two_lie w r d s (.slice a bs.length cap) M (.slice ia M.ps.length ic)
 have k2:=three_lie w r d s (.slice a bs.length cap) M (.slice ia M.ps.length ic)
 have k0:=k0.keep (new_below _ 35 #[.int .i64 0,.string ⟨#[]⟩,.int .i64 0,.slice none 0 0])
 have k1:LiesM (((w.alloc (.cells #[.int .i64 r,.string d,.int .i64 s,.slice a bs.length cap] 35)).alloc (.cells #[.int .i64 M.k,.int .i64 M.u,.int .i64 M.m,.int .i64 M.f,.string M.b,.slice ia M.ps.length ic] 41)).alloc (.cells #[.int .i64 0,.string ⟨#[]⟩,.int .i64 0,.slice none 0 0] 35)) (w.heap.size+1) M (.slice ia M.ps.length ic):=mu.Lies.keep k1 (new_below _ 35 #[.int .i64 0,.string ⟨#[]⟩,.int .i64 0,.slice none 0 0])
 have b2:Below w.heap.size w (((w.alloc (.cells #[.int .i64 r,.string d,.int .i64 s,.slice a bs.length cap] 35)).alloc (.cells #[.int .i64 M.k,.int .i64 M.u,.int .i64 M.m,.int .i64 M.f,.string M.b,.slice ia M.ps.length ic] 41)).alloc (.cells #[.int .i64 0,.string ⟨#[]⟩,.int .i64 0,.slice none 0 0] 35)):=((new_below w _ _).alloc (by simp) _).alloc (by simp; omega) _
 have sz:(((w.alloc (.cells #[.int .i64 r,.string d,.int .i64 s,.slice a bs.length cap] 35)).alloc (.cells #[.int .i64 M.k,.int .i64 M.u,.int .i64 M.m,.int .i64 M.f,.string M.b,.slice ia M.ps.length ic] 41)).alloc (.cells #[.int .i64 0,.string ⟨#[]⟩,.int .i64 0,.slice none 0 0] 35)).heap.size=w.heap.size+1+1+1:=by simp
 clear hr hd hs hf hsm hM hcv hcu hkp
 unfold EV mu.MV at *
 have c0:=k0.c0
 have c1:=k0.c1
 have c2:=k0.c2
 have c3:=k0.c3
 have d0:=mu.Lies.c0 k1
 have d1:=mu.Lies.c1 k1
 have d2:=mu.Lies.c2 k1
 have d3:=mu.Lies.c3 k1
 have d4:=mu.Lies.c4 k1
 have d5:=mu.Lies.c5 k1
 go_enter Tryz.func16,Tryz.ntmps16
 go_wp2_with fail
 generalize World.alloc _ _=W at k0 k1 k2 b2 sz c0 c1 c2 c3 d0 d1 d2 d3 d4 d5 ⊢
 refine (HAK.out W b2).mono ?_
 rintro e w1 ⟨⟨k,rfl,hk⟩,hb1⟩
 have b3:=b2.trans (hb1.mono b2.size)
 have k0:=k0.keep hb1
 have k1:LiesM w1 (w.heap.size+1) M (.slice ia M.ps.length ic):=mu.Lies.keep k1 hb1
 have k2:=k2.keep hb1
 clear c0 c1 c2 c3 d0 d1 d2 d3 d4 d5 b2 hb1 HAK sz
 rcases hk with ⟨rfl,hC,hm⟩ | ⟨rfl,hn⟩
 rotate_left
 ·have HX:Hid (Cc r d s bs M keep 0 ⟨#[]⟩ 0 [] 1):=.inl ⟨hn,rfl,rfl,rfl,rfl,rfl⟩
  have HZ:Hid (LiesE w1 (w.heap.size+1+1) 35 0 ⟨#[]⟩ 0 (.slice none 0 0)):=k2
  clear hn HCO
  have e0:=k2.c0
  have e1:=k2.c1
  have e2:=k2.c2
  have e3:=k2.c3
  have g0:=k2.f 0
  have g1:=k2.f 1
  have g2:=k2.f 2
  have g3:=k2.f 3
  go_wp2
  change bodyPost _ _ _ _ _ (put4 (w1) (w.heap.size+1+1) (.int .i64 0) (.string ⟨#[]⟩) (.int .i64 (0)) (.slice none 0 0))
  have A5:=(HZ.out).put (r':=0) (d':=⟨#[]⟩) (s':=0) (v':=.slice none 0 0)
  have b5:=put4_below (a:=.int .i64 0) (b:=.string ⟨#[]⟩) (c:=.int .i64 (0)) (d:=.slice none 0 0) (b3) (show w.heap.size≤w.heap.size+1+1 by omega)
  have O5:=(rp.ownL_nil _ _ _:OwnL (put4 (w1) (w.heap.size+1+1) (.int .i64 0) (.string ⟨#[]⟩) (.int .i64 (0)) (.slice none 0 0)) w.heap.size (.slice none 0 0) [] rp.nv)
  generalize put4 _ _ _ _ _ _=W5 at A5 b5 O5 ⊢
  have x0:W5.cell? ⟨w.heap.size+1+1,0,none⟩=some (.int .i64 0):=A5.c0
  have x1:W5.cell? ⟨w.heap.size+1+1,1,none⟩=some (.string ⟨#[]⟩):=A5.c1
  have x2:W5.cell? ⟨w.heap.size+1+1,2,none⟩=some (.int .i64 (0)):=A5.c2
  have x3:W5.cell? ⟨w.heap.size+1+1,3,none⟩=some (.slice none 0 0):=A5.c3
  exact bodyPost_ret (v:=.tuple #[.agg #[.int .i64 0,.string ⟨#[]⟩,.int .i64 (0),.slice none 0 0],.int .i64 1]) (by simp [results,Tryz.results16,go_sem,x0,x1,x2,x3]) rfl ⟨⟨_,_,_,_,_,rp.nv,_,rfl,HX.out,O5,rp.smalls_nil,rp.sok_nil⟩,b5⟩
 have HCN:Hid (Cn r d s bs∧mu.mok M=true):=⟨hC,hm⟩
 have HC2:Hid (Calls Tryz.prog 36 #[.agg #[.int .i64 r,.string d,.int .i64 s,.slice a bs.length cap],.agg #[.int .i64 M.k,.int .i64 M.u,.int .i64 M.m,.int .i64 M.f,.string M.b,.slice ia M.ps.length ic],.int .i64 keep] w1 fun e w'=>Lc r d s bs M keep e w'∧Below w1.heap.size w1 w'):=HCO.out w1 b3 hC hm
 clear hC hm HCO
 have c0:=k0.c0
 have c1:=k0.c1
 have c2:=k0.c2
 have c3:=k0.c3
 have d0:=mu.Lies.c0 k1
 have d1:=mu.Lies.c1 k1
 have d2:=mu.Lies.c2 k1
 have d3:=mu.Lies.c3 k1
 have d4:=mu.Lies.c4 k1
 have d5:=mu.Lies.c5 k1
 clear k0 k1
 go_wp2_with fail
 refine HC2.out.mono ?_
 rintro e w3 ⟨⟨r',d',s',L,ys,us,c,rfl,hX,hLB,hLF,hS1,hS2⟩,hb3⟩
 have HX:Hid (Cc r d s bs M keep r' d' s' ys c):=.inr ⟨HCN.out.1,HCN.out.2,hX⟩
 have HSMQ:Hid (Smalls ys):=hS1
 have HSZ:Hid (Smalls ys∧sok ys=true):=⟨hS1,hS2⟩
 clear hS1 hS2
 have HLB:Hid (BoxesAt w3 L ys us∧Fines ys us):=⟨hLB,hLF⟩
 obtain ⟨⟨La,Lc,rfl,_⟩,_⟩:=hLB
 have N4:=liesE_new w3 35 r' d' s' (.slice La ys.length Lc)
 have n4:=new_below w3 35 #[.int .i64 r',.string d',.int .i64 s',.slice La ys.length Lc]
 have k3:=(k2.keep hb3).keep n4
 have hl2:=k2.lt
 have hb4:=hb3.trans (n4.mono hb3.size)
 have HB4:Hid (Below w.heap.size w (w3.alloc (.cells #[.int .i64 r',.string d',.int .i64 s',.slice La ys.length Lc] 35))):=b3.trans (hb4.mono b3.size)
 have hs4:=hb4.size
 have HOW:Hid (Calls Tryz.prog 23 #[.agg #[.int .i64 r',.string d',.int .i64 s',.slice La ys.length Lc]] (w3.alloc (.cells #[.int .i64 r',.string d',.int .i64 s',.slice La ys.length Lc] 35)) fun e w'=>(∃ L us,e=.returned (EV r' d' s' L)∧OwnL w' ((w3.alloc (.cells #[.int .i64 r',.string d',.int .i64 s',.slice La ys.length Lc] 35)).heap.size+2) L ys us)∧Below (w3.alloc (.cells #[.int .i64 r',.string d',.int .i64 s',.slice La ys.length Lc] 35)).heap.size (w3.alloc (.cells #[.int .i64 r',.string d',.int .i64 s',.slice La ys.length Lc] 35)) w'):=ownE_any r' d' s' _ ys us _ (boxes_below HLB.out.1 n4) HLB.out.2 HSMQ.out
 have n0:=N4.c0
 have n1:=N4.c1
 have n2:=N4.c2
 have n3:=N4.c3
 clear c0 c1 c2 c3 d0 d1 d2 d3 d4 d5 hX hLF HC2 hb3 hb4 N4 n4 k2
 go_wp2_with fail
 generalize w3.alloc _=w4 at HOW k3 HB4 n0 n1 n2 n3 hs4 ⊢
 refine HOW.out.mono ?_
 rintro e w5 ⟨⟨L2,us2,rfl,hO⟩,hb5⟩
 obtain ⟨La2,Ln2,Lc2,rfl⟩:=slice_fine (own_fine hO.1)
 have HO5:Hid (OwnL w5 (w.heap.size+1+1+1) (.slice La2 Ln2 Lc2) ys us2):=sa.ownL_le hO (by omega)
 have k5:=k3.keep hb5
 have HZ5:Hid (LiesE w5 (w.heap.size+1+1) 35 0 ⟨#[]⟩ 0 (.slice none 0 0)):=k5
 have HB5:Hid (Below w.heap.size w w5):=HB4.out.trans (hb5.mono HB4.out.size)
 unfold EV
 clear hO hb5 k3 n0 n1 n2 n3 HOW HLB HSMQ
 have e0:=k5.c0
 have e1:=k5.c1
 have e2:=k5.c2
 have e3:=k5.c3
 have g0:=k5.f 0
 have g1:=k5.f 1
 have g2:=k5.f 2
 have g3:=k5.f 3
 go_wp2
 change bodyPost _ _ _ _ _ (put4 (w5) (w.heap.size+1+1) (.int .i64 r') (.string d') (.int .i64 (s')) (.slice La2 Ln2 Lc2))
 have A5:=(HZ5.out).put (r':=r') (d':=d') (s':=s') (v':=.slice La2 Ln2 Lc2)
 have b5:=put4_below (a:=.int .i64 r') (b:=.string d') (c:=.int .i64 (s')) (d:=.slice La2 Ln2 Lc2) (HB5.out) (show w.heap.size≤w.heap.size+1+1 by omega)
 have O5:=ownL_hi (w':=put4 (w5) (w.heap.size+1+1) (.int .i64 r') (.string d') (.int .i64 (s')) (.slice La2 Ln2 Lc2)) (HO5.out) (fun q hq=>put4_other _ _ _ _ _ _ _ (by omega))
 generalize put4 _ _ _ _ _ _=W5 at A5 b5 O5 ⊢
 have x0:W5.cell? ⟨w.heap.size+1+1,0,none⟩=some (.int .i64 r'):=A5.c0
 have x1:W5.cell? ⟨w.heap.size+1+1,1,none⟩=some (.string d'):=A5.c1
 have x2:W5.cell? ⟨w.heap.size+1+1,2,none⟩=some (.int .i64 (s')):=A5.c2
 have x3:W5.cell? ⟨w.heap.size+1+1,3,none⟩=some (.slice La2 Ln2 Lc2):=A5.c3
 exact bodyPost_ret (v:=.tuple #[.agg #[.int .i64 r',.string d',.int .i64 (s'),.slice La2 Ln2 Lc2],.int .i64 c]) (by simp [results,Tryz.results16,go_sem,x0,x1,x2,x3]) rfl ⟨⟨_,_,_,_,_,us2,_,rfl,HX.out,sa.ownL_le O5 (by omega),HSZ.out.1,HSZ.out.2⟩,b5⟩
end Go.Proofs.YtnhcbiomkiljpaaGreatDoor.eg

namespace Go.Proofs.YtnhcbiomkiljpaaGreatDoor.eg
open Go.RowKit Go.WideShapes
open bx bl ml
set_option linter.unusedVariables false
def Cq (r:Int) (d:ByteArray) (s:Int) (bs:List Bx) (M:mu.Mu) (keep:Int) (r':Int) (d':ByteArray) (s':Int) (ys:List Bx) (c:Int):Prop:=Cc r d s bs M keep r' d' s' ys c∧Smalls ys∧sok ys=true
structure JK (W:World) (AGE AGM:Value) (r:Int) (d:ByteArray) (s:Int) (xs:List Bx) (x:mu.Mu) (kp:Int) (D:Nat→Prop) (f:Nat→Value) (X:World):Prop where
 pk:D 4→f 4=.int .i64 kp
 bel:Below W.heap.size W X
 p0:D 0→f 0=AGE
 p1:D 1→¬ D 5→∃ B us,f 1=.agg #[.int .i64 r,.string d,.int .i64 s,.slice (some ⟨B,0,none⟩) xs.length xs.length]∧BoxesAt X (.slice (some ⟨B,0,none⟩) xs.length xs.length) xs us∧Fines xs us∧∀ j,j < xs.length→∀ a n c,(us j).2=.slice a n c→n≤c
 p2:D 2→f 2=AGM
 p3:D 3→¬ D 5→∃ g,f 3=mu.MV x (.slice (some ⟨g,0,none⟩) x.ps.length x.ps.length)∧it.AttrsAt X (.slice (some ⟨g,0,none⟩) x.ps.length x.ps.length) x.ps
 p8:D 9→∃ g,f 9=.pointer (some ⟨g,0,none⟩)∧W.heap.size≤g∧(¬ D 10→LiesE X g 35 0 ⟨#[]⟩ 0 (.slice none 0 0))
 p4:D 5→∃ (r':Int) (d':ByteArray) (s':Int) (La:Option Addr) (Ln Lc:Nat) (ys:List Bx) (us:Nat→Value × Value) (c:Int),f 5=.tuple #[.agg #[.int .i64 r',.string d',.int .i64 s',.slice La Ln Lc],.int .i64 c]∧Cq r d s xs x kp r' d' s' ys c∧OwnL X W.heap.size (.slice La Ln Lc) ys us ∧
  (D 6→f 6=.tuple #[.agg #[.int .i64 r',.string d',.int .i64 s',.slice La Ln Lc],.int .i64 c])∧(D 7→f 7=.agg #[.int .i64 r',.string d',.int .i64 s',.slice La Ln Lc])∧(D 8→f 8=.int .i64 c)∧(D 11→f 11=.int .i64 c)∧(D 10→∃ g,f 9=.pointer (some ⟨g,0,none⟩)∧LiesE X g 35 r' d' s' (.slice La Ln Lc))
section
variable {W:World} {AGE AGM:Value} {r:Int} {d:ByteArray} {s:Int} {xs:List Bx} {x:mu.Mu} {kp:Int} {D:Nat→Prop} {f:Nat→Value} {X X':World}
theorem JK.start (X:World) (hb:Below W.heap.size W X) (f:Nat→Value):JK W AGE AGM r d s xs x kp (fun _=>False) f X :=
 ⟨fun h=>h.elim,hb,fun h=>h.elim,fun h=>h.elim,fun h=>h.elim,fun h=>h.elim,fun h=>h.elim,fun h=>h.elim⟩
theorem JK.below (h:JK W AGE AGM r d s xs x kp D f X) (hb:Below X.heap.size X X'):JK W AGE AGM r d s xs x kp D f X':=by
 refine ⟨h.pk,h.bel.trans (hb.mono h.bel.size),h.p0,fun a b=>?_,h.p2,fun a b=>?_,fun a=>?_,fun a=>?_⟩
 ·obtain ⟨B,us,e,h1,h2,h3⟩:=h.p1 a b
  exact ⟨B,us,e,boxes_below h1 hb,h2,h3⟩
 ·obtain ⟨g,e,h1⟩:=h.p3 a b
  exact ⟨g,e,it.at_below h1 hb⟩
 ·obtain ⟨g,e,hg,h1⟩:=h.p8 a
  exact ⟨g,e,hg,fun n=>(h1 n).keep hb⟩
 ·obtain ⟨r',d',s',La,Ln,Lc,ys,us,c,e,hC,hO,h5,h6,h7,h10,h9⟩:=h.p4 a
  exact ⟨r',d',s',La,Ln,Lc,ys,us,c,e,hC,ownL_below hO hb,h5,h6,h7,h10,fun n=>by obtain ⟨g,e,h1⟩:=h9 n; exact ⟨g,e,h1.keep hb⟩⟩
theorem JK.op0 (h:JK W AGE AGM r d s xs x kp D f X):JK W AGE AGM r d s xs x kp (fun j=>j=0 ∨ D j) (rs.upd f 0 AGE) X :=
 ⟨by simpa [rs.upd] using h.pk,h.bel,fun _=>by simp [rs.upd],by simpa [rs.upd] using h.p1,by simpa [rs.upd] using h.p2,by simpa [rs.upd] using h.p3,by simpa [rs.upd] using h.p8,by simpa [rs.upd] using h.p4⟩
theorem JK.op2 (h:JK W AGE AGM r d s xs x kp D f X):JK W AGE AGM r d s xs x kp (fun j=>j=2 ∨ D j) (rs.upd f 2 AGM) X :=
 ⟨by simpa [rs.upd] using h.pk,h.bel,by simpa [rs.upd] using h.p0,by simpa [rs.upd] using h.p1,fun _=>by simp [rs.upd],by simpa [rs.upd] using h.p3,by simpa [rs.upd] using h.p8,by simpa [rs.upd] using h.p4⟩
theorem JK.op1 (h:JK W AGE AGM r d s xs x kp D f X) {B:Nat} {us:Nat→Value × Value} (h1:BoxesAt X (.slice (some ⟨B,0,none⟩) xs.length xs.length) xs us) (h2:Fines xs us) (h3:∀ j,j < xs.length→∀ a n c,(us j).2=.slice a n c→n≤c):JK W AGE AGM r d s xs x kp (fun j=>j=1 ∨ D j) (rs.upd f 1 (.agg #[.int .i64 r,.string d,.int .i64 s,.slice (some ⟨B,0,none⟩) xs.length xs.length])) X :=
 ⟨by simpa [rs.upd] using h.pk,h.bel,by simpa [rs.upd] using h.p0,fun _ _=>⟨B,us,by simp [rs.upd],h1,h2,h3⟩,by simpa [rs.upd] using h.p2,by simpa [rs.upd] using h.p3,by simpa [rs.upd] using h.p8,by simpa [rs.upd] using h.p4⟩
theorem JK.op3 (h:JK W AGE AGM r d s xs x kp D f X) {g:Nat} (h1:it.AttrsAt X (.slice (some ⟨g,0,none⟩) x.ps.length x.ps.length) x.ps):JK W AGE AGM r d s xs x kp (fun j=>j=3 ∨ D j) (rs.upd f 3 (mu.MV x (.slice (some ⟨g,0,none⟩) x.ps.length x.ps.length))) X :=
 ⟨by simpa [rs.upd] using h.pk,h.bel,by simpa [rs.upd] using h.p0,by simpa [rs.upd] using h.p1,by simpa [rs.upd] using h.p2,fun _ _=>⟨g,by simp [rs.upd],h1⟩,by simpa [rs.upd] using h.p8,by simpa [rs.upd] using h.p4⟩
theorem JK.op4 (h:JK W AGE AGM r d s xs x kp D f X) (n5:¬ D 6) (n6:¬ D 7) (n7:¬ D 8) (n9:¬ D 10) (n10:¬ D 11) {r':Int} {d':ByteArray} {s':Int} {La:Option Addr} {Ln Lc:Nat} {ys:List Bx} {us:Nat→Value × Value} {c:Int} (hC:Cq r d s xs x kp r' d' s' ys c) (hO:OwnL X W.heap.size (.slice La Ln Lc) ys us):JK W AGE AGM r d s xs x kp (fun j=>j=5 ∨ D j) (rs.upd f 5 (.tuple #[.agg #[.int .i64 r',.string d',.int .i64 s',.slice La Ln Lc],.int .i64 c])) X :=
 ⟨by simpa [rs.upd] using h.pk,h.bel,by simpa [rs.upd] using h.p0,fun _ n=>absurd (.inl rfl) n,by simpa [rs.upd] using h.p2,fun _ n=>absurd (.inl rfl) n,by simpa [rs.upd] using h.p8,fun _=>⟨r',d',s',La,Ln,Lc,ys,us,c,by simp [rs.upd],hC,hO,by simp [n5],by simp [n6],by simp [n7],by simp [n10],by simp [n9]⟩⟩
theorem JK.op8 (h:JK W AGE AGM r d s xs x kp D f X) (n9:¬ D 10) {g:Nat} (hg:W.heap.size≤g) (h1:LiesE X g 35 0 ⟨#[]⟩ 0 (.slice none 0 0)):JK W AGE AGM r d s xs x kp (fun j=>j=9 ∨ D j) (rs.upd f 9 (.pointer (some ⟨g,0,none⟩))) X :=
 ⟨by simpa [rs.upd] using h.pk,h.bel,by simpa [rs.upd] using h.p0,by simpa [rs.upd] using h.p1,by simpa [rs.upd] using h.p2,by simpa [rs.upd] using h.p3,fun _=>⟨g,by simp [rs.upd],hg,fun _=>h1⟩,fun a=>by
  obtain ⟨r',d',s',La,Ln,Lc,ys,us,c,e,hC,hO,h5,h6,h7,h10,h9⟩:=h.p4 (by simpa using a)
  exact ⟨r',d',s',La,Ln,Lc,ys,us,c,by simpa [rs.upd] using e,hC,hO,by simpa [rs.upd] using h5,by simpa [rs.upd] using h6,by simpa [rs.upd] using h7,by simpa [rs.upd] using h10,by simp [n9]⟩⟩
theorem JK.op5 (h:JK W AGE AGM r d s xs x kp D f X) (d4:D 5):JK W AGE AGM r d s xs x kp (fun j=>j=6 ∨ D j) (rs.upd f 6 (f 5)) X :=
 ⟨by simpa [rs.upd] using h.pk,h.bel,by simpa [rs.upd] using h.p0,by simpa [rs.upd] using h.p1,by simpa [rs.upd] using h.p2,by simpa [rs.upd] using h.p3,by simpa [rs.upd] using h.p8,fun _=>by
  obtain ⟨r',d',s',La,Ln,Lc,ys,us,c,e,hC,hO,h5,h6,h7,h10,h9⟩:=h.p4 d4
  exact ⟨r',d',s',La,Ln,Lc,ys,us,c,by simpa [rs.upd] using e,hC,hO,fun _=>by simpa [rs.upd] using e,by simpa [rs.upd] using h6,by simpa [rs.upd] using h7,by simpa [rs.upd] using h10,by simpa [rs.upd] using h9⟩⟩
theorem JK.op6 (h:JK W AGE AGM r d s xs x kp D f X) (d4:D 5) (d5:D 6) {y z:Value} (ey:f 6=.tuple #[y,z]):JK W AGE AGM r d s xs x kp (fun j=>j=7 ∨ D j) (rs.upd f 7 y) X :=
 ⟨by simpa [rs.upd] using h.pk,h.bel,by simpa [rs.upd] using h.p0,by simpa [rs.upd] using h.p1,by simpa [rs.upd] using h.p2,by simpa [rs.upd] using h.p3,by simpa [rs.upd] using h.p8,fun _=>by
  obtain ⟨r',d',s',La,Ln,Lc,ys,us,c,e,hC,hO,h5,h6,h7,h10,h9⟩:=h.p4 d4
  have hy:y=.agg #[.int .i64 r',.string d',.int .i64 s',.slice La Ln Lc]:=(tuple2 (ey.symm.trans (h5 d5))).1
  exact ⟨r',d',s',La,Ln,Lc,ys,us,c,by simpa [rs.upd] using e,hC,hO,by simpa [rs.upd] using h5,fun _=>by simpa [rs.upd] using hy,by simpa [rs.upd] using h7,by simpa [rs.upd] using h10,by simpa [rs.upd] using h9⟩⟩
theorem JK.op7 (h:JK W AGE AGM r d s xs x kp D f X) (d4:D 5) (d5:D 6) {y z:Value} (ey:f 6=.tuple #[y,z]):JK W AGE AGM r d s xs x kp (fun j=>j=8 ∨ D j) (rs.upd f 8 z) X :=
 ⟨by simpa [rs.upd] using h.pk,h.bel,by simpa [rs.upd] using h.p0,by simpa [rs.upd] using h.p1,by simpa [rs.upd] using h.p2,by simpa [rs.upd] using h.p3,by simpa [rs.upd] using h.p8,fun _=>by
  obtain ⟨r',d',s',La,Ln,Lc,ys,us,c,e,hC,hO,h5,h6,h7,h10,h9⟩:=h.p4 d4
  have hz:z=.int .i64 c:=(tuple2 (ey.symm.trans (h5 d5))).2
  exact ⟨r',d',s',La,Ln,Lc,ys,us,c,by simpa [rs.upd] using e,hC,hO,by simpa [rs.upd] using h5,by simpa [rs.upd] using h6,fun _=>by simpa [rs.upd] using hz,by simpa [rs.upd] using h10,by simpa [rs.upd] using h9⟩⟩
theorem JK.op10 (h:JK W AGE AGM r d s xs x kp D f X) (d4:D 5) (d7:D 8):JK W AGE AGM r d s xs x kp (fun j=>j=11 ∨ D j) (rs.upd f 11 (f 8)) X :=
 ⟨by simpa [rs.upd] using h.pk,h.bel,by simpa [rs.upd] using h.p0,by simpa [rs.upd] using h.p1,by simpa [rs.upd] using h.p2,by simpa [rs.upd] using h.p3,by simpa [rs.upd] using h.p8,fun _=>by
  obtain ⟨r',d',s',La,Ln,Lc,ys,us,c,e,hC,hO,h5,h6,h7,h10,h9⟩:=h.p4 d4
  exact ⟨r',d',s',La,Ln,Lc,ys,us,c,by simpa [rs.upd] using e,hC,hO,by simpa [rs.upd] using h5,by simpa [rs.upd] using h6,by simpa [rs.upd] using h7,fun _=>by simpa [rs.upd] using h7 d7,by simpa [rs.upd] using h9⟩⟩
theorem JK.op9 (h:JK W AGE AGM r d s xs x kp D f X) (d4:D 5) (d6:D 7) (n9:¬ D 10) {g:Nat} {r2:Int} {d2:ByteArray} {s2:Int} {L2:Value} (d8:D 9) (e8:f 9=.pointer (some ⟨g,0,none⟩)) (e6:f 7=.agg #[.int .i64 r2,.string d2,.int .i64 s2,L2]):JK W AGE AGM r d s xs x kp (fun j=>j=10 ∨ D j) (rs.upd f 10 undef) (put4 X g (.int .i64 r2) (.string d2) (.int .i64 s2) L2):=by
 obtain ⟨g',e8',hg,hz⟩:=h.p8 d8
 obtain rfl:g'=g:=by have:=e8'.symm.trans e8; injection this with this; injection this with this; injection this
 have hL:=hz n9
 obtain ⟨r',d',s',La,Ln,Lc,ys,us,c,e,hC,hO,h5,h6,h7,h10,h9⟩:=h.p4 d4
 have hE:=e6.symm.trans (h6 d6)
 simp only [Value.agg.injEq,Array.mk.injEq,List.cons.injEq,Value.int.injEq,Value.string.injEq,true_and,and_true] at hE
 obtain ⟨rfl,rfl,rfl,rfl⟩:=hE
 refine ⟨by simpa [rs.upd] using h.pk,put4_below h.bel hg,by simpa [rs.upd] using h.p0,fun _ n=>absurd (.inr d4) n,by simpa [rs.upd] using h.p2,fun _ n=>absurd (.inr d4) n,fun _=>⟨g',by simpa [rs.upd] using e8,hg,fun n=>absurd (.inl rfl) n⟩,fun _=>?_⟩
 exact ⟨_,_,_,La,Ln,Lc,ys,us,c,by simpa [rs.upd] using e,hC,ownL_eng hO hL (fun q hq=>put4_other _ _ _ _ _ _ _ hq),by simpa [rs.upd] using h5,by simpa [rs.upd] using h6,by simpa [rs.upd] using h7,by simpa [rs.upd] using h10,fun _=>⟨g',by simpa [rs.upd] using e8,hL.put⟩⟩
theorem JK.opk (h:JK W AGE AGM r d s xs x kp D f X):JK W AGE AGM r d s xs x kp (fun j=>j=4 ∨ D j) (rs.upd f 4 (.int .i64 kp)) X :=
 ⟨fun _=>by simp [rs.upd],h.bel,by simpa [rs.upd] using h.p0,by simpa [rs.upd] using h.p1,by simpa [rs.upd] using h.p2,by simpa [rs.upd] using h.p3,by simpa [rs.upd] using h.p8,by simpa [rs.upd] using h.p4⟩
end
end Go.Proofs.YtnhcbiomkiljpaaGreatDoor.eg

namespace Go.Proofs.YtnhcbiomkiljpaaGreatDoor.ml
open Go.RowKit
open gr mk st bx mm mx bl
open ky (TextsAt OwnT own_texts)
set_option linter.unusedVariables false
def Kp (w w':World):Prop:=∀ k:Nat,(∃ c:Array Value,w.heap[k]? = some (Obj.cells c 35 (0,0)))→w'.heap[k]? = w.heap[k]?
theorem kp_refl (w:World):Kp w w:=fun _ _=>rfl
theorem kp_trans {a b c:World} (h:Kp a b) (h':Kp b c):Kp a c:=fun k hk=>(h' k (by obtain ⟨x,e⟩:=hk; exact ⟨x,(h k ⟨x,e⟩).trans e⟩)).trans (h k hk)
theorem kp_below {w w':World} (h:Below w.heap.size w w'):Kp w w':=fun k hk=>by
 obtain ⟨c,e⟩:=hk
 exact h.block k (Array.getElem?_eq_some_iff.1 e).1
theorem kp_grown {w w':World} {b e s n:Nat} {v:Value} {cs:List Value} (ho:w.ownsRow b e s v n cs) (hg:w.grownBy w' v.ownBlock) (he:e ≠ 35):Kp w w':=fun k hk=>by
 obtain ⟨c,hc⟩:=hk
 refine hg.block k (Array.getElem?_eq_some_iff.1 hc).1 (fun q=>?_)
 rcases ho.2 with ⟨rfl,_⟩ | ⟨g,cap,cur,rfl,_,hh,_⟩
 ·cases q
 ·cases q
  have:=hh.symm.trans hc
  injection this with this
  injection this with _ this _
  exact he this
set_option maxHeartbeats 4000000 in
set_option maxRecDepth 100000 in
theorem markBoxS_ownK (L:Value) (base:Nat) (xs:List Bx) (us:Nat→Value × Value) (w:World) (h:OwnL w base L xs us) (hf:Few xs) (hb:base≤w.heap.size) :
  Calls Tryz.prog 33 #[L,.int .i64 1] w fun e w'=>e=.returned (.int .i64 (kAt xs xs.length))∧(∃ cs,MB w' base L xs us xs.length cs)∧Below base w w'∧Kp w w':=by
 have HD:Hid (Dis us xs.length):=h.2.2
 have HF:Hid (Few xs):=hf
 have HM0:Hid (MB w base L xs us 0 (bcells xs us xs.length)):=mb_start h
 obtain ⟨n,hn⟩:∃ n,n=xs.length:=⟨_,rfl⟩
 have HN:Hid (n=xs.length):=hn
 have hl:n≤10:=by rw [hn]; exact hf.1
 obtain ⟨La,Lc,rfl,hLa⟩:∃ a c,L=.slice a n c∧(n=0 ∨ ∃ g,a=some ⟨g,0,none⟩):=by
  rcases h.1.2 with ⟨rfl,hz⟩ | ⟨g,cap,cur,rfl,_⟩
  ·exact ⟨none,0,by rw [hn,hz],.inl (by rw [hn,hz])⟩
  ·exact ⟨_,_,by rw [hn],.inr ⟨g,rfl⟩⟩
 clear h hf hn
 go_enter Tryz.func33,Tryz.ntmps33
 go_wp2
 go_loopw [1,5] (fun z i wr=>∃ (j:Nat) (cs:List Value),j≤n∧z=.int .i64 (kAt xs j)∧i=.int .i64 j∧MB wr base (.slice La n Lc) xs us j cs∧Below base w wr∧Kp w wr) (fun _ i _=>n - (intOf i).toNat)
 case atStart=>exact ⟨0,_,Nat.zero_le _,rfl,rfl,HM0.out,Below.refl _ _,kp_refl _⟩
 case round =>
  clear HM0
  obtain ⟨j,cs,hj,rfl,rfl,hmb,hbw,hkw⟩:=hrel
  have HKW:Hid (Kp w wr):=hkw
  clear hkw
  by_cases hlt:j < n
  ·have hjx:j < xs.length:=by rw [← HN.out]; exact hlt
   obtain ⟨g,rfl⟩:∃ g,La=some ⟨g,0,none⟩:=by
    rcases hLa with h | h
    ·omega
    ·exact h
   have hlt':(j:Int) < (n:Int):=by omega
   have hj0:(0:Int)≤(j:Int):=by omega
   have hki:=kAt_in HF.out (j:=j) (by omega)
   have hfe:=HF.out.2 j hjx
   have HKN:Hid (kAt xs (j+1)=kAt xs j+1+1+1+3 * ((xs.getD j noB).ms.length:Int)+((xs.getD j noB).ks.length:Int)):=by
    show kAt xs j+3+_+_=_
    omega
   obtain ⟨hown,hkp,hcm,hrm,hre⟩:=hmb
   rw [← HN.out] at hown
   have HL:Hid (cs.length=n * 5):=hown.1
   have HKP:Hid (Kept cs xs.length us):=hkp
   have HCM:Hid (∀ i,i < j→CellMk xs cs i):=hcm
   have HO:Hid (Oth wr base xs us j):=⟨hrm,fun i h1 h2=>hre i (by omega) h2⟩
   have HR:Hid (OwnM wr base (us j).1 (xs.getD j noB).ms∧OwnK wr base (us j).2 (xs.getD j noB).ks):=hre j (Nat.le_refl _) hjx
   clear hkp hcm hrm hre
   have HK1:Hid (kAt xs j+3=kAt xs j+1+1+1∧kAt xs j+2=kAt xs j+1+1):=⟨by omega,by omega⟩
   have HCN:Hid (CellMk xs (((cs.set (j * 5) (.string (mt (kAt xs j)))).set (j * 5+1) (.int .i64 (kAt xs j+1))).set (j * 5+2) (.int .i64 (kAt xs j+1+1))) j):=by
    have:=cellMk_new (xs:=xs) (cs:=cs) (j:=j) (by rw [HL.out]; omega)
    rwa [HK1.out.2] at this
   have HMM:Hid (∀ w1,(w1.ownsRow base 122 3 (us j).1 (xs.getD j noB).ms.length (marksM (kAt xs j+1+1+1) (xs.getD j noB).ms.length)∧w1.ownsRow base 9 1 (us j).2 (xs.getD j noB).ks.length ((marks (kAt xs j+1+1+1+3 * ((xs.getD j noB).ms.length:Int)) (xs.getD j noB).ks.length).map Value.string))→RowMk w1 base xs us j):=fun w1 h=>by
    unfold RowMk
    rw [HK1.out.1]
    exact h
   clear HK1
   generalize kAt xs j=K at hki HKN HCN HMM ⊢
   generalize hm1:(xs.getD j noB).ms.length=m1 at hfe HKN HMM
   generalize hm2:(xs.getD j noB).ks.length=m2 at hfe HKN HMM
   have HM1:Hid ((xs.getD j noB).ms.length=m1∧(xs.getD j noB).ks.length=m2):=⟨hm1,hm2⟩
   clear hm1 hm2
   go_wp2_with fail
   refine (mark_any K _ (by omega) (by omega)).mono ?_
   rintro e w1 ⟨rfl,hb1⟩
   have o1:=ow.own_below hown hb1
   have HO1:Hid (Oth w1 base xs us j∧OwnM w1 base (us j).1 (xs.getD j noB).ms∧OwnK w1 base (us j).2 (xs.getD j noB).ks):=⟨oth_below HO.out hb1,ow.own_below HR.out.1 hb1,ow.own_below HR.out.2 hb1⟩
   have HB1:Hid (Below base w w1∧base≤w1.heap.size):=⟨hbw.trans (hb1.mono (Nat.le_trans hb hbw.size)),Nat.le_trans (Nat.le_trans hb hbw.size) hb1.size⟩
   have HOW:Hid (w1.ownsRow base 85 5 (.slice (some ⟨g,0,none⟩) n Lc) n cs):=o1
   have q0:=o1.cellAt (j * 5) (by omega)
   have q1:=o1.cellAt (j * 5+1) (by omega)
   have q2:=o1.cellAt (j * 5+2) (by omega)
   have q3:=(o1.cellAt (j * 5+3) (by omega)).trans (HKP.out j hjx).1
   rw [List.getElem?_eq_getElem (by rw [HL.out]; omega)] at q0 q1 q2
   have f0:=o1.frozenAt (j * 5)
   have f1:=o1.frozenAt (j * 5+1)
   have f2:=o1.frozenAt (j * 5+2)
   generalize cs[j * 5]'(by rw [HL.out]; omega)=u0 at q0
   generalize cs[j * 5+1]'(by rw [HL.out]; omega)=u1 at q1
   generalize cs[j * 5+2]'(by rw [HL.out]; omega)=u2 at q2
   have HKP1':Hid (Kp w w1):=kp_trans HKW.out (kp_below hb1)
   clear o1 hown hb1 hbw HO HR HKW
   go_wp2_with fail
   clear q0 q1 q2 q3 f0 f1 f2
   have HX:Hid ((((w1.setCell ⟨g,j * 5,none⟩ (.string (mt K))).setCell ⟨g,j * 5+1,none⟩ (.int .i64 (K+1))).setCell ⟨g,j * 5+2,none⟩ (.int .i64 (K+1+1))).ownsRow base 85 5 (.slice (some ⟨g,0,none⟩) n Lc) n (((cs.set (j * 5) (.string (mt K))).set (j * 5+1) (.int .i64 (K+1))).set (j * 5+2) (.int .i64 (K+1+1)))∧w1.grownBy (((w1.setCell ⟨g,j * 5,none⟩ (.string (mt K))).setCell ⟨g,j * 5+1,none⟩ (.int .i64 (K+1))).setCell ⟨g,j * 5+2,none⟩ (.int .i64 (K+1+1))) (some g)):=⟨(((HOW.out.stored _ _).1.stored _ _).1.stored _ _).1,ow.grown_trans (ow.grown_trans (grown_set _ _ _ _) (grown_set _ _ _ _)) (grown_set _ _ _ _)⟩
   generalize hX:World.setCell _ _ _=X at HX ⊢
   clear hX
   have HKP1:Hid (Kept (((cs.set (j * 5) (.string (mt K))).set (j * 5+1) (.int .i64 (K+1))).set (j * 5+2) (.int .i64 (K+1+1))) xs.length us):=kept_set HKP.out _ _ _
   have HCM1:Hid (∀ i,i < j+1→CellMk xs (((cs.set (j * 5) (.string (mt K))).set (j * 5+1) (.int .i64 (K+1))).set (j * 5+2) (.int .i64 (K+1+1))) i):=fun i hi=>by
    by_cases e:i=j
    ·subst e; exact HCN.out
    ·exact cellMk_set (HCM.out i (by omega)) (by omega) _ _ _
   generalize (((cs.set (j * 5) (Value.string (mt K))).set (j * 5+1) (.int .i64 (K+1))).set (j * 5+2) (.int .i64 (K+1+1)))=cs1 at HX HKP1 HCM1
   have HO2:Hid (Oth X base xs us j∧OwnM X base (us j).1 (xs.getD j noB).ms∧OwnK X base (us j).2 (xs.getD j noB).ks):=⟨oth_row HO1.out.1 HOW.out HX.out.2 (by decide) (by decide),row_other HO1.out.2.1 (u:=.slice (some ⟨g,0,none⟩) n Lc) HX.out.2 (rowkinds HO1.out.2.1 HOW.out (by decide)),row_other HO1.out.2.2 (u:=.slice (some ⟨g,0,none⟩) n Lc) HX.out.2 (rowkinds HO1.out.2.2 HOW.out (by decide))⟩
   have HB2:Hid (Below base w X∧base≤X.heap.size):=⟨HB1.out.1.grown HX.out.2 HB1.out.2 (fun k hk=>(HOW.out.lt k hk).1),Nat.le_trans HB1.out.2 HX.out.2.size⟩
   have HOX:Hid (X.ownsRow base 85 5 (.slice (some ⟨g,0,none⟩) n Lc) n cs1):=HX.out.1
   have HKP2':Hid (Kp w X):=kp_trans HKP1'.out (kp_grown HOW.out HX.out.2 (by decide))
   clear HX HO1 HOW HB1 HKP HCM HCN HKP1'
   have hMo:X.ownsRow base 122 3 (us j).1 m1 (mc (xs.getD j noB).ms):=by
    have:=HO2.out.2.1
    unfold OwnM at this
    rwa [HM1.out.1] at this
   refine (markM_any (us j).1 base m1 _ (K+1+1+1) X hMo (by omega) (by omega) (by omega)).mono ?_
   rintro e w2 ⟨rfl,hm2,hg2⟩
   have HO3:Hid (Oth w2 base xs us j∧w2.ownsRow base 122 3 (us j).1 m1 (marksM (K+1+1+1) m1)∧OwnK w2 base (us j).2 (xs.getD j noB).ks):=⟨oth_mails HO2.out.1 hMo hg2 HD.out hjx,hm2,row_other HO2.out.2.2 hg2 (rowkinds HO2.out.2.2 hMo (by decide))⟩
   have o2:=row_other HOX.out hg2 (rowkinds HOX.out hMo (by decide))
   have HB3:Hid (Below base w w2∧base≤w2.heap.size):=⟨HB2.out.1.grown hg2 HB2.out.2 (fun k hk=>(hMo.lt k hk).1),Nat.le_trans HB2.out.2 hg2.size⟩
   have HOY:Hid (w2.ownsRow base 85 5 (.slice (some ⟨g,0,none⟩) n Lc) n cs1):=o2
   have q4:=(o2.cellAt (j * 5+4) (by omega)).trans (HKP1.out j hjx).2
   have HKP3':Hid (Kp w w2):=kp_trans HKP2'.out (kp_grown hMo hg2 (by decide))
   clear HO2 HOX HB2 hMo hm2 hg2 o2 HKP2'
   have hmI:(m1:Int)≤1000:=by omega
   have hmI0:(0:Int)≤(m1:Int):=by omega
   have hkI:(m2:Int)≤1000:=by omega
   have hkI0:(0:Int)≤(m2:Int):=by omega
   go_wp2_with fail
   clear q4
   refine (markTexts_any (us j).2 base (xs.getD j noB).ks (K+1+1+1+3 * (m1:Int)) w2 HO3.out.2.2 (by rw [HM1.out.2]; omega) (by omega) (by omega)).mono ?_
   rintro e w3 ⟨rfl,hk3,hg3⟩
   rw [HM1.out.2] at hk3 ⊢
   have hk3':w3.ownsRow base 9 1 (us j).2 m2 ((marks (K+1+1+1+3 * (m1:Int)) m2).map Value.string):=by
    unfold OwnT at hk3
    rwa [marks_len] at hk3
   have hrow3:=row_other HO3.out.2.1 hg3 (rowkinds HO3.out.2.1 HO3.out.2.2 (by decide))
   have HO4:Hid (Oth w3 base xs us j∧RowMk w3 base xs us j):=⟨oth_keys HO3.out.1 HO3.out.2.2 hg3 HD.out hjx,HMM.out w3 ⟨hrow3,hk3'⟩⟩
   have HOZ:Hid (w3.ownsRow base 85 5 (.slice (some ⟨g,0,none⟩) n Lc) n cs1):=row_other HOY.out hg3 (rowkinds HOY.out HO3.out.2.2 (by decide))
   have HB4:Hid (Below base w w3):=HB3.out.1.grown hg3 HB3.out.2 (fun k hk=>(World.ownsRow.lt HO3.out.2.2 k hk).1)
   have HKP4':Hid (Kp w w3):=kp_trans HKP3'.out (kp_grown HO3.out.2.2 hg3 (by decide))
   clear HO3 HOY HB3 hk3 hk3' hg3 hrow3 HMM HKP3'
   go_wp2
   go_roundw
   case rel =>
    refine ⟨j+1,cs1,by omega,by rw [HKN.out],by go_num,⟨by rw [← HN.out]; exact HOZ.out,HKP1.out,HCM1.out,fun i hi=>?_,fun i h1 h2=>HO4.out.1.2 i (by omega) h2⟩,HB4.out,HKP4'.out⟩
    by_cases e:i=j
    ·subst e; exact HO4.out.2
    ·exact HO4.out.1.1 i (by omega)
   case measure=>simp [intOf]; omega
  ·obtain rfl:j=n:=by omega
   have HQ:Hid (∃ cs,MB wr base (.slice La j Lc) xs us xs.length cs):=⟨cs,by rw [HN.out] at hmb ⊢; exact hmb⟩
   have HE:Hid (kAt xs j=kAt xs xs.length):=congrArg (kAt xs) HN.out
   clear hmb
   go_wp2
   go_ret
   refine ⟨?_,HQ.out,hbw,HKW.out⟩
   show Ending.returned (.int .i64 (kAt xs j))=.returned (.int .i64 (kAt xs xs.length))
   rw [HE.out]
end Go.Proofs.YtnhcbiomkiljpaaGreatDoor.ml

namespace Go.Proofs.YtnhcbiomkiljpaaGreatDoor.eg
open Go.RowKit Go.WideShapes
open bx bl ml
set_option linter.unusedVariables false
theorem LiesE.kp {w w':World} {b:Nat} {r:Int} {d:ByteArray} {s:Int} {v:Value} (h:LiesE w b 35 r d s v) (hk:Kp w w'):LiesE w' b 35 r d s v:=(hk b ⟨_,h⟩).trans h
set_option maxHeartbeats 1000000 in
set_option maxRecDepth 100000 in
theorem markE_ownK (r:Int) (d:ByteArray) (s:Int) (L:Value) (base:Nat) (xs:List Bx) (us:Nat→Value × Value) (w:World) (h:OwnL w base L xs us) (hf:Few xs) (hb:base≤w.heap.size) :
  Calls Tryz.prog 13 #[EV r d s L,.int .i64 1] w fun e w'=>e=.returned (.int .i64 (kAt xs xs.length))∧(∃ cs,MB w' base L xs us xs.length cs)∧Below base w w'∧Kp w w':=by
 obtain ⟨La,Ln,Lc,rfl⟩:=slice_fine (own_fine h.1)
 have L0:=liesE_new w 35 r d s (.slice La Ln Lc)
 have b0:=new_below w 35 #[.int .i64 r,.string d,.int .i64 s,.slice La Ln Lc]
 have HM:Hid (OwnL w base (.slice La Ln Lc) xs us∧Few xs):=⟨h,hf⟩
 have c3:=L0.c3
 clear h hf L0
 unfold EV
 go_enter Tryz.func13,Tryz.ntmps13
 go_wp2_with fail
 generalize w.alloc _=w0 at b0 c3 ⊢
 refine (markBoxS_ownK _ base xs us w0 (ownL_below HM.out.1 b0) HM.out.2 (Nat.le_trans hb b0.size)).mono ?_
 rintro e w1 ⟨rfl,hMB,hb1,hk1⟩
 have HK:Hid ((∃ cs,MB w1 base (.slice La Ln Lc) xs us xs.length cs)∧Below base w w1∧Kp w w1):=⟨hMB,(b0.mono hb).trans hb1,kp_trans (kp_below b0) hk1⟩
 clear hMB hb1 b0 c3 HM hk1
 go_wp2
 go_ret
 exact ⟨rfl,HK.out.1,HK.out.2⟩
end Go.Proofs.YtnhcbiomkiljpaaGreatDoor.eg
