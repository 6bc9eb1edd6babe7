/-
  The program's written, whole.
-/
import Derived.Test.YtnhcbiomkiljpaaGreatDoorPkbq
namespace Go.Proofs.YtnhcbiomkiljpaaGreatDoor.eg
open Go.RowKit Go.WideShapes
open bx bl
open lg (LV RV fr app app1)
set_option linter.unusedVariables false
def Wx (r:Int) (d:ByteArray) (bs:List Bx) (M:mu.Mu) (zs:List Bx) (k:Int) (d':ByteArray) (ys:List Bx) (c:Int):Prop :=
 (k ≠ 0∧d'=d∧ys=bs∧c=k) ∨ (k=0∧(20000 < (mbt M).size ∨ r < (d.size:Int)+7+(mbt M).size)∧d'=d∧ys=bs∧c=7) ∨ (k=0∧¬ (20000 < (mbt M).size ∨ r < (d.size:Int)+7+(mbt M).size)∧d'=d ++ fr (mbt M)∧ys=zs∧c=0)
def Wr (r:Int) (d:ByteArray) (s:Int) (bs:List Bx) (M:mu.Mu) (base:Nat) (e:Ending) (w':World):Prop :=
 ∃ (d':ByteArray) (L:Value) (ys:List Bx) (us:Nat→Value × Value) (c:Int),e=.returned (.tuple #[.agg #[.int .i64 r,.string d',.int .i64 s,L],.int .i64 c])∧(∃ zs k,sa.Am bs M zs k∧Wx r d bs M zs k d' ys c)∧OwnL w' base L ys us
theorem by_low {w x:World} {N:Nat} {v:Value} {ps:List it.Pr} (h:it.AttrsAt w v ps) (hb:Below w.heap.size w x) (hN:w.heap.size≤N):wi.ItemsBy x N v ps:=by
 obtain ⟨a,cap,rfl,h⟩:=h
 refine ⟨a,cap,rfl,?_⟩
 rcases h with h | ⟨b,off,rfl,h⟩
 ·exact .inl h
 ·by_cases hp:ps=[]
  ·exact .inl hp
  ·have hl:0 < ps.length:=List.length_pos_iff.2 hp
   have hbl:b < w.heap.size:=World.block_lt_of_cell? w _ (h 0 hl).1
   exact .inr ⟨b,off,rfl,.inl (by omega),fun j hj=>⟨(hb.cell (p:=⟨b,off+j * 2,none⟩) hbl).trans (h j hj).1,(hb.cell (p:=⟨b,off+j * 2+1,none⟩) hbl).trans (h j hj).2⟩⟩
theorem mbt_one (M:mu.Mu):1≤(mbt M).size:=by
 rw [mbt_size]
 unfold mb.mB
 simp [mb.hdB]
set_option maxHeartbeats 8000000 in
set_option maxRecDepth 100000 in
theorem written_any (r:Int) (d:ByteArray) (s:Int) (v:Value) (bs:List Bx) (vs:Nat→Value × Value) (M:mu.Mu) (iv:Value) (w:World) (hr:lg.In r) (hd:d.size≤1048576) (hs:lg.In s) (hB:BoxesAt w v bs vs) (hv:Fine v) (hf:Fines bs vs) (hsm:Smalls bs) (hso:sok bs=true) (hok:lg.ok r d.size s=true) (hI:it.AttrsAt w iv M.ps) (hM:mu.Small M) (hmo:mu.mok M=true) :
  Calls Tryz.prog 37 #[EV r d s v,mu.MV M iv] w fun e w'=>Wr r d s bs M (w.heap.size+1+1+1+1) e w'∧Below w.heap.size w w':=by
 have hmf:∀ (fn:Fn) (first cap:Array Value) (w:World),(Instr.makeFunc fn first cap).run Tryz.prog w=.ok (.func fn first cap) w:=fun _ _ _ _=>rfl
 have F0:=fw_new w r d s v M iv
 have HCP:Hid (∀ x,Below w.heap.size w x→Calls Tryz.prog 67 #[EV r d s v] x fun e w'=>(∃ L us,e=.returned (EV r d s L)∧OwnL w' (x.heap.size+2) L bs us)∧Below x.heap.size x w'):=fun x hx=>copiedE_any r d s v bs vs x (boxes_below hB hx) hv hf hsm hd
 have HCL:Hid (∀ x r' d' s' L c,Fw w x r d s v M iv r' d' s' L c→CallsD Tryz.prog 68 #[.pointer (some ⟨w.heap.size+1+1+1,0,none⟩),.pointer (some ⟨w.heap.size,0,none⟩),.pointer (some ⟨w.heap.size+1+1,0,none⟩)] .returning x fun e u' x'=>u'=.returning∧(e=.returned (.tuple #[])∧Cl w r d s v bs M iv r' d' s' L c x x')):=fun x r' d' s' L c hF=>closure_any w x r d s v bs vs M iv r' d' s' L c .returning hF hB hv hf hsm hd
 have HMU:Hid (∀ x L us,OwnL x (w.heap.size+1+1+1+1) L bs us→w.heap.size+1+1+1+1≤x.heap.size→Below w.heap.size w x→Calls Tryz.prog 69 #[L,mu.MV M iv] x fun e w'=>(∃ L' ys us' c,e=.returned (.tuple #[L',.int .i64 c])∧sa.Am bs M ys c∧OwnL w' (w.heap.size+1+1+1+1) L' ys us')∧Below (w.heap.size+1+1+1+1) x w'):=fun x L us hO hl hb=>sa.mutated_any L _ bs us M iv x hO hl hsm (by_low hI hb (by omega)) hM hso hmo
 have HBY:Hid (∀ x,Below w.heap.size w x→Calls Tryz.prog 70 #[mu.MV M iv] x fun e w'=>mb.MbRet M x.heap.size e w'∧Below x.heap.size x w'):=fun x hx=>mb.impl_mb M iv x (it.at_below hI hx) hM
 have HAD:Hid (∀ x,(mbt M).size≤20000→Calls Tryz.prog 71 #[LV r d s,.string (mbt M)] x fun e w'=>e=.returned (app1 r d s (mbt M))∧Below x.heap.size x w'):=fun x hx=>(lg.impl_app r d s (mbt M) x hr hd hs (by omega)).mono fun e w' ⟨he,hb⟩=>⟨by
  rw [he]; unfold app; rw [if_neg (by omega),if_neg (by rw [hok]; decide),if_pos ⟨mbt_one M,hx⟩],hb⟩
 have HMB:Hid ((mb.mB M).length≤20000→mb.mbl M=mb.mB M∧mb.mbc M=0):=mb.mb_ok hmo
 have HMF:Hid (¬ (mb.mB M).length≤20000→mb.mbl M=[]∧mb.mbc M=7):=mb.mb_full hmo
 obtain ⟨⟨a,cap,rfl,_⟩,_⟩:=hB
 obtain ⟨ia,ic,rfl,_⟩:=hI
 clear hr hd hs hv hf hsm hso hok hM hmo
 unfold EV at HCP ⊢
 unfold mu.MV at HMU HBY ⊢
 unfold LV at HAD
 have c0:=F0.e.c0
 have c1:=F0.e.c1
 have c2:=F0.e.c2
 have c3:=F0.e.c3
 go_enter_defers Tryz.func37,Tryz.ntmps37
 go_wp2_with fail
 generalize World.alloc _ _=W at F0 c0 c1 c2 c3 ⊢
 have hl0:=F0.k.lt
 refine (HCP.out W F0.bel).mono ?_
 rintro e x1 ⟨⟨L1,us1,rfl,hO1⟩,hb1⟩
 obtain ⟨La,Ln,Lc,rfl⟩:=slice_fine (own_fine hO1.1)
 have F1:=F0.keep hb1
 have HO1:Hid (OwnL x1 (w.heap.size+1+1+1+1) (.slice La Ln Lc) bs us1):=sa.ownL_le hO1 (by omega)
 have HF1:Hid (Fw w x1 r d s (.slice a bs.length cap) M (.slice ia M.ps.length ic) 0 ⟨#[]⟩ 0 (.slice none 0 0) 0):=F1
 have hl1:w.heap.size+1+1+1+1≤x1.heap.size:=F1.k.lt
 clear c0 c1 c2 c3 F0 hO1 hb1 HCP hl0
 have e0:=F1.n.c0
 have e1:=F1.n.c1
 have e2:=F1.n.c2
 have e3:=F1.n.c3
 have g0:=F1.n.f 0
 have g1:=F1.n.f 1
 have g2:=F1.n.f 2
 have g3:=F1.n.f 3
 have d0:=mu.Lies.c0 F1.m
 have d1:=mu.Lies.c1 F1.m
 have d2:=mu.Lies.c2 F1.m
 have d3:=mu.Lies.c3 F1.m
 have d4:=mu.Lies.c4 F1.m
 have d5:=mu.Lies.c5 F1.m
 clear F1
 go_wp2_with fail
 have F2:=HF1.out.put r d s (.slice La Ln Lc)
 have O2:=ownL_hi HO1.out (w':=put4 x1 (w.heap.size+1+1) (.int .i64 r) (.string d) (.int .i64 s) (.slice La Ln Lc)) (fun q hq=>put4_other _ _ _ _ _ _ _ (by omega))
 refine (HMU.out (put4 x1 (w.heap.size+1+1) (.int .i64 r) (.string d) (.int .i64 s) (.slice La Ln Lc)) _ us1 O2 (by rw [put4_size]; exact hl1) F2.bel).mono ?_
 rintro e x3 ⟨⟨L',zs,us',k,rfl,hA,hO3⟩,hb3⟩
 obtain ⟨La',Ln',Lc',rfl⟩:=slice_fine (own_fine hO3.1)
 have F3:=F2.keepB hb3 (by omega)
 have HO3:Hid (OwnL x3 (w.heap.size+1+1+1+1) (.slice La' Ln' Lc') zs us'):=hO3
 have HA:Hid (sa.Am bs M zs k):=hA
 have HF3:Hid (Fw w x3 r d s (.slice a bs.length cap) M (.slice ia M.ps.length ic) r d s (.slice La Ln Lc) 0):=F3
 clear e0 e1 e2 e3 g0 g1 g2 g3 d0 d1 d2 d3 d4 d5 F2 O2 hb3 hO3 hA HO1 HF1 HMU hl1
 have e0:=F3.n.c0
 have e1:=F3.n.c1
 have e2:=F3.n.c2
 have e3:=F3.n.c3
 have g0:=F3.n.f 0
 have g1:=F3.n.f 1
 have g2:=F3.n.f 2
 have g3:=F3.n.f 3
 have kc:=F3.k.c0
 have kf:=F3.k.f 0
 have hl3:w.heap.size+1+1+1+1≤x3.heap.size:=F3.k.lt
 clear F3
 have F4:=(HF3.out.n3 (.slice La' Ln' Lc')).code k
 have O4:OwnL ((x3.setCell ⟨w.heap.size+1+1,3,none⟩ (.slice La' Ln' Lc')).setCell ⟨w.heap.size+1+1+1,0,none⟩ (.int .i64 k)) (w.heap.size+1+1+1+1) (.slice La' Ln' Lc') zs us':=ownL_hi HO3.out (fun q hq=>(heap_setCell_other _ ⟨w.heap.size+1+1+1,0,none⟩ q _ (by show q ≠ w.heap.size+1+1+1; omega)).trans (heap_setCell_other _ ⟨w.heap.size+1+1,3,none⟩ q _ (by show q ≠ w.heap.size+1+1; omega)))
 by_cases hk:k=0
 rotate_left
 ·have hk1:((k:Int) != 0)=true:=by rw [bne_iff_ne]; exact hk
  have HX:Hid (∃ zs k',sa.Am bs M zs k'∧Wx r d bs M zs k' d bs k):=⟨zs,k,HA.out,.inl ⟨hk,rfl,rfl,rfl⟩⟩
  have HK0:Hid (k ≠ 0):=hk
  clear hk HA HO3 O4 HAD HBY HMB HMF
  go_wp2_with fail
  generalize World.setCell _ _ _=x4 at F4 ⊢
  have HF5:Hid (Fw w x4 r d s (.slice a bs.length cap) M (.slice ia M.ps.length ic) r d s (.slice La' Ln' Lc') k):=F4
  clear e0 e1 e2 e3 g0 g1 g2 g3 kc kf F4
  have e0:=HF5.out.n.c0
  have e1:=HF5.out.n.c1
  have e2:=HF5.out.n.c2
  have e3:=HF5.out.n.c3
  have e1':x4.cell? ⟨w.heap.size+1+1,1,none⟩=some (.string d):=e1
  have e2':x4.cell? ⟨w.heap.size+1+1,2,none⟩=some (.int .i64 s):=e2
  have e3':x4.cell? ⟨w.heap.size+1+1,3,none⟩=some (.slice La' Ln' Lc'):=e3
  have g0:=HF5.out.n.f 0
  have g1:=HF5.out.n.f 1
  have g2:=HF5.out.n.f 2
  have g3:=HF5.out.n.f 3
  have kc:=HF5.out.k.c0
  have kf:=HF5.out.k.f 0
  go_region
  go_wp2
  refine leaves_cons (f:=68) (args:=#[.pointer (some ⟨w.heap.size+1+1+1,0,none⟩),.pointer (some ⟨w.heap.size,0,none⟩),.pointer (some ⟨w.heap.size+1+1,0,none⟩)]) (by simp) (by simp [go_sem]) ?_
  refine (HCL.out _ r d s (.slice La' Ln' Lc') k ((((((HF5.out.n0 r).n1 d).n2 s).n3 (.slice La' Ln' Lc')).code k).keep (Below.refl _ _).drew)).mono ?_
  rintro e u' x' ⟨rfl,rfl,hC⟩
  rcases hC with ⟨h,_⟩ | ⟨_,L2,us2,hF,hO⟩
  ·exact absurd h HK0.out
  obtain ⟨La2,Ln2,Lc2,rfl⟩:=slice_fine (own_fine hO.1)
  have y0:x'.cell? ⟨w.heap.size+1+1,0,none⟩=some (.int .i64 r):=hF.n.c0
  have y1:x'.cell? ⟨w.heap.size+1+1,1,none⟩=some (.string d):=hF.n.c1
  have y2:x'.cell? ⟨w.heap.size+1+1,2,none⟩=some (.int .i64 s):=hF.n.c2
  have y3:=hF.n.c3
  have y3:x'.cell? ⟨w.heap.size+1+1,3,none⟩=some (.slice La2 Ln2 Lc2):=y3
  have yk:=hF.k.c0
  exact ⟨.tuple #[.agg #[.int .i64 r,.string d,.int .i64 s,.slice La2 Ln2 Lc2],.int .i64 k],(by simp [results,Tryz.results37,go_sem,y0,y1,y2,y3,yk]),⟨d,_,bs,us2,k,rfl,HX.out,hO⟩,hF.bel⟩
 subst hk
 have HO4:Hid (OwnL ((x3.setCell ⟨w.heap.size+1+1,3,none⟩ (.slice La' Ln' Lc')).setCell ⟨w.heap.size+1+1+1,0,none⟩ (.int .i64 0)) (w.heap.size+1+1+1+1) (.slice La' Ln' Lc') zs us'):=O4
 have d0:=mu.Lies.c0 HF3.out.m
 have d1:=mu.Lies.c1 HF3.out.m
 have d2:=mu.Lies.c2 HF3.out.m
 have d3:=mu.Lies.c3 HF3.out.m
 have d4:=mu.Lies.c4 HF3.out.m
 have d5:=mu.Lies.c5 HF3.out.m
 clear O4 HO3 HF3
 go_wp2_with fail
 generalize World.setCell _ _ _=x4 at F4 HO4 ⊢
 refine (HBY.out x4 F4.bel).mono ?_
 rintro e x5 ⟨⟨u,rfl,hu⟩,hb5⟩
 have F5:=F4.keep hb5
 have HF5':Hid (Fw w x5 r d s (.slice a bs.length cap) M (.slice ia M.ps.length ic) r d s (.slice La' Ln' Lc') 0):=F5
 have HO5:Hid (OwnL x5 (w.heap.size+1+1+1+1) (.slice La' Ln' Lc') zs us'):=ownL_below HO4.out hb5
 have hl4:w.heap.size+1+1+1+1≤x4.heap.size:=F4.k.lt
 clear d0 d1 d2 d3 d4 d5 e0 e1 e2 e3 g0 g1 g2 g3 kc kf hl3 HO4 F4 hb5 HBY
 have e0:=F5.n.c0
 have e1:=F5.n.c1
 have e2:=F5.n.c2
 have e3:=F5.n.c3
 have g0:=F5.n.f 0
 have g1:=F5.n.f 1
 have g2:=F5.n.f 2
 have g3:=F5.n.f 3
 have kc:=F5.k.c0
 have kf:=F5.k.f 0
 clear F5
 by_cases hL:(mb.mB M).length≤20000
 rotate_left
 ·obtain ⟨m1,m2⟩:=HMF.out hL
  rw [m1] at hu
  rw [m2]
  obtain ⟨ua,uc,rfl⟩:=own_len hu
  have HX:Hid (∃ zs k',sa.Am bs M zs k'∧Wx r d bs M zs k' d bs 7):=⟨zs,0,HA.out,.inr (.inl ⟨rfl,.inl (by rw [mbt_size]; omega),rfl,rfl,rfl⟩)⟩
  have HK0:Hid ((7:Int) ≠ 0):=(by decide:(7:Int) ≠ 0)
  have F4:=HF5'.out.code 7
  clear hL m1 m2 hu HA HO5 HAD HMB HMF HF5'
  go_wp2_with fail
  generalize World.setCell _ _ _=x4 at F4 ⊢
  have HF5:Hid (Fw w x4 r d s (.slice a bs.length cap) M (.slice ia M.ps.length ic) r d s (.slice La' Ln' Lc') 7):=F4
  clear e0 e1 e2 e3 g0 g1 g2 g3 kc kf F4
  have e0:=HF5.out.n.c0
  have e1:=HF5.out.n.c1
  have e2:=HF5.out.n.c2
  have e3:=HF5.out.n.c3
  have e1':x4.cell? ⟨w.heap.size+1+1,1,none⟩=some (.string d):=e1
  have e2':x4.cell? ⟨w.heap.size+1+1,2,none⟩=some (.int .i64 s):=e2
  have e3':x4.cell? ⟨w.heap.size+1+1,3,none⟩=some (.slice La' Ln' Lc'):=e3
  have g0:=HF5.out.n.f 0
  have g1:=HF5.out.n.f 1
  have g2:=HF5.out.n.f 2
  have g3:=HF5.out.n.f 3
  have kc:=HF5.out.k.c0
  have kf:=HF5.out.k.f 0
  go_region
  go_wp2
  refine leaves_cons (f:=68) (args:=#[.pointer (some ⟨w.heap.size+1+1+1,0,none⟩),.pointer (some ⟨w.heap.size,0,none⟩),.pointer (some ⟨w.heap.size+1+1,0,none⟩)]) (by simp) (by simp [go_sem]) ?_
  refine (HCL.out _ r d s (.slice La' Ln' Lc') 7 ((((((HF5.out.n0 r).n1 d).n2 s).n3 (.slice La' Ln' Lc')).code 7).keep (Below.refl _ _).drew)).mono ?_
  rintro e u' x' ⟨rfl,rfl,hC⟩
  rcases hC with ⟨h,_⟩ | ⟨_,L2,us2,hF,hO⟩
  ·exact absurd h HK0.out
  obtain ⟨La2,Ln2,Lc2,rfl⟩:=slice_fine (own_fine hO.1)
  have y0:x'.cell? ⟨w.heap.size+1+1,0,none⟩=some (.int .i64 r):=hF.n.c0
  have y1:x'.cell? ⟨w.heap.size+1+1,1,none⟩=some (.string d):=hF.n.c1
  have y2:x'.cell? ⟨w.heap.size+1+1,2,none⟩=some (.int .i64 s):=hF.n.c2
  have y3:=hF.n.c3
  have y3:x'.cell? ⟨w.heap.size+1+1,3,none⟩=some (.slice La2 Ln2 Lc2):=y3
  have yk:=hF.k.c0
  exact ⟨.tuple #[.agg #[.int .i64 r,.string d,.int .i64 s,.slice La2 Ln2 Lc2],.int .i64 7],(by simp [results,Tryz.results37,go_sem,y0,y1,y2,y3,yk]),⟨d,_,bs,us2,7,rfl,HX.out,hO⟩,hF.bel⟩
 obtain ⟨m1,m2⟩:=HMB.out hL
 rw [m1] at hu
 rw [m2]
 have hu2:ra.Own (x5.setCell ⟨w.heap.size+1+1+1,0,none⟩ (.int .i64 0)) x4.heap.size u (mb.mB M):=own_hi hu (fun q hq=>heap_setCell_other _ ⟨w.heap.size+1+1+1,0,none⟩ q _ (by show q ≠ w.heap.size+1+1+1; omega))
 have hcv:=ow.conv_bytes (P:=Tryz.prog) (src:=77) (dst:=9) (mb.mB M) hu2 Tryz.underlying77 Tryz.underlying5 Tryz.underlying9
 obtain ⟨ua,uc,rfl⟩:=own_len hu
 have hcv:(convert 77 9 (.slice ua (mb.mB M).length uc)).run Tryz.prog (x5.setCell ⟨w.heap.size+1+1+1,0,none⟩ (.int .i64 0))=.ok (.string (mbt M)) (x5.setCell ⟨w.heap.size+1+1+1,0,none⟩ (.int .i64 0)):=hcv
 have HLL:Hid ((mbt M).size≤20000):=by rw [mbt_size]; exact hL
 have F6:=HF5'.out.code 0
 have HO6:Hid (OwnL (x5.setCell ⟨w.heap.size+1+1+1,0,none⟩ (.int .i64 0)) (w.heap.size+1+1+1+1) (.slice La' Ln' Lc') zs us'):=ownL_hi HO5.out (fun q hq=>heap_setCell_other _ ⟨w.heap.size+1+1+1,0,none⟩ q _ (by show q ≠ w.heap.size+1+1+1; omega))
 obtain ⟨x6,hx6⟩:∃ x6,x6=x5.setCell ⟨w.heap.size+1+1+1,0,none⟩ (.int .i64 0):=⟨_,rfl⟩
 rw [← hx6] at F6 HO6 hcv
 have HF6:Hid (Fw w x6 r d s (.slice a bs.length cap) M (.slice ia M.ps.length ic) r d s (.slice La' Ln' Lc') 0):=F6
 have n0:=F6.n.c0
 have n1:=F6.n.c1
 have n2:=F6.n.c2
 have n3:=F6.n.c3
 have nk:=F6.k.c0
 clear hL m1 m2 hu hu2 HO5 HF5' F6 HMB HMF
 have HAD2:=HAD.out x6 HLL.out
 unfold app1 RV LV at HAD2
 by_cases hroom:r < (d.size:Int)+7+(mbt M).size
 ·rw [if_pos hroom] at HAD2
  have HX:Hid (∃ zs k',sa.Am bs M zs k'∧Wx r d bs M zs k' d bs 7):=⟨zs,0,HA.out,.inr (.inl ⟨rfl,.inr hroom,rfl,rfl,rfl⟩)⟩
  have HK0:Hid ((7:Int) ≠ 0):=(by decide:(7:Int) ≠ 0)
  have HAD3:Hid (Calls Tryz.prog 71 #[.agg #[.int .i64 r,.string d,.int .i64 s],.string (mbt M)] x6 fun e w'=>e=.returned (.tuple #[.agg #[.int .i64 r,.string d,.int .i64 s],.int .i64 7])∧Below x6.heap.size x6 w'):=HAD2
  clear hroom HA HAD HAD2 HLL
  go_wp2_with (rw [← hx6])
  refine HAD3.out.mono ?_
  rintro e x7 ⟨rfl,hb7⟩
  have F7:=HF6.out.keep hb7
  clear n0 n1 n2 n3 nk hcv hx6 HAD3 HO6 HF6 hb7 e0 e1 e2 e3 g0 g1 g2 g3 kc kf
  have e0:=F7.n.c0
  have e1:=F7.n.c1
  have e2:=F7.n.c2
  have e3:=F7.n.c3
  have g0:=F7.n.f 0
  have g1:=F7.n.f 1
  have g2:=F7.n.f 2
  have g3:=F7.n.f 3
  have kc:=F7.k.c0
  have kf:=F7.k.f 0
  have F4:=(((F7.n0 r).n1 d).n2 s).code 7
  clear F7
  go_wp2_with fail
  generalize World.setCell _ _ _=x4 at F4 ⊢
  have HF5:Hid (Fw w x4 r d s (.slice a bs.length cap) M (.slice ia M.ps.length ic) r d s (.slice La' Ln' Lc') 7):=F4
  clear e0 e1 e2 e3 g0 g1 g2 g3 kc kf F4
  have e0:=HF5.out.n.c0
  have e1:=HF5.out.n.c1
  have e2:=HF5.out.n.c2
  have e3:=HF5.out.n.c3
  have e1':x4.cell? ⟨w.heap.size+1+1,1,none⟩=some (.string d):=e1
  have e2':x4.cell? ⟨w.heap.size+1+1,2,none⟩=some (.int .i64 s):=e2
  have e3':x4.cell? ⟨w.heap.size+1+1,3,none⟩=some (.slice La' Ln' Lc'):=e3
  have g0:=HF5.out.n.f 0
  have g1:=HF5.out.n.f 1
  have g2:=HF5.out.n.f 2
  have g3:=HF5.out.n.f 3
  have kc:=HF5.out.k.c0
  have kf:=HF5.out.k.f 0
  go_region
  go_wp2
  refine leaves_cons (f:=68) (args:=#[.pointer (some ⟨w.heap.size+1+1+1,0,none⟩),.pointer (some ⟨w.heap.size,0,none⟩),.pointer (some ⟨w.heap.size+1+1,0,none⟩)]) (by simp) (by simp [go_sem]) ?_
  refine (HCL.out _ r d s (.slice La' Ln' Lc') 7 ((((((HF5.out.n0 r).n1 d).n2 s).n3 (.slice La' Ln' Lc')).code 7).keep (Below.refl _ _).drew)).mono ?_
  rintro e u' x' ⟨rfl,rfl,hC⟩
  rcases hC with ⟨h,_⟩ | ⟨_,L2,us2,hF,hO⟩
  ·exact absurd h HK0.out
  obtain ⟨La2,Ln2,Lc2,rfl⟩:=slice_fine (own_fine hO.1)
  have y0:x'.cell? ⟨w.heap.size+1+1,0,none⟩=some (.int .i64 r):=hF.n.c0
  have y1:x'.cell? ⟨w.heap.size+1+1,1,none⟩=some (.string d):=hF.n.c1
  have y2:x'.cell? ⟨w.heap.size+1+1,2,none⟩=some (.int .i64 s):=hF.n.c2
  have y3:=hF.n.c3
  have y3:x'.cell? ⟨w.heap.size+1+1,3,none⟩=some (.slice La2 Ln2 Lc2):=y3
  have yk:=hF.k.c0
  exact ⟨.tuple #[.agg #[.int .i64 r,.string d,.int .i64 s,.slice La2 Ln2 Lc2],.int .i64 7],(by simp [results,Tryz.results37,go_sem,y0,y1,y2,y3,yk]),⟨d,_,bs,us2,7,rfl,HX.out,hO⟩,hF.bel⟩
 rw [if_neg hroom] at HAD2
 have HX:Hid (∃ zs' k',sa.Am bs M zs' k'∧Wx r d bs M zs' k' (d ++ fr (mbt M)) zs 0):=⟨zs,0,HA.out,.inr (.inr ⟨rfl,fun h=>h.elim (fun h=>by have:=HLL.out; omega) hroom,rfl,rfl,rfl⟩)⟩
 have HAD3:Hid (Calls Tryz.prog 71 #[.agg #[.int .i64 r,.string d,.int .i64 s],.string (mbt M)] x6 fun e w'=>e=.returned (.tuple #[.agg #[.int .i64 r,.string (d ++ fr (mbt M)),.int .i64 s],.int .i64 0])∧Below x6.heap.size x6 w'):=HAD2
 clear hroom HA HAD HAD2 HLL
 go_wp2_with (rw [← hx6])
 refine HAD3.out.mono ?_
 rintro e x7 ⟨rfl,hb7⟩
 have F7:=HF6.out.keep hb7
 have HO7:Hid (OwnL x7 (w.heap.size+1+1+1+1) (.slice La' Ln' Lc') zs us'):=ownL_below HO6.out hb7
 generalize d ++ fr (mbt M)=D at HX ⊢
 clear n0 n1 n2 n3 nk hcv hx6 HAD3 HO6 HF6 hb7 e0 e1 e2 e3 g0 g1 g2 g3 kc kf
 have e0:=F7.n.c0
 have e1:=F7.n.c1
 have e2:=F7.n.c2
 have e3:=F7.n.c3
 have g0:=F7.n.f 0
 have g1:=F7.n.f 1
 have g2:=F7.n.f 2
 have g3:=F7.n.f 3
 have kc:=F7.k.c0
 have kf:=F7.k.f 0
 have F4:=(((F7.n0 r).n1 D).n2 s).code 0
 have HO8:Hid (OwnL ((((x7.setCell ⟨w.heap.size+1+1,0,none⟩ (.int .i64 r)).setCell ⟨w.heap.size+1+1,1,none⟩ (.string D)).setCell ⟨w.heap.size+1+1,2,none⟩ (.int .i64 s)).setCell ⟨w.heap.size+1+1+1,0,none⟩ (.int .i64 0)) (w.heap.size+1+1+1+1) (.slice La' Ln' Lc') zs us'):=ownL_hi HO7.out (fun q hq=>by
  rw [heap_setCell_other _ ⟨w.heap.size+1+1+1,0,none⟩ q _ (by show q ≠ w.heap.size+1+1+1; omega),heap_setCell_other _ ⟨w.heap.size+1+1,2,none⟩ q _ (by show q ≠ w.heap.size+1+1; omega),heap_setCell_other _ ⟨w.heap.size+1+1,1,none⟩ q _ (by show q ≠ w.heap.size+1+1; omega),heap_setCell_other _ ⟨w.heap.size+1+1,0,none⟩ q _ (by show q ≠ w.heap.size+1+1; omega)])
 clear F7 HO7
 go_wp2_with fail
 generalize World.setCell _ _ _=x4 at F4 HO8 ⊢
 have HF5:Hid (Fw w x4 r d s (.slice a bs.length cap) M (.slice ia M.ps.length ic) r D s (.slice La' Ln' Lc') 0):=F4
 clear e0 e1 e2 e3 g0 g1 g2 g3 kc kf F4
 have e0:=HF5.out.n.c0
 have e1:=HF5.out.n.c1
 have e2:=HF5.out.n.c2
 have e3:=HF5.out.n.c3
 have e1':x4.cell? ⟨w.heap.size+1+1,1,none⟩=some (.string D):=e1
 have e2':x4.cell? ⟨w.heap.size+1+1,2,none⟩=some (.int .i64 s):=e2
 have e3':x4.cell? ⟨w.heap.size+1+1,3,none⟩=some (.slice La' Ln' Lc'):=e3
 have g0:=HF5.out.n.f 0
 have g1:=HF5.out.n.f 1
 have g2:=HF5.out.n.f 2
 have g3:=HF5.out.n.f 3
 have kc:=HF5.out.k.c0
 have kf:=HF5.out.k.f 0
 go_region
 go_wp2
 refine leaves_cons (f:=68) (args:=#[.pointer (some ⟨w.heap.size+1+1+1,0,none⟩),.pointer (some ⟨w.heap.size,0,none⟩),.pointer (some ⟨w.heap.size+1+1,0,none⟩)]) (by simp) (by simp [go_sem]) ?_
 have F9:=((((((HF5.out.n0 r).n1 D).n2 s).n3 (.slice La' Ln' Lc')).code 0).keep (Below.refl _ _).drew)
 refine (HCL.out _ r D s (.slice La' Ln' Lc') 0 F9).mono ?_
 rintro e u' x' ⟨rfl,rfl,hC⟩
 rcases hC with ⟨_,rfl⟩ | ⟨h,_⟩
 rotate_left
 ·exact absurd rfl h
 have hF:=F9
 have y0:World.cell? _ ⟨w.heap.size+1+1,0,none⟩=some (.int .i64 r):=hF.n.c0
 have y1:World.cell? _ ⟨w.heap.size+1+1,1,none⟩=some (.string D):=hF.n.c1
 have y2:World.cell? _ ⟨w.heap.size+1+1,2,none⟩=some (.int .i64 s):=hF.n.c2
 have y3:=hF.n.c3
 have y3:World.cell? _ ⟨w.heap.size+1+1,3,none⟩=some (.slice La' Ln' Lc'):=y3
 have yk:=hF.k.c0
 refine ⟨.tuple #[.agg #[.int .i64 r,.string D,.int .i64 s,.slice La' Ln' Lc'],.int .i64 0],(by simp [results,Tryz.results37,go_sem,y0,y1,y2,y3,yk]),⟨D,_,zs,us',0,rfl,HX.out,?_⟩,hF.bel⟩
 refine ownL_hi HO8.out (fun q hq=>?_)
 show (World.setCell _ _ _).heap[q]? = _
 rw [heap_setCell_other _ ⟨w.heap.size+1+1+1,0,none⟩ q _ (by show q ≠ w.heap.size+1+1+1; omega),heap_setCell_other _ ⟨w.heap.size+1+1,3,none⟩ q _ (by show q ≠ w.heap.size+1+1; omega),heap_setCell_other _ ⟨w.heap.size+1+1,2,none⟩ q _ (by show q ≠ w.heap.size+1+1; omega),heap_setCell_other _ ⟨w.heap.size+1+1,1,none⟩ q _ (by show q ≠ w.heap.size+1+1; omega),heap_setCell_other _ ⟨w.heap.size+1+1,0,none⟩ q _ (by show q ≠ w.heap.size+1+1; omega)]
end Go.Proofs.YtnhcbiomkiljpaaGreatDoor.eg
