/-
  At every engine and mutation Commit answers as the specification, field by field; it writes into no argument and its answer owns its memory.
-/
import Derived.Test.YtnhcbiomkiljpaaGreatDoorCards
import Derived.Test.YtnhcbiomkiljpaaGreatDoorTie
import Derived.Test.YtnhcbiomkiljpaaGreatDoorPkbu
import Derived.WalkKit
import Derived.ProofKit
import Derived.OpenShut
import Derived.ShutString
import Derived.OpenVars
import Derived.ChangeOld
import Derived.Below
import Derived.Deep.DeepHandedRow
import Derived.Deep.DeepWitnessRowRef
import Derived.LaidMore
import Derived.Lib.LaidTab
import Derived.Stop.LaidTwo
namespace Go.Proofs.YtnhcbiomkiljpaaGreatDoor.fnExactCommit
open Go.ChangeShapes Go.WideShapes Go.ChangeAt Go.RowKit
open Go.ChangeMaps (open_string shut_string)
set_option linter.unusedVariables false
theorem own:ownKnob Tryz.prog.godebug=none:=by kernel_rfl
theorem laidOut:laidOutB Tryz.prog=true:=by kernel_rfl
set_option maxHeartbeats 4000000 in
set_option maxRecDepth 100000 in
theorem walk (r0:Int) (dd0:ByteArray) (s0:Int) (u0:Value) (xs0:List bx.Bx) (us0:Nat→Value × Value) (hr0:lg.In r0) (hd0:dd0.size≤maxLen) (hs0:lg.In s0) (x1:mu.Mu) (iv1:Value) (w:World) (wa0:bx.BoxesAt w u0 xs0 us0) (wb0:xs0.length≤maxLen) (wc0:∀ j,j < xs0.length→bx.Held (xs0.getD j bx.noB)) (wa1:it.AttrsAt w iv1 x1.ps) (wb1:mu.Held x1) (ec eb:Addr) (eca ecb:Array Value) (eta etb:TypeId) (hS:lg.Errs w ec eb eca ecb eta etb) :
  Calls Tryz.prog 3 #[eg.EV r0 dd0 s0 u0,mu.MV x1 iv1] w fun e w'=>e=.returned (.bool true)∧Below w.heap.size w w':=by
 have L0:=eg.two_new w r0 dd0 s0 u0 x1 iv1
 have HS0:Hid (lg.Errs w ec eb eca ecb eta etb):=hS
 have HA0:Hid (bx.BoxesAt w u0 xs0 us0∧(∀ j,j < xs0.length→bx.Held (xs0.getD j bx.noB))∧it.AttrsAt w iv1 x1.ps∧mu.Held x1):=⟨wa0,wc0,wa1,wb1⟩
 obtain ⟨⟨a,cap,rfl,_⟩,_⟩:=wa0
 obtain ⟨ia,ic,rfl,_⟩:=wa1
 clear hS wc0 wb1
 obtain ⟨k0,k1,b0⟩:=L0
 have c0:=k0.c0
 have c1:=k0.c1
 have c2:=k0.c2
 have c3:=k0.c3
 unfold eg.EV mu.MV
 go_enter Tryz.func3,Tryz.ntmps3
 go_wp2_with fail
 generalize World.alloc _ _=w0 at k0 k1 b0 c0 c1 c2 c3 ⊢
 have HB0:Hid (Below w.heap.size w w0):=b0
 have HARG:Hid (∀ W,Below w0.heap.size w0 W→eg.LiesE W w.heap.size 26 r0 dd0 s0 (.slice a xs0.length cap)∧mu.Lies W (w.heap.size+1) 29 x1 (.slice ia x1.ps.length ic)∧bx.BoxesAt W (.slice a xs0.length cap) xs0 us0∧it.AttrsAt W (.slice ia x1.ps.length ic) x1.ps):=fun W hW=>⟨k0.keep hW,k1.keep hW,bx.boxes_below HA0.out.1 (HB0.out.trans (hW.mono HB0.out.size)),it.at_below HA0.out.2.2.1 (HB0.out.trans (hW.mono HB0.out.size))⟩
 clear k0 k1
 refine (eg.szEngine_any r0 dd0 s0 _ xs0 us0 w0 (bx.boxes_below HA0.out.1 b0) hd0 wb0 HA0.out.2.1).mono ?_
 rintro e w1 ⟨⟨z,rfl,hz0,hz1,hz2⟩,b1⟩
 clear c0 c1 c2 c3 b0
 by_cases hz:z < 0
 ·have HE:Hid (Below w.heap.size w w1):=HB0.out.trans (b1.mono HB0.out.size)
  go_wp2
  go_ret
  exact ⟨rfl,HE.out⟩
 obtain ⟨hd2,hsm⟩:=hz2 (by omega)
 have HSM:Hid (bx.Smalls xs0):=hsm
 clear hz2 hsm hd0 wb0
 have d0:=mu.Lies.c0 (HARG.out w1 b1).2.1
 have d1:=mu.Lies.c1 (HARG.out w1 b1).2.1
 have d2:=mu.Lies.c2 (HARG.out w1 b1).2.1
 have d3:=mu.Lies.c3 (HARG.out w1 b1).2.1
 have d4:=mu.Lies.c4 (HARG.out w1 b1).2.1
 have d5:=mu.Lies.c5 (HARG.out w1 b1).2.1
 go_wp2_with fail
 refine (mu.szMut_any x1 _ z w1 (HARG.out w1 b1).2.2.2 (by omega) (by omega) HA0.out.2.2.2).mono ?_
 rintro e w2 ⟨⟨z2,rfl,hy0,hy1,hy2⟩,hb2⟩
 have b2:=b1.trans (hb2.mono b1.size)
 clear d0 d1 d2 d3 d4 d5 hb2 b1
 by_cases hzz:z2 < 0
 ·have HE:Hid (Below w.heap.size w w2):=HB0.out.trans (b2.mono HB0.out.size)
  go_wp2
  go_ret
  exact ⟨rfl,HE.out⟩
 have HMM:Hid (mu.Small x1):=hy2 (by omega)
 have hpl:x1.ps.length≤1048576:=HMM.out.2.2.1
 clear hy2
 go_wp2_with fail
 refine rs.region_st (by kernel_rfl) (fun f=>{ tmps:=List.toArray ((.agg #[.int .i64 r0,.string dd0,.int .i64 s0,.slice a xs0.length cap]:Value) :: .agg #[.int .i64 x1.k,.int .i64 x1.u,.int .i64 x1.m,.int .i64 x1.f,.string x1.b,.slice ia x1.ps.length ic] :: .pointer (some ⟨w.heap.size,0,none⟩) :: .pointer (some ⟨w.heap.size+1,0,none⟩) :: .bool false :: .int .i64 z2 :: f 8 :: f 10 :: undef :: undef :: undef :: undef :: undef :: undef :: undef :: undef :: undef :: .agg #[.int .i64 r0,.string dd0,.int .i64 s0,.slice a xs0.length cap] :: .int .i64 1048576 :: .int .i64 z :: .int .i64 z :: .bool (decide (z < 0)) :: .agg #[.int .i64 x1.k,.int .i64 x1.u,.int .i64 x1.m,.int .i64 x1.f,.string x1.b,.slice ia x1.ps.length ic] :: .int .i64 z :: .int .i64 z2 :: .int .i64 z2 :: .bool (decide (z2 < 0)) :: f 5 :: f 0 :: f 1 :: f 2 :: f 3 :: f 4 :: f 6 :: f 7 :: undef :: undef :: undef :: undef :: undef :: undef :: undef :: undef :: undef :: undef :: undef :: undef :: undef :: undef :: undef :: undef :: undef :: undef :: undef :: undef :: undef :: undef :: undef :: undef :: undef :: undef :: undef :: undef :: undef :: undef :: undef :: undef :: undef :: undef :: undef :: undef :: undef :: undef :: undef :: undef :: undef :: undef :: undef :: undef :: undef :: undef :: undef :: undef :: undef :: undef :: undef :: undef :: undef :: undef :: undef :: undef :: undef :: undef :: undef :: undef :: undef :: undef :: undef :: undef :: undef :: undef :: undef :: undef :: undef :: undef :: undef :: undef :: undef :: undef :: undef :: undef :: undef :: undef :: undef :: undef :: undef :: undef :: undef :: undef :: []),defers:=[] }) (eg.JC w2 (.agg #[.int .i64 r0,.string dd0,.int .i64 s0,.slice a xs0.length cap]) (.agg #[.int .i64 x1.k,.int .i64 x1.u,.int .i64 x1.m,.int .i64 x1.f,.string x1.b,.slice ia x1.ps.length ic]) r0 dd0 s0 xs0 x1) (fun j=>undef) rfl (eg.JC.start _ (Below.refl _ _).drew _) (rs.deps_of (by kernel_rfl)) ?_ ?_
 ·intro i o ho D f X hJ hall hni hcl
  match i,ho with
  | 0,ho =>
   cases ho
   have hbx:=b2.trans (hJ.bel.mono b2.size)
   have hLX:=(HARG.out X hbx).1
   have q0:=hLX.c0
   have q1:=hLX.c1
   have q2:=hLX.c2
   have q3:=hLX.c3
   have HJ:Hid (eg.JC w2 (.agg #[.int .i64 r0,.string dd0,.int .i64 s0,.slice a xs0.length cap]) (.agg #[.int .i64 x1.k,.int .i64 x1.u,.int .i64 x1.m,.int .i64 x1.f,.string x1.b,.slice ia x1.ps.length ic]) r0 dd0 s0 xs0 x1 D f X):=hJ
   clear hLX hbx
   clear hJ hall hcl
   refine wpOp_step rfl (fun K' hK=>?_)
   go_wp2_with fail
   exact ⟨.agg #[.int .i64 r0,.string dd0,.int .i64 s0,.slice a xs0.length cap],by simp [rs.upd],HJ.out.op0⟩
  | 1,ho =>
   cases ho
   have d0:D 0:=hall { on:=0,ground:=Ground.data } (by simp) rfl
   have h0:f 0=.agg #[.int .i64 r0,.string dd0,.int .i64 s0,.slice a xs0.length cap]:=hJ.p0 d0
   have hbx:=b2.trans (hJ.bel.mono b2.size)
   have hBX:=(HARG.out X hbx).2.2.1
   have HJ:Hid (eg.JC w2 (.agg #[.int .i64 r0,.string dd0,.int .i64 s0,.slice a xs0.length cap]) (.agg #[.int .i64 x1.k,.int .i64 x1.u,.int .i64 x1.m,.int .i64 x1.f,.string x1.b,.slice ia x1.ps.length ic]) r0 dd0 s0 xs0 x1 D f X):=hJ
   clear hbx
   clear hJ hall hcl
   refine wpOp_step rfl (fun K' hK=>?_)
   simp only [h0]
   go_wp2_with (go_at_call 8; refine (eg.toEngine_any r0 dd0 s0 _ xs0 us0 X hBX HSM.out).mono ?_; rintro e X' ⟨B,u,us,rfl,⟨rfl,hC1,hC2,hC3⟩,_,hb⟩)
   exact ⟨.agg #[.int .i64 r0,.string dd0,.int .i64 s0,.slice (some ⟨B,0,none⟩) xs0.length xs0.length],by simp [rs.upd,h0,eg.EV],(HJ.out.below hb).op1 hC1 (eg.fines_mine hC2) hC3⟩
  | 2,ho =>
   cases ho
   have hbx:=b2.trans (hJ.bel.mono b2.size)
   have hLX:=(HARG.out X hbx).2.1
   have q0:=mu.Lies.c0 hLX
   have q1:=mu.Lies.c1 hLX
   have q2:=mu.Lies.c2 hLX
   have q3:=mu.Lies.c3 hLX
   have q4:=mu.Lies.c4 hLX
   have q5:=mu.Lies.c5 hLX
   have HJ:Hid (eg.JC w2 (.agg #[.int .i64 r0,.string dd0,.int .i64 s0,.slice a xs0.length cap]) (.agg #[.int .i64 x1.k,.int .i64 x1.u,.int .i64 x1.m,.int .i64 x1.f,.string x1.b,.slice ia x1.ps.length ic]) r0 dd0 s0 xs0 x1 D f X):=hJ
   clear hLX hbx
   clear hJ hall hcl
   refine wpOp_step rfl (fun K' hK=>?_)
   go_wp2_with fail
   exact ⟨.agg #[.int .i64 x1.k,.int .i64 x1.u,.int .i64 x1.m,.int .i64 x1.f,.string x1.b,.slice ia x1.ps.length ic],by simp [rs.upd],HJ.out.op2⟩
  | 3,ho =>
   cases ho
   have d2:D 2:=hall { on:=2,ground:=Ground.data } (by simp) rfl
   have h2:f 2=.agg #[.int .i64 x1.k,.int .i64 x1.u,.int .i64 x1.m,.int .i64 x1.f,.string x1.b,.slice ia x1.ps.length ic]:=hJ.p2 d2
   have hbx:=b2.trans (hJ.bel.mono b2.size)
   have hAX:=(HARG.out X hbx).2.2.2
   have HJ:Hid (eg.JC w2 (.agg #[.int .i64 r0,.string dd0,.int .i64 s0,.slice a xs0.length cap]) (.agg #[.int .i64 x1.k,.int .i64 x1.u,.int .i64 x1.m,.int .i64 x1.f,.string x1.b,.slice ia x1.ps.length ic]) r0 dd0 s0 xs0 x1 D f X):=hJ
   clear hbx
   clear hJ hall hcl
   refine wpOp_step rfl (fun K' hK=>?_)
   simp only [h2]
   go_wp2_with (go_at_call 9; refine (mu.toMut_any x1 _ X hAX hpl).mono ?_; rintro e X' ⟨g,rfl,hv,hb⟩)
   exact ⟨mu.MV x1 (.slice (some ⟨g,0,none⟩) x1.ps.length x1.ps.length),by simp [rs.upd,h2],(HJ.out.below hb).op3 hv⟩
  | 4,ho =>
   cases ho
   have d1:D 1:=hall { on:=1,ground:=Ground.data } (by simp) rfl
   have d3:D 3:=hall { on:=3,ground:=Ground.data } (by simp) rfl
   obtain ⟨B1,gp,h1,hB1,hF1,hC1⟩:=hJ.p1 d1 hni
   obtain ⟨g3,h3,hA3⟩:=hJ.p3 d3 hni
   have hbx:=b2.trans (hJ.bel.mono b2.size)
   have n5:¬ D 5:=fun h=>hni (hcl 5 _ (h) rfl { on:=4,ground:=Ground.data } (by simp) rfl)
   have n6:¬ D 6:=fun h=>hni (hcl 5 _ (hcl 6 _ (h) rfl { on:=5,ground:=Ground.data } (by simp) rfl) rfl { on:=4,ground:=Ground.data } (by simp) rfl)
   have n7:¬ D 7:=fun h=>hni (hcl 5 _ (hcl 7 _ (h) rfl { on:=5,ground:=Ground.data } (by simp) rfl) rfl { on:=4,ground:=Ground.data } (by simp) rfl)
   have n9:¬ D 9:=fun h=>hni (hcl 5 _ (hcl 6 _ (hcl 9 _ (h) rfl { on:=6,ground:=Ground.data } (by simp) rfl) rfl { on:=5,ground:=Ground.data } (by simp) rfl) rfl { on:=4,ground:=Ground.data } (by simp) rfl)
   have n10:¬ D 10:=fun h=>hni (hcl 5 _ (hcl 7 _ (hcl 10 _ (h) rfl { on:=7,ground:=Ground.data } (by simp) rfl) rfl { on:=5,ground:=Ground.data } (by simp) rfl) rfl { on:=4,ground:=Ground.data } (by simp) rfl)
   have HJ:Hid (eg.JC w2 (.agg #[.int .i64 r0,.string dd0,.int .i64 s0,.slice a xs0.length cap]) (.agg #[.int .i64 x1.k,.int .i64 x1.u,.int .i64 x1.m,.int .i64 x1.f,.string x1.b,.slice ia x1.ps.length ic]) r0 dd0 s0 xs0 x1 D f X):=hJ
   have hbs:=hJ.bel.size
   clear hJ hall hcl
   refine wpOp_step rfl (fun K' hK=>?_)
   unfold mu.MV at h3
   simp only [h1,h3]
   go_wp2_with (go_at_call 7; refine (eg.specCm_any r0 dd0 s0 _ xs0 gp x1 _ X hr0 hd2 hs0 hB1 hF1 HSM.out (fun a n c e=>by cases e; exact Nat.le_refl _) hC1 hA3 HMM.out).mono ?_; rintro e X' ⟨⟨r',d',s',L,ys,us,c,rfl,hCm,hO⟩,hb⟩; obtain ⟨La,Ln,Lc,rfl⟩:=bl.slice_fine (bx.own_fine hO.1))
   exact ⟨.tuple #[.agg #[.int .i64 r',.string d',.int .i64 s',.slice La Ln Lc],.int .i64 c],by simp [rs.upd,h1,h3],(HJ.out.below hb).op4 n5 n6 n7 n9 n10 hCm (sa.ownL_le hO hbs)⟩
  | 5,ho =>
   cases ho
   have d4:D 4:=hall { on:=4,ground:=Ground.data } (by simp) rfl
   obtain ⟨r',d',s',La,Ln,Lc,ys,us,c,h4,_,_,k5,k6,k7,_,_⟩:=hJ.p4 d4
   have HJ:Hid (eg.JC w2 (.agg #[.int .i64 r0,.string dd0,.int .i64 s0,.slice a xs0.length cap]) (.agg #[.int .i64 x1.k,.int .i64 x1.u,.int .i64 x1.m,.int .i64 x1.f,.string x1.b,.slice ia x1.ps.length ic]) r0 dd0 s0 xs0 x1 D f X):=hJ
   clear hJ hall hcl
   refine wpOp_step rfl (fun K' hK=>?_)
   simp only [h4]
   go_simp
   exact hK _ _ ⟨f 4,by simp [rs.upd,h4],HJ.out.op5 d4⟩
  | 6,ho =>
   cases ho
   have d5:D 5:=hall { on:=5,ground:=Ground.data } (by simp) rfl
   have d4:D 4:=hcl 5 _ d5 rfl { on:=4,ground:=Ground.data } (by simp) rfl
   obtain ⟨r',d',s',La,Ln,Lc,ys,us,c,h4,_,_,k5,k6,k7,_,_⟩:=hJ.p4 d4
   have h5:=k5 d5
   have HJ:Hid (eg.JC w2 (.agg #[.int .i64 r0,.string dd0,.int .i64 s0,.slice a xs0.length cap]) (.agg #[.int .i64 x1.k,.int .i64 x1.u,.int .i64 x1.m,.int .i64 x1.f,.string x1.b,.slice ia x1.ps.length ic]) r0 dd0 s0 xs0 x1 D f X):=hJ
   clear hJ hall hcl
   refine wpOp_step rfl (fun K' hK=>?_)
   simp only [h5]
   go_simp
   exact hK _ _ ⟨.agg #[.int .i64 r',.string d',.int .i64 s',.slice La Ln Lc],by simp [rs.upd,h5,h4],HJ.out.op6 d4 d5 h5⟩
  | 7,ho =>
   cases ho
   have d5:D 5:=hall { on:=5,ground:=Ground.data } (by simp) rfl
   have d4:D 4:=hcl 5 _ d5 rfl { on:=4,ground:=Ground.data } (by simp) rfl
   obtain ⟨r',d',s',La,Ln,Lc,ys,us,c,h4,_,_,k5,k6,k7,_,_⟩:=hJ.p4 d4
   have h5:=k5 d5
   have HJ:Hid (eg.JC w2 (.agg #[.int .i64 r0,.string dd0,.int .i64 s0,.slice a xs0.length cap]) (.agg #[.int .i64 x1.k,.int .i64 x1.u,.int .i64 x1.m,.int .i64 x1.f,.string x1.b,.slice ia x1.ps.length ic]) r0 dd0 s0 xs0 x1 D f X):=hJ
   clear hJ hall hcl
   refine wpOp_step rfl (fun K' hK=>?_)
   simp only [h5]
   go_simp
   exact hK _ _ ⟨.int .i64 c,by simp [rs.upd,h5,h4],HJ.out.op7 d4 d5 h5⟩
  | 8,ho =>
   cases ho
   have n9:¬ D 9:=fun h=>hni (hcl 9 _ (h) rfl { on:=8,ground:=Ground.data } (by simp) rfl)
   have nb:=eg.new_below X 35 #[.int .i64 0,.string ⟨#[]⟩,.int .i64 0,.slice none 0 0]
   have nl:=eg.liesE_new X 35 0 ⟨#[]⟩ 0 (.slice none 0 0)
   have hbs:=hJ.bel.size
   have HJ:Hid (eg.JC w2 (.agg #[.int .i64 r0,.string dd0,.int .i64 s0,.slice a xs0.length cap]) (.agg #[.int .i64 x1.k,.int .i64 x1.u,.int .i64 x1.m,.int .i64 x1.f,.string x1.b,.slice ia x1.ps.length ic]) r0 dd0 s0 xs0 x1 D f X):=hJ
   clear hJ hall hcl
   refine wpOp_step rfl (fun K' hK=>?_)
   go_wp2_with fail
   exact ⟨.pointer (some ⟨X.heap.size,0,none⟩),by simp [rs.upd],(HJ.out.below nb).op8 n9 hbs nl⟩
  | 9,ho =>
   cases ho
   have d8:D 8:=hall { on:=8,ground:=Ground.data } (by simp) rfl
   have d6:D 6:=hall { on:=6,ground:=Ground.data } (by simp) rfl
   have d5:D 5:=hcl 6 _ d6 rfl { on:=5,ground:=Ground.data } (by simp) rfl
   have d4:D 4:=hcl 5 _ d5 rfl { on:=4,ground:=Ground.data } (by simp) rfl
   obtain ⟨r',d',s',La,Ln,Lc,ys,us,c,h4,_,_,k5,k6,k7,_,_⟩:=hJ.p4 d4
   have h6:=k6 d6
   obtain ⟨g,h8,hg,hz⟩:=hJ.p8 d8
   have hl:=hz hni
   have q0:=hl.c0
   have q1:=hl.c1
   have q2:=hl.c2
   have q3:=hl.c3
   have t0:=hl.f 0
   have t1:=hl.f 1
   have t2:=hl.f 2
   have t3:=hl.f 3
   have HJ:Hid (eg.JC w2 (.agg #[.int .i64 r0,.string dd0,.int .i64 s0,.slice a xs0.length cap]) (.agg #[.int .i64 x1.k,.int .i64 x1.u,.int .i64 x1.m,.int .i64 x1.f,.string x1.b,.slice ia x1.ps.length ic]) r0 dd0 s0 xs0 x1 D f X):=hJ
   clear hl hz
   clear hJ hall hcl
   refine wpOp_step rfl (fun K' hK=>?_)
   simp only [h8,h6]
   go_wp2_with fail
   exact ⟨undef,by simp [rs.upd,h8,h6,h4],HJ.out.op9 d4 d6 hni d8 h8 h6⟩
  | 10,ho =>
   cases ho
   have d7:D 7:=hall { on:=7,ground:=Ground.data } (by simp) rfl
   have d5:D 5:=hcl 7 _ d7 rfl { on:=5,ground:=Ground.data } (by simp) rfl
   have d4:D 4:=hcl 5 _ d5 rfl { on:=4,ground:=Ground.data } (by simp) rfl
   obtain ⟨r',d',s',La,Ln,Lc,ys,us,c,h4,_,_,k5,k6,k7,_,_⟩:=hJ.p4 d4
   have h7:=k7 d7
   have HJ:Hid (eg.JC w2 (.agg #[.int .i64 r0,.string dd0,.int .i64 s0,.slice a xs0.length cap]) (.agg #[.int .i64 x1.k,.int .i64 x1.u,.int .i64 x1.m,.int .i64 x1.f,.string x1.b,.slice ia x1.ps.length ic]) r0 dd0 s0 xs0 x1 D f X):=hJ
   clear hJ hall hcl
   refine wpOp_step rfl (fun K' hK=>?_)
   simp only [h7]
   go_simp
   exact hK _ _ ⟨f 7,by simp [rs.upd,h7,h4],HJ.out.op10 d4 d7⟩
  | k+11,ho=>simp at ho
 ·intro D f w3' hD hJ
  obtain ⟨g6,h8,hg6,hq0⟩:=hJ.p8 (hD 8 (by decide))
  obtain ⟨r2,e2,s2,Sa,Sn,Sc,ys,ub,c2,hq1,hCm,hO,hq2,hq3,hq4,h10,h9⟩:=hJ.p4 (hD 4 (by decide))
  obtain ⟨g6',h8',hL6⟩:=h9 (hD 9 (by decide))
  obtain rfl:g6'=g6:=by have:=h8'.symm.trans h8; injection this with this; injection this with this; injection this
  replace h10:=h10 (hD 10 (by decide))
  have b3:=b2.trans (hJ.bel.mono b2.size)
  have HSP:Hid (eg.Cm r0 dd0 s0 xs0 x1 r2 e2 s2 ys c2∧bl.OwnL w3' w2.heap.size (.slice Sa Sn Sc) ys ub∧eg.LiesE w3' g6' 35 r2 e2 s2 (.slice Sa Sn Sc)):=⟨hCm,hO,hL6⟩
  have HFY:Hid (ml.Few ys∧bx.Smalls ys):=⟨rp.few_sok (eg.cm_small HSM.out HMM.out hCm).2,(eg.cm_small HSM.out HMM.out hCm).1⟩
  rw [h8,h10]
  clear hJ hD hCm hO hL6 h8 h8' h9 h10 hg6 hq0 hq1 hq2 hq3 hq4
  generalize f 0=f_0
  generalize f 1=f_1
  generalize f 2=f_2
  generalize f 3=f_3
  generalize f 4=f_4
  generalize f 5=f_5
  generalize f 6=f_6
  generalize f 7=f_7
  clear f D
  have c0:=(HARG.out w3' b3).1.c0
  have c1:=(HARG.out w3' b3).1.c1
  have c2':=(HARG.out w3' b3).1.c2
  have c3:=(HARG.out w3' b3).1.c3
  go_wp2_with fail
  refine (eg.toEngine_any r0 dd0 s0 _ xs0 us0 w3' (HARG.out w3' b3).2.2.1 HSM.out).mono ?_
  rintro e w4' ⟨BX,uX,gx,rfl,⟨rfl,hX1,hX2,hX3⟩,hBX,hb4⟩
  clear c0 c1 c2' c3 hX3
  have n4:=eg.new_below w4' 35 #[.int .i64 r0,.string dd0,.int .i64 s0,.slice (some ⟨BX,0,none⟩) xs0.length xs0.length]
  have M4:=eg.liesE_new w4' 35 r0 dd0 s0 (.slice (some ⟨BX,0,none⟩) xs0.length xs0.length)
  have hb4':=hb4.trans (n4.mono hb4.size)
  have HX:Hid (bx.BoxesAt w4' (.slice (some ⟨BX,0,none⟩) xs0.length xs0.length) xs0 gx∧bx.Mine w4' BX xs0 gx):=⟨hX1,hX2⟩
  have b4:=b3.trans (hb4'.mono b3.size)
  have d0:=mu.Lies.c0 (HARG.out _ b4).2.1
  have d1:=mu.Lies.c1 (HARG.out _ b4).2.1
  have d2:=mu.Lies.c2 (HARG.out _ b4).2.1
  have d3:=mu.Lies.c3 (HARG.out _ b4).2.1
  have d4:=mu.Lies.c4 (HARG.out _ b4).2.1
  have d5:=mu.Lies.c5 (HARG.out _ b4).2.1
  clear hX1 hX2 hb4
  unfold eg.EV
  go_wp2_with fail
  generalize hP4:w4'.heap.size=P4 at M4 n4 ⊢
  generalize w4'.alloc _=w4 at M4 n4 hb4' b4 d0 d1 d2 d3 d4 d5 ⊢
  have HB4:Hid (Below w3'.heap.size w3' w4∧w3'.heap.size≤BX∧w4'.heap.size=P4∧P4 < w4.heap.size):=⟨hb4',hBX,hP4,M4.lt⟩
  have HX4:Hid (bx.BoxesAt w4 (.slice (some ⟨BX,0,none⟩) xs0.length xs0.length) xs0 gx∧bx.Mine w4 BX xs0 gx∧mx.Ahead BX P4 xs0 gx):=⟨bx.boxes_below HX.out.1 (hP4 ▸ n4),mx.mine_below HX.out.2 (hP4 ▸ n4),hP4 ▸ mx.mine_ahead HX.out.2⟩
  have HM4:Hid (eg.LiesE w4 P4 35 r0 dd0 s0 (.slice (some ⟨BX,0,none⟩) xs0.length xs0.length)):=M4
  clear HX hP4 n4 M4 hb4' hBX
  refine (mu.toMut_own x1 _ w4 (HARG.out w4 b4).2.2.2 hpl).mono ?_
  rintro e w5' ⟨g5,rfl,hv5,hb5,xs5,ho5⟩
  clear d0 d1 d2 d3 d4 d5
  have k5:=mu.new_below w5' 41 #[.int .i64 x1.k,.int .i64 x1.u,.int .i64 x1.m,.int .i64 x1.f,.string x1.b,.slice (some ⟨g5,0,none⟩) x1.ps.length x1.ps.length]
  have M5:=mu.lies_new w5' 41 x1 (.slice (some ⟨g5,0,none⟩) x1.ps.length x1.ps.length)
  have e5:=hb5.trans (k5.mono hb5.size)
  have HV5:=it.at_below hv5 k5
  have HO5:=ow.own_below ho5 k5
  have hP5:=hb5.size
  have c0:=(HM4.out.keep e5).c0
  have c1:=(HM4.out.keep e5).c1
  have c2':=(HM4.out.keep e5).c2
  have c3:=(HM4.out.keep e5).c3
  have m0:=M5.c0
  have m1:=M5.c1
  have m2:=M5.c2
  have m3:=M5.c3
  have m4:=M5.c4
  have m5:=M5.c5
  clear hv5 ho5 hb5 k5
  unfold mu.MV
  go_wp2_with fail
  generalize w5'.heap.size=P5 at M5 hP5 m0 m1 m2 m3 m4 m5 ⊢
  generalize w5'.alloc _=w5 at M5 HV5 HO5 e5 c0 c1 c2' c3 m0 m1 m2 m3 m4 m5 ⊢
  have HM5:Hid (mu.Lies w5 P5 41 x1 (.slice (some ⟨g5,0,none⟩) x1.ps.length x1.ps.length)∧it.AttrsAt w5 (.slice (some ⟨g5,0,none⟩) x1.ps.length x1.ps.length) x1.ps∧w5.ownsRow w4.heap.size 87 2 (.slice (some ⟨g5,0,none⟩) x1.ps.length x1.ps.length) x1.ps.length xs5):=⟨M5,HV5,HO5⟩
  have HP5:Hid (w4.heap.size≤P5∧P5 < w5.heap.size∧w4.heap.size≤g5∧g5 < w5.heap.size):=⟨hP5,M5.lt,(sa.own_at HO5).1,(sa.own_at HO5).2⟩
  have HE5:Hid (Below w4.heap.size w4 w5):=e5
  have b5:=b4.trans (e5.mono b4.size)
  have HC5:Hid (Below w3'.heap.size w3' w5):=HB4.out.1.trans (e5.mono HB4.out.1.size)
  clear M5 HV5 HO5 e5 hP5 b4
  refine (eg.implCm_any r0 dd0 s0 _ xs0 gx x1 _ w5 ec eb eca ecb eta etb hr0 hd2 hs0 (HS0.out.keep (HB0.out.trans (b5.mono HB0.out.size))) (bx.boxes_below HX4.out.1 HE5.out) (.inr ⟨_,_,_,rfl⟩) (eg.fines_mine HX4.out.2.1) HSM.out HM5.out.2.1 HMM.out).mono ?_
  rintro e w6' ⟨⟨rg,eg',sg,G,ys2,ug,cg,rfl,hCg,hG⟩,hb6⟩
  obtain ⟨rfl,rfl,rfl,rfl,rfl⟩:=eg.cm_one hCg HSP.out.1
  obtain ⟨Ga,Gn,Gc,rfl⟩:=bl.slice_fine (bx.own_fine hG.1)
  have n6:=eg.new_below w6' 35 #[.int .i64 rg,.string eg',.int .i64 sg,.slice Ga Gn Gc]
  have M6:=eg.liesE_new w6' 35 rg eg' sg (.slice Ga Gn Gc)
  have hb6':=hb6.trans (n6.mono hb6.size)
  have hGG:=bl.ownL_below hG n6
  have hP6:=hb6.size
  have j0:=M6.c0
  have j1:=M6.c1
  have j2:=M6.c2
  have j3:=M6.c3
  have o0:=(HSP.out.2.2.keep (HC5.out.trans (hb6'.mono HC5.out.size))).c0
  have o1:=(HSP.out.2.2.keep (HC5.out.trans (hb6'.mono HC5.out.size))).c1
  have o2:=(HSP.out.2.2.keep (HC5.out.trans (hb6'.mono HC5.out.size))).c2
  have o3:=(HSP.out.2.2.keep (HC5.out.trans (hb6'.mono HC5.out.size))).c3
  have cc:((cg:Int) != cg)=false:=by simp
  clear hCg hG hb6 n6 c0 c1 c2' c3 m0 m1 m2 m3 m4 m5 b5
  go_wp2_with fail
  generalize w6'.heap.size=P6 at M6 hP6 j0 j1 j2 j3 ⊢
  generalize w6'.alloc _=w6 at M6 hb6' hGG j0 j1 j2 j3 o0 o1 o2 o3 ⊢
  have HG6:Hid (bl.OwnL w6 w5.heap.size (.slice Ga Gn Gc) ys2 ug∧eg.LiesE w6 P6 35 rg eg' sg (.slice Ga Gn Gc)∧w5.heap.size≤P6):=⟨hGG,M6,hP6⟩
  have HH6:Hid (Below w5.heap.size w5 w6):=hb6'
  have HC6:Hid (Below w3'.heap.size w3' w6):=HC5.out.trans (hb6'.mono HC5.out.size)
  have HE6:Hid (Below w4.heap.size w4 w6):=HE5.out.trans (hb6'.mono HE5.out.size)
  clear M6 hGG hb6' hP6 HC5
  refine (eg.eqEngine_any rg eg' sg _ _ ys2 ug ub w6 (bl.ownL_boxes HG6.out.1) (bl.ownL_boxes (bl.ownL_below HSP.out.2.1 HC6.out)) HFY.out.2).mono ?_
  rintro e w7 ⟨rfl,hb7⟩
  have HH7:Hid (Below w5.heap.size w5 w7):=HH6.out.trans (hb7.mono HH6.out.size)
  have HK7:Hid (Below w6.heap.size w6 w7):=hb7
  clear hb7 j0 j1 j2 j3 o0 o1 o2 o3
  go_wp2_with fail
  have HE7:Hid (Below w4.heap.size w4 w7):=HE6.out.trans (HK7.out.mono HE6.out.size)
  have HA7:Hid (Below w0.heap.size w0 w7):=b3.trans ((HC6.out.trans (HK7.out.mono HC6.out.size)).mono b3.size)
  have L7:=(HARG.out w7 HA7.out).1
  have M7:=HM4.out.keep HE7.out
  have c0:=L7.c0
  have c1:=L7.c1
  have c2':=L7.c2
  have c3:=L7.c3
  have e0:=M7.c0
  have e1:=M7.c1
  have e2:=M7.c2
  have e3:=M7.c3
  have HKK:Hid (∀ x,Below w7.heap.size w7 x→x.cell? ⟨w.heap.size,0,none⟩=some (.int .i64 r0)∧x.cell? ⟨w.heap.size,0+1,none⟩=some (.string dd0)∧x.cell? ⟨w.heap.size,0+2,none⟩=some (.int .i64 s0)∧x.cell? ⟨w.heap.size,0+3,none⟩=some (.slice a xs0.length cap)∧x.cell? ⟨P4,0,none⟩=some (.int .i64 r0)∧x.cell? ⟨P4,0+1,none⟩=some (.string dd0)∧x.cell? ⟨P4,0+2,none⟩=some (.int .i64 s0)∧x.cell? ⟨P4,0+3,none⟩=some (.slice (some ⟨BX,0,none⟩) xs0.length xs0.length)):=fun x hx=>⟨(L7.keep hx).c0,(L7.keep hx).c1,(L7.keep hx).c2,(L7.keep hx).c3,(M7.keep hx).c0,(M7.keep hx).c1,(M7.keep hx).c2,(M7.keep hx).c3⟩
  have HT7:Hid (∀ x,Below w7.heap.size w7 x→Calls Tryz.prog 8 #[.agg #[.int .i64 r0,.string dd0,.int .i64 s0,.slice a xs0.length cap]] x fun e w'=>∃ B us,e=.returned (.agg #[.int .i64 r0,.string dd0,.int .i64 s0,.slice (some ⟨B,0,none⟩) xs0.length xs0.length])∧bx.BoxesAt w' (.slice (some ⟨B,0,none⟩) xs0.length xs0.length) xs0 us∧Below w7.heap.size w7 w'∧w'.cell? ⟨w.heap.size,0,none⟩=some (.int .i64 r0)∧w'.cell? ⟨w.heap.size,0+1,none⟩=some (.string dd0)∧w'.cell? ⟨w.heap.size,0+2,none⟩=some (.int .i64 s0)∧w'.cell? ⟨w.heap.size,0+3,none⟩=some (.slice a xs0.length cap)∧w'.cell? ⟨P4,0,none⟩=some (.int .i64 r0)∧w'.cell? ⟨P4,0+1,none⟩=some (.string dd0)∧w'.cell? ⟨P4,0+2,none⟩=some (.int .i64 s0)∧w'.cell? ⟨P4,0+3,none⟩=some (.slice (some ⟨BX,0,none⟩) xs0.length xs0.length)):=fun x hx =>
   (eg.toEngine_any r0 dd0 s0 _ xs0 us0 x (HARG.out x (HA7.out.trans (hx.mono HA7.out.size))).2.2.1 HSM.out).mono fun e w' ⟨B,u,us,he,hC,_,hb⟩=>⟨B,us,by rw [he,hC.1]; rfl,by have:=hC.2.1; rw [hC.1] at this; exact this,hx.trans (hb.mono hx.size),HKK.out _ (hx.trans (hb.mono hx.size))⟩
  have HQ7:Hid (∀ x B us,bx.BoxesAt x (.slice (some ⟨B,0,none⟩) xs0.length xs0.length) xs0 us→Below w7.heap.size w7 x→Calls Tryz.prog 11 #[.agg #[.int .i64 r0,.string dd0,.int .i64 s0,.slice (some ⟨BX,0,none⟩) xs0.length xs0.length],.agg #[.int .i64 r0,.string dd0,.int .i64 s0,.slice (some ⟨B,0,none⟩) xs0.length xs0.length]] x fun e w'=>e=.returned (.bool true)∧Below w7.heap.size w7 w'∧w'.cell? ⟨w.heap.size,0,none⟩=some (.int .i64 r0)∧w'.cell? ⟨w.heap.size,0+1,none⟩=some (.string dd0)∧w'.cell? ⟨w.heap.size,0+2,none⟩=some (.int .i64 s0)∧w'.cell? ⟨w.heap.size,0+3,none⟩=some (.slice a xs0.length cap)∧w'.cell? ⟨P4,0,none⟩=some (.int .i64 r0)∧w'.cell? ⟨P4,0+1,none⟩=some (.string dd0)∧w'.cell? ⟨P4,0+2,none⟩=some (.int .i64 s0)∧w'.cell? ⟨P4,0+3,none⟩=some (.slice (some ⟨BX,0,none⟩) xs0.length xs0.length)):=fun x B us h2 hx =>
   (eg.eqEngine_any r0 dd0 s0 _ _ xs0 gx us x (bx.boxes_below HX4.out.1 (HE7.out.trans (hx.mono HE7.out.size))) h2 HSM.out).mono fun e w' ⟨he,hb'⟩=>⟨he,hx.trans (hb'.mono hx.size),HKK.out _ (hx.trans (hb'.mono hx.size))⟩
  have hd:Below w7.heap.size w7 w7.drew:=(Below.refl _ _).drew
  have hM7:P4 < w7.heap.size:=M7.lt
  have hL7:w.heap.size < w7.heap.size:=L7.lt
  clear L7 M7 HKK
  go_region_held (fun w'=>w'.cell? ⟨w.heap.size,0,none⟩=some (.int .i64 r0)∧w'.cell? ⟨w.heap.size,0+1,none⟩=some (.string dd0)∧w'.cell? ⟨w.heap.size,0+2,none⟩=some (.int .i64 s0)∧w'.cell? ⟨w.heap.size,0+3,none⟩=some (.slice a xs0.length cap)∧w'.cell? ⟨P4,0,none⟩=some (.int .i64 r0)∧w'.cell? ⟨P4,0+1,none⟩=some (.string dd0)∧w'.cell? ⟨P4,0+2,none⟩=some (.int .i64 s0)∧w'.cell? ⟨P4,0+3,none⟩=some (.slice (some ⟨BX,0,none⟩) xs0.length xs0.length))
   (go_keep)
   (first | (go_at_call 8; refine (HT7.out _ hd).mono ?_; rintro e w8 ⟨q0,q1,rfl,h2,hb8,p0,p1,p2,p3,p4,p5,p6,p7⟩) | (go_at_call 11; refine (HQ7.out _ _ _ h2 hb8).mono ?_; rintro e w9 ⟨rfl,hb9,p0,p1,p2,p3,p4,p5,p6,p7⟩))
  have HA9:Hid (Below w0.heap.size w0 w9):=HA7.out.trans (hb9.mono HA7.out.size)
  have HH9:Hid (Below w5.heap.size w5 w9):=HH7.out.trans (hb9.mono HH7.out.size)
  have HE9:Hid (Below w4.heap.size w4 w9):=HE7.out.trans (hb9.mono HE7.out.size)
  have HK9:Hid (Below w6.heap.size w6 w9):=HK7.out.trans (hb9.mono HK7.out.size)
  have HC9:Hid (Below w3'.heap.size w3' w9):=HC6.out.trans (HK9.out.mono HC6.out.size)
  clear HT7 HQ7 HH7 HE7 HA7 HK7 hd hM7 hL7 hb9 c0 c1 c2' c3 e0 e1 e2 e3
  go_wp2_with fail
  have L9:=(HARG.out w9 HA9.out).2.1
  have M9:=HM5.out.1.keep HH9.out
  have c0:=L9.c0
  have e0:=M9.c0
  have c1:=L9.c1
  have e1:=M9.c1
  have c2:=L9.c2
  have e2:=M9.c2
  have c3:=L9.c3
  have e3:=M9.c3
  have c4:=L9.c4
  have e4:=M9.c4
  have c5:=L9.c5
  have e5:=M9.c5
  have HKK:Hid (∀ x,Below w9.heap.size w9 x→x.cell? ⟨w.heap.size+1,0,none⟩=some (.int .i64 x1.k)∧x.cell? ⟨w.heap.size+1,0+1,none⟩=some (.int .i64 x1.u)∧x.cell? ⟨w.heap.size+1,0+2,none⟩=some (.int .i64 x1.m)∧x.cell? ⟨w.heap.size+1,0+3,none⟩=some (.int .i64 x1.f)∧x.cell? ⟨w.heap.size+1,0+4,none⟩=some (.string x1.b)∧x.cell? ⟨w.heap.size+1,0+5,none⟩=some (.slice ia x1.ps.length ic)∧x.cell? ⟨P5,0,none⟩=some (.int .i64 x1.k)∧x.cell? ⟨P5,0+1,none⟩=some (.int .i64 x1.u)∧x.cell? ⟨P5,0+2,none⟩=some (.int .i64 x1.m)∧x.cell? ⟨P5,0+3,none⟩=some (.int .i64 x1.f)∧x.cell? ⟨P5,0+4,none⟩=some (.string x1.b)∧x.cell? ⟨P5,0+5,none⟩=some (.slice (some ⟨g5,0,none⟩) x1.ps.length x1.ps.length)):=fun x hx=>⟨(L9.keep hx).c0,(L9.keep hx).c1,(L9.keep hx).c2,(L9.keep hx).c3,(L9.keep hx).c4,(L9.keep hx).c5,(M9.keep hx).c0,(M9.keep hx).c1,(M9.keep hx).c2,(M9.keep hx).c3,(M9.keep hx).c4,(M9.keep hx).c5⟩
  have HT9:Hid (∀ x,Below w9.heap.size w9 x→Calls Tryz.prog 9 #[.agg #[.int .i64 x1.k,.int .i64 x1.u,.int .i64 x1.m,.int .i64 x1.f,.string x1.b,.slice ia x1.ps.length ic]] x fun e w'=>∃ G,e=.returned (.agg #[.int .i64 x1.k,.int .i64 x1.u,.int .i64 x1.m,.int .i64 x1.f,.string x1.b,.slice (some ⟨G,0,none⟩) x1.ps.length x1.ps.length])∧it.AttrsAt w' (.slice (some ⟨G,0,none⟩) x1.ps.length x1.ps.length) x1.ps∧Below w9.heap.size w9 w'∧w'.cell? ⟨w.heap.size+1,0,none⟩=some (.int .i64 x1.k)∧w'.cell? ⟨w.heap.size+1,0+1,none⟩=some (.int .i64 x1.u)∧w'.cell? ⟨w.heap.size+1,0+2,none⟩=some (.int .i64 x1.m)∧w'.cell? ⟨w.heap.size+1,0+3,none⟩=some (.int .i64 x1.f)∧w'.cell? ⟨w.heap.size+1,0+4,none⟩=some (.string x1.b)∧w'.cell? ⟨w.heap.size+1,0+5,none⟩=some (.slice ia x1.ps.length ic)∧w'.cell? ⟨P5,0,none⟩=some (.int .i64 x1.k)∧w'.cell? ⟨P5,0+1,none⟩=some (.int .i64 x1.u)∧w'.cell? ⟨P5,0+2,none⟩=some (.int .i64 x1.m)∧w'.cell? ⟨P5,0+3,none⟩=some (.int .i64 x1.f)∧w'.cell? ⟨P5,0+4,none⟩=some (.string x1.b)∧w'.cell? ⟨P5,0+5,none⟩=some (.slice (some ⟨g5,0,none⟩) x1.ps.length x1.ps.length)):=fun x hx =>
   (mu.toMut_any x1 _ x (HARG.out x (HA9.out.trans (hx.mono HA9.out.size))).2.2.2 hpl).mono fun e w' ⟨G,he,hC,hb⟩=>⟨G,he,hC,hx.trans (hb.mono hx.size),HKK.out _ (hx.trans (hb.mono hx.size))⟩
  have HQ9:Hid (∀ x G,it.AttrsAt x (.slice (some ⟨G,0,none⟩) x1.ps.length x1.ps.length) x1.ps→Below w9.heap.size w9 x→Calls Tryz.prog 12 #[.agg #[.int .i64 x1.k,.int .i64 x1.u,.int .i64 x1.m,.int .i64 x1.f,.string x1.b,.slice (some ⟨g5,0,none⟩) x1.ps.length x1.ps.length],.agg #[.int .i64 x1.k,.int .i64 x1.u,.int .i64 x1.m,.int .i64 x1.f,.string x1.b,.slice (some ⟨G,0,none⟩) x1.ps.length x1.ps.length]] x fun e w'=>e=.returned (.bool true)∧Below w9.heap.size w9 w'∧w'.cell? ⟨w.heap.size+1,0,none⟩=some (.int .i64 x1.k)∧w'.cell? ⟨w.heap.size+1,0+1,none⟩=some (.int .i64 x1.u)∧w'.cell? ⟨w.heap.size+1,0+2,none⟩=some (.int .i64 x1.m)∧w'.cell? ⟨w.heap.size+1,0+3,none⟩=some (.int .i64 x1.f)∧w'.cell? ⟨w.heap.size+1,0+4,none⟩=some (.string x1.b)∧w'.cell? ⟨w.heap.size+1,0+5,none⟩=some (.slice ia x1.ps.length ic)∧w'.cell? ⟨P5,0,none⟩=some (.int .i64 x1.k)∧w'.cell? ⟨P5,0+1,none⟩=some (.int .i64 x1.u)∧w'.cell? ⟨P5,0+2,none⟩=some (.int .i64 x1.m)∧w'.cell? ⟨P5,0+3,none⟩=some (.int .i64 x1.f)∧w'.cell? ⟨P5,0+4,none⟩=some (.string x1.b)∧w'.cell? ⟨P5,0+5,none⟩=some (.slice (some ⟨g5,0,none⟩) x1.ps.length x1.ps.length)):=fun x G h2 hx =>
   (mu.eqMut_any x1 _ _ x (it.at_below HM5.out.2.1 (HH9.out.trans (hx.mono HH9.out.size))) h2 hpl).mono fun e w' ⟨he,hb'⟩=>⟨he,hx.trans (hb'.mono hx.size),HKK.out _ (hx.trans (hb'.mono hx.size))⟩
  have hd:Below w9.heap.size w9 w9.drew:=(Below.refl _ _).drew
  have hM9:P5 < w9.heap.size:=M9.lt
  have hL9:w.heap.size+1 < w9.heap.size:=L9.lt
  clear L9 M9 HKK
  go_region_held (fun w'=>w'.cell? ⟨w.heap.size+1,0,none⟩=some (.int .i64 x1.k)∧w'.cell? ⟨w.heap.size+1,0+1,none⟩=some (.int .i64 x1.u)∧w'.cell? ⟨w.heap.size+1,0+2,none⟩=some (.int .i64 x1.m)∧w'.cell? ⟨w.heap.size+1,0+3,none⟩=some (.int .i64 x1.f)∧w'.cell? ⟨w.heap.size+1,0+4,none⟩=some (.string x1.b)∧w'.cell? ⟨w.heap.size+1,0+5,none⟩=some (.slice ia x1.ps.length ic)∧w'.cell? ⟨P5,0,none⟩=some (.int .i64 x1.k)∧w'.cell? ⟨P5,0+1,none⟩=some (.int .i64 x1.u)∧w'.cell? ⟨P5,0+2,none⟩=some (.int .i64 x1.m)∧w'.cell? ⟨P5,0+3,none⟩=some (.int .i64 x1.f)∧w'.cell? ⟨P5,0+4,none⟩=some (.string x1.b)∧w'.cell? ⟨P5,0+5,none⟩=some (.slice (some ⟨g5,0,none⟩) x1.ps.length x1.ps.length))
   (go_keep)
   (first | (go_at_call 9; refine (HT9.out _ hd).mono ?_; rintro e w10 ⟨G,rfl,h2,hb8,p0,p1,p2,p3,p4,p5,p6,p7,p8,p9,p10,p11⟩) | (go_at_call 12; refine (HQ9.out _ _ h2 hb8).mono ?_; rintro e w11 ⟨rfl,hb9,p0,p1,p2,p3,p4,p5,p6,p7,p8,p9,p10,p11⟩))
  have HAB:Hid (Below w0.heap.size w0 w11):=HA9.out.trans (hb9.mono HA9.out.size)
  have HHB:Hid (Below w5.heap.size w5 w11):=HH9.out.trans (hb9.mono HH9.out.size)
  have HEB:Hid (Below w4.heap.size w4 w11):=HE9.out.trans (hb9.mono HE9.out.size)
  have HKB:Hid (Below w6.heap.size w6 w11):=HK9.out.trans (hb9.mono HK9.out.size)
  have HCB:Hid (Below w3'.heap.size w3' w11):=HC9.out.trans (hb9.mono HC9.out.size)
  clear HT9 HQ9 HA9 HH9 HE9 HK9 HC9 hd hM9 hL9 hb9 hb8 h2 c0 c1 c2 c3 c4 c5 e0 e1 e2 e3 e4 e5 p0 p1 p2 p3 p4 p5 p6 p7 p8 p9 p10 p11
  have m0:=(HM4.out.keep HEB.out).c0
  have m1:=(HM4.out.keep HEB.out).c1
  have m2:=(HM4.out.keep HEB.out).c2
  have m3:=(HM4.out.keep HEB.out).c3
  go_wp2_with fail
  clear m0 m1 m2 m3
  refine (eg.markE_any r0 dd0 s0 BX P4 xs0 gx w11 (mx.mine_below HX4.out.2.1 HEB.out) HX4.out.2.2 HSM.out).mono ?_
  rintro e w12 ⟨⟨z9,⟨hz9,hz9'⟩,rfl⟩,hmk⟩
  have HOR:Hid (P4 < w4.heap.size∧BX < P4∧w3'.heap.size≤BX∧w4.heap.size≤P5∧P5 < w5.heap.size∧w4.heap.size≤g5∧g5 < w5.heap.size∧w5.heap.size≤P6∧w4.heap.size≤w11.heap.size∧w5.heap.size≤w11.heap.size):=⟨HB4.out.2.2.2,HX4.out.2.2.1,HB4.out.2.1,HP5.out.1,HP5.out.2.1,HP5.out.2.2.1,HP5.out.2.2.2,HG6.out.2.2,HEB.out.size,HHB.out.size⟩
  have HG12:Hid (bl.OwnL w12 w5.heap.size (.slice Ga Gn Gc) ys2 ug):=sa.ownL_mk (bl.ownL_below HG6.out.1 HKB.out) hmk (by have:=HOR.out; omega)
  have HV12:Hid (eg.LiesE w12 P6 35 rg eg' sg (.slice Ga Gn Gc)):=(hmk.block P6 (HG6.out.2.1.keep HKB.out).lt (.inr (by have:=HOR.out; omega))).trans (HG6.out.2.1.keep HKB.out)
  have HM12:Hid (mu.Lies w12 P5 41 x1 (.slice (some ⟨g5,0,none⟩) x1.ps.length x1.ps.length)∧w12.ownsRow w4.heap.size 87 2 (.slice (some ⟨g5,0,none⟩) x1.ps.length x1.ps.length) x1.ps.length xs5):=⟨(hmk.block P5 (HM5.out.1.keep HHB.out).lt (.inr (by have:=HOR.out; omega))).trans (HM5.out.1.keep HHB.out),sa.own_mk (ow.own_below HM5.out.2.2 HHB.out) hmk (by have:=HOR.out; omega)⟩
  have HC12:Hid (Below w3'.heap.size w3' w12):=HCB.out.trans ((hmk.bel (by have:=HOR.out; omega)).mono HB4.out.2.1)
  have HS12:Hid (w5.heap.size≤w12.heap.size):=Nat.le_trans HHB.out.size hmk.size
  clear hmk HAB HHB HEB HKB HCB HX4 HM4 HG6 HM5 HH6 HC6 HE6
  have c0:=HM12.out.1.c0
  have c1:=HM12.out.1.c1
  have c2:=HM12.out.1.c2
  have c3:=HM12.out.1.c3
  have c4:=HM12.out.1.c4
  have c5:=HM12.out.1.c5
  go_wp2_with fail
  clear c0 c1 c2 c3 c4 c5
  refine (sa.markMut_some w4.heap.size x1.ps.length g5 x1.ps.length xs5 z9 w12 _ _ _ _ _ HM12.out.2 hpl (by omega) (by omega)).mono ?_
  rintro e w13 ⟨rfl,hg13⟩
  have HG13:Hid (bl.OwnL w13 w5.heap.size (.slice Ga Gn Gc) ys2 ug):=sa.ownL_one HG12.out hg13 HP5.out.2.2.2
  have HV13:Hid (eg.LiesE w13 P6 35 rg eg' sg (.slice Ga Gn Gc)):=(hg13.block P6 HV12.out.lt (fun e=>by cases e; have:=HOR.out; omega)).trans HV12.out
  have HC13:Hid (Below w3'.heap.size w3' w13):=HC12.out.grown hg13 HC12.out.size (fun k hk=>by cases hk; have:=HOR.out; omega)
  have HS13:Hid (w5.heap.size≤w13.heap.size):=Nat.le_trans HS12.out hg13.size
  clear hg13 HG12 HV12 HC12 HM12 HS12
  have hk0:¬ z9+2 * (x1.ps.length:Int) < 0:=by omega
  have hk1:decide (z9+2 * (x1.ps.length:Int) < 0)=false:=decide_eq_false hk0
  clear hk0
  generalize z9+2 * (x1.ps.length:Int)=kk at hk1 ⊢
  have j0:=HV13.out.c0
  have j1:=HV13.out.c1
  have j2:=HV13.out.c2
  have j3:=HV13.out.c3
  have o0:=(HSP.out.2.2.keep HC13.out).c0
  have o1:=(HSP.out.2.2.keep HC13.out).c1
  have o2:=(HSP.out.2.2.keep HC13.out).c2
  have o3:=(HSP.out.2.2.keep HC13.out).c3
  go_wp2_with fail
  refine (eg.eqEngine_any rg eg' sg _ _ ys2 ug ub w13 (bl.ownL_boxes HG13.out) (bl.ownL_boxes (bl.ownL_below HSP.out.2.1 HC13.out)) HFY.out.2).mono ?_
  rintro e w14 ⟨rfl,hb14⟩
  have HG14:Hid (bl.OwnL w14 w5.heap.size (.slice Ga Gn Gc) ys2 ug):=bl.ownL_below HG13.out hb14
  have HV14:Hid (eg.LiesE w14 P6 35 rg eg' sg (.slice Ga Gn Gc)):=HV13.out.keep hb14
  have HC14:Hid (Below w3'.heap.size w3' w14):=HC13.out.trans (hb14.mono HC13.out.size)
  have HS14:Hid (w5.heap.size≤w14.heap.size):=Nat.le_trans HS13.out hb14.size
  clear hb14 HG13 HV13 HC13 HS13 j0 j1 j2 j3 o0 o1 o2 o3
  have j0:=HV14.out.c0
  have j1:=HV14.out.c1
  have j2:=HV14.out.c2
  have j3:=HV14.out.c3
  go_wp2_with fail
  refine (eg.markE_ownK rg eg' sg _ w5.heap.size ys2 ug w14 HG14.out HFY.out.1 HS14.out).mono ?_
  rintro e w15 ⟨rfl,⟨cs15,hMB⟩,hb15,hkp⟩
  have HMB:Hid (ml.MB w15 w5.heap.size (.slice Ga Gn Gc) ys2 ug ys2.length cs15):=hMB
  have HV15:Hid (eg.LiesE w15 P6 35 rg eg' sg (.slice Ga Gn Gc)):=HV14.out.kp hkp
  have HC15:Hid (Below w3'.heap.size w3' w15):=HC14.out.trans (hb15.mono (by have:=HOR.out; omega))
  clear hb15 hkp hMB HG14 HV14 HC14 HS14 j0 j1 j2 j3
  have hQ0:=(ml.kAt_in HFY.out.1 (Nat.le_refl ys2.length)).1
  have HHD:Hid (∀ W,Below w15.heap.size w15 W→Calls Tryz.prog 15 #[.agg #[.int .i64 rg,.string eg',.int .i64 sg,.slice Ga Gn Gc],.int .i64 1] W fun e w'=>e=.returned (.int .i64 (ml.kAt ys2 ys2.length))∧Below W.heap.size W w'):=fun W hW=>eg.heldE_any rg eg' sg _ w5.heap.size ys2 ug cs15 W (ml.mb_below HMB.out hW) HFY.out.1 ⟨_,_,_,rfl⟩
  generalize ml.kAt ys2 ys2.length=Q at hQ0 HHD ⊢
  have qq:((Q:Int) != Q)=false:=by simp
  have hQn:decide (Q < 0)=false:=decide_eq_false (by omega)
  clear hQ0 HMB
  have j0:=HV15.out.c0
  have j1:=HV15.out.c1
  have j2:=HV15.out.c2
  have j3:=HV15.out.c3
  go_wp2_with fail
  refine (HHD.out w15 (Below.refl _ _)).mono ?_
  rintro e w16 ⟨rfl,hb16⟩
  have HD16:Hid (Below w15.heap.size w15 w16):=hb16
  have HC16:Hid (Below w3'.heap.size w3' w16):=HC15.out.trans (hb16.mono HC15.out.size)
  have b16:=b3.trans (HC16.out.mono b3.size)
  clear hb16 HC15 j0 j1 j2 j3
  go_wp2_with fail
  refine rs.region_st (by kernel_rfl) (fun f=>{ tmps:=List.toArray ((.agg #[.int .i64 r0,.string dd0,.int .i64 s0,.slice a xs0.length cap]:Value) :: .agg #[.int .i64 x1.k,.int .i64 x1.u,.int .i64 x1.m,.int .i64 x1.f,.string x1.b,.slice ia x1.ps.length ic] :: .pointer (some ⟨w.heap.size,0,none⟩) :: .pointer (some ⟨w.heap.size+1,0,none⟩) :: .bool false :: .int .i64 z2 :: .pointer (some ⟨g6',0,none⟩) :: .int .i64 cg :: .pointer (some ⟨P4,0,none⟩) :: .pointer (some ⟨P5,0,none⟩) :: .pointer (some ⟨P6,0,none⟩) :: .int .i64 cg :: .int .i64 kk :: .int .i64 Q :: .int .i64 Q :: f 8 :: f 10 :: .agg #[.int .i64 r0,.string dd0,.int .i64 s0,.slice a xs0.length cap] :: .int .i64 1048576 :: .int .i64 z :: .int .i64 z :: .bool (decide (z < 0)) :: .agg #[.int .i64 x1.k,.int .i64 x1.u,.int .i64 x1.m,.int .i64 x1.f,.string x1.b,.slice ia x1.ps.length ic] :: .int .i64 z :: .int .i64 z2 :: .int .i64 z2 :: .bool (decide (z2 < 0)) :: f_5 :: f_0 :: f_1 :: f_2 :: f_3 :: f_4 :: f_6 :: f_7 :: .agg #[.int .i64 r0,.string dd0,.int .i64 s0,.slice a xs0.length cap] :: .agg #[.int .i64 r0,.string dd0,.int .i64 s0,.slice (some ⟨BX,0,none⟩) xs0.length xs0.length] :: .agg #[.int .i64 x1.k,.int .i64 x1.u,.int .i64 x1.m,.int .i64 x1.f,.string x1.b,.slice ia x1.ps.length ic] :: .agg #[.int .i64 x1.k,.int .i64 x1.u,.int .i64 x1.m,.int .i64 x1.f,.string x1.b,.slice (some ⟨g5,0,none⟩) x1.ps.length x1.ps.length] :: .tuple #[.agg #[.int .i64 rg,.string eg',.int .i64 sg,.slice Ga Gn Gc],.int .i64 cg] :: .agg #[.int .i64 r0,.string dd0,.int .i64 s0,.slice (some ⟨BX,0,none⟩) xs0.length xs0.length] :: .agg #[.int .i64 x1.k,.int .i64 x1.u,.int .i64 x1.m,.int .i64 x1.f,.string x1.b,.slice (some ⟨g5,0,none⟩) x1.ps.length x1.ps.length] :: .tuple #[.agg #[.int .i64 rg,.string eg',.int .i64 sg,.slice Ga Gn Gc],.int .i64 cg] :: .agg #[.int .i64 rg,.string eg',.int .i64 sg,.slice Ga Gn Gc] :: .int .i64 cg :: .agg #[.int .i64 rg,.string eg',.int .i64 sg,.slice Ga Gn Gc] :: .agg #[.int .i64 rg,.string eg',.int .i64 sg,.slice Sa Sn Sc] :: .bool true :: .bool false :: .bool false :: .int .i64 cg :: .int .i64 cg :: .bool false :: .bool false :: .agg #[.int .i64 r0,.string dd0,.int .i64 s0,.slice (some ⟨BX,0,none⟩) xs0.length xs0.length] :: .agg #[.int .i64 r0,.string dd0,.int .i64 s0,.slice a xs0.length cap] :: .agg #[.int .i64 r0,.string dd0,.int .i64 s0,.slice (some ⟨q0,0,none⟩) xs0.length xs0.length] :: .bool true :: .bool false :: .agg #[.int .i64 x1.k,.int .i64 x1.u,.int .i64 x1.m,.int .i64 x1.f,.string x1.b,.slice (some ⟨g5,0,none⟩) x1.ps.length x1.ps.length] :: .agg #[.int .i64 x1.k,.int .i64 x1.u,.int .i64 x1.m,.int .i64 x1.f,.string x1.b,.slice ia x1.ps.length ic] :: .agg #[.int .i64 x1.k,.int .i64 x1.u,.int .i64 x1.m,.int .i64 x1.f,.string x1.b,.slice (some ⟨G,0,none⟩) x1.ps.length x1.ps.length] :: .bool true :: .bool false :: .agg #[.int .i64 r0,.string dd0,.int .i64 s0,.slice (some ⟨BX,0,none⟩) xs0.length xs0.length] :: .int .i64 1 :: .int .i64 z9 :: .agg #[.int .i64 x1.k,.int .i64 x1.u,.int .i64 x1.m,.int .i64 x1.f,.string x1.b,.slice (some ⟨g5,0,none⟩) x1.ps.length x1.ps.length] :: .int .i64 z9 :: .int .i64 kk :: .int .i64 kk :: .bool false :: .bool false :: .agg #[.int .i64 rg,.string eg',.int .i64 sg,.slice Ga Gn Gc] :: .agg #[.int .i64 rg,.string eg',.int .i64 sg,.slice Sa Sn Sc] :: .bool true :: .bool false :: .bool false :: .bool false :: .int .i64 cg :: .int .i64 cg :: .bool false :: .bool false :: .agg #[.int .i64 rg,.string eg',.int .i64 sg,.slice Ga Gn Gc] :: .int .i64 1 :: .int .i64 Q :: .agg #[.int .i64 rg,.string eg',.int .i64 sg,.slice Ga Gn Gc] :: .int .i64 1 :: .int .i64 Q :: .int .i64 Q :: .bool false :: .int .i64 Q :: .int .i64 Q :: .bool false :: f 5 :: f 0 :: f 1 :: f 2 :: f 3 :: f 4 :: f 6 :: f 7 :: undef :: undef :: undef :: undef :: undef :: undef :: undef :: undef :: undef :: undef :: undef :: undef :: undef :: undef :: undef :: undef :: undef :: []),defers:=[] }) (eg.JC w16 (.agg #[.int .i64 r0,.string dd0,.int .i64 s0,.slice a xs0.length cap]) (.agg #[.int .i64 x1.k,.int .i64 x1.u,.int .i64 x1.m,.int .i64 x1.f,.string x1.b,.slice ia x1.ps.length ic]) r0 dd0 s0 xs0 x1) (fun j=>undef) rfl (eg.JC.start _ (Below.refl _ _).drew _) (rs.deps_of (by kernel_rfl)) ?_ ?_
  ·intro i o ho D f X hJ hall hni hcl
   match i,ho with
   | 0,ho =>
    cases ho
    have hbx:=b16.trans (hJ.bel.mono b16.size)
    have hLX:=(HARG.out X hbx).1
    have q0:=hLX.c0
    have q1:=hLX.c1
    have q2:=hLX.c2
    have q3:=hLX.c3
    have HJ:Hid (eg.JC w16 (.agg #[.int .i64 r0,.string dd0,.int .i64 s0,.slice a xs0.length cap]) (.agg #[.int .i64 x1.k,.int .i64 x1.u,.int .i64 x1.m,.int .i64 x1.f,.string x1.b,.slice ia x1.ps.length ic]) r0 dd0 s0 xs0 x1 D f X):=hJ
    clear hLX hbx
    clear hJ hall hcl
    refine wpOp_step rfl (fun K' hK=>?_)
    go_wp2_with fail
    exact ⟨.agg #[.int .i64 r0,.string dd0,.int .i64 s0,.slice a xs0.length cap],by simp [rs.upd],HJ.out.op0⟩
   | 1,ho =>
    cases ho
    have d0:D 0:=hall { on:=0,ground:=Ground.data } (by simp) rfl
    have h0:f 0=.agg #[.int .i64 r0,.string dd0,.int .i64 s0,.slice a xs0.length cap]:=hJ.p0 d0
    have hbx:=b16.trans (hJ.bel.mono b16.size)
    have hBX:=(HARG.out X hbx).2.2.1
    have HJ:Hid (eg.JC w16 (.agg #[.int .i64 r0,.string dd0,.int .i64 s0,.slice a xs0.length cap]) (.agg #[.int .i64 x1.k,.int .i64 x1.u,.int .i64 x1.m,.int .i64 x1.f,.string x1.b,.slice ia x1.ps.length ic]) r0 dd0 s0 xs0 x1 D f X):=hJ
    clear hbx
    clear hJ hall hcl
    refine wpOp_step rfl (fun K' hK=>?_)
    simp only [h0]
    go_wp2_with (go_at_call 8; refine (eg.toEngine_any r0 dd0 s0 _ xs0 us0 X hBX HSM.out).mono ?_; rintro e X' ⟨B,u,us,rfl,⟨rfl,hC1,hC2,hC3⟩,_,hb⟩)
    exact ⟨.agg #[.int .i64 r0,.string dd0,.int .i64 s0,.slice (some ⟨B,0,none⟩) xs0.length xs0.length],by simp [rs.upd,h0,eg.EV],(HJ.out.below hb).op1 hC1 (eg.fines_mine hC2) hC3⟩
   | 2,ho =>
    cases ho
    have hbx:=b16.trans (hJ.bel.mono b16.size)
    have hLX:=(HARG.out X hbx).2.1
    have q0:=mu.Lies.c0 hLX
    have q1:=mu.Lies.c1 hLX
    have q2:=mu.Lies.c2 hLX
    have q3:=mu.Lies.c3 hLX
    have q4:=mu.Lies.c4 hLX
    have q5:=mu.Lies.c5 hLX
    have HJ:Hid (eg.JC w16 (.agg #[.int .i64 r0,.string dd0,.int .i64 s0,.slice a xs0.length cap]) (.agg #[.int .i64 x1.k,.int .i64 x1.u,.int .i64 x1.m,.int .i64 x1.f,.string x1.b,.slice ia x1.ps.length ic]) r0 dd0 s0 xs0 x1 D f X):=hJ
    clear hLX hbx
    clear hJ hall hcl
    refine wpOp_step rfl (fun K' hK=>?_)
    go_wp2_with fail
    exact ⟨.agg #[.int .i64 x1.k,.int .i64 x1.u,.int .i64 x1.m,.int .i64 x1.f,.string x1.b,.slice ia x1.ps.length ic],by simp [rs.upd],HJ.out.op2⟩
   | 3,ho =>
    cases ho
    have d2:D 2:=hall { on:=2,ground:=Ground.data } (by simp) rfl
    have h2:f 2=.agg #[.int .i64 x1.k,.int .i64 x1.u,.int .i64 x1.m,.int .i64 x1.f,.string x1.b,.slice ia x1.ps.length ic]:=hJ.p2 d2
    have hbx:=b16.trans (hJ.bel.mono b16.size)
    have hAX:=(HARG.out X hbx).2.2.2
    have HJ:Hid (eg.JC w16 (.agg #[.int .i64 r0,.string dd0,.int .i64 s0,.slice a xs0.length cap]) (.agg #[.int .i64 x1.k,.int .i64 x1.u,.int .i64 x1.m,.int .i64 x1.f,.string x1.b,.slice ia x1.ps.length ic]) r0 dd0 s0 xs0 x1 D f X):=hJ
    clear hbx
    clear hJ hall hcl
    refine wpOp_step rfl (fun K' hK=>?_)
    simp only [h2]
    go_wp2_with (go_at_call 9; refine (mu.toMut_any x1 _ X hAX hpl).mono ?_; rintro e X' ⟨g,rfl,hv,hb⟩)
    exact ⟨mu.MV x1 (.slice (some ⟨g,0,none⟩) x1.ps.length x1.ps.length),by simp [rs.upd,h2],(HJ.out.below hb).op3 hv⟩
   | 4,ho =>
    cases ho
    have d1:D 1:=hall { on:=1,ground:=Ground.data } (by simp) rfl
    have d3:D 3:=hall { on:=3,ground:=Ground.data } (by simp) rfl
    obtain ⟨B1,gp,h1,hB1,hF1,hC1⟩:=hJ.p1 d1 hni
    obtain ⟨g3,h3,hA3⟩:=hJ.p3 d3 hni
    have hbx:=b16.trans (hJ.bel.mono b16.size)
    have n5:¬ D 5:=fun h=>hni (hcl 5 _ (h) rfl { on:=4,ground:=Ground.data } (by simp) rfl)
    have n6:¬ D 6:=fun h=>hni (hcl 5 _ (hcl 6 _ (h) rfl { on:=5,ground:=Ground.data } (by simp) rfl) rfl { on:=4,ground:=Ground.data } (by simp) rfl)
    have n7:¬ D 7:=fun h=>hni (hcl 5 _ (hcl 7 _ (h) rfl { on:=5,ground:=Ground.data } (by simp) rfl) rfl { on:=4,ground:=Ground.data } (by simp) rfl)
    have n9:¬ D 9:=fun h=>hni (hcl 5 _ (hcl 6 _ (hcl 9 _ (h) rfl { on:=6,ground:=Ground.data } (by simp) rfl) rfl { on:=5,ground:=Ground.data } (by simp) rfl) rfl { on:=4,ground:=Ground.data } (by simp) rfl)
    have n10:¬ D 10:=fun h=>hni (hcl 5 _ (hcl 7 _ (hcl 10 _ (h) rfl { on:=7,ground:=Ground.data } (by simp) rfl) rfl { on:=5,ground:=Ground.data } (by simp) rfl) rfl { on:=4,ground:=Ground.data } (by simp) rfl)
    have HJ:Hid (eg.JC w16 (.agg #[.int .i64 r0,.string dd0,.int .i64 s0,.slice a xs0.length cap]) (.agg #[.int .i64 x1.k,.int .i64 x1.u,.int .i64 x1.m,.int .i64 x1.f,.string x1.b,.slice ia x1.ps.length ic]) r0 dd0 s0 xs0 x1 D f X):=hJ
    have hbs:=hJ.bel.size
    clear hJ hall hcl
    refine wpOp_step rfl (fun K' hK=>?_)
    unfold mu.MV at h3
    simp only [h1,h3]
    go_wp2_with (go_at_call 10; refine (eg.implCm_any r0 dd0 s0 _ xs0 gp x1 _ X ec eb eca ecb eta etb hr0 hd2 hs0 (HS0.out.keep (HB0.out.trans (hbx.mono HB0.out.size))) hB1 (.inr ⟨_,_,_,rfl⟩) hF1 HSM.out hA3 HMM.out).mono ?_; rintro e X' ⟨⟨r',d',s',L,ys,us,c,rfl,hCm,hO⟩,hb⟩; obtain ⟨La,Ln,Lc,rfl⟩:=bl.slice_fine (bx.own_fine hO.1))
    exact ⟨.tuple #[.agg #[.int .i64 r',.string d',.int .i64 s',.slice La Ln Lc],.int .i64 c],by simp [rs.upd,h1,h3],(HJ.out.below hb).op4 n5 n6 n7 n9 n10 hCm (sa.ownL_le hO hbs)⟩
   | 5,ho =>
    cases ho
    have d4:D 4:=hall { on:=4,ground:=Ground.data } (by simp) rfl
    obtain ⟨r',d',s',La,Ln,Lc,ys,us,c,h4,_,_,k5,k6,k7,_,_⟩:=hJ.p4 d4
    have HJ:Hid (eg.JC w16 (.agg #[.int .i64 r0,.string dd0,.int .i64 s0,.slice a xs0.length cap]) (.agg #[.int .i64 x1.k,.int .i64 x1.u,.int .i64 x1.m,.int .i64 x1.f,.string x1.b,.slice ia x1.ps.length ic]) r0 dd0 s0 xs0 x1 D f X):=hJ
    clear hJ hall hcl
    refine wpOp_step rfl (fun K' hK=>?_)
    simp only [h4]
    go_simp
    exact hK _ _ ⟨f 4,by simp [rs.upd,h4],HJ.out.op5 d4⟩
   | 6,ho =>
    cases ho
    have d5:D 5:=hall { on:=5,ground:=Ground.data } (by simp) rfl
    have d4:D 4:=hcl 5 _ d5 rfl { on:=4,ground:=Ground.data } (by simp) rfl
    obtain ⟨r',d',s',La,Ln,Lc,ys,us,c,h4,_,_,k5,k6,k7,_,_⟩:=hJ.p4 d4
    have h5:=k5 d5
    have HJ:Hid (eg.JC w16 (.agg #[.int .i64 r0,.string dd0,.int .i64 s0,.slice a xs0.length cap]) (.agg #[.int .i64 x1.k,.int .i64 x1.u,.int .i64 x1.m,.int .i64 x1.f,.string x1.b,.slice ia x1.ps.length ic]) r0 dd0 s0 xs0 x1 D f X):=hJ
    clear hJ hall hcl
    refine wpOp_step rfl (fun K' hK=>?_)
    simp only [h5]
    go_simp
    exact hK _ _ ⟨.agg #[.int .i64 r',.string d',.int .i64 s',.slice La Ln Lc],by simp [rs.upd,h5,h4],HJ.out.op6 d4 d5 h5⟩
   | 7,ho =>
    cases ho
    have d5:D 5:=hall { on:=5,ground:=Ground.data } (by simp) rfl
    have d4:D 4:=hcl 5 _ d5 rfl { on:=4,ground:=Ground.data } (by simp) rfl
    obtain ⟨r',d',s',La,Ln,Lc,ys,us,c,h4,_,_,k5,k6,k7,_,_⟩:=hJ.p4 d4
    have h5:=k5 d5
    have HJ:Hid (eg.JC w16 (.agg #[.int .i64 r0,.string dd0,.int .i64 s0,.slice a xs0.length cap]) (.agg #[.int .i64 x1.k,.int .i64 x1.u,.int .i64 x1.m,.int .i64 x1.f,.string x1.b,.slice ia x1.ps.length ic]) r0 dd0 s0 xs0 x1 D f X):=hJ
    clear hJ hall hcl
    refine wpOp_step rfl (fun K' hK=>?_)
    simp only [h5]
    go_simp
    exact hK _ _ ⟨.int .i64 c,by simp [rs.upd,h5,h4],HJ.out.op7 d4 d5 h5⟩
   | 8,ho =>
    cases ho
    have n9:¬ D 9:=fun h=>hni (hcl 9 _ (h) rfl { on:=8,ground:=Ground.data } (by simp) rfl)
    have nb:=eg.new_below X 35 #[.int .i64 0,.string ⟨#[]⟩,.int .i64 0,.slice none 0 0]
    have nl:=eg.liesE_new X 35 0 ⟨#[]⟩ 0 (.slice none 0 0)
    have hbs:=hJ.bel.size
    have HJ:Hid (eg.JC w16 (.agg #[.int .i64 r0,.string dd0,.int .i64 s0,.slice a xs0.length cap]) (.agg #[.int .i64 x1.k,.int .i64 x1.u,.int .i64 x1.m,.int .i64 x1.f,.string x1.b,.slice ia x1.ps.length ic]) r0 dd0 s0 xs0 x1 D f X):=hJ
    clear hJ hall hcl
    refine wpOp_step rfl (fun K' hK=>?_)
    go_wp2_with fail
    exact ⟨.pointer (some ⟨X.heap.size,0,none⟩),by simp [rs.upd],(HJ.out.below nb).op8 n9 hbs nl⟩
   | 9,ho =>
    cases ho
    have d8:D 8:=hall { on:=8,ground:=Ground.data } (by simp) rfl
    have d6:D 6:=hall { on:=6,ground:=Ground.data } (by simp) rfl
    have d5:D 5:=hcl 6 _ d6 rfl { on:=5,ground:=Ground.data } (by simp) rfl
    have d4:D 4:=hcl 5 _ d5 rfl { on:=4,ground:=Ground.data } (by simp) rfl
    obtain ⟨r',d',s',La,Ln,Lc,ys,us,c,h4,_,_,k5,k6,k7,_,_⟩:=hJ.p4 d4
    have h6:=k6 d6
    obtain ⟨g,h8,hg,hz⟩:=hJ.p8 d8
    have hl:=hz hni
    have q0:=hl.c0
    have q1:=hl.c1
    have q2:=hl.c2
    have q3:=hl.c3
    have t0:=hl.f 0
    have t1:=hl.f 1
    have t2:=hl.f 2
    have t3:=hl.f 3
    have HJ:Hid (eg.JC w16 (.agg #[.int .i64 r0,.string dd0,.int .i64 s0,.slice a xs0.length cap]) (.agg #[.int .i64 x1.k,.int .i64 x1.u,.int .i64 x1.m,.int .i64 x1.f,.string x1.b,.slice ia x1.ps.length ic]) r0 dd0 s0 xs0 x1 D f X):=hJ
    clear hl hz
    clear hJ hall hcl
    refine wpOp_step rfl (fun K' hK=>?_)
    simp only [h8,h6]
    go_wp2_with fail
    exact ⟨undef,by simp [rs.upd,h8,h6,h4],HJ.out.op9 d4 d6 hni d8 h8 h6⟩
   | 10,ho =>
    cases ho
    have d7:D 7:=hall { on:=7,ground:=Ground.data } (by simp) rfl
    have d5:D 5:=hcl 7 _ d7 rfl { on:=5,ground:=Ground.data } (by simp) rfl
    have d4:D 4:=hcl 5 _ d5 rfl { on:=4,ground:=Ground.data } (by simp) rfl
    obtain ⟨r',d',s',La,Ln,Lc,ys,us,c,h4,_,_,k5,k6,k7,_,_⟩:=hJ.p4 d4
    have h7:=k7 d7
    have HJ:Hid (eg.JC w16 (.agg #[.int .i64 r0,.string dd0,.int .i64 s0,.slice a xs0.length cap]) (.agg #[.int .i64 x1.k,.int .i64 x1.u,.int .i64 x1.m,.int .i64 x1.f,.string x1.b,.slice ia x1.ps.length ic]) r0 dd0 s0 xs0 x1 D f X):=hJ
    clear hJ hall hcl
    refine wpOp_step rfl (fun K' hK=>?_)
    simp only [h7]
    go_simp
    exact hK _ _ ⟨f 7,by simp [rs.upd,h7,h4],HJ.out.op10 d4 d7⟩
   | k+11,ho=>simp at ho
  ·intro D f w17 hD hJ
   obtain ⟨g7,h8,hg7,hq0⟩:=hJ.p8 (hD 8 (by decide))
   obtain ⟨r3,e3,s3,Ta,Tn,Tc,ys3,ut,c3,hq1,hCm,hO,hq2,hq3,hq4,h10,h9⟩:=hJ.p4 (hD 4 (by decide))
   obtain ⟨g7',h8',hL7⟩:=h9 (hD 9 (by decide))
   obtain rfl:g7'=g7:=by have:=h8'.symm.trans h8; injection this with this; injection this with this; injection this
   replace h10:=h10 (hD 10 (by decide))
   have HD17:Hid (Below w15.heap.size w15 w17):=HD16.out.trans (hJ.bel.mono HD16.out.size)
   have HC17:Hid (Below w3'.heap.size w3' w17):=HC16.out.trans (hJ.bel.mono HC16.out.size)
   obtain ⟨rfl,rfl,rfl,rfl,rfl⟩:=eg.cm_one hCm HSP.out.1
   have HT17:Hid (bl.OwnL w17 w16.heap.size (.slice Ta Tn Tc) ys3 ut∧eg.LiesE w17 g7' 35 r3 e3 s3 (.slice Ta Tn Tc)):=⟨hO,hL7⟩
   rw [h8,h10]
   clear hJ hD hCm hO hL7 h8 h8' h9 h10 hg7 hq0 hq1 hq2 hq3 hq4 HD16 HC16 b16
   generalize f 0=g_0
   generalize f 1=g_1
   generalize f 2=g_2
   generalize f 3=g_3
   generalize f 4=g_4
   generalize f 5=g_5
   generalize f 6=g_6
   generalize f 7=g_7
   clear f D
   have j0:=HT17.out.2.c0
   have j1:=HT17.out.2.c1
   have j2:=HT17.out.2.c2
   have j3:=HT17.out.2.c3
   have o0:=(HSP.out.2.2.keep HC17.out).c0
   have o1:=(HSP.out.2.2.keep HC17.out).c1
   have o2:=(HSP.out.2.2.keep HC17.out).c2
   have o3:=(HSP.out.2.2.keep HC17.out).c3
   go_wp2_with fail
   refine (eg.eqEngine_any r3 e3 s3 _ _ ys3 ut ub w17 (bl.ownL_boxes HT17.out.1) (bl.ownL_boxes (bl.ownL_below HSP.out.2.1 HC17.out)) HFY.out.2).mono ?_
   rintro e w18 ⟨rfl,hb18⟩
   have HD18:Hid (Below w15.heap.size w15 w18):=HD17.out.trans (hb18.mono HD17.out.size)
   have HC18:Hid (Below w3'.heap.size w3' w18):=HC17.out.trans (hb18.mono HC17.out.size)
   clear hb18 HD17 HC17 HT17 j0 j1 j2 j3 o0 o1 o2 o3
   have j0:=(HV15.out.keep HD18.out).c0
   have j1:=(HV15.out.keep HD18.out).c1
   have j2:=(HV15.out.keep HD18.out).c2
   have j3:=(HV15.out.keep HD18.out).c3
   go_wp2_with fail
   refine (HHD.out w18 HD18.out).mono ?_
   rintro e w19 ⟨rfl,hb19⟩
   have HC19:Hid (Below w3'.heap.size w3' w19):=HC18.out.trans (hb19.mono HC18.out.size)
   have HE:Hid (Below w.heap.size w w19):=HB0.out.trans ((b3.trans (HC19.out.mono b3.size)).mono HB0.out.size)
   clear hb19 HD18 HC18 HC19 j0 j1 j2 j3
   go_wp2
   go_ret
   exact ⟨rfl,HE.out⟩
set_option maxRecDepth 100000 in
theorem gC:Tryz.prog.globalNamed ((Rows.fnExactCommitRow.laid.map (·.1)).getD 0 "")=some 1:=by kernel_rfl
theorem gW:Tryz.prog.globalNamed ((Rows.fnExactCommitRow.laid.map (·.1)).getD 1 "")=some 0:=by kernel_rfl
theorem errs_of (W:World) (hL:laidMet Tryz.prog Rows.fnExactCommitRow.laid W):∃ (c b:Addr) (ca cb:Array Value) (ta tb:TypeId),lg.Errs W c b ca cb ta tb:=by
 obtain ⟨a0,a1,s0,s1,c0,c1,t0,t1,hv0,hv1,hc0,hs0,hz0,hc1,hs1,hz1,hne,hb0,hb1⟩:=laid_sentinels2 (ti:=131) hL gC (by kernel_rfl) gW (by kernel_rfl) Tryz.underlying131 (fun u h=>typeName_ptr_named (nm:="errors.errorString") (by kernel_rfl) (by kernel_rfl) (by decide) u (h.trans (congrArg some (by decide)))) Tryz.underlying205 Tryz.underlying230 rfl rfl Tryz.underlying9 (by kernel_rfl) (by kernel_rfl)
 have hg0:W.cell? ⟨1,0,none⟩=some (.iface 205 (.pointer (some a0))):=by simpa using World.var?_cell gC hv0 0
 have hg1:W.cell? ⟨0,0,none⟩=some (.iface 205 (.pointer (some a1))):=by simpa using World.var?_cell gW hv1 0
 exact ⟨a0,a1,c0,c1,t0,t1,hg0,hg1,hne,hb0,hb1⟩
set_option maxRecDepth 100000 in
theorem contract (H:Type) (enc:TypeId × Value→H) (W:World) (base:Nat) (args:Array Value) (ds gs:List (DataW H)) (before:List MemPlace)
  (hval:∀ (j:Nat) t v,Tryz.f3.params[j]? = some t→args[j]? = some v→Value.okWide Tryz.prog W .any base t v)
  (hW:DataW.Whole enc Tryz.prog Tryz.f3.params.toList Rows.fnExactCommitSpec.vars false W args.toList ds gs before) (hL:laidMetH Tryz.prog Rows.fnExactCommitRow.laid W) (hsh:W.ShapedOpen Tryz.prog) :
  Calls Tryz.prog 3 args W fun e W'=>∃ v,e=.returned v∧Rows.fnExactCommitSpec.post enc Tryz.prog Tryz.f3 false true false false W args v W':=by
 have hW':=hW
 obtain ⟨p,q,hA0,hV,rfl,hfz,hnd⟩:=hW
 have hA:DataW.TrodAll enc Tryz.prog W 0 (fun _=>true) true Tryz.f3.params.toList args.toList ds p:=hA0
 rw [Tryz.params3] at hA hval
 obtain ⟨v0,vs0,d0,ds0,p0,q0,hargs0,rfl,rfl,h0,r0⟩:=trodAll_cons hA
 obtain ⟨v1,vs1,d1,ds1,p1,q1,hargs1,rfl,rfl,h1,r1⟩:=trodAll_cons r0
 obtain ⟨hnil,rfl,rfl⟩:=trodAll_nil r1
 obtain rfl:args = #[v0,v1]:=by cases args; simp_all
 have k0:=h0
 have lt0:∀ x ∈ p0,x.block < W.heap.size:=by obtain ⟨m,hm⟩:=k0; exact DataW.trod_lt m _ _ _ hm
 obtain ⟨r0,dd0,s0,u0,xs0,us0,rfl,hr0,hd0,hs0,wa0,wb0,wc0⟩:=eg.open_engine (hval 0 26 v0 rfl rfl) h0
 have k1:=h1
 have lt1:∀ x ∈ p1,x.block < W.heap.size:=by obtain ⟨m,hm⟩:=k1; exact DataW.trod_lt m _ _ _ hm
 obtain ⟨x1,iv1,rfl,wa1,wb1⟩:=mu.open_mut (hval 1 29 v1 rfl rfl) h1
 clear hA0
 simp only [List.append_nil] at hW'
 have hLL:laidMet Tryz.prog Rows.fnExactCommitRow.laid W:=hL
 obtain ⟨g,t,cs,fuel,d,pp,g2,t2,cs2,fuel2,d2,pp2,rfl,_⟩:=trodVars_two hV
 have hS:=errs_of W hLL
 obtain ⟨ec,eb,eca,ecb,eta,etb,hS⟩:=hS
 refine (walk r0 dd0 s0 u0 xs0 us0 hr0 hd0 hs0 x1 iv1 W wa0 wb0 wc0 wa1 wb1 _ _ _ _ _ _ hS).mono fun e W' ⟨he,bel⟩=>?_
 subst he
 exact ⟨_,rfl,_,_,_,[],_,_,hW',trodAll_cons_mk (shut_bool Tryz.underlying4 _) trodAll_mk0,(trodAll_cons_mk (Below.trod laidOut (by kernel_rfl) (of_decide_eq_true (by kernel_rfl)) k0 bel lt0) (trodAll_cons_mk (Below.trod laidOut (by kernel_rfl) (of_decide_eq_true (by kernel_rfl)) k1 bel lt1) trodAll_mk0)),Below.trodVars laidOut bel (by kernel_rfl) hV,bel.frame _,fun h=>by cases h⟩
set_option maxRecDepth 100000 in
theorem laid_met (os:Os):laidMet Tryz.prog Rows.fnExactCommitRow.laid ((World.doorLaid Tryz.prog 47 os).forCall (fun _ _=>0) ⟨#[],#[Value.agg #[.int .i64 0,.string .empty,.int .i64 0,.slice none 0 0],Value.agg #[.int .i64 0,.int .i64 0,.int .i64 0,.int .i64 0,.string .empty,.slice none 0 0]],[]⟩).memory :=
 laidMet_of_run' 8 (by kernel_rfl) (by kernel_rfl)
theorem reads (os:Os) {H:Type} (enc:TypeId × Value→H):(DataW.whole enc Tryz.prog ((World.doorLaid Tryz.prog 47 os).forCall (fun _ _=>0) ⟨#[],#[Value.agg #[.int .i64 0,.string .empty,.int .i64 0,.slice none 0 0],Value.agg #[.int .i64 0,.int .i64 0,.int .i64 0,.int .i64 0,.string .empty,.slice none 0 0]],[]⟩).memory Tryz.f3.params.toList Rows.fnExactCommitSpec.vars false #[Value.agg #[.int .i64 0,.string .empty,.int .i64 0,.slice none 0 0],Value.agg #[.int .i64 0,.int .i64 0,.int .i64 0,.int .i64 0,.string .empty,.slice none 0 0]].toList 8).isSome=true:=by kernel_rfl
set_option maxRecDepth 100000 in
theorem lifted (os:Os) (started:os.Started) (H:Type) (enc:TypeId × Value→H) (F:Stop.Interp) :
  ReturnsInHanded {} Tryz.checked os 3 .any ((OpenSpec.ofChange Rows.fnExactCommitSpec).preRow enc Tryz.prog Tryz.f3 Rows.fnExactCommitRow.domain false Rows.fnExactCommitRow.laid) (((OpenSpec.ofChange Rows.fnExactCommitSpec).at F).post enc Tryz.prog Tryz.f3 false true false false):=by
 obtain ⟨x,hx⟩:=Option.isSome_iff_exists.1 (reads os enc)
 refine returnsInHanded_of_row (C:=Tryz.checked) (s:=OpenSpec.ofChange Rows.fnExactCommitSpec) own started (by kernel_rfl) Tryz.func3
  (witness_row_atRef (enc:=enc) (C:=Tryz.checked) false (World.doorLaid Tryz.prog 47 os) #[Value.agg #[.int .i64 0,.string .empty,.int .i64 0,.slice none 0 0],Value.agg #[.int .i64 0,.int .i64 0,.int .i64 0,.int .i64 0,.string .empty,.slice none 0 0]] rfl (by kernel_rfl) (by kernel_rfl) (by kernel_rfl)
   (OpenSpec.preRow_of_cond 8 hx (by kernel_rfl) (fun k hk=>by cases hk) (by kernel_rfl) (laid_met os))) ?_
 intro W base args ds gs before hval hW _ _ _ hL hsh _
 exact contract H enc W base args ds gs before hval hW hL hsh
theorem said:Rows.FnExactCommitSaid :=
 OpenClaim.holds_of_cond 3 Tryz.f3 rfl rfl rfl rfl rfl rfl rfl ⟨rfl,rfl,rfl,rfl,rfl⟩ rfl rfl rfl rfl rfl (by kernel_rfl) Tryz.func3 (by kernel_rfl)
  (of_decide_eq_true (by kernel_rfl)) (by unfold Func.isWrapper; first | (rw [if_pos (by decide +kernel)]; kernel_rfl) | (rw [if_neg (by decide +kernel)]; exact ⟨rfl,rfl⟩))
  (fun os started H enc _ F=>by rw [OpenClaim.pre_eq_preRow]; exact lifted os started H enc F)
theorem plain (f:FuncId) (fn:Func) (hf:Tryz.pinned.checked.prog.funcNamed Rows.fnExactCommitRow.func=some f) (hfn:Tryz.pinned.checked.prog.funcs[f]? = some fn) :
  true=Tryz.pinned.checked.prog.looks []∧∀ (j:Nat) t,fn.params[j]? = some t→Tryz.pinned.checked.prog.wantsStandIn t=false:=by
 obtain rfl:f=3:=Option.some.inj ((show Tryz.prog.funcNamed Rows.fnExactCommitRow.func=some 3 by kernel_rfl).symm.trans hf) |>.symm
 obtain rfl:fn=Tryz.f3:=(Option.some.inj (Tryz.func3.symm.trans hfn)).symm
 refine ⟨by kernel_rfl,fun j t ht=>?_⟩
 rw [Tryz.params3] at ht
 have hm:t=26 ∨ t=29:=by simpa using Array.mem_of_getElem? ht
 rcases hm with rfl | rfl
 ·exact (show Tryz.prog.wantsStandIn 26=false by kernel_rfl)
 ·exact (show Tryz.prog.wantsStandIn 29=false by kernel_rfl)
theorem card:Rows.FnExactCommitCardSaid :=
 Claim7.holds_tied_plain_at .later [] _ _ _ _ said (fun _ h=>by cases h) (by kernel_rfl) (fun _ h=>by cases h) fnExactCommit_row_tie rfl ⟨rfl,rfl⟩ (by kernel_rfl) rfl plain (by kernel_rfl)
end Go.Proofs.YtnhcbiomkiljpaaGreatDoor.fnExactCommit
namespace Go.Proofs.YtnhcbiomkiljpaaGreatDoor
theorem fnExactCommit_card:Rows.FnExactCommitCardSaid:=fnExactCommit.card
#print axioms fnExactCommit_card
end Go.Proofs.YtnhcbiomkiljpaaGreatDoor
