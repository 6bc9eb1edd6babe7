/-
  The program's written: an engine with a mutation done, its record behind all that is sure; with a code it is as it was.
-/
import Derived.Test.YtnhcbiomkiljpaaGreatDoorPkbp
namespace Go.Proofs.YtnhcbiomkiljpaaGreatDoor.eg
open Go.RowKit Go.WideShapes
open bx bl
open lg (LV RV fr app1)
set_option linter.unusedVariables false
def LiesI (w:World) (b:Nat) (c:Int):Prop:=w.heap[b]? = some (.cells #[.int .i64 c] 3 (0,0))
theorem LiesI.c0 {w:World} {b:Nat} {c:Int} (h:LiesI w b c):w.cell? ⟨b,0,none⟩=some (.int .i64 c):=by rw [cell_of_row w _ _ _ _ _ h]; rfl
theorem LiesI.f {w:World} {b:Nat} {c:Int} (h:LiesI w b c) (j:Nat):w.frozen? ⟨b,j,none⟩=false:=frozen_of_row _ _ _ _ _ h
theorem LiesI.lt {w:World} {b:Nat} {c:Int} (h:LiesI w b c):b < w.heap.size:=World.block_lt_of_cell? w _ h.c0
theorem LiesI.keep {w w':World} {b:Nat} {c:Int} (h:LiesI w b c) (hb:Below w.heap.size w w'):LiesI w' b c:=(hb.block b h.lt).trans h
structure Fw (w x:World) (r:Int) (d:ByteArray) (s:Int) (v:Value) (M:mu.Mu) (iv:Value) (r':Int) (d':ByteArray) (s':Int) (L:Value) (c:Int):Prop where
 bel:Below w.heap.size w x
 e:LiesE x w.heap.size 35 r d s v
 m:LiesM x (w.heap.size+1) M iv
 n:LiesE x (w.heap.size+1+1) 35 r' d' s' L
 k:LiesI x (w.heap.size+1+1+1) c
section
variable {w x y:World} {r:Int} {d:ByteArray} {s:Int} {v:Value} {M:mu.Mu} {iv:Value} {r':Int} {d':ByteArray} {s':Int} {L:Value} {c:Int}
theorem Fw.keep (h:Fw w x r d s v M iv r' d' s' L c) (hb:Below x.heap.size x y):Fw w y r d s v M iv r' d' s' L c :=
 ⟨h.bel.trans (hb.mono h.bel.size),h.e.keep hb,mu.Lies.keep h.m hb,h.n.keep hb,h.k.keep hb⟩
theorem Fw.keepB {B:Nat} (h:Fw w x r d s v M iv r' d' s' L c) (hb:Below B x y) (hB:w.heap.size+1+1+1 < B):Fw w y r d s v M iv r' d' s' L c :=
 ⟨h.bel.trans (hb.mono (by omega)),(hb.block _ (by omega)).trans h.e,(hb.block _ (by omega)).trans h.m,(hb.block _ (by omega)).trans h.n,(hb.block _ hB).trans h.k⟩
theorem Fw.code (h:Fw w x r d s v M iv r' d' s' L c) (c':Int):Fw w (x.setCell ⟨w.heap.size+1+1+1,0,none⟩ (.int .i64 c')) r d s v M iv r' d' s' L c' :=
 ⟨h.bel.setCell (p:=⟨w.heap.size+1+1+1,0,none⟩) (show w.heap.size≤w.heap.size+1+1+1 by omega) _,(heap_setCell_other x ⟨w.heap.size+1+1+1,0,none⟩ w.heap.size _ (by show w.heap.size ≠ w.heap.size+1+1+1; omega)).trans h.e,(heap_setCell_other x ⟨w.heap.size+1+1+1,0,none⟩ (w.heap.size+1) _ (by show w.heap.size+1 ≠ w.heap.size+1+1+1; omega)).trans h.m,(heap_setCell_other x ⟨w.heap.size+1+1+1,0,none⟩ (w.heap.size+1+1) _ (by show w.heap.size+1+1 ≠ w.heap.size+1+1+1; omega)).trans h.n,heap_setCell_same _ _ 0 _ _ _ h.k⟩
theorem Fw.other (h:Fw w x r d s v M iv r' d' s' L c) (j:Nat) (u:Value):Below w.heap.size w (x.setCell ⟨w.heap.size+1+1,j,none⟩ u)∧LiesE (x.setCell ⟨w.heap.size+1+1,j,none⟩ u) w.heap.size 35 r d s v∧LiesM (x.setCell ⟨w.heap.size+1+1,j,none⟩ u) (w.heap.size+1) M iv∧LiesI (x.setCell ⟨w.heap.size+1+1,j,none⟩ u) (w.heap.size+1+1+1) c :=
 ⟨h.bel.setCell (p:=⟨w.heap.size+1+1,j,none⟩) (show w.heap.size≤w.heap.size+1+1 by omega) _,(heap_setCell_other x ⟨w.heap.size+1+1,j,none⟩ w.heap.size _ (by show w.heap.size ≠ w.heap.size+1+1; omega)).trans h.e,(heap_setCell_other x ⟨w.heap.size+1+1,j,none⟩ (w.heap.size+1) _ (by show w.heap.size+1 ≠ w.heap.size+1+1; omega)).trans h.m,(heap_setCell_other x ⟨w.heap.size+1+1,j,none⟩ (w.heap.size+1+1+1) _ (by show w.heap.size+1+1+1 ≠ w.heap.size+1+1; omega)).trans h.k⟩
theorem Fw.n0 (h:Fw w x r d s v M iv r' d' s' L c) (r2:Int):Fw w (x.setCell ⟨w.heap.size+1+1,0,none⟩ (.int .i64 r2)) r d s v M iv r2 d' s' L c :=
 ⟨(h.other 0 _).1,(h.other 0 _).2.1,(h.other 0 _).2.2.1,heap_setCell_same _ _ 0 _ _ _ h.n,(h.other 0 _).2.2.2⟩
theorem Fw.n1 (h:Fw w x r d s v M iv r' d' s' L c) (d2:ByteArray):Fw w (x.setCell ⟨w.heap.size+1+1,1,none⟩ (.string d2)) r d s v M iv r' d2 s' L c :=
 ⟨(h.other 1 _).1,(h.other 1 _).2.1,(h.other 1 _).2.2.1,heap_setCell_same _ _ 1 _ _ _ h.n,(h.other 1 _).2.2.2⟩
theorem Fw.n2 (h:Fw w x r d s v M iv r' d' s' L c) (s2:Int):Fw w (x.setCell ⟨w.heap.size+1+1,2,none⟩ (.int .i64 s2)) r d s v M iv r' d' s2 L c :=
 ⟨(h.other 2 _).1,(h.other 2 _).2.1,(h.other 2 _).2.2.1,heap_setCell_same _ _ 2 _ _ _ h.n,(h.other 2 _).2.2.2⟩
theorem Fw.n3 (h:Fw w x r d s v M iv r' d' s' L c) (L2:Value):Fw w (x.setCell ⟨w.heap.size+1+1,3,none⟩ L2) r d s v M iv r' d' s' L2 c :=
 ⟨(h.other 3 _).1,(h.other 3 _).2.1,(h.other 3 _).2.2.1,heap_setCell_same _ _ 3 _ _ _ h.n,(h.other 3 _).2.2.2⟩
theorem Fw.put (h:Fw w x r d s v M iv r' d' s' L c) (r2:Int) (d2:ByteArray) (s2:Int) (L2:Value):Fw w (put4 x (w.heap.size+1+1) (.int .i64 r2) (.string d2) (.int .i64 s2) L2) r d s v M iv r2 d2 s2 L2 c:=(((h.n0 r2).n1 d2).n2 s2).n3 L2
end
theorem fw_new (w:World) (r:Int) (d:ByteArray) (s:Int) (v:Value) (M:mu.Mu) (iv:Value) :
  Fw w ((((w.alloc (.cells #[.int .i64 r,.string d,.int .i64 s,v] 35)).alloc (.cells #[.int .i64 M.k,.int .i64 M.u,.int .i64 M.m,.int .i64 M.f,.string M.b,iv] 41)).alloc (.cells #[.int .i64 0,.string ⟨#[]⟩,.int .i64 0,.slice none 0 0] 35)).alloc (.cells #[.int .i64 0] 3)) r d s v M iv 0 ⟨#[]⟩ 0 (.slice none 0 0) 0:=by
 obtain ⟨k0,k1⟩:=two_lie w r d s v M iv
 have k2:=three_lie w r d s v M iv
 refine ⟨(((new_below w _ _).alloc (by simp) _).alloc (by simp; omega) _).alloc (by simp; omega) _,(k0.keep (new_below _ _ _)).keep (new_below _ _ _),mu.Lies.keep (mu.Lies.keep k1 (new_below _ _ _)) (new_below _ _ _),k2.keep (new_below _ _ _),?_⟩
 have h:=heap_new (((w.alloc (.cells #[.int .i64 r,.string d,.int .i64 s,v] 35)).alloc (.cells #[.int .i64 M.k,.int .i64 M.u,.int .i64 M.m,.int .i64 M.f,.string M.b,iv] 41)).alloc (.cells #[.int .i64 0,.string ⟨#[]⟩,.int .i64 0,.slice none 0 0] 35)) (.cells #[.int .i64 0] 3)
 rw [show (((w.alloc (.cells #[.int .i64 r,.string d,.int .i64 s,v] 35)).alloc (.cells #[.int .i64 M.k,.int .i64 M.u,.int .i64 M.m,.int .i64 M.f,.string M.b,iv] 41)).alloc (.cells #[.int .i64 0,.string ⟨#[]⟩,.int .i64 0,.slice none 0 0] 35)).heap.size=w.heap.size+1+1+1 by simp] at h
 exact h
def Cl (w:World) (r:Int) (d:ByteArray) (s:Int) (v:Value) (bs:List Bx) (M:mu.Mu) (iv:Value) (r':Int) (d':ByteArray) (s':Int) (L:Value) (c:Int) (x x':World):Prop :=
 (c=0∧x'=x) ∨ (c ≠ 0∧∃ L2 us,Fw w x' r d s v M iv r d s L2 c∧OwnL x' (w.heap.size+1+1+1+1) L2 bs us)
set_option maxHeartbeats 4000000 in
set_option maxRecDepth 100000 in
theorem closure_any (w x:World) (r:Int) (d:ByteArray) (s:Int) (v:Value) (bs:List Bx) (vs:Nat→Value × Value) (M:mu.Mu) (iv:Value) (r':Int) (d':ByteArray) (s':Int) (L:Value) (c:Int) (u:FrameMode) (hF:Fw w x r d s v M iv r' d' s' L c) (hB:BoxesAt w v bs vs) (hv:Fine v) (hf:Fines bs vs) (hs:Smalls bs) (hd:d.size≤1048576) :
  CallsD Tryz.prog 68 #[.pointer (some ⟨w.heap.size+1+1+1,0,none⟩),.pointer (some ⟨w.heap.size,0,none⟩),.pointer (some ⟨w.heap.size+1+1,0,none⟩)] u x fun e u' x'=>u'=u∧(e=.returned (.tuple #[])∧Cl w r d s v bs M iv r' d' s' L c x x'):=by
 have HA:Hid (BoxesAt w v bs vs∧Fine v∧Fines bs vs∧Smalls bs):=⟨hB,hv,hf,hs⟩
 have HF:Hid (Fw w x r d s v M iv r' d' s' L c):=hF
 have q:=hF.k.c0
 have c0:=hF.e.c0
 have c1:=hF.e.c1
 have c2:=hF.e.c2
 have c3:=hF.e.c3
 have hl:=hF.k.lt
 clear hB hv hf hs hF
 by_cases h0:c=0
 ·subst h0
  go_enter_d Tryz.func68,Tryz.ntmps68
  go_wp2
  go_end0
  exact ⟨rfl,.inl ⟨rfl,rfl⟩⟩
 ·have h1:((c:Int) != 0)=true:=by rw [bne_iff_ne]; exact h0
  have HN:Hid (c ≠ 0):=h0
  clear h0
  go_enter_d Tryz.func68,Tryz.ntmps68
  go_wp2_with fail
  refine (copiedE_any r d s v bs vs x (boxes_below HA.out.1 HF.out.bel) HA.out.2.1 HA.out.2.2.1 HA.out.2.2.2 hd).mono ?_
  rintro e x1 ⟨⟨L2,us,rfl,hO⟩,hb⟩
  obtain ⟨La,Ln,Lc,rfl⟩:=slice_fine (own_fine hO.1)
  have HF1:Hid (Fw w x1 r d s v M iv r' d' s' L c):=HF.out.keep hb
  have HO:Hid (OwnL x1 (w.heap.size+1+1+1+1) (.slice La Ln Lc) bs us):=sa.ownL_le hO (by omega)
  unfold EV
  clear hO hb q c0 c1 c2 c3
  have e0:=HF1.out.n.c0
  have e1:=HF1.out.n.c1
  have e2:=HF1.out.n.c2
  have e3:=HF1.out.n.c3
  have g0:=HF1.out.n.f 0
  have g1:=HF1.out.n.f 1
  have g2:=HF1.out.n.f 2
  have g3:=HF1.out.n.f 3
  go_wp2
  go_end0
  exact ⟨rfl,.inr ⟨HN.out,.slice La Ln Lc,us,HF1.out.put r d s (.slice La Ln Lc),ownL_hi HO.out (fun q hq=>put4_other _ _ _ _ _ _ _ (by omega))⟩⟩
end Go.Proofs.YtnhcbiomkiljpaaGreatDoor.eg
