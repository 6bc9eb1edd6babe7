/-
  The program's copy of an engine.
  The specification's Commit.
-/
import Derived.Test.YtnhcbiomkiljpaaGreatDoorPkbn
import Derived.Test.YtnhcbiomkiljpaaGreatDoorPkbc
import Derived.Test.YtnhcbiomkiljpaaGreatDoorPkal
import Derived.Defers
namespace Go.Proofs.YtnhcbiomkiljpaaGreatDoor.eg
open Go.RowKit Go.WideShapes
open bx bl
open lg (LV fr)
set_option linter.unusedVariables false
def put4 (w:World) (g:Nat) (a b c d:Value):World:=(((w.setCell ⟨g,0,none⟩ a).setCell ⟨g,1,none⟩ b).setCell ⟨g,2,none⟩ c).setCell ⟨g,3,none⟩ d
theorem LiesE.put {w:World} {b:Nat} {T:TypeId} {r:Int} {d:ByteArray} {s:Int} {v:Value} {r':Int} {d':ByteArray} {s':Int} {v':Value} (h:LiesE w b T r d s v):LiesE (put4 w b (.int .i64 r') (.string d') (.int .i64 s') v') b T r' d' s' v' :=
 heap_setCell_same _ b 3 _ _ _ (heap_setCell_same _ b 2 _ _ _ (heap_setCell_same _ b 1 _ _ _ (heap_setCell_same _ b 0 _ _ _ h)))
theorem put4_below {B g:Nat} {w0 w:World} {a b c d:Value} (k:Below B w0 w) (hb:B≤g):Below B w0 (put4 w g a b c d) :=
 (((k.setCell (p:=⟨g,0,none⟩) hb _).setCell (p:=⟨g,1,none⟩) hb _).setCell (p:=⟨g,2,none⟩) hb _).setCell (p:=⟨g,3,none⟩) hb _
theorem put4_other (w:World) (g q:Nat) (a b c d:Value) (h:q ≠ g):(put4 w g a b c d).heap[q]? = w.heap[q]?:=by
 unfold put4
 rw [heap_setCell_other _ _ _ _ h,heap_setCell_other _ _ _ _ h,heap_setCell_other _ _ _ _ h,heap_setCell_other _ _ _ _ h]
theorem put4_size (w:World) (g:Nat) (a b c d:Value):(put4 w g a b c d).heap.size=w.heap.size:=by
 unfold put4
 simp
theorem own_hi {w w':World} {B e s n:Nat} {v:Value} {xs:List Value} (h:w.ownsRow B e s v n xs) (hw:∀ q,B≤q→w'.heap[q]? = w.heap[q]?):w'.ownsRow B e s v n xs:=by
 obtain ⟨h1,h2⟩:=h
 refine ⟨h1,?_⟩
 rcases h2 with h2 | ⟨g,cap,cur,e1,hb,hh,r⟩
 ·exact .inl h2
 ·exact .inr ⟨g,cap,cur,e1,hb,(hw g hb).trans hh,r⟩
theorem ownL_hi {w w':World} {B:Nat} {v:Value} {xs:List Bx} {vs:Nat→Value × Value} (h:OwnL w B v xs vs) (hw:∀ q,B≤q→w'.heap[q]? = w.heap[q]?):OwnL w' B v xs vs :=
 ⟨own_hi h.1 hw,fun j hj=>⟨own_hi (h.2.1 j hj).1 hw,own_hi (h.2.1 j hj).2 hw⟩,h.2.2⟩
set_option maxHeartbeats 4000000 in
set_option maxRecDepth 100000 in
theorem copiedE_any (r:Int) (d:ByteArray) (s:Int) (v:Value) (bs:List Bx) (vs:Nat→Value × Value) (w:World) (hB:BoxesAt w v bs vs) (hv:Fine v) (hf:Fines bs vs) (hs:Smalls bs) (hd:d.size≤1048576) :
  Calls Tryz.prog 67 #[EV r d s v] w fun e w'=>(∃ L us,e=.returned (EV r d s L)∧OwnL w' (w.heap.size+2) L bs us)∧Below w.heap.size w w':=by
 have HA:Hid (BoxesAt w v bs vs∧Fine v∧Fines bs vs∧Smalls bs):=⟨hB,hv,hf,hs⟩
 obtain ⟨⟨a,cap,rfl,_⟩,_⟩:=hB
 clear hv hf hs
 obtain ⟨W,hW⟩:∃ W,W=((w.alloc (.cells #[.int .i64 r,.string d,.int .i64 s,.slice a bs.length cap] 35)).alloc (.cells #[.int .i64 0,.string ⟨#[]⟩,.int .i64 0,.slice none 0 0] 35)):=⟨_,rfl⟩
 unfold EV
 go_enter Tryz.func67,Tryz.ntmps67
 go_wp2_with fail
 have b2:Below w.heap.size w W:=by rw [hW]; exact (new_below w _ _).alloc (by simp) _
 have sz:W.heap.size=w.heap.size+2:=by rw [hW]; simp
 have k0:LiesE W w.heap.size 35 r d s (.slice a bs.length cap):=by
  rw [hW]; exact (liesE_new w 35 r d s (.slice a bs.length cap)).keep (new_below _ _ _)
 have k1:LiesE W (w.heap.size+1) 35 0 ⟨#[]⟩ 0 (.slice none 0 0):=by
  have:=liesE_new (w.alloc (.cells #[.int .i64 r,.string d,.int .i64 s,.slice a bs.length cap] 35)) 35 0 ⟨#[]⟩ 0 (.slice none 0 0)
  rw [show (w.alloc (.cells #[.int .i64 r,.string d,.int .i64 s,.slice a bs.length cap] 35)).heap.size=w.heap.size+1 by simp] at this
  rw [hW]; exact this
 rw [← hW]
 clear hW
 have HK:Hid (∀ x,Below W.heap.size W x→LiesE x w.heap.size 35 r d s (.slice a bs.length cap)∧LiesE x (w.heap.size+1) 35 0 ⟨#[]⟩ 0 (.slice none 0 0)):=fun x hx=>⟨k0.keep hx,k1.keep hx⟩
 have HB2:Hid (Below w.heap.size w W):=b2
 have HC:Hid (∀ x,Below W.heap.size W x→Calls Tryz.prog 108 #[.slice a bs.length cap] x fun e w'=>(∃ La Ln Lc us,e=.returned (.slice La Ln Lc)∧Hid (OwnL w' (w.heap.size+2) (.slice La Ln Lc) bs us))∧Below W.heap.size W w'):=fun x hx =>
  (copied_all _ bs vs x (boxes_below HA.out.1 (HB2.out.trans (hx.mono HB2.out.size))) HA.out.2.1 HA.out.2.2.1 HA.out.2.2.2).mono fun e w' ⟨⟨L,us,he,hO⟩,hb⟩=>by
   obtain ⟨La,Ln,Lc,rfl⟩:=slice_fine (own_fine hO.1)
   exact ⟨⟨La,Ln,Lc,us,he,sa.ownL_le hO (by rw [← sz]; exact hx.size)⟩,hx.trans (hb.mono hx.size)⟩
 have HL:Hid (∀ x,Below W.heap.size W x→Calls Tryz.prog 107 #[.agg #[.int .i64 r,.string d,.int .i64 s]] x fun e w'=>e=.returned (.agg #[.int .i64 r,.string d,.int .i64 s])∧Below W.heap.size W w'):=fun x hx =>
  (lg.copied_any r d s x hd).mono fun e w' ⟨he,hb⟩=>⟨he,hx.trans (hb.mono hx.size)⟩
 have hD0:Below W.heap.size W W.drew:=(Below.refl _ _).drew
 have q0:=(HK.out _ hD0).1.c0
 have q1:=(HK.out _ hD0).1.c1
 have q2:=(HK.out _ hD0).1.c2
 have q3:=(HK.out _ hD0).1.c3
 have HSZ:Hid (W.heap.size=w.heap.size+2):=sz
 clear k0 k1 b2 sz HA
 go_region_with (first | (go_at_call 107; refine (HL.out _ hD0).mono ?_; rintro e x1 ⟨rfl,hb1⟩; have t0:=(HK.out _ hb1).1.c0; have t1:=(HK.out _ hb1).1.c1; have t2:=(HK.out _ hb1).1.c2; have t3:=(HK.out _ hb1).1.c3) | (go_at_call 108; refine (HC.out _ hb1).mono ?_; rintro e x2 ⟨⟨La,Ln,Lc,us,rfl,hO⟩,hb2⟩; have e0:=(HK.out _ hb2).2.c0; have e1:=(HK.out _ hb2).2.c1; have e2:=(HK.out _ hb2).2.c2; have e3:=(HK.out _ hb2).2.c3; have f0:=(HK.out _ hb2).2.f 0; have f1:=(HK.out _ hb2).2.f 1; have f2:=(HK.out _ hb2).2.f 2; have f3:=(HK.out _ hb2).2.f 3))
 all_goals
  go_wp2
  change bodyPost _ _ _ _ _ (put4 x2 (w.heap.size+1) (.int .i64 r) (.string d) (.int .i64 s) (.slice La Ln Lc))
  have A5:=(HK.out _ hb2).2.put (r':=r) (d':=d) (s':=s) (v':=.slice La Ln Lc)
  have b5:=put4_below (a:=.int .i64 r) (b:=.string d) (c:=.int .i64 s) (d:=.slice La Ln Lc) (HB2.out.trans (hb2.mono HB2.out.size)) (Nat.le_succ w.heap.size)
  have O5:=ownL_hi hO.out (w':=put4 x2 (w.heap.size+1) (.int .i64 r) (.string d) (.int .i64 s) (.slice La Ln Lc)) (fun q hq=>put4_other _ _ _ _ _ _ _ (by omega))
  generalize put4 _ _ _ _ _ _=W5 at A5 b5 O5 ⊢
  have d0:W5.cell? ⟨w.heap.size+1,0,none⟩=some (.int .i64 r):=A5.c0
  have d1:W5.cell? ⟨w.heap.size+1,1,none⟩=some (.string d):=A5.c1
  have d2:W5.cell? ⟨w.heap.size+1,2,none⟩=some (.int .i64 s):=A5.c2
  have d3:W5.cell? ⟨w.heap.size+1,3,none⟩=some (.slice La Ln Lc):=A5.c3
  exact bodyPost_ret (v:=.agg #[.int .i64 r,.string d,.int .i64 s,.slice La Ln Lc]) (by simp [results,Tryz.results67,go_sem,d0,d1,d2,d3]) rfl ⟨⟨_,us,rfl,O5⟩,b5⟩
end Go.Proofs.YtnhcbiomkiljpaaGreatDoor.eg
namespace Go.Proofs.YtnhcbiomkiljpaaGreatDoor.eg
open Go.RowKit Go.WideShapes
open bx bl
open lg (LV RV fr app1)
set_option linter.unusedVariables false
theorem eng_cell {w:World} {g:Nat} {T:TypeId} (h:LiesE w g T 0 ⟨#[]⟩ 0 (.slice none 0 0)) {i:Nat} {y:Value} (hc:w.cell? ⟨g,i,none⟩=some y):(i=0∧y=.int .i64 0) ∨ (i=1∧y=.string ⟨#[]⟩) ∨ (i=2∧y=.int .i64 0) ∨ (i=3∧y=.slice none 0 0):=by
 rw [cell_of_row w _ _ _ _ _ h] at hc
 match i,hc with
 | 0,hc=>exact .inl ⟨rfl,by simpa using hc.symm⟩
 | 1,hc=>exact .inr (.inl ⟨rfl,by simpa using hc.symm⟩)
 | 2,hc=>exact .inr (.inr (.inl ⟨rfl,by simpa using hc.symm⟩))
 | 3,hc=>exact .inr (.inr (.inr ⟨rfl,by simpa using hc.symm⟩))
 | n+4,hc=>simp at hc
theorem mails_eng {w w':World} {n g:Nat} {T:TypeId} {u:Value} {ms:List st.St} (h:st.MailsIn w n u ms) (hg:LiesE w g T 0 ⟨#[]⟩ 0 (.slice none 0 0)) (hw:∀ q,q ≠ g→w'.heap[q]? = w.heap[q]?):st.MailsIn w' n u ms:=by
 obtain ⟨a,cap,e,h⟩:=h
 refine ⟨a,cap,e,?_⟩
 rcases h with h | ⟨b,off,rfl,hb,h⟩
 ·exact .inl h
 ·refine .inr ⟨b,off,rfl,hb,fun j hj=>?_⟩
  obtain ⟨h0,h1,h2⟩:=h j hj
  have hne:b ≠ g:=by
   rintro rfl
   rcases eng_cell hg h0 with ⟨i0,y0⟩ | ⟨i0,y0⟩ | ⟨i0,y0⟩ | ⟨i0,y0⟩ <;> rcases eng_cell hg h1 with ⟨i1,y1⟩ | ⟨i1,y1⟩ | ⟨i1,y1⟩ | ⟨i1,y1⟩ <;> first | cases y0; done | cases y1; done | omega
  have hb':=hw b hne
  exact ⟨by rw [← h0]; simp only [World.cell?,hb'],by rw [← h1]; simp only [World.cell?,hb'],by rw [← h2]; simp only [World.cell?,hb']⟩
theorem texts_eng {w w':World} {n g:Nat} {T:TypeId} {u:Value} {ks:List ByteArray} (h:tx.TextsIn w n u ks) (hk:∀ j,j < ks.length→1≤(ks.getD j ky.nt).size) (hg:LiesE w g T 0 ⟨#[]⟩ 0 (.slice none 0 0)) (hw:∀ q,q ≠ g→w'.heap[q]? = w.heap[q]?):tx.TextsIn w' n u ks:=by
 obtain ⟨a,cap,e,h⟩:=h
 refine ⟨a,cap,e,?_⟩
 rcases h with h | ⟨b,off,rfl,hb,h⟩
 ·exact .inl h
 ·refine .inr ⟨b,off,rfl,hb,fun j hj=>?_⟩
  have h0:=h j hj
  have hne:b ≠ g:=by
   rintro rfl
   rcases eng_cell hg h0 with ⟨i0,y0⟩ | ⟨i0,y0⟩ | ⟨i0,y0⟩ | ⟨i0,y0⟩
   ·cases y0
   ·have:=hk j hj
    rw [Value.string.inj y0] at this
    exact absurd this (by decide)
   ·cases y0
   ·cases y0
  rw [← h0]; simp only [World.cell?,hw b hne]
theorem boxes_eng {w w':World} {g:Nat} {T:TypeId} {L:Value} {ys:List Bx} {us:Nat→Value × Value} (h:BoxesAt w L ys us) (hok:sok ys=true) (hg:LiesE w g T 0 ⟨#[]⟩ 0 (.slice none 0 0)) (hw:∀ q,q ≠ g→w'.heap[q]? = w.heap[q]?) (hs:w'.heap.size=w.heap.size):BoxesAt w' L ys us:=by
 obtain ⟨⟨a,cap,e,h⟩,h2⟩:=h
 unfold BoxesAt
 rw [hs]
 refine ⟨⟨a,cap,e,?_⟩,fun j hj=>⟨mails_eng (h2 j hj).1 hg hw,texts_eng (h2 j hj).2 (fun i hi=>?_) hg hw⟩⟩
 ·rcases h with h | ⟨b,off,rfl,hb,h⟩
  ·exact .inl h
  ·refine .inr ⟨b,off,rfl,hb,fun j hj=>?_⟩
   obtain ⟨h0,h1,h2,h3,h4⟩:=h j hj
   have hne:b ≠ g:=by
    rintro rfl
    rcases eng_cell hg h0 with ⟨i0,y0⟩ | ⟨i0,y0⟩ | ⟨i0,y0⟩ | ⟨i0,y0⟩ <;> rcases eng_cell hg h2 with ⟨i1,y1⟩ | ⟨i1,y1⟩ | ⟨i1,y1⟩ | ⟨i1,y1⟩ <;> first | cases y0; done | cases y1; done | omega
   have hb':=hw b hne
   exact ⟨by rw [← h0]; simp only [World.cell?,hb'],by rw [← h1]; simp only [World.cell?,hb'],by rw [← h2]; simp only [World.cell?,hb'],by rw [← h3]; simp only [World.cell?,hb'],by rw [← h4]; simp only [World.cell?,hb']⟩
 ·have:=(sa.bok_iff.1 ((sok_of hok).2 j hj).1).2.2.2.2.2.1.2
  exact (this i hi).1
set_option maxHeartbeats 4000000 in
set_option maxRecDepth 100000 in
theorem ownE_any (r:Int) (d:ByteArray) (s:Int) (v:Value) (bs:List Bx) (vs:Nat→Value × Value) (w:World) (hB:BoxesAt w v bs vs) (hf:Fines bs vs) (hs:Smalls bs) :
  Calls Tryz.prog 23 #[EV r d s v] w fun e w'=>(∃ L us,e=.returned (EV r d s L)∧OwnL w' (w.heap.size+2) L bs us)∧Below w.heap.size w w':=by
 have HA:Hid (BoxesAt w v bs vs∧Fines bs vs∧Smalls bs):=⟨hB,hf,hs⟩
 obtain ⟨⟨a,cap,rfl,_⟩,_⟩:=hB
 clear hf hs
 obtain ⟨W,hW⟩:∃ W,W=((w.alloc (.cells #[.int .i64 r,.string d,.int .i64 s,.slice a bs.length cap] 35)).alloc (.cells #[.int .i64 0,.string ⟨#[]⟩,.int .i64 0,.slice none 0 0] 35)):=⟨_,rfl⟩
 unfold EV
 go_enter Tryz.func23,Tryz.ntmps23
 go_wp2_with fail
 have b2:Below w.heap.size w W:=by rw [hW]; exact (new_below w _ _).alloc (by simp) _
 have sz:W.heap.size=w.heap.size+2:=by rw [hW]; simp
 have k0:LiesE W w.heap.size 35 r d s (.slice a bs.length cap):=by
  rw [hW]; exact (liesE_new w 35 r d s (.slice a bs.length cap)).keep (new_below _ _ _)
 have k1:LiesE W (w.heap.size+1) 35 0 ⟨#[]⟩ 0 (.slice none 0 0):=by
  have:=liesE_new (w.alloc (.cells #[.int .i64 r,.string d,.int .i64 s,.slice a bs.length cap] 35)) 35 0 ⟨#[]⟩ 0 (.slice none 0 0)
  rw [show (w.alloc (.cells #[.int .i64 r,.string d,.int .i64 s,.slice a bs.length cap] 35)).heap.size=w.heap.size+1 by simp] at this
  rw [hW]; exact this
 rw [← hW]
 clear hW
 refine (spec_own _ bs vs W (boxes_below HA.out.1 b2) HA.out.2.1 HA.out.2.2).mono ?_
 rintro e w2 ⟨⟨L,us,rfl,hO⟩,hb2⟩
 obtain ⟨La,Ln,Lc,rfl⟩:=slice_fine (own_fine hO.1)
 rw [sz] at hO
 have HO:Hid (OwnL w2 (w.heap.size+2) (.slice La Ln Lc) bs us):=hO
 have m0:=k0.keep hb2
 have m1:=k1.keep hb2
 have HM:Hid (LiesE w2 w.heap.size 35 r d s (.slice a bs.length cap)∧LiesE w2 (w.heap.size+1) 35 0 ⟨#[]⟩ 0 (.slice none 0 0)):=⟨m0,m1⟩
 have HB:Hid (Below w.heap.size w w2):=b2.trans (hb2.mono b2.size)
 clear k0 k1 b2 sz hO hb2 HA
 have c0:=m0.c0
 have c1:=m0.c1
 have c2:=m0.c2
 have c3:=m0.c3
 have f3:=m0.f 3
 have f3':w2.frozen? ⟨w.heap.size,0+3,none⟩=false:=m0.f 3
 have e0:=m1.c0
 have e1:=m1.c1
 have e2:=m1.c2
 have e3:=m1.c3
 have g0:=m1.f 0
 have g1:=m1.f 1
 have g2:=m1.f 2
 have g3:=m1.f 3
 clear m0 m1
 go_wp2
 change bodyPost _ _ _ _ _ (put4 (w2.setCell ⟨w.heap.size,3,none⟩ (.slice La Ln Lc)) (w.heap.size+1) (.int .i64 r) (.string d) (.int .i64 s) (.slice La Ln Lc))
 have M1:LiesE (w2.setCell ⟨w.heap.size,3,none⟩ (.slice La Ln Lc)) (w.heap.size+1) 35 0 ⟨#[]⟩ 0 (.slice none 0 0):=(heap_setCell_other w2 ⟨w.heap.size,3,none⟩ (w.heap.size+1) _ (by simp)).trans HM.out.2
 have A5:=M1.put (r':=r) (d':=d) (s':=s) (v':=.slice La Ln Lc)
 have b4:Below w.heap.size w (w2.setCell ⟨w.heap.size,3,none⟩ (.slice La Ln Lc)):=HB.out.setCell (p:=⟨w.heap.size,3,none⟩) (Nat.le_refl _) _
 have b5:=put4_below (a:=.int .i64 r) (b:=.string d) (c:=.int .i64 s) (d:=.slice La Ln Lc) b4 (Nat.le_succ w.heap.size)
 have O5:=ownL_hi HO.out (w':=put4 (w2.setCell ⟨w.heap.size,3,none⟩ (.slice La Ln Lc)) (w.heap.size+1) (.int .i64 r) (.string d) (.int .i64 s) (.slice La Ln Lc)) (fun q hq=>(put4_other _ _ _ _ _ _ _ (by omega)).trans (heap_setCell_other w2 ⟨w.heap.size,3,none⟩ q _ (by simp; omega)))
 generalize put4 _ _ _ _ _ _=W5 at A5 b5 O5 ⊢
 have d0:W5.cell? ⟨w.heap.size+1,0,none⟩=some (.int .i64 r):=A5.c0
 have d1:W5.cell? ⟨w.heap.size+1,1,none⟩=some (.string d):=A5.c1
 have d2:W5.cell? ⟨w.heap.size+1,2,none⟩=some (.int .i64 s):=A5.c2
 have d3:W5.cell? ⟨w.heap.size+1,3,none⟩=some (.slice La Ln Lc):=A5.c3
 exact bodyPost_ret (v:=.agg #[.int .i64 r,.string d,.int .i64 s,.slice La Ln Lc]) (by simp [results,Tryz.results23,go_sem,d0,d1,d2,d3]) rfl ⟨⟨_,us,rfl,O5⟩,b5⟩
end Go.Proofs.YtnhcbiomkiljpaaGreatDoor.eg
