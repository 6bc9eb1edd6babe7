/-
  impl.mutated where the box is there.
-/
import Derived.Test.YtnhcbiomkiljpaaGreatDoorPkap
namespace Go.Proofs.YtnhcbiomkiljpaaGreatDoor.bl
open Go.ChangeShapes Go.WideShapes Go.ChangeAt Go.RowKit Go.Deep Go.Joins
open st gr bx mx
set_option linter.unusedVariables false
def Arm (base:Nat) (y:Bx) (p q:Value) (R:Bx→Int→Prop) (X:World) (e:Ending) (X':World):Prop :=
 ∃ (y':Bx) (c:Int) (a:Option Addr) (n cp:Nat) (a':Option Addr) (n' cp':Nat),e=.returned (.tuple #[.agg #[.string y'.nm,.int .i64 y'.vd,.int .i64 y'.nx,.slice a n cp,.slice a' n' cp'],.int .i64 c])∧R y' c ∧
  (c=0→OwnM X' base (.slice a n cp) y'.ms∧OwnK X' base (.slice a' n' cp') y'.ks∧Here X.heap.size p (.slice a n cp)∧Here X.heap.size q (.slice a' n' cp'))∧(c ≠ 0→OwnM X' base p y.ms∧OwnK X' base q y.ks)∧Gr2 X X' p.ownBlock q.ownBlock
theorem here_le {N M:Nat} {v v':Value} (h:Here N v v') (hM:M≤N):Here M v v':=by
 rcases h with h | h
 ·exact .inl h
 ·exact .inr fun g e=>Nat.le_trans hM (h g e)
theorem belowD {b:Nat} {w X:World} (h:Below b w X):Below b w X.drew:=h.drew
theorem belowA {w X:World} (h:Below w.heap.size w X) (o:Obj):Below w.heap.size w (X.drew.alloc o):=(h.drew).alloc h.size o
def Aft (base:Nat) (y:Bx) (p q:Value) (R:Bx→Int→Prop) (X:World) (y':Bx) (c:Int) (v u:Value) (X':World):Prop :=
 R y' c∧(c=0→OwnM X' base v y'.ms∧OwnK X' base u y'.ks∧Here X.heap.size p v∧Here X.heap.size q u)∧(c ≠ 0→OwnM X' base p y.ms∧OwnK X' base q y.ks)∧Gr2 X X' p.ownBlock q.ownBlock
theorem aft_drew {base:Nat} {y y':Bx} {p q v u:Value} {R:Bx→Int→Prop} {X X':World} {c:Int} (h1:R y' c) (h2:c=0→OwnM X' base v y'.ms∧OwnK X' base u y'.ks∧Here X.drew.heap.size p v∧Here X.drew.heap.size q u) (h3:c ≠ 0→OwnM X' base p y.ms∧OwnK X' base q y.ks) (h4:Gr2 X.drew X' p.ownBlock q.ownBlock):Aft base y p q R X y' c v u X':=⟨h1,h2,h3,⟨h4.os,h4.tape,h4.output,h4.size,h4.block⟩⟩
theorem aft_alloc {base:Nat} {y y':Bx} {p q v u:Value} {R:Bx→Int→Prop} {X X':World} {c:Int} {o:Obj} (h1:R y' c) (h2:c=0→OwnM X' base v y'.ms∧OwnK X' base u y'.ks∧Here (X.drew.alloc o).heap.size p v∧Here (X.drew.alloc o).heap.size q u) (h3:c ≠ 0→OwnM X' base p y.ms∧OwnK X' base q y.ks) (h4:Gr2 (X.drew.alloc o) X' p.ownBlock q.ownBlock):Aft base y p q R X y' c v u X' :=
 ⟨h1,fun e=>⟨(h2 e).1,(h2 e).2.1,here_le (h2 e).2.2.1 (by simp),here_le (h2 e).2.2.2 (by simp)⟩,h3,(gr2_below (w:=X) (belowA (Below.refl _ X) o) _ _).trans h4⟩
def AftV (base:Nat) (y:Bx) (p q:Value) (R:Bx→Int→Prop) (X:World) (y':Bx) (c:Int) (v u:Value) (G:Nat) (Y:World):Prop:=Aft base y p q R X y' c v u Y∧bx.Lies Y G 85 y' v u∧X.heap.size≤G
theorem aftv {base:Nat} {y y':Bx} {p q v u:Value} {R:Bx→Int→Prop} {X X':World} {c:Int} {G:Nat} (h:Aft base y p q R X y' c v u X') (hl:bx.Lies X' G 85 B0 (.slice none 0 0) (.slice none 0 0)) (hG:X.heap.size≤G) :
  AftV base y p q R X y' c v u G (put5w X' G (.string y'.nm) (.int .i64 y'.vd) (.int .i64 y'.nx) v u):=by
 obtain ⟨h1,h2,h3,h4⟩:=h
 have hput:X'.grownBy (put5w X' G (.string y'.nm) (.int .i64 y'.vd) (.int .i64 y'.nx) v u) (some G):=put5w_grown _ _ _ _ _ _ _
 refine ⟨⟨h1,fun e=>?_,fun e=>?_,?_⟩,put5w_lies hl,hG⟩
 ·obtain ⟨a,b,c,d⟩:=h2 e
  exact ⟨own_grown a hput (row_box a hl (by decide)),own_grown b hput (row_box b hl (by decide)),c,d⟩
 ·obtain ⟨a,b⟩:=h3 e
  exact ⟨own_grown a hput (row_box a hl (by decide)),own_grown b hput (row_box b hl (by decide))⟩
 ·exact ⟨hput.os.trans h4.os,hput.tape.trans h4.tape,hput.output.trans h4.output,Nat.le_trans h4.size hput.size,fun k hk e1 e2=>(hput.block k (Nat.lt_of_lt_of_le hk h4.size) (by intro e; cases e; omega)).trans (h4.block k hk e1 e2)⟩
theorem aft_new {base:Nat} {y y':Bx} {p q v u:Value} {R:Bx→Int→Prop} {X X':World} {c:Int} (h:Aft base y p q R X y' c v u X') (o:Obj):Aft base y p q R X y' c v u (X'.alloc o):=by
 obtain ⟨h1,h2,h3,h4⟩:=h
 refine ⟨h1,fun e=>?_,fun e=>?_,h4.trans (gr2_left (World.grownBy_alloc _ _ _) _)⟩
 ·obtain ⟨a,b,c,d⟩:=h2 e
  exact ⟨World.ownsRow.alloc a o,World.ownsRow.alloc b o,c,d⟩
 ·obtain ⟨a,b⟩:=h3 e
  exact ⟨World.ownsRow.alloc a o,World.ownsRow.alloc b o⟩
theorem end_code {w X Y:World} {base:Nat} {L:Value} {xs:List Bx} {us:Nat→Value × Value} {k:Nat} {R:Bx→Int→Prop} {y y':Bx} {p q v u:Value} {c:Int} (hL:OwnL X base L xs us) (hk:k < xs.length) (hy:y=xs.getD k noB) (hp:(us k).1=p) (hq:(us k).2=q) (hb:base≤w.heap.size) (hw:Below w.heap.size w X) (h:Aft base y p q R X y' c v u Y) (hc:c ≠ 0):R y' c∧OwnL Y base L xs us∧Below base w Y:=by
 obtain ⟨h1,h2,h3,h4⟩:=h
 subst hp hq hy
 have hbX:base≤X.heap.size:=Nat.le_trans hb hw.size
 exact ⟨h1,list_kept hL hk h4 (h3 hc).1 (h3 hc).2,(hw.mono hb).trans ⟨h4.os,h4.tape,h4.output,h4.size,gr2_base hL.2.1 hk hbX h4⟩⟩
theorem end_ok {w X Y:World} {base g n Lc:Nat} {xs:List Bx} {us:Nat→Value × Value} {k:Nat} {R:Bx→Int→Prop} {y y':Bx} {p q v u:Value} (hn:n=xs.length) (hL:OwnL X base (.slice (some ⟨g,0,none⟩) n Lc) xs us) (hk:k < xs.length) (hp:(us k).1=p) (hq:(us k).2=q) (hb:base≤w.heap.size) (hw:Below w.heap.size w X) (h:Aft base y p q R X y' 0 v u Y) :
  R y' 0∧OwnL (((((Y.setCell ⟨g,k * 5,none⟩ (.string y'.nm)).setCell ⟨g,k * 5+1,none⟩ (.int .i64 y'.vd)).setCell ⟨g,k * 5+2,none⟩ (.int .i64 y'.nx)).setCell ⟨g,k * 5+3,none⟩ v).setCell ⟨g,k * 5+4,none⟩ u) base (.slice (some ⟨g,0,none⟩) n Lc) (xs.set k y') (upd us k (v,u))∧Below base w (((((Y.setCell ⟨g,k * 5,none⟩ (.string y'.nm)).setCell ⟨g,k * 5+1,none⟩ (.int .i64 y'.vd)).setCell ⟨g,k * 5+2,none⟩ (.int .i64 y'.nx)).setCell ⟨g,k * 5+3,none⟩ v).setCell ⟨g,k * 5+4,none⟩ u):=by
 obtain ⟨h1,h2,h3,h4⟩:=h
 subst hp hq hn
 obtain ⟨m1,m2,m3,m4⟩:=h2 rfl
 have hbX:base≤X.heap.size:=Nat.le_trans hb hw.size
 have hLY:Y.ownsRow base 85 5 (.slice (some ⟨g,0,none⟩) xs.length Lc) xs.length (bcells xs us xs.length):=list_gr2 hL hk h4
 have hgb:base≤g:=(hLY.lt g rfl).1
 have hgr:Y.grownBy (((((Y.setCell ⟨g,k * 5,none⟩ (.string y'.nm)).setCell ⟨g,k * 5+1,none⟩ (.int .i64 y'.vd)).setCell ⟨g,k * 5+2,none⟩ (.int .i64 y'.nx)).setCell ⟨g,k * 5+3,none⟩ v).setCell ⟨g,k * 5+4,none⟩ u) (Value.slice (some ⟨g,0,none⟩) xs.length Lc).ownBlock:=ow.grown_trans (ow.grown_trans (ow.grown_trans (ow.grown_trans (mk.grown_set _ _ _ _) (mk.grown_set _ _ _ _)) (mk.grown_set _ _ _ _)) (mk.grown_set _ _ _ _)) (mk.grown_set _ _ _ _)
 refine ⟨h1,list_set hL hk h4 m1 m2 m3 m4 ?_ hgr,(((((((hw.mono hb).trans ⟨h4.os,h4.tape,h4.output,h4.size,gr2_base hL.2.1 hk hbX h4⟩).setCell (p:=⟨g,_,none⟩) hgb _).setCell (p:=⟨g,_,none⟩) hgb _).setCell (p:=⟨g,_,none⟩) hgb _).setCell (p:=⟨g,_,none⟩) hgb _).setCell (p:=⟨g,_,none⟩) hgb _)⟩
 unfold OwnB
 rw [show (xs.set k y').length=xs.length by simp,← bcells_set hk hk y' (v,u)]
 exact (((((hLY.stored _ _).1.stored _ _).1.stored _ _).1.stored _ _).1.stored _ _).1
theorem list_cells {X Y:World} {base g n Lc:Nat} {xs:List Bx} {us:Nat→Value × Value} {k:Nat} {R:Bx→Int→Prop} {y y':Bx} {p q v u:Value} {c:Int} (hn:n=xs.length) (hL:OwnL X base (.slice (some ⟨g,0,none⟩) n Lc) xs us) (hk:k < xs.length) (hp:(us k).1=p) (hq:(us k).2=q) (h:Aft base y p q R X y' c v u Y) :
  ∃ u0 u1 u2 u3 u4,Y.cell? ⟨g,k * 5,none⟩=some u0∧Y.cell? ⟨g,k * 5+1,none⟩=some u1∧Y.cell? ⟨g,k * 5+2,none⟩=some u2∧Y.cell? ⟨g,k * 5+3,none⟩=some u3∧Y.cell? ⟨g,k * 5+4,none⟩=some u4∧∀ j,Y.frozen? ⟨g,j,none⟩=false:=by
 obtain ⟨h1,h2,h3,h4⟩:=h
 subst hp hq hn
 have hLY:Y.ownsRow base 85 5 (.slice (some ⟨g,0,none⟩) xs.length Lc) xs.length (bcells xs us xs.length):=list_gr2 hL hk h4
 obtain ⟨i0,i1,i2,i3,i4⟩:=bcells_at xs us xs.length k hk
 exact ⟨_,_,_,_,_,(hLY.cellAt (k * 5) (by omega)).trans i0,(hLY.cellAt (k * 5+1) (by omega)).trans i1,(hLY.cellAt (k * 5+2) (by omega)).trans i2,(hLY.cellAt (k * 5+3) (by omega)).trans i3,(hLY.cellAt (k * 5+4) (by omega)).trans i4,fun j=>hLY.frozenAt j⟩
set_option maxHeartbeats 4000000 in
set_option maxRecDepth 100000 in
theorem imp_at (L:Value) (base:Nat) (xs:List Bx) (us:Nat→Value × Value) (m:mu.Mu) (iv:Value) (w:World) (h:OwnL w base L xs us) (hb:base≤w.heap.size) (hn:xs.length≤1048576) (hiv:∃ a n c,iv=.slice a n c) (hmk:m.k ≠ 1) (k:Nat) (hk:k < xs.length) (hp:Plc xs m.b (k:Int)) (R:Bx→Int→Prop)
  (HA:∀ X,Below w.heap.size w X→Calls Tryz.prog 111 #[BV (xs.getD k noB) (us k).1 (us k).2,mu.MV m iv] X (Arm base (xs.getD k noB) (us k).1 (us k).2 R X)) :
  Calls Tryz.prog 69 #[L,mu.MV m iv] w fun e w'=>∃ y' c us',e=.returned (.tuple #[L,.int .i64 c])∧R y' c∧(c=0→OwnL w' base L (xs.set k y') us')∧(c ≠ 0→OwnL w' base L xs us)∧Below base w w':=by
 obtain ⟨ia,inn,ic,rfl⟩:=hiv
 obtain ⟨n,hnn⟩:∃ n,n=xs.length:=⟨_,rfl⟩
 have HN:Hid (n=xs.length):=hnn
 obtain ⟨g,Lc,rfl⟩:∃ g c,L=.slice (some ⟨g,0,none⟩) n c:=by
  rcases h.1.2 with ⟨rfl,hz⟩ | ⟨g,cap,cur,rfl,_⟩
  ·omega
  ·exact ⟨_,_,by rw [hnn]⟩
 obtain ⟨W,hW⟩:∃ W,W=w.alloc (.cells #[.int .i64 m.k,.int .i64 m.u,.int .i64 m.m,.int .i64 m.f,.string m.b,.slice ia inn ic] 41):=⟨_,rfl⟩
 have b1:Below w.heap.size w W:=by rw [hW]; exact bx.new_below w _ _
 have k1:mu.Lies W w.heap.size 41 m (.slice ia inn ic):=by rw [hW]; exact mu.lies_new _ _ _ _
 have HO:Hid (OwnL W base (.slice (some ⟨g,0,none⟩) n Lc) xs us):=ownL_below h b1
 have HC:Hid (Calls Tryz.prog 110 #[.slice (some ⟨g,0,none⟩) n Lc,.string m.b] W fun e w'=>(∃ r:Int,e=.returned (.int .i64 r)∧Plc xs m.b r)∧Below W.heap.size W w'):=place_any W.heap.size _ xs us m.b W (ownL_boxes HO.out) (Nat.le_refl _) hn
 have HB:Hid (Below w.heap.size w W):=b1
 have HP:Hid (Plc xs m.b (k:Int)):=hp
 have HK1:Hid (mu.Lies W w.heap.size 41 m (.slice ia inn ic)):=k1
 have HAA:Hid (∀ X,Below w.heap.size w X→Calls Tryz.prog 111 #[BV (xs.getD k noB) (us k).1 (us k).2,mu.MV m (.slice ia inn ic)] X (Arm base (xs.getD k noB) (us k).1 (us k).2 R X)):=HA
 have d0:=k1.c0
 have d4:=k1.c4
 have hmk':(m.k == 1)=false:=by simpa using hmk
 unfold mu.MV
 clear h b1 k1 hp hmk HA hnn
 go_enter Tryz.func69,Tryz.ntmps69
 go_wp2_with (rw [← hW])
 clear hW
 refine HC.out.mono ?_
 rintro e X ⟨⟨r,rfl,hr⟩,hx⟩
 have hr1:r=(k:Int):=plc_one hr HP.out
 subst hr1
 have HX:Hid (OwnL X base (.slice (some ⟨g,0,none⟩) n Lc) xs us∧Below w.heap.size w X∧mu.Lies X w.heap.size 41 m (.slice ia inn ic)):=⟨ownL_below HO.out hx,HB.out.trans (hx.mono HB.out.size),HK1.out.keep hx⟩
 clear hx HC HB d0 d4 HO HP hr HK1
 have d0:=HX.out.2.2.c0
 have d1:=HX.out.2.2.c1
 have d2:=HX.out.2.2.c2
 have d3:=HX.out.2.2.c3
 have d4:=HX.out.2.2.c4
 have d5:=HX.out.2.2.c5
 have hkn:(k:Int) < (n:Int):=by rw [HN.out]; omega
 obtain ⟨y,hy⟩:∃ y,y=xs.getD k noB:=⟨_,rfl⟩
 have HY:Hid (y=xs.getD k noB):=hy
 have hL:X.ownsRow base 85 5 (.slice (some ⟨g,0,none⟩) n Lc) n (bcells xs us n):=by
  have e:=HX.out.1.1
  unfold OwnB at e
  rw [← HN.out] at e
  exact e
 have hkm:k < n:=by rw [HN.out]; exact hk
 obtain ⟨i0,i1,i2,i3,i4⟩:=bcells_at xs us n k hkm
 have q0:=(hL.cellAt (k * 5) (by omega)).trans i0
 have q1:=(hL.cellAt (k * 5+1) (by omega)).trans i1
 have q2:=(hL.cellAt (k * 5+2) (by omega)).trans i2
 have q3:=(hL.cellAt (k * 5+3) (by omega)).trans i3
 have q4:=(hL.cellAt (k * 5+4) (by omega)).trans i4
 rw [← hy] at q0 q1 q2
 obtain ⟨pa,pn,pc,hpp⟩:=slice_fine (own_fine (HX.out.1.2.1 k hk).1)
 obtain ⟨qa,qn,qc,hqq⟩:=slice_fine (own_fine (HX.out.1.2.1 k hk).2)
 rw [hpp] at q3
 rw [hqq] at q4
 have HU:Hid ((us k).1=.slice pa pn pc∧(us k).2=.slice qa qn qc):=⟨hpp,hqq⟩
 clear hL i0 i1 i2 i3 i4 hy hpp hqq
 go_upto_region 6 with fail
 have HCA:Hid (∀ Z,Below w.heap.size w Z→Calls Tryz.prog 111 #[.agg #[.string y.nm,.int .i64 y.vd,.int .i64 y.nx,.slice pa pn pc,.slice qa qn qc],.agg #[.int .i64 m.k,.int .i64 m.u,.int .i64 m.m,.int .i64 m.f,.string m.b,.slice ia inn ic]] Z (Arm base y (.slice pa pn pc) (.slice qa qn qc) R Z)):=by
  have e:=HAA.out
  rw [HU.out.1,HU.out.2,← HY.out] at e
  exact e
 have HPB:Hid ((Value.slice pa pn pc).ownBlock ≠ some X.heap.size∧(Value.slice qa qn qc).ownBlock ≠ some X.heap.size):=by
  have e1:=(HX.out.1.2.1 k hk).1
  have e2:=(HX.out.1.2.1 k hk).2
  rw [HU.out.1] at e1
  rw [HU.out.2] at e2
  exact ⟨fun e=>by have:=(e1.lt _ e).2; omega,fun e=>by have:=(e2.lt _ e).2; omega⟩
 have hwl:w.heap.size < X.heap.size:=World.block_lt_of_cell? X _ d0
 have hgl:g < X.heap.size:=World.block_lt_of_cell? X _ q0
 go_region_with (first
  | (go_at_call 111; refine (HCA.out _ (belowA HX.out.2.1 _)).mono ?_; rintro e X' ⟨y',c,a,n1,cp,a',n2,cp',rfl,hR,hz,hnz,hg⟩; have HL:Hid (bx.Lies X' X.heap.size 85 B0 (.slice none 0 0) (.slice none 0 0)):=lies_gr2 (bx.lies_new X.drew 85 B0 (.slice none 0 0) (.slice none 0 0)) hg HPB.out.1 HPB.out.2; have HZ:Hid (Aft base y (.slice pa pn pc) (.slice qa qn qc) R X y' c (.slice a n1 cp) (.slice a' n2 cp') X'):=aft_alloc hR hz hnz hg; clear hR hz hnz hg; have r0:X'.cell? ⟨X.heap.size,0,none⟩=some (.string ⟨#[]⟩):=HL.out.c0; have r1:X'.cell? ⟨X.heap.size,0+1,none⟩=some (.int .i64 0):=HL.out.c1; have r2:X'.cell? ⟨X.heap.size,0+2,none⟩=some (.int .i64 0):=HL.out.c2; have r3:=HL.out.c3; have r4:=HL.out.c4; have fr:=HL.out.f)
  | (go_at_call 111; refine (HCA.out _ (belowD HX.out.2.1)).mono ?_; rintro e X' ⟨y',c,a,n1,cp,a',n2,cp',rfl,hR,hz,hnz,hg⟩; have HZ:Hid (Aft base y (.slice pa pn pc) (.slice qa qn qc) R X y' c (.slice a n1 cp) (.slice a' n2 cp') X'):=aft_drew hR hz hnz hg; clear hR hz hnz hg))
 all_goals (go_upto_region 7 with fail)
 all_goals (first
  | (have HV:Hid (AftV base y (.slice pa pn pc) (.slice qa qn qc) R X y' c (.slice a n1 cp) (.slice a' n2 cp') X.heap.size (put5w X' X.heap.size (.string y'.nm) (.int .i64 y'.vd) (.int .i64 y'.nx) (.slice a n1 cp) (.slice a' n2 cp'))):=aftv HZ.out HL.out (Nat.le_refl _)
     clear HL HZ r0 r1 r2 r3 r4 fr
     change Code.wp _ _ _ _ (put5w X' X.heap.size (.string y'.nm) (.int .i64 y'.vd) (.int .i64 y'.nx) (.slice a n1 cp) (.slice a' n2 cp'))
     generalize put5w _ _ _ _ _ _ _=Y at HV ⊢
     generalize X.heap.size=G at HV ⊢)
  | (have HV:Hid (AftV base y (.slice pa pn pc) (.slice qa qn qc) R X y' c (.slice a n1 cp) (.slice a' n2 cp') X'.heap.size (X'.alloc (.cells #[.string y'.nm,.int .i64 y'.vd,.int .i64 y'.nx,.slice a n1 cp,.slice a' n2 cp'] 85))):=⟨aft_new HZ.out _,bx.lies_new X' _ y' _ _,HZ.out.2.2.2.size⟩
     clear HZ
     generalize X'.alloc _=Y at HV ⊢
     generalize X'.heap.size=G at HV ⊢))
 all_goals (
  obtain ⟨u0,u1,u2,u3,u4,s0,s1,s2,s3,s4,sf⟩:=list_cells HN.out HX.out.1 hk HU.out.1 HU.out.2 HV.out.1
  have c0:=HV.out.2.1.c0
  have c1:=HV.out.2.1.c1
  have c2:=HV.out.2.1.c2
  have c3:=HV.out.2.1.c3
  have c4:=HV.out.2.1.c4
  clear d0 d1 d2 d3 d4 d5 q0 q1 q2 q3 q4 HAA HCA HPB hwl hgl
  by_cases hc:c=0
  ·subst hc
   have HE:=end_ok HN.out HX.out.1 hk HU.out.1 HU.out.2 hb HX.out.2.1 HV.out.1
   have HE:Hid _:=HE
   clear HV HX
   go_wp2
   go_ret2
   exact ⟨y',0,_,rfl,HE.out.1,fun _=>HE.out.2.1,fun e=>absurd rfl e,HE.out.2.2⟩
  ·have HE:=end_code HX.out.1 hk HY.out HU.out.1 HU.out.2 hb HX.out.2.1 HV.out.1 hc
   have HE:Hid _:=HE
   have HCC:Hid (c ≠ 0):=hc
   have hc':(c == 0)=false:=by simpa using hc
   clear HV HX hc
   go_wp2
   go_ret2
   exact ⟨y',c,us,rfl,HE.out.1,fun e=>absurd e HCC.out,fun _=>HE.out.2.1,HE.out.2.2⟩)
end Go.Proofs.YtnhcbiomkiljpaaGreatDoor.bl
