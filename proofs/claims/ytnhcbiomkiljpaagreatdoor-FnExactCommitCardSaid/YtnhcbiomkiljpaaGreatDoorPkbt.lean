/-
  Rows of items, marked by the law's own functions, and held against the marks.
  Marks of a mutation's items, whatever number they begin with.
  Lists of boxes of one's own behind marks that are written elsewhere.
  The marks of an engine; what an engine's variable leaves as it was.
  The region of Commit's law that copies both arguments, calls, and keeps what is answered.
-/
import Derived.Test.YtnhcbiomkiljpaaGreatDoorPkaa
import Derived.Test.YtnhcbiomkiljpaaGreatDoorPkad
import Derived.Test.YtnhcbiomkiljpaaGreatDoorPkaz
import Derived.Test.YtnhcbiomkiljpaaGreatDoorPkbi
import Derived.Test.YtnhcbiomkiljpaaGreatDoorPkae
import Derived.Test.YtnhcbiomkiljpaaGreatDoorPkak
import Derived.Test.YtnhcbiomkiljpaaGreatDoorPkbs
namespace Go.Proofs.YtnhcbiomkiljpaaGreatDoor.mi
open Go.RowKit
open gr mk
set_option linter.unusedVariables false
def marks (k:Int) (n:Nat):List Value:=(List.range n).map fun (i:Nat)=>Value.string (mt (k+(i:Int)))
theorem marks_len (k:Int) (n:Nat):(marks k n).length=n:=by simp [marks]
theorem marks_get {k:Int} {n j:Nat} (h:j < n):(marks k n)[j]? = some (.string (mt (k+(j:Int)))):=by simp [marks,h]
theorem grown_set (w:World) (g j:Nat) (u:Value):w.grownBy (w.setCell ⟨g,j,none⟩ u) (some g) :=
 ⟨rfl,rfl,rfl,by simp [World.setCell],fun i hi hr=>heap_setCell_other w ⟨g,j,none⟩ i u (fun e=>hr (by rw [e]))⟩
def Upto (k:Int) (j:Nat) (xs:List Value):Prop:=∀ i,i < j→xs[i]? = some (.string (mt (k+(i:Int))))
theorem upto_step {k:Int} {j:Nat} {xs:List Value} (h:Upto k j xs) (hl:j < xs.length):Upto k (j+1) (xs.set j (.string (mt (k+(j:Int))))):=by
 intro i hi
 by_cases e:i=j
 ·subst e; rw [List.getElem?_set_self hl]
 ·rw [List.getElem?_set_ne (by omega)]; exact h i (by omega)
theorem upto_all {k:Int} {n:Nat} {xs:List Value} (h:Upto k n xs) (hl:xs.length=n):xs=marks k n:=by
 refine List.ext_getElem? fun i=>?_
 by_cases hi:i < n
 ·rw [h i hi,marks_get hi]
 ·rw [List.getElem?_eq_none (by omega),List.getElem?_eq_none (by rw [marks_len]; omega)]
end Go.Proofs.YtnhcbiomkiljpaaGreatDoor.mi
namespace Go.Proofs.YtnhcbiomkiljpaaGreatDoor.sa
open Go.ChangeShapes Go.WideShapes Go.ChangeAt Go.RowKit Go.Deep Go.Joins
open st gr bx mx bl wi ml
set_option linter.unusedVariables false
set_option maxHeartbeats 2000000 in
set_option maxRecDepth 100000 in
theorem markItems_some (base n g cap:Nat) (xs0:List Value) (k:Int) (w:World) (h:w.ownsRow base 87 2 (.slice (some ⟨g,0,none⟩) n cap) n xs0) (hn:n≤1048576) (h0:0 < k) (h1:k≤100000000000000000) :
  Calls Tryz.prog 34 #[.slice (some ⟨g,0,none⟩) n cap,.int .i64 k] w fun e w'=>e=.returned (.int .i64 (k+2 * (n:Int)))∧(∃ xs,w'.ownsRow base 87 2 (.slice (some ⟨g,0,none⟩) n cap) n xs)∧w.grownBy w' (some g):=by
 have hxl:=h.1
 have HO:Hid (w.ownsRow base 87 2 (.slice (some ⟨g,0,none⟩) n cap) n xs0):=h
 clear h
 go_enter Tryz.func34,Tryz.ntmps34
 go_wp2
 go_loopw [1,5] (fun z i wr=>∃ (j:Nat) (xs:List Value),j≤n∧z=.int .i64 (k+2 * (j:Int))∧i=.int .i64 j∧xs.length=n * 2∧wr.ownsRow base 87 2 (.slice (some ⟨g,0,none⟩) n cap) n xs∧w.grownBy wr (some g)) (fun _ i _=>n - (intOf i).toNat)
 case atStart=>exact ⟨0,xs0,Nat.zero_le _,by simp,rfl,hxl,HO.out,ow.grown_refl _ _⟩
 case round =>
  clear HO
  obtain ⟨j,xs,hj,rfl,rfl,hxl2,hown,hgr⟩:=hrel
  have HL:Hid (xs.length=n * 2):=hxl2
  have HG:Hid (w.grownBy wr (some g)):=hgr
  clear hxl2 hgr
  by_cases hlt:j < n
  ·have hlt':(j:Int) < (n:Int):=by omega
   have hj0:(0:Int)≤(j:Int):=by omega
   generalize hK:k+2 * (j:Int)=K
   have hK0:0 < K:=by omega
   have hK1:K≤200000000000000000:=by omega
   have HKN:Hid (k+2 * ((j+1:Nat):Int)=K+1+1):=(show _=_ by omega)
   clear hK
   go_wp2_with fail
   refine (mark_some K _ (by omega) (by omega)).mono ?_
   rintro e w0 ⟨⟨s1,rfl⟩,hb⟩
   have o1:=ow.own_below hown hb
   have HG0:Hid (w.grownBy w0 (some g)):=ow.grown_trans HG.out (ow.grown_below hb)
   have q0:=o1.cellAt (j * 2) (by omega)
   rw [List.getElem?_eq_getElem (by rw [HL.out]; omega)] at q0
   have f0:=o1.frozenAt (j * 2)
   have HX:Hid ((w0.setCell ⟨g,j * 2,none⟩ (.string s1)).ownsRow base 87 2 (.slice (some ⟨g,0,none⟩) n cap) n (xs.set (j * 2) (.string s1))∧w.grownBy (w0.setCell ⟨g,j * 2,none⟩ (.string s1)) (some g)):=⟨(o1.stored _ _).1,ow.grown_trans HG0.out (mk.grown_set _ _ _ _)⟩
   clear o1 hown HG hb HG0
   generalize xs[j * 2]'(by rw [HL.out]; omega)=u0 at q0
   go_wp2_with fail
   clear q0 f0
   generalize hX:World.setCell _ _ _=X at HX ⊢
   clear hX
   refine (mark_some (K+1) _ (by omega) (by omega)).mono ?_
   rintro e w1 ⟨⟨s2,rfl⟩,hb⟩
   have o1:=ow.own_below HX.out.1 hb
   have HG1:Hid (w.grownBy w1 (some g)):=ow.grown_trans HX.out.2 (ow.grown_below hb)
   have q1:=o1.cellAt (j * 2+1) (by omega)
   rw [List.getElem?_eq_getElem (by rw [List.length_set,HL.out]; omega)] at q1
   have f1:=o1.frozenAt (j * 2+1)
   have HY:Hid ((w1.setCell ⟨g,j * 2+1,none⟩ (.string s2)).ownsRow base 87 2 (.slice (some ⟨g,0,none⟩) n cap) n ((xs.set (j * 2) (.string s1)).set (j * 2+1) (.string s2))∧w.grownBy (w1.setCell ⟨g,j * 2+1,none⟩ (.string s2)) (some g)):=⟨(o1.stored _ _).1,ow.grown_trans HG1.out (mk.grown_set _ _ _ _)⟩
   clear o1 HX hb HG1
   generalize (xs.set (j * 2) (.string s1))[j * 2+1]'(by rw [List.length_set,HL.out]; omega)=u1 at q1
   go_wp2
   go_roundw
   case rel=>exact ⟨j+1,_,by omega,by rw [HKN.out],by go_num,by rw [List.length_set,List.length_set]; exact HL.out,HY.out.1,HY.out.2⟩
   case measure=>simp [intOf]; omega
  ·obtain rfl:j=n:=by omega
   have HX:Hid (∃ xs,wr.ownsRow base 87 2 (.slice (some ⟨g,0,none⟩) j cap) j xs):=⟨xs,hown⟩
   go_wp2
   go_ret
   exact ⟨rfl,HX.out,HG.out⟩
set_option maxHeartbeats 2000000 in
set_option maxRecDepth 100000 in
theorem markMut_some (base n g cap:Nat) (xs0:List Value) (k:Int) (w:World) (c0 c1 c2 c3 c4:Value) (h:w.ownsRow base 87 2 (.slice (some ⟨g,0,none⟩) n cap) n xs0) (hn:n≤1048576) (h0:0 < k) (h1:k≤100000000000000000) :
  Calls Tryz.prog 14 #[.agg #[c0,c1,c2,c3,c4,.slice (some ⟨g,0,none⟩) n cap],.int .i64 k] w fun e w'=>e=.returned (.int .i64 (k+2 * (n:Int)))∧w.grownBy w' (some g):=by
 have hbw:Below w.heap.size w (w.alloc (.cells #[c0,c1,c2,c3,c4,.slice (some ⟨g,0,none⟩) n cap] 41)):=(Below.refl _ _).alloc (Nat.le_refl _) _
 have HO:Hid ((w.alloc (.cells #[c0,c1,c2,c3,c4,.slice (some ⟨g,0,none⟩) n cap] 41)).ownsRow base 87 2 (.slice (some ⟨g,0,none⟩) n cap) n xs0):=ow.own_below h hbw
 have HG:Hid (w.grownBy (w.alloc (.cells #[c0,c1,c2,c3,c4,.slice (some ⟨g,0,none⟩) n cap] 41)) (some g)):=World.grownBy_alloc _ _ _
 clear h
 go_enter Tryz.func14,Tryz.ntmps14
 go_wp2_with fail
 generalize w.alloc _=w0 at HO HG ⊢
 refine (markItems_some base n g cap xs0 k w0 HO.out hn h0 h1).mono ?_
 rintro e w1 ⟨rfl,_,hg1⟩
 have HE:Hid (w.grownBy w1 (some g)):=ow.grown_trans HG.out hg1
 clear hg1 HO HG
 go_wp2
 go_ret
 exact ⟨rfl,HE.out⟩
end Go.Proofs.YtnhcbiomkiljpaaGreatDoor.sa
namespace Go.Proofs.YtnhcbiomkiljpaaGreatDoor.sa
open Go.RowKit
open st gr bx mx bl wi ml mk
set_option linter.unusedVariables false
theorem own_mk {A B b:Nat} {w w':World} {e s n:Nat} {v:Value} {xs:List Value} (h:w.ownsRow b e s v n xs) (hm:Mk A B w w') (hB:B≤b):w'.ownsRow b e s v n xs:=by
 rcases h.2 with ⟨rfl,hz⟩ | ⟨g,cap,cur,rfl,hb,hh,r⟩
 ·exact ⟨h.1,.inl ⟨rfl,hz⟩⟩
 ·exact mu.own_block h (hm.block g (Array.getElem?_eq_some_iff.1 hh).1 (.inr (Nat.le_trans hB hb)))
theorem ownL_mk {A B b:Nat} {w w':World} {v:Value} {xs:List Bx} {vs:Nat→Value × Value} (h:OwnL w b v xs vs) (hm:Mk A B w w') (hB:B≤b):OwnL w' b v xs vs :=
 ⟨own_mk h.1 hm hB,fun j hj=>⟨own_mk (h.2.1 j hj).1 hm hB,own_mk (h.2.1 j hj).2 hm hB⟩,h.2.2⟩
theorem own_one {b g:Nat} {w w':World} {e s n:Nat} {v:Value} {xs:List Value} (h:w.ownsRow b e s v n xs) (hg:w.grownBy w' (some g)) (hl:g < b):w'.ownsRow b e s v n xs:=by
 rcases h.2 with ⟨rfl,hz⟩ | ⟨k,cap,cur,rfl,hb,hh,r⟩
 ·exact ⟨h.1,.inl ⟨rfl,hz⟩⟩
 ·exact mu.own_block h (hg.block k (Array.getElem?_eq_some_iff.1 hh).1 (fun e=>by cases e; omega))
theorem ownL_one {b g:Nat} {w w':World} {v:Value} {xs:List Bx} {vs:Nat→Value × Value} (h:OwnL w b v xs vs) (hg:w.grownBy w' (some g)) (hl:g < b):OwnL w' b v xs vs :=
 ⟨own_one h.1 hg hl,fun j hj=>⟨own_one (h.2.1 j hj).1 hg hl,own_one (h.2.1 j hj).2 hg hl⟩,h.2.2⟩
theorem own_at {b g n m c e s:Nat} {w:World} {xs:List Value} (h:w.ownsRow b e s (.slice (some ⟨g,0,none⟩) m c) n xs):b≤g∧g < w.heap.size:=by
 rcases h.2 with ⟨hz,_⟩ | ⟨k,cap,cur,hk,hb,hh,r⟩
 ·cases hz
 ·cases hk
  exact ⟨hb,(Array.getElem?_eq_some_iff.1 hh).1⟩
end Go.Proofs.YtnhcbiomkiljpaaGreatDoor.sa
namespace Go.Proofs.YtnhcbiomkiljpaaGreatDoor.eg
open Go.RowKit Go.WideShapes
open bx bl ml
set_option linter.unusedVariables false
theorem own_eng {w w':World} {B e s n g:Nat} {v:Value} {xs:List Value} {r:Int} {d:ByteArray} {t:Int} {u:Value} (h:w.ownsRow B e s v n xs) (hg:LiesE w g 35 r d t u) (he:e ≠ 35) (hw:∀ q,q ≠ g→w'.heap[q]? = w.heap[q]?):w'.ownsRow B e s v n xs:=by
 obtain ⟨h1,h2⟩:=h
 refine ⟨h1,?_⟩
 rcases h2 with h2 | ⟨g',cap,cur,e1,hb,hh,rr⟩
 ·exact .inl h2
 ·have hne:g' ≠ g:=by
   rintro rfl
   have:=hh.symm.trans hg
   injection this with this
   injection this with _ this _
   exact he this
  exact .inr ⟨g',cap,cur,e1,hb,(hw g' hne).trans hh,rr⟩
theorem ownL_eng {w w':World} {B g:Nat} {v:Value} {xs:List Bx} {vs:Nat→Value × Value} {r:Int} {d:ByteArray} {t:Int} {u:Value} (h:OwnL w B v xs vs) (hg:LiesE w g 35 r d t u) (hw:∀ q,q ≠ g→w'.heap[q]? = w.heap[q]?):OwnL w' B v xs vs :=
 ⟨own_eng h.1 hg (by decide) hw,fun j hj=>⟨own_eng (h.2.1 j hj).1 hg (by decide) hw,own_eng (h.2.1 j hj).2 hg (by decide) hw⟩,h.2.2⟩
theorem mk_alloc (A B:Nat) (w:World) (o:Obj):mx.Mk A B w (w.alloc o) :=
 ⟨rfl,rfl,rfl,by simp,fun k hk _=>Below.heap_alloc w o k hk,fun k hk=>.inl (Below.heap_alloc w o k hk)⟩
set_option maxHeartbeats 1000000 in
set_option maxRecDepth 100000 in
theorem markE_any (r:Int) (d:ByteArray) (s:Int) (A B:Nat) (xs:List Bx) (vs:Nat→Value × Value) (w:World) (h:Mine w A xs vs) (ha:mx.Ahead A B xs vs) (hs:Smalls xs) :
  Calls Tryz.prog 13 #[EV r d s (.slice (some ⟨A,0,none⟩) xs.length xs.length),.int .i64 1] w fun e w'=>(∃ z:Int,(0 < z∧z≤10000000000000)∧e=.returned (.int .i64 z))∧mx.Mk A B w w':=by
 have L0:=liesE_new w 35 r d s (.slice (some ⟨A,0,none⟩) xs.length xs.length)
 have b0:=new_below w 35 #[.int .i64 r,.string d,.int .i64 s,.slice (some ⟨A,0,none⟩) xs.length xs.length]
 have hk:=mk_alloc A B w (.cells #[.int .i64 r,.string d,.int .i64 s,.slice (some ⟨A,0,none⟩) xs.length xs.length] 35)
 have HM:Hid (Mine w A xs vs∧mx.Ahead A B xs vs∧Smalls xs):=⟨h,ha,hs⟩
 have c3:=L0.c3
 clear h ha hs L0
 unfold EV
 go_enter Tryz.func13,Tryz.ntmps13
 go_wp2_with fail
 generalize w.alloc _=w0 at b0 c3 hk ⊢
 refine (mx.markBoxS_any A B xs vs w0 (mx.mine_below HM.out.1 b0) HM.out.2.1 HM.out.2.2).mono ?_
 rintro e w1 ⟨⟨z,hz,rfl⟩,hk1⟩
 have HK:Hid (mx.Mk A B w w1):=hk.trans hk1
 clear hk hk1 b0 c3 HM
 go_wp2
 go_ret
 exact ⟨⟨z,hz,rfl⟩,HK.out⟩
set_option maxHeartbeats 1000000 in
set_option maxRecDepth 100000 in
theorem heldE_any (r:Int) (d:ByteArray) (s:Int) (L:Value) (base:Nat) (xs:List Bx) (us:Nat→Value × Value) (cs:List Value) (w:World) (h:MB w base L xs us xs.length cs) (hf:Few xs) (hL:∃ a n c,L=.slice a n c) :
  Calls Tryz.prog 15 #[EV r d s L,.int .i64 1] w fun e w'=>e=.returned (.int .i64 (kAt xs xs.length))∧Below w.heap.size w w':=by
 obtain ⟨La,Ln,Lc,rfl⟩:=hL
 have L0:=liesE_new w 35 r d s (.slice La Ln Lc)
 have b0:=new_below w 35 #[.int .i64 r,.string d,.int .i64 s,.slice La Ln Lc]
 have HM:Hid (MB w base (.slice La Ln Lc) xs us xs.length cs∧Few xs):=⟨h,hf⟩
 have c3:=L0.c3
 have hQ0:=(kAt_in hf (Nat.le_refl xs.length)).1
 obtain ⟨Q,hQ⟩:∃ Q,kAt xs xs.length=Q:=⟨_,rfl⟩
 rw [hQ] at hQ0 ⊢
 have HQ:Hid (kAt xs xs.length=Q):=hQ
 clear h hf L0 hQ
 unfold EV
 go_enter Tryz.func15,Tryz.ntmps15
 go_wp2_with fail
 generalize w.alloc _=w0 at b0 c3 ⊢
 refine (heldBoxS_any _ base xs us cs w0 (mb_below HM.out.1 b0) HM.out.2).mono ?_
 rintro e w1 ⟨rfl,hb1⟩
 have HK:Hid (Below w.heap.size w w1):=b0.trans (hb1.mono b0.size)
 clear hb1 b0 c3 HM
 rw [HQ.out]
 have hQn:decide (Q < 0)=false:=decide_eq_false (by omega)
 go_wp2
 go_ret
 exact ⟨rfl,HK.out⟩
end Go.Proofs.YtnhcbiomkiljpaaGreatDoor.eg
namespace Go.Proofs.YtnhcbiomkiljpaaGreatDoor.eg
open Go.RowKit Go.WideShapes
open bx bl ml
set_option linter.unusedVariables false
structure JC (W:World) (AGE AGM:Value) (r:Int) (d:ByteArray) (s:Int) (xs:List Bx) (x:mu.Mu) (D:Nat→Prop) (f:Nat→Value) (X:World):Prop where
 bel:Below W.heap.size W X
 p0:D 0→f 0=AGE
 p1:D 1→¬ D 4→∃ B us,f 1=.agg #[.int .i64 r,.string d,.int .i64 s,.slice (some ⟨B,0,none⟩) xs.length xs.length]∧BoxesAt X (.slice (some ⟨B,0,none⟩) xs.length xs.length) xs us∧Fines xs us∧∀ j,j < xs.length→∀ a n c,(us j).2=.slice a n c→n≤c
 p2:D 2→f 2=AGM
 p3:D 3→¬ D 4→∃ g,f 3=mu.MV x (.slice (some ⟨g,0,none⟩) x.ps.length x.ps.length)∧it.AttrsAt X (.slice (some ⟨g,0,none⟩) x.ps.length x.ps.length) x.ps
 p8:D 8→∃ g,f 8=.pointer (some ⟨g,0,none⟩)∧W.heap.size≤g∧(¬ D 9→LiesE X g 35 0 ⟨#[]⟩ 0 (.slice none 0 0))
 p4:D 4→∃ (r':Int) (d':ByteArray) (s':Int) (La:Option Addr) (Ln Lc:Nat) (ys:List Bx) (us:Nat→Value × Value) (c:Int),f 4=.tuple #[.agg #[.int .i64 r',.string d',.int .i64 s',.slice La Ln Lc],.int .i64 c]∧Cm r d s xs x r' d' s' ys c∧OwnL X W.heap.size (.slice La Ln Lc) ys us ∧
  (D 5→f 5=.tuple #[.agg #[.int .i64 r',.string d',.int .i64 s',.slice La Ln Lc],.int .i64 c])∧(D 6→f 6=.agg #[.int .i64 r',.string d',.int .i64 s',.slice La Ln Lc])∧(D 7→f 7=.int .i64 c)∧(D 10→f 10=.int .i64 c)∧(D 9→∃ g,f 8=.pointer (some ⟨g,0,none⟩)∧LiesE X g 35 r' d' s' (.slice La Ln Lc))
section
variable {W:World} {AGE AGM:Value} {r:Int} {d:ByteArray} {s:Int} {xs:List Bx} {x:mu.Mu} {D:Nat→Prop} {f:Nat→Value} {X X':World}
theorem JC.start (X:World) (hb:Below W.heap.size W X) (f:Nat→Value):JC W AGE AGM r d s xs x (fun _=>False) f X :=
 ⟨hb,fun h=>h.elim,fun h=>h.elim,fun h=>h.elim,fun h=>h.elim,fun h=>h.elim,fun h=>h.elim⟩
theorem JC.below (h:JC W AGE AGM r d s xs x D f X) (hb:Below X.heap.size X X'):JC W AGE AGM r d s xs x D f X':=by
 refine ⟨h.bel.trans (hb.mono h.bel.size),h.p0,fun a b=>?_,h.p2,fun a b=>?_,fun a=>?_,fun a=>?_⟩
 ·obtain ⟨B,us,e,h1,h2,h3⟩:=h.p1 a b
  exact ⟨B,us,e,boxes_below h1 hb,h2,h3⟩
 ·obtain ⟨g,e,h1⟩:=h.p3 a b
  exact ⟨g,e,it.at_below h1 hb⟩
 ·obtain ⟨g,e,hg,h1⟩:=h.p8 a
  exact ⟨g,e,hg,fun n=>(h1 n).keep hb⟩
 ·obtain ⟨r',d',s',La,Ln,Lc,ys,us,c,e,hC,hO,h5,h6,h7,h10,h9⟩:=h.p4 a
  exact ⟨r',d',s',La,Ln,Lc,ys,us,c,e,hC,ownL_below hO hb,h5,h6,h7,h10,fun n=>by obtain ⟨g,e,h1⟩:=h9 n; exact ⟨g,e,h1.keep hb⟩⟩
theorem JC.op0 (h:JC W AGE AGM r d s xs x D f X):JC W AGE AGM r d s xs x (fun j=>j=0 ∨ D j) (rs.upd f 0 AGE) X :=
 ⟨h.bel,fun _=>by simp [rs.upd],by simpa [rs.upd] using h.p1,by simpa [rs.upd] using h.p2,by simpa [rs.upd] using h.p3,by simpa [rs.upd] using h.p8,by simpa [rs.upd] using h.p4⟩
theorem JC.op2 (h:JC W AGE AGM r d s xs x D f X):JC W AGE AGM r d s xs x (fun j=>j=2 ∨ D j) (rs.upd f 2 AGM) X :=
 ⟨h.bel,by simpa [rs.upd] using h.p0,by simpa [rs.upd] using h.p1,fun _=>by simp [rs.upd],by simpa [rs.upd] using h.p3,by simpa [rs.upd] using h.p8,by simpa [rs.upd] using h.p4⟩
theorem JC.op1 (h:JC W AGE AGM r d s xs x D f X) {B:Nat} {us:Nat→Value × Value} (h1:BoxesAt X (.slice (some ⟨B,0,none⟩) xs.length xs.length) xs us) (h2:Fines xs us) (h3:∀ j,j < xs.length→∀ a n c,(us j).2=.slice a n c→n≤c):JC W AGE AGM r d s xs x (fun j=>j=1 ∨ D j) (rs.upd f 1 (.agg #[.int .i64 r,.string d,.int .i64 s,.slice (some ⟨B,0,none⟩) xs.length xs.length])) X :=
 ⟨h.bel,by simpa [rs.upd] using h.p0,fun _ _=>⟨B,us,by simp [rs.upd],h1,h2,h3⟩,by simpa [rs.upd] using h.p2,by simpa [rs.upd] using h.p3,by simpa [rs.upd] using h.p8,by simpa [rs.upd] using h.p4⟩
theorem JC.op3 (h:JC W AGE AGM r d s xs x D f X) {g:Nat} (h1:it.AttrsAt X (.slice (some ⟨g,0,none⟩) x.ps.length x.ps.length) x.ps):JC W AGE AGM r d s xs x (fun j=>j=3 ∨ D j) (rs.upd f 3 (mu.MV x (.slice (some ⟨g,0,none⟩) x.ps.length x.ps.length))) X :=
 ⟨h.bel,by simpa [rs.upd] using h.p0,by simpa [rs.upd] using h.p1,by simpa [rs.upd] using h.p2,fun _ _=>⟨g,by simp [rs.upd],h1⟩,by simpa [rs.upd] using h.p8,by simpa [rs.upd] using h.p4⟩
theorem JC.op4 (h:JC W AGE AGM r d s xs x D f X) (n5:¬ D 5) (n6:¬ D 6) (n7:¬ D 7) (n9:¬ D 9) (n10:¬ D 10) {r':Int} {d':ByteArray} {s':Int} {La:Option Addr} {Ln Lc:Nat} {ys:List Bx} {us:Nat→Value × Value} {c:Int} (hC:Cm r d s xs x r' d' s' ys c) (hO:OwnL X W.heap.size (.slice La Ln Lc) ys us):JC W AGE AGM r d s xs x (fun j=>j=4 ∨ D j) (rs.upd f 4 (.tuple #[.agg #[.int .i64 r',.string d',.int .i64 s',.slice La Ln Lc],.int .i64 c])) X :=
 ⟨h.bel,by simpa [rs.upd] using h.p0,fun _ n=>absurd (.inl rfl) n,by simpa [rs.upd] using h.p2,fun _ n=>absurd (.inl rfl) n,by simpa [rs.upd] using h.p8,fun _=>⟨r',d',s',La,Ln,Lc,ys,us,c,by simp [rs.upd],hC,hO,by simp [n5],by simp [n6],by simp [n7],by simp [n10],by simp [n9]⟩⟩
theorem JC.op8 (h:JC W AGE AGM r d s xs x D f X) (n9:¬ D 9) {g:Nat} (hg:W.heap.size≤g) (h1:LiesE X g 35 0 ⟨#[]⟩ 0 (.slice none 0 0)):JC W AGE AGM r d s xs x (fun j=>j=8 ∨ D j) (rs.upd f 8 (.pointer (some ⟨g,0,none⟩))) X :=
 ⟨h.bel,by simpa [rs.upd] using h.p0,by simpa [rs.upd] using h.p1,by simpa [rs.upd] using h.p2,by simpa [rs.upd] using h.p3,fun _=>⟨g,by simp [rs.upd],hg,fun _=>h1⟩,fun a=>by
  obtain ⟨r',d',s',La,Ln,Lc,ys,us,c,e,hC,hO,h5,h6,h7,h10,h9⟩:=h.p4 (by simpa using a)
  exact ⟨r',d',s',La,Ln,Lc,ys,us,c,by simpa [rs.upd] using e,hC,hO,by simpa [rs.upd] using h5,by simpa [rs.upd] using h6,by simpa [rs.upd] using h7,by simpa [rs.upd] using h10,by simp [n9]⟩⟩
end
end Go.Proofs.YtnhcbiomkiljpaaGreatDoor.eg
