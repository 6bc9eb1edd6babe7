/-
  Items as an argument, opened.
  A mutation as an argument: opened; measured, copied and compared by the law's own functions.
  The laws' own copies of items and of mutations: their rows are their own memory.
-/
import Derived.Test.YtnhcbiomkiljpaaGreatDoorPkad
import Derived.WalkKit
import Derived.ProofKit
import Derived.OpenShut
import Derived.ChangeOld
import Derived.Below
import Derived.Lib.SmallJoins
import Derived.Deep.SlicePairs
import Derived.Deep.Fields
import Derived.Deep.Slices
namespace Go.Proofs.YtnhcbiomkiljpaaGreatDoor.it
open Go.ChangeShapes Go.WideShapes Go.ChangeAt Go.RowKit Go.Joins Go.Deep
set_option linter.unusedVariables false
def str:Value→ByteArray
 | .string s=>s
 | _=>⟨#[]⟩
section
variable {H:Type} {enc:TypeId × Value→H} {w:World} {base:Nat} {spare:Nat→Bool} {held:Bool}
theorem open_attrs {fuel:Nat} {v:Value} {x:DataW H × List MemPlace} (h:DataW.trod enc Tryz.prog w base spare held fuel 27 [v]=some x) :
  ∃ ps:List Pr,AttrsAt w v ps∧ps.length≤maxLen∧∀ j,j < ps.length→(ps.getD j no).1.size≤maxLen∧(ps.getD j no).2.size≤maxLen:=by
 rcases open_slice_pairs Tryz.underlying27 Tryz.underlying74 (by kernel_rfl) rfl rfl (by kernel_rfl) (by kernel_rfl) h with ⟨hc,_⟩ | ⟨a,len,cap,m,k,V0,V1,D0,D1,P0,P1,hc,_,hl,hm,hmm,_,hall⟩
 ·cases hc
  exact ⟨[],⟨none,0,rfl,.inl rfl⟩,Nat.zero_le _,fun j hj=>absurd hj (Nat.not_lt_zero _)⟩
 ·cases hc
  have hml:len≤m:=by rw [hmm]; split <;> omega
  have hstr:∀ i,i < len→∃ s t:ByteArray,V0 i=.string s∧V1 i=.string t∧s.size≤maxLen∧t.size≤maxLen∧w.cell? (a.add (i * 2))=some (.string s)∧w.cell? (a.add (i * 2+1))=some (.string t):=by
   intro i hi
   obtain ⟨h0,h1,t0,t1⟩:=hall i (by omega)
   obtain ⟨s,e0,_,s0⟩:=DataW.trod_string Tryz.underlying9 t0
   obtain ⟨t,e1,_,s1⟩:=DataW.trod_string Tryz.underlying9 t1
   simp only [List.cons.injEq,and_true] at e0 e1
   exact ⟨s,t,e0,e1,s0,s1,by rw [h0,e0],by rw [h1,e1]⟩
  have hget:∀ j,j < len→((List.range len).map fun i=>(str (V0 i),str (V1 i))).getD j no=(str (V0 j),str (V1 j)):=by
   intro j hj
   simp [List.getD_eq_getElem?_getD,hj]
  refine ⟨(List.range len).map fun i=>(str (V0 i),str (V1 i)),⟨some a,cap,by simp,?_⟩,by simp; omega,?_⟩
  ·by_cases h0:len=0
   ·left; simp [h0]
   ·right
    obtain ⟨s,t,e0,e1,s0,s1,c0,c1⟩:=hstr 0 (by omega)
    obtain ⟨b,off,spot⟩:=a
    have hspot:spot=none:=by simpa [Addr.add] using World.cell?_spot c0
    subst hspot
    refine ⟨b,off,rfl,fun j hj=>?_⟩
    have hj':j < len:=by simpa using hj
    obtain ⟨s,t,e0,e1,s0,s1,c0,c1⟩:=hstr j hj'
    rw [hget j hj',e0,e1]
    rw [show ((⟨b,off,none⟩:Addr).add (j * 2))=⟨b,off+j * 2,none⟩ from by simp [Addr.add]] at c0
    rw [show ((⟨b,off,none⟩:Addr).add (j * 2+1))=⟨b,off+j * 2+1,none⟩ from by simp [Addr.add,Nat.add_assoc]] at c1
    exact ⟨c0,c1⟩
  ·intro j hj
   have hj':j < len:=by simpa using hj
   obtain ⟨s,t,e0,e1,s0,s1,c0,c1⟩:=hstr j hj'
   rw [hget j hj',e0,e1]
   exact ⟨s0,s1⟩
end
end Go.Proofs.YtnhcbiomkiljpaaGreatDoor.it
namespace Go.Proofs.YtnhcbiomkiljpaaGreatDoor.mu
open Go.ChangeShapes Go.WideShapes Go.ChangeAt Go.RowKit Go.Deep Go.Joins
open it
set_option linter.unusedVariables false
structure Mu where
 k:Int
 u:Int
 m:Int
 f:Int
 b:ByteArray
 ps:List Pr
def MV (x:Mu) (v:Value):Value:=.agg #[.int .i64 x.k,.int .i64 x.u,.int .i64 x.m,.int .i64 x.f,.string x.b,v]
def In (z:Int):Prop:=-9223372036854775808≤z∧z≤9223372036854775807
theorem in_of_wf {z:Int} (h:(Lit.int .i64 z).wf=true):In z:=by
 have h1:IntKind.i64.min=-9223372036854775808:=rfl
 have h2:IntKind.i64.max=9223372036854775807:=rfl
 simp [Lit.wf,h1,h2] at h
 exact ⟨by omega,by omega⟩
def Ins (x:Mu):Prop:=In x.k∧In x.u∧In x.m∧In x.f
def Small (x:Mu):Prop:=Ins x∧x.b.size≤1048576∧it.Small x.ps
def Held (x:Mu):Prop:=Ins x∧x.b.size≤maxLen∧x.ps.length≤maxLen∧∀ j,j < x.ps.length→(x.ps.getD j no).1.size≤maxLen∧(x.ps.getD j no).2.size≤maxLen
theorem six_list {α:Type} {l:List α} (h:l.length=6):∃ a b c d e f,l=[a,b,c,d,e,f]:=by
 match l,h with
 | [a,b,c,d,e,f],_=>exact ⟨a,b,c,d,e,f,rfl⟩
section
variable {H:Type} {enc:TypeId × Value→H} {w:World} {base:Nat} {spare:Nat→Bool} {held:Bool}
theorem trod_cells {T:TypeId} {fs:Array Field} {fuel:Nat} {cs:List Value} {x:DataW H × List MemPlace} (hs:Tryz.prog.underlying T=some (.struct fs)) (hone:oneCellFields Tryz.prog fs=true) (hc:Tryz.prog.cellsOf T=fs.size) (h:DataW.trod enc Tryz.prog w base spare held fuel T cs=some x) :
  cs.length=fs.size∧∃ n,∀ (j:Nat) (f:Field) (c:Value),fs[j]? = some f→cs[j]? = some c→∃ y,DataW.trod enc Tryz.prog w base spare held n f.type [c]=some y:=by
 obtain ⟨xs,n,_,hx,hcl,hlen,hf⟩:=DataW.trod_struct hs h
 rw [hc] at hcl
 refine ⟨hcl,n,fun j f c hfj hcj=>?_⟩
 have hh:=hf j f hfj
 obtain ⟨o,k⟩:=hone_of hone j f hfj
 rw [o,k] at hh
 have hj:j < xs.length:=by
  rw [hlen]
  exact (Array.getElem?_eq_some_iff.1 hfj).1
 have ht:(cs.drop j).take 1=[c]:=by
  obtain ⟨hj2,e⟩:=List.getElem?_eq_some_iff.1 hcj
  rw [List.drop_eq_getElem_cons hj2,e]
  rfl
 rw [ht,List.getElem?_eq_getElem hj] at hh
 exact ⟨_,hh⟩
set_option maxRecDepth 100000 in
theorem open_mut {r:Reach} {b0:Nat} {v:Value} {d:DataW H} {p:List MemPlace} (hv:Value.okWide Tryz.prog w r b0 29 v) (h:DataW.Trod enc Tryz.prog w base spare held 29 v d p) :
  ∃ (x:Mu) (u:Value),v=MV x u∧AttrsAt w u x.ps∧Held x:=by
 obtain ⟨cs,rfl,hsz⟩:=okWide_struct Tryz.underlying29 hv
 obtain ⟨fuel,hf⟩:=h
 obtain ⟨hl,n,hall⟩:=trod_cells Tryz.underlying29 (by kernel_rfl) (by kernel_rfl) hf
 have hl':cs.toList.length=6:=by simpa [Value.cells] using hl
 have hcs:(Value.agg cs).cells.toList=cs.toList:=by simp [Value.cells]
 rw [hcs] at hall
 obtain ⟨c0,c1,c2,c3,c4,c5,hc⟩:=six_list hl'
 rw [hc] at hall
 obtain ⟨y0,t0⟩:=hall 0 _ _ rfl rfl
 obtain ⟨y1,t1⟩:=hall 1 _ _ rfl rfl
 obtain ⟨y2,t2⟩:=hall 2 _ _ rfl rfl
 obtain ⟨y3,t3⟩:=hall 3 _ _ rfl rfl
 obtain ⟨y4,t4⟩:=hall 4 _ _ rfl rfl
 obtain ⟨y5,t5⟩:=hall 5 _ _ rfl rfl
 obtain ⟨z0,e0,_,f0⟩:=DataW.trod_int Tryz.underlying3 t0
 obtain ⟨z1,e1,_,f1⟩:=DataW.trod_int Tryz.underlying3 t1
 obtain ⟨z2,e2,_,f2⟩:=DataW.trod_int Tryz.underlying3 t2
 obtain ⟨z3,e3,_,f3⟩:=DataW.trod_int Tryz.underlying3 t3
 obtain ⟨s4,e4,_,f4⟩:=DataW.trod_string Tryz.underlying9 t4
 obtain ⟨ps,hat,hpl,hps⟩:=open_attrs t5
 simp only [List.cons.injEq,and_true] at e0 e1 e2 e3 e4
 subst e0 e1 e2 e3 e4
 refine ⟨⟨z0,z1,z2,z3,s4,ps⟩,c5,?_,hat,⟨in_of_wf f0,in_of_wf f1,in_of_wf f2,in_of_wf f3⟩,f4,hpl,hps⟩
 exact congrArg Value.agg (Array.toList_inj.1 hc)
end
def Lies (w:World) (b:Nat) (T:TypeId) (x:Mu) (v:Value):Prop:=w.heap[b]? = some (.cells #[.int .i64 x.k,.int .i64 x.u,.int .i64 x.m,.int .i64 x.f,.string x.b,v] T (0,0))
section
variable {w w':World} {b:Nat} {T:TypeId} {x:Mu} {v:Value}
theorem Lies.c0 (h:Lies w b T x v):w.cell? ⟨b,0,none⟩=some (.int .i64 x.k):=by rw [cell_of_row w _ _ _ _ _ h]; rfl
theorem Lies.c1 (h:Lies w b T x v):w.cell? ⟨b,0+1,none⟩=some (.int .i64 x.u):=by rw [cell_of_row w _ _ _ _ _ h]; rfl
theorem Lies.c2 (h:Lies w b T x v):w.cell? ⟨b,0+2,none⟩=some (.int .i64 x.m):=by rw [cell_of_row w _ _ _ _ _ h]; rfl
theorem Lies.c3 (h:Lies w b T x v):w.cell? ⟨b,0+3,none⟩=some (.int .i64 x.f):=by rw [cell_of_row w _ _ _ _ _ h]; rfl
theorem Lies.c4 (h:Lies w b T x v):w.cell? ⟨b,0+4,none⟩=some (.string x.b):=by rw [cell_of_row w _ _ _ _ _ h]; rfl
theorem Lies.c5 (h:Lies w b T x v):w.cell? ⟨b,0+5,none⟩=some v:=by rw [cell_of_row w _ _ _ _ _ h]; rfl
theorem Lies.lt (h:Lies w b T x v):b < w.heap.size:=World.block_lt_of_cell? w _ h.c0
theorem Lies.keep (h:Lies w b T x v) (hb:Below w.heap.size w w'):Lies w' b T x v:=(hb.block b h.lt).trans h
theorem lies_new (w:World) (T:TypeId) (x:Mu) (v:Value):Lies (w.alloc (.cells #[.int .i64 x.k,.int .i64 x.u,.int .i64 x.m,.int .i64 x.f,.string x.b,v] T)) w.heap.size T x v:=by show (w.heap.push _)[w.heap.size]? = _; simp
theorem new_below (w:World) (T:TypeId) (cs:Array Value):Below w.heap.size w (w.alloc (.cells cs T)):=(Below.refl _ _).alloc (Nat.le_refl _) _
end
set_option maxHeartbeats 1000000 in
set_option maxRecDepth 100000 in
theorem szMut_any (x:Mu) (v:Value) (left:Int) (w:World) (h:AttrsAt w v x.ps) (h0:0≤left) (h1:left≤1048576) (hh:Held x) :
  Calls Tryz.prog 6 #[MV x v,.int .i64 left] w fun e w'=>(∃ z:Int,e=.returned (.int .i64 z)∧z≤left∧-1≤z∧(0≤z→Small x))∧Below w.heap.size w w':=by
 have hbw:=new_below w 29 #[.int .i64 x.k,.int .i64 x.u,.int .i64 x.m,.int .i64 x.f,.string x.b,v]
 have H2:Hid (AttrsAt (w.alloc (.cells #[.int .i64 x.k,.int .i64 x.u,.int .i64 x.m,.int .i64 x.f,.string x.b,v] 29)) v x.ps):=at_below h hbw
 obtain ⟨a,cap,rfl,_⟩:=h
 obtain ⟨k,u,m,f,b,ps⟩:=x
 obtain ⟨hi,hb,hl,hs⟩:=hh
 unfold MV
 simp only at *
 have hb':b.size≤9223372036854775807:=hb
 have HS:Hid (∀ j,j < ps.length→(ps.getD j no).1.size≤maxLen∧(ps.getD j no).2.size≤maxLen):=hs
 have HI:Hid (Ins ⟨k,u,m,f,b,ps⟩):=hi
 clear hs hi
 by_cases g0:left - (b.size:Int) < 0
 ·go_enter Tryz.func6,Tryz.ntmps6
  go_wp2
  go_ret
  exact ⟨⟨-1,rfl,by omega,by omega,by omega⟩,hbw⟩
 go_enter Tryz.func6,Tryz.ntmps6
 go_wp2_with fail
 refine (szAttrS_any _ ps _ _ H2.out (by omega) (by omega) hl HS.out).mono ?_
 rintro e w2 ⟨⟨z,rfl,hz0,hz1,hz2⟩,hb2⟩
 have HZ:Hid (0≤z→it.Small ps):=hz2
 have hb3:=hbw.trans (hb2.mono hbw.size)
 clear hz2 H2 HS hbw hb2
 by_cases hz:z < 0
 ·go_wp2
  go_ret
  exact ⟨⟨-1,rfl,by omega,by omega,by omega⟩,hb3⟩
 ·go_wp2
  go_ret
  exact ⟨⟨_,rfl,by omega,by omega,fun _=>⟨HI.out,by show b.size≤_; omega,HZ.out (by omega)⟩⟩,hb3⟩
theorem heap_new (w:World) (o:Obj):(w.alloc o).heap[w.heap.size]? = some o:=(MapKept.heap_alloc w _).1
theorem new1 (w:World) (o0 o1 o2:Obj):(((w.alloc o0).alloc o1).alloc o2).heap[w.heap.size+1]? = some o1:=by
 have h:=heap_new (w.alloc o0) o1
 rw [show (w.alloc o0).heap.size=w.heap.size+1 by simp] at h
 rw [Below.heap_alloc _ _ _ (by simp),h]
theorem new2 (w:World) (o0 o1 o2:Obj):(((w.alloc o0).alloc o1).alloc o2).heap[w.heap.size+1+1]? = some o2:=by
 have h:=heap_new ((w.alloc o0).alloc o1) o2
 rw [show ((w.alloc o0).alloc o1).heap.size=w.heap.size+1+1 by simp] at h
 exact h
def fin (w2:World) (b:Nat) (x:Mu) (V:Value):World:=((((((w2.setCell ⟨b+1+1,5,none⟩ V).setCell ⟨b+1,0,none⟩ (.int .i64 x.k)).setCell ⟨b+1,1,none⟩ (.int .i64 x.u)).setCell ⟨b+1,2,none⟩ (.int .i64 x.m)).setCell ⟨b+1,3,none⟩ (.int .i64 x.f)).setCell ⟨b+1,4,none⟩ (.string x.b)).setCell ⟨b+1,5,none⟩ V
theorem fin_block {w2:World} {b:Nat} {T:TypeId} {u0 u1 u2 u3 u4 u5:Value} (h:w2.heap[b+1]? = some (.cells #[u0,u1,u2,u3,u4,u5] T (0,0))) (x:Mu) (V:Value):Lies (fin w2 b x V) (b+1) T x V:=by
 have M1:=(heap_setCell_other w2 ⟨b+1+1,5,none⟩ (b+1) V (by simp)).trans h
 have M2:=heap_setCell_same _ (b+1) 0 _ _ (.int .i64 x.k) M1
 have M3:=heap_setCell_same _ (b+1) 1 _ _ (.int .i64 x.u) M2
 have M4:=heap_setCell_same _ (b+1) 2 _ _ (.int .i64 x.m) M3
 have M5:=heap_setCell_same _ (b+1) 3 _ _ (.int .i64 x.f) M4
 have M6:=heap_setCell_same _ (b+1) 4 _ _ (.string x.b) M5
 exact heap_setCell_same _ (b+1) 5 _ _ V M6
theorem fin_other (w2:World) (b g:Nat) (x:Mu) (V:Value) (h1:g ≠ b+1) (h2:g ≠ b+1+1):(fin w2 b x V).heap[g]? = w2.heap[g]?:=by
 unfold fin
 rw [heap_setCell_other _ _ _ _ h1,heap_setCell_other _ _ _ _ h1,heap_setCell_other _ _ _ _ h1,heap_setCell_other _ _ _ _ h1,heap_setCell_other _ _ _ _ h1,heap_setCell_other _ _ _ _ h1,heap_setCell_other _ _ _ _ h2]
theorem fin_below {w w2:World} {b:Nat} (h:Below b w w2) (x:Mu) (V:Value):Below b w (fin w2 b x V):=by
 unfold fin
 exact ((((((h.setCell (by simp; omega) _).setCell (by simp) _).setCell (by simp) _).setCell (by simp) _).setCell (by simp) _).setCell (by simp) _).setCell (by simp) _
theorem at_other {w w':World} {g n cap:Nat} {ps:List Pr} (h:AttrsAt w (.slice (some ⟨g,0,none⟩) n cap) ps) (hb:w'.heap[g]? = w.heap[g]?):AttrsAt w' (.slice (some ⟨g,0,none⟩) n cap) ps:=by
 obtain ⟨a,cp,e,h⟩:=h
 refine ⟨a,cp,e,?_⟩
 rcases h with h | ⟨b,off,rfl,h⟩
 ·exact .inl h
 ·cases e
  refine .inr ⟨g,0,rfl,fun j hj=>?_⟩
  obtain ⟨h0,h1⟩:=h j hj
  exact ⟨by rw [← h0]; simp only [World.cell?,hb],by rw [← h1]; simp only [World.cell?,hb]⟩
set_option maxHeartbeats 2000000 in
set_option maxRecDepth 100000 in
theorem toMut_any (x:Mu) (v:Value) (w:World) (h:AttrsAt w v x.ps) (hn:x.ps.length≤1048576) :
  Calls Tryz.prog 9 #[MV x v] w fun e w'=>∃ g,e=.returned (MV x (.slice (some ⟨g,0,none⟩) x.ps.length x.ps.length))∧AttrsAt w' (.slice (some ⟨g,0,none⟩) x.ps.length x.ps.length) x.ps∧Below w.heap.size w w':=by
 have HB:Hid (AttrsAt w v x.ps):=h
 obtain ⟨a,cap,rfl,_⟩:=h
 obtain ⟨W,hW⟩:∃ W,W=(((w.alloc (.cells #[.int .i64 x.k,.int .i64 x.u,.int .i64 x.m,.int .i64 x.f,.string x.b,.slice a x.ps.length cap] 29)).alloc (.cells #[.int .i64 0,.int .i64 0,.int .i64 0,.int .i64 0,.string ⟨#[]⟩,.slice none 0 0] 41)).alloc (.cells #[.int .i64 x.k,.int .i64 x.u,.int .i64 x.m,.int .i64 x.f,.string x.b,.slice none 0 0] 41)):=⟨_,rfl⟩
 unfold MV
 obtain ⟨k,u,m,f,b,ps⟩:=x
 simp only at *
 go_enter Tryz.func9,Tryz.ntmps9
 go_wp2_with fail
 have b3:Below w.heap.size w W:=by rw [hW]; exact ((new_below w _ _).alloc (by simp) _).alloc (by simp; omega) _
 have sz:W.heap.size=w.heap.size+3:=by rw [hW]; simp
 have k1:W.heap[w.heap.size+1]? = some (.cells #[.int .i64 0,.int .i64 0,.int .i64 0,.int .i64 0,.string ⟨#[]⟩,.slice none 0 0] 41 (0,0)):=by rw [hW]; exact new1 _ _ _ _
 have k2:Lies W (w.heap.size+1+1) 41 ⟨k,u,m,f,b,ps⟩ (.slice none 0 0):=by rw [hW]; exact new2 _ _ _ _
 rw [← hW]
 have HA:Hid (AttrsAt W (.slice a ps.length cap) ps):=at_below HB.out b3
 clear HB hW
 refine (toAttrS_any _ ps _ HA.out hn).mono ?_
 rintro e w2 ⟨rfl,hv',hb2⟩
 have HV:Hid (AttrsAt w2 (.slice (some ⟨W.heap.size,0,none⟩) ps.length ps.length) ps):=hv'
 clear hv'
 have m1:=(hb2.block (w.heap.size+1) (by omega)).trans k1
 have m2:=k2.keep hb2
 have b4:=b3.trans (hb2.mono b3.size)
 clear k1 k2 HA hb2 b3
 have c10:w2.cell? ⟨w.heap.size+1,0,none⟩=some (.int .i64 0):=by rw [cell_of_row w2 _ _ _ _ _ m1]; rfl
 have c11:w2.cell? ⟨w.heap.size+1,0+1,none⟩=some (.int .i64 0):=by rw [cell_of_row w2 _ _ _ _ _ m1]; rfl
 have c12:w2.cell? ⟨w.heap.size+1,0+2,none⟩=some (.int .i64 0):=by rw [cell_of_row w2 _ _ _ _ _ m1]; rfl
 have c13:w2.cell? ⟨w.heap.size+1,0+3,none⟩=some (.int .i64 0):=by rw [cell_of_row w2 _ _ _ _ _ m1]; rfl
 have c14:w2.cell? ⟨w.heap.size+1,0+4,none⟩=some (.string ⟨#[]⟩):=by rw [cell_of_row w2 _ _ _ _ _ m1]; rfl
 have c15:w2.cell? ⟨w.heap.size+1,0+5,none⟩=some (.slice none 0 0):=by rw [cell_of_row w2 _ _ _ _ _ m1]; rfl
 have c20:=m2.c0
 have c21:=m2.c1
 have c22:=m2.c2
 have c23:=m2.c3
 have c24:=m2.c4
 have c25:=m2.c5
 have f1:∀ j,w2.frozen? ⟨w.heap.size+1,j,none⟩=false:=fun j=>frozen_of_row w2 _ j _ _ m1
 have f2:∀ j,w2.frozen? ⟨w.heap.size+1+1,j,none⟩=false:=fun j=>frozen_of_row w2 _ j _ _ m2
 have HM1:Hid (w2.heap[w.heap.size+1]? = some (.cells #[.int .i64 0,.int .i64 0,.int .i64 0,.int .i64 0,.string ⟨#[]⟩,.slice none 0 0] 41 (0,0))):=m1
 have HSZ:Hid (W.heap.size=w.heap.size+3):=sz
 clear m1 m2 sz
 simp only at c20 c21 c22 c23 c24 c25
 go_wp2
 have M5:=fin_block HM1.out ⟨k,u,m,f,b,ps⟩ (.slice (some ⟨W.heap.size,0,none⟩) ps.length ps.length)
 have b5:=fin_below b4 ⟨k,u,m,f,b,ps⟩ (.slice (some ⟨W.heap.size,0,none⟩) ps.length ps.length)
 have hat:=at_other HV.out (fin_other w2 w.heap.size W.heap.size ⟨k,u,m,f,b,ps⟩ (.slice (some ⟨W.heap.size,0,none⟩) ps.length ps.length) (by rw [HSZ.out]; omega) (by rw [HSZ.out]; omega))
 clear c10 c11 c12 c13 c14 c15 c20 c21 c22 c23 c24 c25 f1 f2 HV b4 HM1
 change bodyPost _ _ _ _ _ (fin w2 w.heap.size ⟨k,u,m,f,b,ps⟩ (.slice (some ⟨W.heap.size,0,none⟩) ps.length ps.length))
 generalize fin w2 w.heap.size ⟨k,u,m,f,b,ps⟩ (.slice (some ⟨W.heap.size,0,none⟩) ps.length ps.length)=X at M5 b5 hat ⊢
 have x0:X.cell? ⟨w.heap.size+1,0,none⟩=some (.int .i64 k):=M5.c0
 have x1:X.cell? ⟨w.heap.size+1,1,none⟩=some (.int .i64 u):=M5.c1
 have x2:X.cell? ⟨w.heap.size+1,2,none⟩=some (.int .i64 m):=M5.c2
 have x3:X.cell? ⟨w.heap.size+1,3,none⟩=some (.int .i64 f):=M5.c3
 have x4:X.cell? ⟨w.heap.size+1,4,none⟩=some (.string b):=M5.c4
 have x5:X.cell? ⟨w.heap.size+1,5,none⟩=some (.slice (some ⟨W.heap.size,0,none⟩) ps.length ps.length):=M5.c5
 exact bodyPost_ret (v:=.agg #[.int .i64 k,.int .i64 u,.int .i64 m,.int .i64 f,.string b,.slice (some ⟨W.heap.size,0,none⟩) ps.length ps.length]) (by simp [results,Tryz.results9,go_sem,x0,x1,x2,x3,x4,x5]) rfl ⟨_,rfl,hat,b5⟩
set_option maxHeartbeats 1000000 in
set_option maxRecDepth 100000 in
theorem eqMut_any (x:Mu) (v u:Value) (w:World) (h1:AttrsAt w v x.ps) (h2:AttrsAt w u x.ps) (hn:x.ps.length≤1048576) :
  Calls Tryz.prog 12 #[MV x v,MV x u] w fun e w'=>e=.returned (.bool true)∧Below w.heap.size w w':=by
 have hbw:=(new_below w 41 #[.int .i64 x.k,.int .i64 x.u,.int .i64 x.m,.int .i64 x.f,.string x.b,v]).alloc (by simp) (.cells #[.int .i64 x.k,.int .i64 x.u,.int .i64 x.m,.int .i64 x.f,.string x.b,u] 41)
 have HA:Hid (AttrsAt ((w.alloc (.cells #[.int .i64 x.k,.int .i64 x.u,.int .i64 x.m,.int .i64 x.f,.string x.b,v] 41)).alloc (.cells #[.int .i64 x.k,.int .i64 x.u,.int .i64 x.m,.int .i64 x.f,.string x.b,u] 41)) v x.ps):=at_below h1 hbw
 have HB:Hid (AttrsAt ((w.alloc (.cells #[.int .i64 x.k,.int .i64 x.u,.int .i64 x.m,.int .i64 x.f,.string x.b,v] 41)).alloc (.cells #[.int .i64 x.k,.int .i64 x.u,.int .i64 x.m,.int .i64 x.f,.string x.b,u] 41)) u x.ps):=at_below h2 hbw
 obtain ⟨a,cap,rfl,_⟩:=h1
 obtain ⟨a',cap',rfl,_⟩:=h2
 unfold MV
 obtain ⟨k,uu,m,f,b,ps⟩:=x
 simp only at *
 have k0:((k:Int) != k)=false:=by simp
 have k1:((uu:Int) != uu)=false:=by simp
 have k2:((m:Int) != m)=false:=by simp
 have k3:((f:Int) != f)=false:=by simp
 go_enter Tryz.func12,Tryz.ntmps12
 go_wp2_with fail
 refine (eqAttrS_any _ _ ps _ HA.out HB.out hn).mono ?_
 rintro e w2 ⟨rfl,hb2⟩
 have b3:=hbw.trans (hb2.mono hbw.size)
 clear hbw hb2 HA HB
 go_wp2
 go_ret
 exact ⟨rfl,b3⟩
end Go.Proofs.YtnhcbiomkiljpaaGreatDoor.mu
namespace Go.Proofs.YtnhcbiomkiljpaaGreatDoor.it
open Go.RowKit
set_option linter.unusedVariables false
set_option maxHeartbeats 1000000 in
set_option maxRecDepth 100000 in
theorem toAttrS_own (v:Value) (ps:List Pr) (w:World) (h:AttrsAt w v ps) (hn:ps.length≤1048576) :
  Calls Tryz.prog 26 #[v] w fun e w'=>e=.returned (.slice (some ⟨w.heap.size,0,none⟩) ps.length ps.length)∧AttrsAt w' (.slice (some ⟨w.heap.size,0,none⟩) ps.length ps.length) ps∧Below w.heap.size w w'∧∃ xs,w'.ownsRow w.heap.size 87 2 (.slice (some ⟨w.heap.size,0,none⟩) ps.length ps.length) ps.length xs:=by
 obtain ⟨a,cap,rfl,h⟩:=h
 obtain ⟨i0,hi,hz0,hz1,hz2⟩:=info_parts infoAt
 obtain ⟨n,hn'⟩:∃ n,n=ps.length:=⟨_,rfl⟩
 have HN:Hid (n=ps.length):=hn'
 have HH:Hid (ps=[] ∨ ∃ b off,a=some ⟨b,off,none⟩∧∀ j,j < ps.length→w.cell? ⟨b,off+j * 2,none⟩=some (.string (ps.getD j no).1)∧w.cell? ⟨b,off+j * 2+1,none⟩=some (.string (ps.getD j no).2)):=h
 rw [← hn'] at hn ⊢
 clear h hn'
 go_enter Tryz.func26,Tryz.ntmps26
 go_wp2_with (at_make; refine wpList_make_full _ rfl _ _ 39 rfl w.heap.size 87 i0 _ 2 Tryz.underlying39 hi hz0 hz1 _ _ _ _ n rfl rfl rfl rfl (by rw [hz2]; omega) (by unfold maxLen; omega) (Nat.le_refl _) ?_; intro w1 hown1 hg1)
 have hb1:Below w.heap.size w w1:=(Below.refl _ _).grown hg1 (Nat.le_refl _) (fun k hk=>by cases hk)
 clear hg1
 go_loopw [4] (fun i wr=>∃ (k:Nat) (xs:List Value),k≤n∧i=.int .i64 k∧xs.length=n * 2∧Lay ps k xs∧wr.ownsRow w.heap.size 87 2 (.slice (some ⟨w.heap.size,0,none⟩) n n) n xs∧Below w.heap.size w wr) (fun i _=>n - (intOf i).toNat)
 case atStart=>exact ⟨0,_,Nat.zero_le _,rfl,hown1.1.symm ▸ rfl,fun j hj=>absurd hj (Nat.not_lt_zero _),hown1,hb1⟩
 case round =>
  clear hown1 hb1
  obtain ⟨k,xs,hk,rfl,hxl,hm,hown,hbw⟩:=hrel
  have HM:Hid (Lay ps k xs):=hm
  have HL:Hid (xs.length=n * 2):=hxl
  clear hm hxl
  by_cases hlt:k < n
  ·have hka:k < ps.length:=by rw [← HN.out]; exact hlt
   rcases HH.out with e | ⟨b,off,rfl,hcells⟩
   ·rw [e] at hka; simp at hka
   obtain ⟨v0,v1⟩:=hcells k hka
   have hblt:b < w.heap.size:=World.block_lt_of_cell? w _ v0
   have c0:=(hbw.cell (p:=⟨b,off+k * 2,none⟩) hblt).trans v0
   have c1:=(hbw.cell (p:=⟨b,off+k * 2+1,none⟩) hblt).trans v1
   clear hcells v0 v1 hka
   generalize hn1:(ps.getD k no).1=nm at c0
   generalize hv1:(ps.getD k no).2=vl at c1
   have HN1:Hid ((ps.getD k no).1=nm):=hn1
   have HV1:Hid ((ps.getD k no).2=vl):=hv1
   clear hn1 hv1
   go_wp2_with fail
   refine (toAttr_any nm vl _).mono ?_
   rintro e w2 ⟨rfl,hb2⟩
   have hown2:=ow.own_below hown hb2
   have hbw2:=hbw.trans (hb2.mono hbw.size)
   clear hb2 hbw hown c0 c1
   have HO:Hid (w2.ownsRow w.heap.size 87 2 (.slice (some ⟨w.heap.size,0,none⟩) n n) n xs):=hown2
   have q0:=hown2.cellAt (k * 2) (by omega)
   have q1:=hown2.cellAt (k * 2+1) (by omega)
   rw [List.getElem?_eq_getElem (by rw [HL.out]; omega)] at q0 q1
   have f0:=hown2.frozenAt (k * 2)
   have f1:=hown2.frozenAt (k * 2+1)
   clear hown2
   generalize xs[k * 2]'(by rw [HL.out]; omega)=u0 at q0
   generalize xs[k * 2+1]'(by rw [HL.out]; omega)=u1 at q1
   have hlt':(k:Int) < (n:Int):=by omega
   go_wp2
   go_roundw
   case rel=>exact ⟨k+1,(xs.set (k * 2) (.string nm)).set (k * 2+1) (.string vl),by omega,by go_num,by rw [List.length_set,List.length_set]; exact HL.out,lay_step HM.out (by rw [HL.out]; omega) HN1.out HV1.out,((HO.out.stored _ _).1.stored _ _).1,(hbw2.setCell (Nat.le_refl _) _).setCell (Nat.le_refl _) _⟩
   case measure=>simp [intOf]; omega
  ·have HQ:Hid (AttrsAt wr (.slice (some ⟨w.heap.size,0,none⟩) n n) ps):=attrs_lay HN.out hown (fun j hj=>HM.out j (by omega))
   have HOX:Hid (∃ xs,wr.ownsRow w.heap.size 87 2 (.slice (some ⟨w.heap.size,0,none⟩) n n) n xs):=⟨xs,hown⟩
   go_wp2
   go_ret
   exact ⟨rfl,HQ.out,hbw,HOX.out⟩
end Go.Proofs.YtnhcbiomkiljpaaGreatDoor.it
namespace Go.Proofs.YtnhcbiomkiljpaaGreatDoor.mu
open Go.ChangeShapes Go.WideShapes Go.ChangeAt Go.RowKit Go.Deep Go.Joins
open it
set_option linter.unusedVariables false
theorem own_lower {w:World} {b base e size n:Nat} {v:Value} {xs:List Value} (h:w.ownsRow base e size v n xs) (hb:b≤base):w.ownsRow b e size v n xs :=
 ⟨h.1,h.2.imp id fun ⟨g,cap,cur,he,hb',r⟩=>⟨g,cap,cur,he,Nat.le_trans hb hb',r⟩⟩
theorem own_block {w w':World} {base e size n g m c:Nat} {xs:List Value} (h:w.ownsRow base e size (.slice (some ⟨g,0,none⟩) m c) n xs) (hb:w'.heap[g]? = w.heap[g]?):w'.ownsRow base e size (.slice (some ⟨g,0,none⟩) m c) n xs:=by
 obtain ⟨h1,h2⟩:=h
 refine ⟨h1,?_⟩
 rcases h2 with ⟨e,hz⟩ | ⟨g',cap,cur,e,hB,hh,r⟩
 ·exact .inl ⟨e,hz⟩
 ·cases e
  exact .inr ⟨g,_,cur,rfl,hB,hb.trans hh,r⟩
set_option maxHeartbeats 2000000 in
set_option maxRecDepth 100000 in
theorem toMut_own (x:Mu) (v:Value) (w:World) (h:AttrsAt w v x.ps) (hn:x.ps.length≤1048576) :
  Calls Tryz.prog 9 #[MV x v] w fun e w'=>∃ g,e=.returned (MV x (.slice (some ⟨g,0,none⟩) x.ps.length x.ps.length))∧AttrsAt w' (.slice (some ⟨g,0,none⟩) x.ps.length x.ps.length) x.ps∧Below w.heap.size w w'∧∃ xs,w'.ownsRow w.heap.size 87 2 (.slice (some ⟨g,0,none⟩) x.ps.length x.ps.length) x.ps.length xs:=by
 have HB:Hid (AttrsAt w v x.ps):=h
 obtain ⟨a,cap,rfl,_⟩:=h
 obtain ⟨W,hW⟩:∃ W,W=(((w.alloc (.cells #[.int .i64 x.k,.int .i64 x.u,.int .i64 x.m,.int .i64 x.f,.string x.b,.slice a x.ps.length cap] 29)).alloc (.cells #[.int .i64 0,.int .i64 0,.int .i64 0,.int .i64 0,.string ⟨#[]⟩,.slice none 0 0] 41)).alloc (.cells #[.int .i64 x.k,.int .i64 x.u,.int .i64 x.m,.int .i64 x.f,.string x.b,.slice none 0 0] 41)):=⟨_,rfl⟩
 unfold MV
 obtain ⟨k,u,m,f,b,ps⟩:=x
 simp only at *
 go_enter Tryz.func9,Tryz.ntmps9
 go_wp2_with fail
 have b3:Below w.heap.size w W:=by rw [hW]; exact ((new_below w _ _).alloc (by simp) _).alloc (by simp; omega) _
 have sz:W.heap.size=w.heap.size+3:=by rw [hW]; simp
 have k1:W.heap[w.heap.size+1]? = some (.cells #[.int .i64 0,.int .i64 0,.int .i64 0,.int .i64 0,.string ⟨#[]⟩,.slice none 0 0] 41 (0,0)):=by rw [hW]; exact new1 _ _ _ _
 have k2:Lies W (w.heap.size+1+1) 41 ⟨k,u,m,f,b,ps⟩ (.slice none 0 0):=by rw [hW]; exact new2 _ _ _ _
 rw [← hW]
 have HA:Hid (AttrsAt W (.slice a ps.length cap) ps):=at_below HB.out b3
 clear HB hW
 refine (toAttrS_own _ ps _ HA.out hn).mono ?_
 rintro e w2 ⟨rfl,hv',hb2,hox⟩
 have HOX:Hid (∃ xs,w2.ownsRow W.heap.size 87 2 (.slice (some ⟨W.heap.size,0,none⟩) ps.length ps.length) ps.length xs):=hox
 clear hox
 have HV:Hid (AttrsAt w2 (.slice (some ⟨W.heap.size,0,none⟩) ps.length ps.length) ps):=hv'
 clear hv'
 have m1:=(hb2.block (w.heap.size+1) (by omega)).trans k1
 have m2:=k2.keep hb2
 have b4:=b3.trans (hb2.mono b3.size)
 clear k1 k2 HA hb2 b3
 have c10:w2.cell? ⟨w.heap.size+1,0,none⟩=some (.int .i64 0):=by rw [cell_of_row w2 _ _ _ _ _ m1]; rfl
 have c11:w2.cell? ⟨w.heap.size+1,0+1,none⟩=some (.int .i64 0):=by rw [cell_of_row w2 _ _ _ _ _ m1]; rfl
 have c12:w2.cell? ⟨w.heap.size+1,0+2,none⟩=some (.int .i64 0):=by rw [cell_of_row w2 _ _ _ _ _ m1]; rfl
 have c13:w2.cell? ⟨w.heap.size+1,0+3,none⟩=some (.int .i64 0):=by rw [cell_of_row w2 _ _ _ _ _ m1]; rfl
 have c14:w2.cell? ⟨w.heap.size+1,0+4,none⟩=some (.string ⟨#[]⟩):=by rw [cell_of_row w2 _ _ _ _ _ m1]; rfl
 have c15:w2.cell? ⟨w.heap.size+1,0+5,none⟩=some (.slice none 0 0):=by rw [cell_of_row w2 _ _ _ _ _ m1]; rfl
 have c20:=m2.c0
 have c21:=m2.c1
 have c22:=m2.c2
 have c23:=m2.c3
 have c24:=m2.c4
 have c25:=m2.c5
 have f1:∀ j,w2.frozen? ⟨w.heap.size+1,j,none⟩=false:=fun j=>frozen_of_row w2 _ j _ _ m1
 have f2:∀ j,w2.frozen? ⟨w.heap.size+1+1,j,none⟩=false:=fun j=>frozen_of_row w2 _ j _ _ m2
 have HM1:Hid (w2.heap[w.heap.size+1]? = some (.cells #[.int .i64 0,.int .i64 0,.int .i64 0,.int .i64 0,.string ⟨#[]⟩,.slice none 0 0] 41 (0,0))):=m1
 have HSZ:Hid (W.heap.size=w.heap.size+3):=sz
 clear m1 m2 sz
 simp only at c20 c21 c22 c23 c24 c25
 go_wp2
 have M5:=fin_block HM1.out ⟨k,u,m,f,b,ps⟩ (.slice (some ⟨W.heap.size,0,none⟩) ps.length ps.length)
 have b5:=fin_below b4 ⟨k,u,m,f,b,ps⟩ (.slice (some ⟨W.heap.size,0,none⟩) ps.length ps.length)
 have hat:=at_other HV.out (fin_other w2 w.heap.size W.heap.size ⟨k,u,m,f,b,ps⟩ (.slice (some ⟨W.heap.size,0,none⟩) ps.length ps.length) (by rw [HSZ.out]; omega) (by rw [HSZ.out]; omega))
 have hxo:∃ xs,(fin w2 w.heap.size ⟨k,u,m,f,b,ps⟩ (.slice (some ⟨W.heap.size,0,none⟩) ps.length ps.length)).ownsRow w.heap.size 87 2 (.slice (some ⟨W.heap.size,0,none⟩) ps.length ps.length) ps.length xs:=by
  obtain ⟨xs,ho⟩:=HOX.out
  exact ⟨xs,own_block (own_lower ho (by rw [HSZ.out]; omega)) (fin_other w2 w.heap.size W.heap.size ⟨k,u,m,f,b,ps⟩ (.slice (some ⟨W.heap.size,0,none⟩) ps.length ps.length) (by rw [HSZ.out]; omega) (by rw [HSZ.out]; omega))⟩
 clear c10 c11 c12 c13 c14 c15 c20 c21 c22 c23 c24 c25 f1 f2 HV b4 HM1
 change bodyPost _ _ _ _ _ (fin w2 w.heap.size ⟨k,u,m,f,b,ps⟩ (.slice (some ⟨W.heap.size,0,none⟩) ps.length ps.length))
 generalize fin w2 w.heap.size ⟨k,u,m,f,b,ps⟩ (.slice (some ⟨W.heap.size,0,none⟩) ps.length ps.length)=X at M5 b5 hat hxo ⊢
 have x0:X.cell? ⟨w.heap.size+1,0,none⟩=some (.int .i64 k):=M5.c0
 have x1:X.cell? ⟨w.heap.size+1,1,none⟩=some (.int .i64 u):=M5.c1
 have x2:X.cell? ⟨w.heap.size+1,2,none⟩=some (.int .i64 m):=M5.c2
 have x3:X.cell? ⟨w.heap.size+1,3,none⟩=some (.int .i64 f):=M5.c3
 have x4:X.cell? ⟨w.heap.size+1,4,none⟩=some (.string b):=M5.c4
 have x5:X.cell? ⟨w.heap.size+1,5,none⟩=some (.slice (some ⟨W.heap.size,0,none⟩) ps.length ps.length):=M5.c5
 exact bodyPost_ret (v:=.agg #[.int .i64 k,.int .i64 u,.int .i64 m,.int .i64 f,.string b,.slice (some ⟨W.heap.size,0,none⟩) ps.length ps.length]) (by simp [results,Tryz.results9,go_sem,x0,x1,x2,x3,x4,x5]) rfl ⟨_,rfl,hat,b5,hxo⟩
end Go.Proofs.YtnhcbiomkiljpaaGreatDoor.mu
