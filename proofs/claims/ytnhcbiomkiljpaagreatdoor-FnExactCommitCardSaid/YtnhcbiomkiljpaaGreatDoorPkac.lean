/-
  A box: copied by the law's own function.
  Boxes as rows: measured, copied and compared by the law's own functions; as an argument, opened.
  Rows of stored mails and of texts, copied by slices.Clone into memory of their own.
-/
import Derived.Test.YtnhcbiomkiljpaaGreatDoorPkab
import Derived.Test.YtnhcbiomkiljpaaGreatDoorPkaa
import Derived.Laws.AppendOwn
import Derived.Laws.AppendOwnNone
import Derived.Lib.SliceRun
namespace Go.Proofs.YtnhcbiomkiljpaaGreatDoor.bx
open Go.ChangeShapes Go.WideShapes Go.ChangeAt Go.RowKit Go.Deep Go.Joins
open st
set_option linter.unusedVariables false
theorem mails_other {w w':World} {N M g n cap:Nat} {es:List St} (h:MailsIn w N (.slice (some ⟨g,0,none⟩) n cap) es) (hb:w'.heap[g]? = w.heap[g]?) (hM:g < N→g < M):MailsIn w' M (.slice (some ⟨g,0,none⟩) n cap) es:=by
 obtain ⟨a,cp,e,h⟩:=h
 refine ⟨a,cp,e,?_⟩
 rcases h with h | ⟨b,off,rfl,hgN,h⟩
 ·exact .inl h
 ·cases e
  refine .inr ⟨g,0,rfl,hM hgN,fun j hj=>?_⟩
  obtain ⟨h0,h1,h2⟩:=h j hj
  exact ⟨by rw [← h0]; simp only [World.cell?,hb],by rw [← h1]; simp only [World.cell?,hb],by rw [← h2]; simp only [World.cell?,hb]⟩
theorem texts_other {w w':World} {N M g n cap:Nat} {es:List ByteArray} (h:tx.TextsIn w N (.slice (some ⟨g,0,none⟩) n cap) es) (hb:w'.heap[g]? = w.heap[g]?) (hM:g < N→g < M):tx.TextsIn w' M (.slice (some ⟨g,0,none⟩) n cap) es:=by
 obtain ⟨a,cp,e,h⟩:=h
 refine ⟨a,cp,e,?_⟩
 rcases h with h | ⟨b,off,rfl,hgN,h⟩
 ·exact .inl h
 ·cases e
  refine .inr ⟨g,0,rfl,hM hgN,fun j hj=>?_⟩
  rw [← h j hj]; simp only [World.cell?,hb]
theorem heap_new (w:World) (o:Obj):(w.alloc o).heap[w.heap.size]? = some o:=(MapKept.heap_alloc w _).1
theorem new1 (w:World) (o0 o1 o2:Obj):(((w.alloc o0).alloc o1).alloc o2).heap[w.heap.size+1]? = some o1:=by
 have h:=heap_new (w.alloc o0) o1
 rw [show (w.alloc o0).heap.size=w.heap.size+1 by simp] at h
 rw [Below.heap_alloc _ _ _ (by simp),h]
theorem new2 (w:World) (o0 o1 o2:Obj):(((w.alloc o0).alloc o1).alloc o2).heap[w.heap.size+1+1]? = some o2:=by
 have h:=heap_new ((w.alloc o0).alloc o1) o2
 rw [show ((w.alloc o0).alloc o1).heap.size=w.heap.size+1+1 by simp] at h
 exact h
def fin (w2:World) (b:Nat) (x:Bx) (V U:Value):World:=(((((w2.setCell ⟨b+1+1,4,none⟩ U).setCell ⟨b+1,0,none⟩ (.string x.nm)).setCell ⟨b+1,1,none⟩ (.int .i64 x.vd)).setCell ⟨b+1,2,none⟩ (.int .i64 x.nx)).setCell ⟨b+1,3,none⟩ V).setCell ⟨b+1,4,none⟩ U
theorem fin_block {w2:World} {b:Nat} {T:TypeId} {u0 u1 u2 u3 u4:Value} (h:w2.heap[b+1]? = some (.cells #[u0,u1,u2,u3,u4] T (0,0))) (x:Bx) (V U:Value):Lies (fin w2 b x V U) (b+1) T x V U:=by
 have M1:=(heap_setCell_other w2 ⟨b+1+1,4,none⟩ (b+1) U (by simp)).trans h
 have M2:=heap_setCell_same _ (b+1) 0 _ _ (.string x.nm) M1
 have M3:=heap_setCell_same _ (b+1) 1 _ _ (.int .i64 x.vd) M2
 have M4:=heap_setCell_same _ (b+1) 2 _ _ (.int .i64 x.nx) M3
 have M5:=heap_setCell_same _ (b+1) 3 _ _ V M4
 exact heap_setCell_same _ (b+1) 4 _ _ U M5
theorem fin_other (w2:World) (b g:Nat) (x:Bx) (V U:Value) (h1:g ≠ b+1) (h2:g ≠ b+1+1):(fin w2 b x V U).heap[g]? = w2.heap[g]?:=by
 unfold fin
 rw [heap_setCell_other _ _ _ _ h1,heap_setCell_other _ _ _ _ h1,heap_setCell_other _ _ _ _ h1,heap_setCell_other _ _ _ _ h1,heap_setCell_other _ _ _ _ h1,heap_setCell_other _ _ _ _ h2]
theorem fin_below {w w2:World} {b:Nat} (h:Below b w w2) (x:Bx) (V U:Value):Below b w (fin w2 b x V U):=by
 unfold fin
 exact (((((h.setCell (by simp; omega) _).setCell (by simp) _).setCell (by simp) _).setCell (by simp) _).setCell (by simp) _).setCell (by simp) _
end Go.Proofs.YtnhcbiomkiljpaaGreatDoor.bx
namespace Go.Proofs.YtnhcbiomkiljpaaGreatDoor.bx
open Go.ChangeShapes Go.WideShapes Go.ChangeAt Go.RowKit Go.Deep Go.Joins
open st gr
set_option linter.unusedVariables false
def noB:Bx:=⟨⟨#[]⟩,0,0,[],[]⟩
def At5 (w:World) (b o:Nat) (x:Bx) (p:Value × Value):Prop :=
 w.cell? ⟨b,o,none⟩=some (.string x.nm)∧w.cell? ⟨b,o+1,none⟩=some (.int .i64 x.vd)∧w.cell? ⟨b,o+2,none⟩=some (.int .i64 x.nx)∧w.cell? ⟨b,o+3,none⟩=some p.1∧w.cell? ⟨b,o+4,none⟩=some p.2
theorem At5.lt {w:World} {b o:Nat} {x:Bx} {p:Value × Value} (h:At5 w b o x p):b < w.heap.size:=World.block_lt_of_cell? w _ h.1
theorem At5.keep {w w':World} {n b o:Nat} {x:Bx} {p:Value × Value} (h:At5 w b o x p) (hb:Below n w w') (hn:b < n):At5 w' b o x p:=by
 obtain ⟨h0,h1,h2,h3,h4⟩:=h
 exact ⟨(hb.cell (p:=⟨b,o,none⟩) hn).trans h0,(hb.cell (p:=⟨b,o+1,none⟩) hn).trans h1,(hb.cell (p:=⟨b,o+2,none⟩) hn).trans h2,(hb.cell (p:=⟨b,o+3,none⟩) hn).trans h3,(hb.cell (p:=⟨b,o+4,none⟩) hn).trans h4⟩
def CellsIn (w:World) (n:Nat) (v:Value) (xs:List Bx) (vs:Nat→Value × Value):Prop :=
 ∃ a cap,v=.slice a xs.length cap∧(xs=[] ∨ ∃ b off,a=some ⟨b,off,none⟩∧b < n∧∀ j,j < xs.length→At5 w b (off+j * 5) (xs.getD j noB) (vs j))
def BoxesIn (w:World) (n:Nat) (v:Value) (xs:List Bx) (vs:Nat→Value × Value):Prop :=
 CellsIn w n v xs vs∧∀ j,j < xs.length→RowsIn w n (vs j).1 (vs j).2 (xs.getD j noB).ms (xs.getD j noB).ks
theorem boxes_in_below {w w':World} {n k:Nat} {v:Value} {xs:List Bx} {vs:Nat→Value × Value} (h:BoxesIn w n v xs vs) (hb:Below k w w') (hk:n≤k):BoxesIn w' n v xs vs:=by
 obtain ⟨⟨a,cap,rfl,h⟩,h2⟩:=h
 refine ⟨⟨a,cap,rfl,?_⟩,fun j hj=>rows_in_below (h2 j hj) hb hk⟩
 rcases h with h | ⟨b,off,rfl,hb',h⟩
 ·exact .inl h
 ·exact .inr ⟨b,off,rfl,hb',fun j hj=>(h j hj).keep hb (by omega)⟩
theorem boxes_more {w:World} {n k:Nat} {v:Value} {xs:List Bx} {vs:Nat→Value × Value} (h:BoxesIn w n v xs vs) (hk:n≤k):BoxesIn w k v xs vs:=by
 obtain ⟨⟨a,cap,rfl,h⟩,h2⟩:=h
 refine ⟨⟨a,cap,rfl,?_⟩,fun j hj=>rows_more (h2 j hj) hk⟩
 rcases h with h | ⟨b,off,rfl,hb',h⟩
 ·exact .inl h
 ·exact .inr ⟨b,off,rfl,by omega,h⟩
def BoxesAt (w:World) (v:Value) (xs:List Bx) (vs:Nat→Value × Value):Prop:=BoxesIn w w.heap.size v xs vs
theorem boxes_below {w w':World} {v:Value} {xs:List Bx} {vs:Nat→Value × Value} (h:BoxesAt w v xs vs) (hb:Below w.heap.size w w'):BoxesAt w' v xs vs:=boxes_more (boxes_in_below h hb (Nat.le_refl _)) hb.size
def Smalls (xs:List Bx):Prop:=xs.length≤1048576∧∀ j,j < xs.length→Small (xs.getD j noB)
def SmallsTo (xs:List Bx) (k:Nat):Prop:=xs.length≤1048576∧∀ j,j < k→Small (xs.getD j noB)
set_option maxHeartbeats 1000000 in
set_option maxRecDepth 100000 in
theorem szBoxS_any (v:Value) (xs:List Bx) (vs:Nat→Value × Value) (left:Int) (w:World) (h:BoxesAt w v xs vs) (h0:0≤left) (h1:left≤1048576) (hl:xs.length≤maxLen) (hs:∀ j,j < xs.length→Held (xs.getD j noB)) :
  Calls Tryz.prog 19 #[v,.int .i64 left] w fun e w'=>(∃ z:Int,e=.returned (.int .i64 z)∧z≤left∧-1≤z∧(0≤z→Smalls xs))∧Below w.heap.size w w':=by
 have HALL:Hid (BoxesAt w v xs vs):=h
 obtain ⟨⟨a,cap,rfl,hc⟩,_⟩:=h
 obtain ⟨n,hn⟩:∃ n,n=xs.length:=⟨_,rfl⟩
 have HN:Hid (n=xs.length):=hn
 have HH:Hid (xs=[] ∨ ∃ b off,a=some ⟨b,off,none⟩∧b < w.heap.size∧∀ j,j < xs.length→At5 w b (off+j * 5) (xs.getD j noB) (vs j)):=hc
 have HS:Hid (∀ j,j < xs.length→Held (xs.getD j noB)):=hs
 rw [← hn] at hl HALL ⊢
 clear hc hs hn
 unfold maxLen at hl
 by_cases g0:left - (n:Int) < 0
 ·go_enter Tryz.func19,Tryz.ntmps19
  go_wp2
  go_ret
  exact ⟨⟨-1,rfl,by omega,by omega,by omega⟩,Below.refl _ _⟩
 go_enter Tryz.func19,Tryz.ntmps19
 go_wp2
 go_loopw [1,5] (fun z i wr=>∃ (k:Nat) (y:Int),k≤n∧0≤y∧y≤left∧z=.int .i64 y∧i=.int .i64 k∧SmallsTo xs k∧Below w.heap.size w wr) (fun _ i _=>n - (intOf i).toNat)
 case atStart=>exact ⟨0,left - (n:Int),Nat.zero_le _,by omega,by omega,rfl,rfl,⟨by rw [← HN.out]; omega,fun j hj=>absurd hj (Nat.not_lt_zero _)⟩,Below.refl _ _⟩
 case round =>
  obtain ⟨k,y,hk,hy0,hy1,rfl,rfl,hsm,hbw⟩:=hrel
  have HSM:Hid (SmallsTo xs k):=hsm
  clear hsm
  by_cases hlt:k < n
  ·have hka:k < xs.length:=by rw [← HN.out]; exact hlt
   rcases HH.out with e | ⟨b,off,rfl,_,hcells⟩
   ·rw [e] at hka; simp at hka
   have hat:=(hcells k hka).keep hbw (hcells k hka).lt
   have hrw:=(boxes_in_below HALL.out hbw (Nat.le_refl _)).2 k hka
   have hhd:=HS.out k hka
   clear hcells hka
   generalize hx:xs.getD k noB=x at hat hhd hrw
   have HX:Hid (xs.getD k noB=x):=hx
   generalize vs k=q at hat hrw
   obtain ⟨q1,q2⟩:=q
   obtain ⟨c0,c1,c2,c3,c4⟩:=hat
   simp only at c0 c1 c2 c3 c4 hrw
   clear hx
   have HRW:Hid (RowsAt wr q1 q2 x.ms x.ks):=rows_more hrw hbw.size
   have HHD:Hid (Held x):=hhd
   obtain ⟨⟨a2,cap2,rfl,_⟩,⟨a3,cap3,rfl,_⟩⟩:=hrw
   clear hhd
   go_wp2_with fail
   refine (szBox_any x _ _ y wr HRW.out hy0 (by omega) HHD.out).mono ?_
   rintro e w2 ⟨⟨z,rfl,hz0,hz1,hz2⟩,hb2⟩
   have HZ:Hid (0≤z→Small x):=hz2
   clear hz2 HRW HHD c0 c1 c2 c3 c4
   by_cases hz:z < 0
   ·go_wp2
    go_ret
    exact ⟨⟨-1,rfl,by omega,by omega,by omega⟩,hbw.trans (hb2.mono hbw.size)⟩
   ·go_wp2
    go_roundw
    case rel=>exact ⟨k+1,z,by omega,by omega,by omega,rfl,by go_num,⟨HSM.out.1,fun j hj=>by by_cases hjk:j=k; subst hjk; rw [HX.out]; exact HZ.out (by omega); exact HSM.out.2 j (by omega)⟩,hbw.trans (hb2.mono hbw.size)⟩
    case measure=>simp [intOf]; omega
  ·go_wp2
   go_ret
   exact ⟨⟨y,rfl,by omega,by omega,fun _=>⟨HSM.out.1,fun j hj=>HSM.out.2 j (by have:=HN.out; omega)⟩⟩,hbw⟩
section
variable {H:Type} {enc:TypeId × Value→H} {w:World} {base:Nat} {spare:Nat→Bool} {held:Bool}
theorem cellsB:Tryz.prog.cellsOf 71=5:=by kernel_rfl
theorem open_boxes {fuel:Nat} {v:Value} {x:DataW H × List MemPlace} (h:DataW.trod enc Tryz.prog w base spare held fuel 24 [v]=some x) :
  ∃ (xs:List Bx) (vs:Nat→Value × Value),BoxesAt w v xs vs∧xs.length≤maxLen∧∀ j,j < xs.length→Held (xs.getD j noB):=by
 rcases open_slice Tryz.underlying24 h with ⟨hc,_⟩ | ⟨a,len,cap,m,n,D,Pl,hc,_,hl,hm,hmm,_,hall⟩
 ·cases hc
  exact ⟨[],fun _=>(.slice none 0 0,.slice none 0 0),⟨⟨none,0,rfl,.inl rfl⟩,fun j hj=>absurd hj (Nat.not_lt_zero _)⟩,Nat.zero_le _,fun j hj=>absurd hj (Nat.not_lt_zero _)⟩
 ·cases hc
  have hml:len≤m:=by rw [hmm]; split <;> omega
  have each:∀ i,∃ e:Bx × (Value × Value),i < len→Held e.1∧RowsAt w e.2.1 e.2.2 e.1.ms e.1.ks∧∀ k,k < 5→w.cell? (a.add (i * 5+k))=([.string e.1.nm,.int .i64 e.1.vd,.int .i64 e.1.nx,e.2.1,e.2.2]:List Value)[k]?:=by
   intro i
   by_cases hi:i < len
   ·obtain ⟨cs',h1,h2⟩:=hall i (by omega)
    obtain ⟨x,v1,u1,rfl,hr,hh⟩:=trod_box h2
    rw [cellsB] at h1
    obtain ⟨_,hlen,hcell⟩:=World.cells?_some h1
    refine ⟨(x,(v1,u1)),fun _=>⟨hh,hr,fun k hk=>?_⟩⟩
    have:=hcell k hk
    rw [add_add] at this
    rw [this]
   ·exact ⟨(noB,(.slice none 0 0,.slice none 0 0)),fun h=>absurd h hi⟩
  obtain ⟨q,hq⟩:=Classical.axiomOfChoice each
  have hget:∀ j,j < len→((List.range len).map fun i=>(q i).1).getD j noB=(q j).1:=by
   intro j hj
   simp [List.getD_eq_getElem?_getD,hj]
  refine ⟨(List.range len).map fun i=>(q i).1,fun i=>(q i).2,⟨⟨some a,cap,by simp,?_⟩,?_⟩,by simp; omega,?_⟩
  ·by_cases h0:len=0
   ·left; simp [h0]
   ·right
    have c0:=(hq 0 (by omega)).2.2 0 (by omega)
    obtain ⟨b,off,spot⟩:=a
    have c0':=c0.trans (show ([.string (q 0).1.nm,.int .i64 (q 0).1.vd,.int .i64 (q 0).1.nx,(q 0).2.1,(q 0).2.2]:List Value)[0]? = some (.string (q 0).1.nm) from rfl)
    have hspot:spot=none:=by simpa [Addr.add] using World.cell?_spot c0'
    subst hspot
    have hblt:b < w.heap.size:=by simpa [Addr.add] using World.block_lt_of_cell? w _ c0'
    refine ⟨b,off,rfl,hblt,fun j hj=>?_⟩
    have hj':j < len:=by simpa using hj
    have hc:=(hq j hj').2.2
    have hadd:∀ k:Nat,((⟨b,off,none⟩:Addr).add (j * 5+k))=⟨b,off+j * 5+k,none⟩:=fun k=>by simp [Addr.add,Nat.add_assoc]
    rw [hget j hj']
    have g0:=hc 0 (by omega)
    have g1:=hc 1 (by omega)
    have g2:=hc 2 (by omega)
    have g3:=hc 3 (by omega)
    have g4:=hc 4 (by omega)
    rw [hadd] at g0 g1 g2 g3 g4
    exact ⟨g0,g1,g2,g3,g4⟩
  ·intro j hj
   have hj':j < len:=by simpa using hj
   rw [hget j hj']
   exact (hq j hj').2.1
  ·intro j hj
   have hj':j < len:=by simpa using hj
   rw [hget j hj']
   exact (hq j hj').1
end
end Go.Proofs.YtnhcbiomkiljpaaGreatDoor.bx
namespace Go.Proofs.YtnhcbiomkiljpaaGreatDoor.bx
open Go.RowKit
open st
set_option linter.unusedVariables false
def mc:List St→List Value
 | []=>[]
 | e :: es=>.int .i64 e.u :: .int .i64 e.f :: .string e.t :: mc es
theorem mc_len:∀ ms:List St,(mc ms).length=ms.length * 3
 | []=>rfl
 | e :: es=>by simp [mc,mc_len es]; omega
theorem mc_at:∀ (ms:List St) (j:Nat),j < ms.length→In3 (mc ms) (j * 3) (ms.getD j noS)
 | [],j,hj=>by simp at hj
 | e :: es,0,hj=>⟨rfl,rfl,rfl⟩
 | e :: es,j+1,hj=>by
  have h:=mc_at es j (by simpa using hj)
  unfold In3 at h ⊢
  rw [show (j+1) * 3=j * 3+1+1+1 from by omega]
  simpa [mc] using h
theorem mc_one:∀ (ms:List St),∀ u ∈ mc ms,u.oneCell'=true
 | [],u,h=>by simp [mc] at h
 | e :: es,u,h=>by
  simp only [mc,List.mem_cons] at h
  rcases h with rfl | rfl | rfl | h
  ·rfl
  ·rfl
  ·rfl
  ·exact mc_one es u h
theorem mc_cells {w:World} {b off:Nat} {ms:List St} (h:∀ j,j < ms.length→At3 w b (off+j * 3) (ms.getD j noS)) (j:Nat) (u:Value) (hu:(mc ms)[j]? = some u):w.cell? ⟨b,off+j,none⟩=some u:=by
 have hj:=(List.getElem?_eq_some_iff.1 hu).1
 rw [mc_len] at hj
 have hi:j / 3 < ms.length:=by omega
 obtain ⟨a0,a1,a2⟩:=h (j / 3) hi
 obtain ⟨m0,m1,m2⟩:=mc_at ms (j / 3) hi
 have hr:j % 3=0 ∨ j % 3=1 ∨ j % 3=2:=by omega
 rcases hr with hr | hr | hr
 ·have e:j=j / 3 * 3:=by omega
  rw [e] at hu ⊢
  rw [m0] at hu
  cases hu
  exact a0
 ·have e:j=j / 3 * 3+1:=by omega
  rw [e] at hu ⊢
  rw [m1] at hu
  cases hu
  exact a1
 ·have e:j=j / 3 * 3+2:=by omega
  rw [e] at hu ⊢
  rw [m2] at hu
  cases hu
  exact a2
def OwnM (w:World) (base:Nat) (v:Value) (ms:List St):Prop:=w.ownsRow base 122 3 v ms.length (mc ms)
def OwnK (w:World) (base:Nat) (v:Value) (ks:List ByteArray):Prop:=w.ownsRow base 9 1 v ks.length (ks.map Value.string)
theorem own_lt {w:World} {B e s n:Nat} {v:Value} {xs:List Value} (h:w.ownsRow B e s v n xs):∀ k,v.ownBlock=some k→k < w.heap.size:=fun k hk=>(h.lt k hk).2
theorem ownM_in {w:World} {B N:Nat} {v:Value} {ms:List St} (h:OwnM w B v ms) (hN:w.heap.size≤N):MailsIn w N v ms:=by
 rcases id h.2 with ⟨rfl,hz⟩ | ⟨g,cap,cur,rfl,_,hb,_⟩
 ·have:ms=[]:=List.eq_nil_of_length_eq_zero hz
  subst this
  exact ⟨none,0,rfl,.inl rfl⟩
 ·refine ⟨_,cap,rfl,.inr ⟨g,0,rfl,Nat.lt_of_lt_of_le (Array.getElem?_eq_some_iff.1 hb).1 hN,fun j hj=>?_⟩⟩
  obtain ⟨h0,h1,h2⟩:=mc_at ms j hj
  have h':w.ownsRow B 122 3 (.slice (some ⟨g,0,none⟩) ms.length cap) ms.length (mc ms):=h
  refine ⟨?_,?_,?_⟩
  ·rw [Nat.zero_add,h'.cellAt _ (by omega),h0]
  ·rw [Nat.zero_add,h'.cellAt _ (by omega),h1]
  ·rw [Nat.zero_add,h'.cellAt _ (by omega),h2]
theorem ownK_in {w:World} {B N:Nat} {v:Value} {ks:List ByteArray} (h:OwnK w B v ks) (hN:w.heap.size≤N):tx.TextsIn w N v ks:=by
 rcases id h.2 with ⟨rfl,hz⟩ | ⟨g,cap,cur,rfl,_,hb,_⟩
 ·have:ks=[]:=List.eq_nil_of_length_eq_zero hz
  subst this
  exact ⟨none,0,rfl,.inl rfl⟩
 ·refine ⟨_,cap,rfl,.inr ⟨g,0,rfl,Nat.lt_of_lt_of_le (Array.getElem?_eq_some_iff.1 hb).1 hN,fun j hj=>?_⟩⟩
  have h':w.ownsRow B 9 1 (.slice (some ⟨g,0,none⟩) ks.length cap) ks.length (ks.map Value.string):=h
  rw [Nat.zero_add,h'.cellAt _ (by omega)]
  simp [List.getD_eq_getElem?_getD,hj]
def Fine (v:Value):Prop:=v=.slice none 0 0 ∨ ∃ ad n c,v=.slice (some ad) n c
theorem own_fine {w:World} {B e s n:Nat} {v:Value} {xs:List Value} (h:w.ownsRow B e s v n xs):Fine v:=by
 rcases h.2 with ⟨rfl,_⟩ | ⟨g,cap,cur,rfl,_⟩
 ·exact .inl rfl
 ·exact .inr ⟨_,_,_,rfl⟩
theorem infoT:(Tryz.prog.info? 9).map (fun i=>(i.zero,i.size,i.bytes))=some (some (.string ⟨#[]⟩),1,16):=by kernel_rfl
theorem src_mails {w:World} {N:Nat} {ad:Addr} {n c:Nat} {ms:List St} (h:MailsIn w N (.slice (some ad) n c) ms):n=ms.length∧∀ j u,(mc ms)[j]? = some u→w.cell? (ad.add j)=some u:=by
 obtain ⟨a,cap,e,h⟩:=h
 cases e
 refine ⟨rfl,fun j u hu=>?_⟩
 rcases h with h | ⟨b,off,e,_,h⟩
 ·rw [h] at hu; simp [mc] at hu
 ·cases e
  rw [show ((⟨b,off,none⟩:Addr).add j)=⟨b,off+j,none⟩ from by simp [Addr.add]]
  exact mc_cells h j u hu
theorem src_texts {w:World} {N:Nat} {ad:Addr} {n c:Nat} {ks:List ByteArray} (h:tx.TextsIn w N (.slice (some ad) n c) ks):n=ks.length∧∀ j u,(ks.map Value.string)[j]? = some u→w.cell? (ad.add j)=some u:=by
 obtain ⟨a,cap,e,h⟩:=h
 cases e
 refine ⟨rfl,fun j u hu=>?_⟩
 rcases h with h | ⟨b,off,e,_,h⟩
 ·rw [h] at hu; simp at hu
 ·cases e
  rw [show ((⟨b,off,none⟩:Addr).add j)=⟨b,off+j,none⟩ from by simp [Addr.add]]
  have hj:j < ks.length:=by
   have:=(List.getElem?_eq_some_iff.1 hu).1
   simpa using this
  rw [h j hj,← hu]
  simp [List.getD_eq_getElem?_getD,hj]
theorem str_one (ks:List ByteArray):∀ u ∈ ks.map Value.string,u.oneCell'=true:=by
 intro u hu
 obtain ⟨b,_,rfl⟩:=List.mem_map.1 hu
 rfl
set_option maxHeartbeats 2000000 in
set_option maxRecDepth 100000 in
theorem cloneM_any (v:Value) (N:Nat) (ms:List St) (w:World) (h:MailsIn w N v ms) (hv:Fine v) (hn:ms.length≤1048576) :
  Calls Tryz.prog 151 #[v] w fun e w'=>(∃ v',e=.returned v'∧OwnM w' w.heap.size v' ms)∧Below w.heap.size w w':=by
 obtain ⟨i0,hi,hz0,hz1,hz2⟩:=info_parts infoS
 have hq:∀ (w:World) (a:Option Addr) (n c n' c':Nat),(binOp .eql 83 (.slice a n c) (.slice none n' c')).run Tryz.prog w=.ok (.bool a.isNone) w:=fun w a n c n' c'=>Lib.run_eql_slice_nil w _ _ a n c n' c' Tryz.underlying83
 rcases hv with rfl | ⟨ad,n,c,rfl⟩
 ·have hms:ms=[]:=by
   obtain ⟨a,cap,e,_⟩:=h
   simp only [Value.slice.injEq] at e
   exact List.eq_nil_of_length_eq_zero e.2.1.symm
  have HM:Hid (OwnM w w.heap.size (.slice none 0 0) ms):=by rw [hms]; exact World.ownsRow_nil _ _ _ _
  clear h hms hn
  go_enter Tryz.func151,Tryz.ntmps151
  go_wp2
  go_ret
  exact ⟨⟨_,rfl,HM.out⟩,Below.refl _ _⟩
 obtain ⟨rfl,hs⟩:=src_mails h
 have hb:Below w.heap.size w (w.alloc (.cells #[] 122)):=(Below.refl _ _).alloc (Nat.le_refl _) _
 have HS:Hid (∀ j u,(mc ms)[j]? = some u→(w.alloc (.cells #[] 122)).cell? (ad.add j)=some u):=fun j u hu=>(hb.cell (World.block_lt_of_cell? w _ (hs j u hu))).trans (hs j u hu)
 have HO:Hid ((w.alloc (.cells #[] 122)).ownsRow w.heap.size 122 3 (.slice (some ⟨w.heap.size,0,none⟩) 0 0) 0 []):=World.ownsRow_made w #[] 0 (Nat.le_refl _) (Nat.zero_le _) rfl
 clear h hs
 go_enter Tryz.func151,Tryz.ntmps151
 go_wp2_with (at_builtin; refine wpList_append_own _ rfl _ _ 83 rfl w.heap.size 122 i0 _ 3 32 Tryz.underlying83 hi hz0 hz1 hz2 rfl (by decide) _ _ _ rfl HO.out ad ms.length c (mc ms) rfl (mc_len ms) HS.out (mc_one ms) (by unfold maxLen; omega) (by omega) (by simp) ?_; intro v' w1 hown hgrow hnil)
 have HE:Hid (OwnM w1 w.heap.size v' ms∧Below w.heap.size w w1):=by
  refine ⟨?_,hb.grown hgrow (by simp) (fun k hk=>(HO.out.lt k hk).1)⟩
  unfold OwnM
  simpa using hown
 clear hown hgrow hnil
 go_wp2
 go_ret
 exact ⟨⟨_,rfl,HE.out.1⟩,HE.out.2⟩
set_option maxHeartbeats 2000000 in
set_option maxRecDepth 100000 in
theorem cloneK_any (v:Value) (N:Nat) (ks:List ByteArray) (w:World) (h:tx.TextsIn w N v ks) (hv:Fine v) (hn:ks.length≤1048576) :
  Calls Tryz.prog 153 #[v] w fun e w'=>(∃ v',e=.returned v'∧OwnK w' w.heap.size v' ks)∧Below w.heap.size w w':=by
 obtain ⟨i0,hi,hz0,hz1,hz2⟩:=info_parts infoT
 have hq:∀ (w:World) (a:Option Addr) (n c n' c':Nat),(binOp .eql 69 (.slice a n c) (.slice none n' c')).run Tryz.prog w=.ok (.bool a.isNone) w:=fun w a n c n' c'=>Lib.run_eql_slice_nil w _ _ a n c n' c' Tryz.underlying69
 rcases hv with rfl | ⟨ad,n,c,rfl⟩
 ·have hms:ks=[]:=by
   obtain ⟨a,cap,e,_⟩:=h
   simp only [Value.slice.injEq] at e
   exact List.eq_nil_of_length_eq_zero e.2.1.symm
  have HM:Hid (OwnK w w.heap.size (.slice none 0 0) ks):=by rw [hms]; exact World.ownsRow_nil _ _ _ _
  clear h hms hn
  go_enter Tryz.func153,Tryz.ntmps153
  go_wp2
  go_ret
  exact ⟨⟨_,rfl,HM.out⟩,Below.refl _ _⟩
 obtain ⟨rfl,hs⟩:=src_texts h
 have hb:Below w.heap.size w (w.alloc (.cells #[] 9)):=(Below.refl _ _).alloc (Nat.le_refl _) _
 have HS:Hid (∀ j u,(ks.map Value.string)[j]? = some u→(w.alloc (.cells #[] 9)).cell? (ad.add j)=some u):=fun j u hu=>(hb.cell (World.block_lt_of_cell? w _ (hs j u hu))).trans (hs j u hu)
 have HO:Hid ((w.alloc (.cells #[] 9)).ownsRow w.heap.size 9 1 (.slice (some ⟨w.heap.size,0,none⟩) 0 0) 0 []):=World.ownsRow_made w #[] 0 (Nat.le_refl _) (Nat.zero_le _) rfl
 clear h hs
 go_enter Tryz.func153,Tryz.ntmps153
 go_wp2_with (at_builtin; refine wpList_append_own _ rfl _ _ 69 rfl w.heap.size 9 i0 _ 1 16 Tryz.underlying69 hi hz0 hz1 hz2 rfl (by decide) _ _ _ rfl HO.out ad ks.length c (ks.map Value.string) rfl (by simp) HS.out (str_one ks) (by unfold maxLen; omega) (by omega) (by simp) ?_; intro v' w1 hown hgrow hnil)
 have HE:Hid (OwnK w1 w.heap.size v' ks∧Below w.heap.size w w1):=by
  refine ⟨?_,hb.grown hgrow (by simp) (fun k hk=>(HO.out.lt k hk).1)⟩
  unfold OwnK
  simpa using hown
 clear hown hgrow hnil
 go_wp2
 go_ret
 exact ⟨⟨_,rfl,HE.out.1⟩,HE.out.2⟩
theorem wpList_append_any {P:Program} {w:World} {ops:Array Oper} {rest:List Oper} {o:Oper} {a:Act} {Q:Exit→Act→World→Prop} (hgd:o.guard=none) (s x:Operand) (t:TypeId)
  (ho:o.op=.call { callee:=.builtin .append,args:=#[s,x],argTypes:=#[t,t] })
  (base:Nat) (e:TypeId) (i:TypeInfo) (z:Value) (size bytes:Nat) (ht:P.underlying t=some (.slice e)) (hi:P.info? e=some i) (hz:i.zero=some z)
  (hsize:i.size=size) (hby:i.bytes=bytes) (hzs:z.cells.size=size) (hsz:0 < size)
  (v:Value) (n:Nat) (xs:List Value) (hs:a.eval s=v) (hown:w.ownsRow base e size v n xs)
  (y:Value) (m:Nat) (news:List Value) (hx:a.eval x=y) (hy:(y=.slice none 0 0∧m=0∧news=[]) ∨ ∃ ad c,y=.slice (some ad) m c∧news.length=m * size∧∀ j u,news[j]? = some u→w.cell? (ad.add j)=some u) (h1:∀ u ∈ news,u.oneCell'=true)
  (h63:n+m≤maxLen) (hbytes:(n+m) * bytes≤140737488355328) (hbase:base≤w.heap.size)
  (h:∀ v' w',w'.ownsRow base e size v' (n+m) (xs ++ news)→w.grownBy w' v.ownBlock→wpList P ops Q rest (a.put o.dst v') w'):wpList P ops Q (o :: rest) a w:=by
 rcases hy with ⟨rfl,rfl,rfl⟩ | ⟨ad,c,rfl,hl,hn⟩
 ·refine wpList_append_own_none hgd s x t ho base e i size ht hi v n xs hs hown hx (h v w ?_ (ow.grown_refl _ _))
  rw [List.append_nil]
  exact hown
 ·exact wpList_append_own w hgd s x t ho base e i z size bytes ht hi hz hsize hby hzs hsz v n xs hs hown ad m c news hx hl hn h1 h63 hbytes hbase (fun v' w' a b _=>h v' w' a b)
theorem mails_src {w:World} {N:Nat} {v:Value} {ms:List St} (h:MailsIn w N v ms) (hv:Fine v):(v=.slice none 0 0∧ms.length=0∧mc ms=[]) ∨ ∃ ad c,v=.slice (some ad) ms.length c∧(mc ms).length=ms.length * 3∧∀ j u,(mc ms)[j]? = some u→w.cell? (ad.add j)=some u:=by
 rcases hv with rfl | ⟨ad,n,c,rfl⟩
 ·obtain ⟨a,cap,e,_⟩:=h
  simp only [Value.slice.injEq] at e
  have:ms=[]:=List.eq_nil_of_length_eq_zero e.2.1.symm
  subst this
  exact .inl ⟨rfl,rfl,rfl⟩
 ·obtain ⟨rfl,hs⟩:=src_mails h
  exact .inr ⟨ad,c,rfl,mc_len ms,hs⟩
theorem texts_src {w:World} {N:Nat} {v:Value} {ks:List ByteArray} (h:tx.TextsIn w N v ks) (hv:Fine v):(v=.slice none 0 0∧ks.length=0∧ks.map Value.string=[]) ∨ ∃ ad c,v=.slice (some ad) ks.length c∧(ks.map Value.string).length=ks.length * 1∧∀ j u,(ks.map Value.string)[j]? = some u→w.cell? (ad.add j)=some u:=by
 rcases hv with rfl | ⟨ad,n,c,rfl⟩
 ·obtain ⟨a,cap,e,_⟩:=h
  simp only [Value.slice.injEq] at e
  have:ks=[]:=List.eq_nil_of_length_eq_zero e.2.1.symm
  subst this
  exact .inl ⟨rfl,rfl,rfl⟩
 ·obtain ⟨rfl,hs⟩:=src_texts h
  exact .inr ⟨ad,c,rfl,by simp,hs⟩
end Go.Proofs.YtnhcbiomkiljpaaGreatDoor.bx
