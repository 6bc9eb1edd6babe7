/-
  Rows of stored mails, marked by the law's own functions, and held against the marks.
  Boxes as rows: copied and compared by the law's own functions.
  Items as rows of pairs of texts: read by the law's own measure, copy and comparison.
  The laws' own copy of items, and their comparison of items that are the same.
-/
import Derived.Test.YtnhcbiomkiljpaaGreatDoorPkaa
import Derived.Test.YtnhcbiomkiljpaaGreatDoorPkac
import Derived.Test.YtnhcbiomkiljpaaGreatDoorRows
import Derived.WalkKit
import Derived.WalkLawsBesides
import Derived.Below
import Derived.BigRegion
namespace Go.Proofs.YtnhcbiomkiljpaaGreatDoor.mm
open Go.RowKit
open gr mk st bx
set_option linter.unusedVariables false
def marksM (k:Int):Nat→List Value
 | 0=>[]
 | n+1=>marksM k n ++ [.int .i64 (k+3 * (n:Int)),.int .i64 (k+3 * (n:Int)+1),.string (mt (k+3 * (n:Int)+2))]
theorem marksM_len (k:Int):∀ n,(marksM k n).length=n * 3
 | 0=>rfl
 | n+1=>by simp [marksM,marksM_len k n]; omega
def At3m (k:Int) (xs:List Value) (j:Nat):Prop:=xs[j * 3]? = some (.int .i64 (k+3 * (j:Int)))∧xs[j * 3+1]? = some (.int .i64 (k+3 * (j:Int)+1))∧xs[j * 3+2]? = some (.string (mt (k+3 * (j:Int)+2)))
theorem marksM_at (k:Int):∀ n j,j < n→At3m k (marksM k n) j
 | 0,j,hj=>absurd hj (Nat.not_lt_zero _)
 | n+1,j,hj=>by
  unfold At3m
  by_cases e:j < n
  ·have h:=marksM_at k n j e
   have hl:=marksM_len k n
   rw [marksM,List.getElem?_append_left (by omega),List.getElem?_append_left (by omega),List.getElem?_append_left (by omega)]
   exact h
  ·have e:j=n:=by omega
   subst e
   have hl:=marksM_len k j
   rw [marksM,List.getElem?_append_right (by omega),List.getElem?_append_right (by omega),List.getElem?_append_right (by omega),hl]
   rw [show j * 3 - j * 3=0 by omega,show j * 3+1 - j * 3=1 by omega,show j * 3+2 - j * 3=2 by omega]
   exact ⟨rfl,rfl,rfl⟩
def UptoM (k:Int) (j:Nat) (xs:List Value):Prop:=∀ i,i < j→At3m k xs i
theorem uptoM_all {k:Int} {n:Nat} {xs:List Value} (h:UptoM k n xs) (hl:xs.length=n * 3):xs=marksM k n:=by
 refine List.ext_getElem? fun i=>?_
 by_cases hi:i < n * 3
 ·have hq:i / 3 < n:=by omega
  obtain ⟨a0,a1,a2⟩:=h (i / 3) hq
  obtain ⟨b0,b1,b2⟩:=marksM_at k n (i / 3) hq
  have hr:i % 3=0 ∨ i % 3=1 ∨ i % 3=2:=by omega
  rcases hr with hr | hr | hr
  ·rw [show i=i / 3 * 3 by omega,a0,b0]
  ·rw [show i=i / 3 * 3+1 by omega,a1,b1]
  ·rw [show i=i / 3 * 3+2 by omega,a2,b2]
 ·rw [List.getElem?_eq_none (by omega),List.getElem?_eq_none (by rw [marksM_len]; omega)]
theorem uptoM_step {k:Int} {j:Nat} {xs:List Value} (h:UptoM k j xs) (hl:j * 3+2 < xs.length):UptoM k (j+1) (((xs.set (j * 3) (.int .i64 (k+3 * (j:Int)))).set (j * 3+1) (.int .i64 (k+3 * (j:Int)+1))).set (j * 3+2) (.string (mt (k+3 * (j:Int)+2)))):=by
 intro i hi
 unfold At3m
 by_cases e:i=j
 ·subst e
  refine ⟨?_,?_,?_⟩
  ·rw [List.getElem?_set_ne (by omega),List.getElem?_set_ne (by omega),List.getElem?_set_self (by omega)]
  ·rw [List.getElem?_set_ne (by omega),List.getElem?_set_self (by simp; omega)]
  ·rw [List.getElem?_set_self (by simp; omega)]
 ·obtain ⟨a0,a1,a2⟩:=h i (by omega)
  refine ⟨?_,?_,?_⟩
  ·rw [List.getElem?_set_ne (by omega),List.getElem?_set_ne (by omega),List.getElem?_set_ne (by omega),a0]
  ·rw [List.getElem?_set_ne (by omega),List.getElem?_set_ne (by omega),List.getElem?_set_ne (by omega),a1]
  ·rw [List.getElem?_set_ne (by omega),List.getElem?_set_ne (by omega),List.getElem?_set_ne (by omega),a2]
set_option maxHeartbeats 2000000 in
set_option maxRecDepth 100000 in
theorem markM_any (v:Value) (base n:Nat) (xs0:List Value) (k:Int) (w:World) (h:w.ownsRow base 122 3 v n xs0) (hn:n≤1048576) (h0:0 < k) (h1:k≤50000000) :
  Calls Tryz.prog 61 #[v,.int .i64 k] w fun e w'=>e=.returned (.int .i64 (k+3 * (n:Int)))∧w'.ownsRow base 122 3 v n (marksM k n)∧w.grownBy w' v.ownBlock:=by
 have hxl:=h.1
 have HO:Hid (w.ownsRow base 122 3 v n xs0):=h
 rcases h.2 with ⟨rfl,hz⟩ | ⟨g,cap,cur,rfl,_⟩
 ·subst hz
  clear h hn hxl HO
  go_enter Tryz.func61,Tryz.ntmps61
  go_wp2
  go_loop [1,5] (fun z i=>z=.int .i64 k∧i=.int .i64 0) (fun _ _=>0)
  case atStart=>exact ⟨rfl,rfl⟩
  case round =>
   obtain ⟨rfl,rfl⟩:=hrel
   go_wp2
   go_ret
   exact ⟨by simp,World.ownsRow_nil _ _ _ _,ow.grown_refl _ _⟩
 clear h
 go_enter Tryz.func61,Tryz.ntmps61
 go_wp2
 go_loopw [1,5] (fun z i wr=>∃ (j:Nat) (xs:List Value),j≤n∧z=.int .i64 (k+3 * (j:Int))∧i=.int .i64 j∧xs.length=n * 3∧UptoM k j xs∧wr.ownsRow base 122 3 (.slice (some ⟨g,0,none⟩) n cap) n xs∧w.grownBy wr (some g)) (fun _ i _=>n - (intOf i).toNat)
 case atStart=>exact ⟨0,xs0,Nat.zero_le _,by simp,rfl,hxl,fun i hi=>absurd hi (by omega),HO.out,ow.grown_refl _ _⟩
 case round =>
  clear HO
  obtain ⟨j,xs,hj,rfl,rfl,hxl2,hu,hown,hgr⟩:=hrel
  have HU:Hid (UptoM k j xs):=hu
  have HL:Hid (xs.length=n * 3):=hxl2
  have HG:Hid (w.grownBy wr (some g)):=hgr
  clear hu hxl2 hgr
  by_cases hlt:j < n
  ·have hlt':(j:Int) < (n:Int):=by omega
   have hj0:(0:Int)≤(j:Int):=by omega
   generalize hK:k+3 * (j:Int)=K
   have hK0:0 < K:=by omega
   have hK1:K≤60000000:=by omega
   have HK:Hid (k+3 * (j:Int)=K):=hK
   have HKN:Hid (k+3 * ((j+1:Nat):Int)=K+1+1+1):=(show _=_ by omega)
   clear hK
   have HO0:Hid (wr.ownsRow base 122 3 (.slice (some ⟨g,0,none⟩) n cap) n xs):=hown
   have q0:=hown.cellAt (j * 3) (by omega)
   have q1:=hown.cellAt (j * 3+1) (by omega)
   have q2:=hown.cellAt (j * 3+2) (by omega)
   rw [List.getElem?_eq_getElem (by rw [HL.out]; omega)] at q0 q1 q2
   have f0:=hown.frozenAt (j * 3)
   have f1:=hown.frozenAt (j * 3+1)
   have f2:=hown.frozenAt (j * 3+2)
   generalize xs[j * 3]'(by rw [HL.out]; omega)=u0 at q0
   generalize xs[j * 3+1]'(by rw [HL.out]; omega)=u1 at q1
   generalize xs[j * 3+2]'(by rw [HL.out]; omega)=u2 at q2
   clear hown
   go_wp2_with fail
   have HX:Hid (((wr.setCell ⟨g,j * 3,none⟩ (.int .i64 K)).setCell ⟨g,j * 3+1,none⟩ (.int .i64 (K+1))).ownsRow base 122 3 (.slice (some ⟨g,0,none⟩) n cap) n ((xs.set (j * 3) (.int .i64 K)).set (j * 3+1) (.int .i64 (K+1)))∧w.grownBy ((wr.setCell ⟨g,j * 3,none⟩ (.int .i64 K)).setCell ⟨g,j * 3+1,none⟩ (.int .i64 (K+1))) (some g)):=⟨((HO0.out.stored _ _).1.stored _ _).1,ow.grown_trans (ow.grown_trans HG.out (grown_set _ _ _ _)) (grown_set _ _ _ _)⟩
   clear q0 q1 q2 f0 f1 f2 HO0
   generalize hX:World.setCell _ _ _=X at HX ⊢
   clear hX
   refine (mark_any (K+1+1) _ (by omega) (by omega)).mono ?_
   rintro e w1 ⟨rfl,hb⟩
   have o1:=ow.own_below HX.out.1 hb
   have HG1:Hid (w.grownBy w1 (some g)):=ow.grown_trans HX.out.2 (ow.grown_below hb)
   have q2:=o1.cellAt (j * 3+2) (by omega)
   rw [List.getElem?_eq_getElem (by rw [List.length_set,List.length_set,HL.out]; omega)] at q2
   have f2:=o1.frozenAt (j * 3+2)
   have HY:Hid ((w1.setCell ⟨g,j * 3+2,none⟩ (.string (mt (K+1+1)))).ownsRow base 122 3 (.slice (some ⟨g,0,none⟩) n cap) n (((xs.set (j * 3) (.int .i64 K)).set (j * 3+1) (.int .i64 (K+1))).set (j * 3+2) (.string (mt (K+1+1))))∧w.grownBy (w1.setCell ⟨g,j * 3+2,none⟩ (.string (mt (K+1+1)))) (some g)):=⟨(o1.stored _ _).1,ow.grown_trans HG1.out (grown_set _ _ _ _)⟩
   clear o1 HX hb HG1
   generalize ((xs.set (j * 3) (Value.int .i64 K)).set (j * 3+1) (Value.int .i64 (K+1)))[j * 3+2]'(by rw [List.length_set,List.length_set,HL.out]; omega)=u2 at q2
   have HU1:Hid (UptoM k (j+1) (((xs.set (j * 3) (.int .i64 K)).set (j * 3+1) (.int .i64 (K+1))).set (j * 3+2) (.string (mt (K+1+1))))):=by
    have h:=uptoM_step HU.out (by rw [HL.out]; omega)
    rw [HK.out,show K+2=K+1+1 by omega] at h
    exact h
   go_wp2
   go_roundw
   case rel=>exact ⟨j+1,_,by omega,by rw [HKN.out],by go_num,by rw [List.length_set,List.length_set,List.length_set]; exact HL.out,HU1.out,HY.out.1,HY.out.2⟩
   case measure=>simp [intOf]; omega
  ·obtain rfl:j=n:=by omega
   have HX:Hid (xs=marksM k j):=uptoM_all HU.out HL.out
   go_wp2
   go_ret
   refine ⟨rfl,?_,HG.out⟩
   rw [← HX.out]
   exact hown
set_option maxHeartbeats 2000000 in
set_option maxRecDepth 100000 in
theorem heldM_any (v:Value) (base n:Nat) (k:Int) (w:World) (h:w.ownsRow base 122 3 v n (marksM k n)) (hn:n≤1048576) (h0:0 < k) (h1:k≤50000000) :
  Calls Tryz.prog 63 #[v,.int .i64 k] w fun e w'=>e=.returned (.int .i64 (k+3 * (n:Int)))∧Below w.heap.size w w':=by
 rcases h.2 with ⟨rfl,hz⟩ | ⟨g,cap,cur,rfl,_⟩
 ·subst hz
  clear h hn
  go_enter Tryz.func63,Tryz.ntmps63
  go_wp2
  go_loop [1,5] (fun z i=>z=.int .i64 k∧i=.int .i64 0) (fun _ _=>0)
  case atStart=>exact ⟨rfl,rfl⟩
  case round =>
   obtain ⟨rfl,rfl⟩:=hrel
   go_wp2
   go_ret
   exact ⟨by simp,Below.refl _ _⟩
 have HC:Hid (∀ j,j < n→w.cell? ⟨g,j * 3,none⟩=some (.int .i64 (k+3 * (j:Int)))∧w.cell? ⟨g,j * 3+1,none⟩=some (.int .i64 (k+3 * (j:Int)+1))∧w.cell? ⟨g,j * 3+2,none⟩=some (.string (mt (k+3 * (j:Int)+2)))):=fun j hj=>by
  obtain ⟨a0,a1,a2⟩:=marksM_at k n j hj
  exact ⟨by rw [h.cellAt _ (by omega),a0],by rw [h.cellAt _ (by omega),a1],by rw [h.cellAt _ (by omega),a2]⟩
 clear h
 go_enter Tryz.func63,Tryz.ntmps63
 go_wp2
 go_loopw [1,5] (fun z i wr=>∃ j:Nat,j≤n∧z=.int .i64 (k+3 * (j:Int))∧i=.int .i64 j∧Below w.heap.size w wr) (fun _ i _=>n - (intOf i).toNat)
 case atStart=>exact ⟨0,Nat.zero_le _,by simp,rfl,Below.refl _ _⟩
 case round =>
  obtain ⟨j,hj,rfl,rfl,hbw⟩:=hrel
  by_cases hlt:j < n
  ·obtain ⟨v0,v1,v2⟩:=HC.out j hlt
   have c0:=(hbw.cell (p:=⟨g,j * 3,none⟩) (World.block_lt_of_cell? w _ v0)).trans v0
   have c1:=(hbw.cell (p:=⟨g,j * 3+1,none⟩) (World.block_lt_of_cell? w _ v1)).trans v1
   have c2:=(hbw.cell (p:=⟨g,j * 3+2,none⟩) (World.block_lt_of_cell? w _ v2)).trans v2
   clear v0 v1 v2
   have hK0:0 < k+3 * (j:Int):=by omega
   have hK1:k+3 * (j:Int)≤60000000:=by omega
   have HKN:Hid (k+3 * ((j+1:Nat):Int)=k+3 * (j:Int)+1+1+1):=(show _=_ by omega)
   rw [show k+3 * (j:Int)+2=k+3 * (j:Int)+1+1 by omega] at c2
   generalize k+3 * (j:Int)=K at *
   have HM:Hid (∀ w,Calls Tryz.prog 60 #[.int .i64 (K+1+1)] w fun e w'=>e=.returned (.string (mt (K+1+1)))∧Below w.heap.size w w'):=fun w=>mark_any _ w (by omega) (by omega)
   have HC2:Hid (wr.cell? ⟨g,j * 3+2,none⟩=some (.string (mt (K+1+1)))):=c2
   clear c2
   generalize mt (K+1+1)=x at HC2 HM
   have hxx:(x.toList == x.toList)=true:=by simp
   have n0:((K:Int) != K)=false:=by simp
   have n1:((K+1:Int) != K+1)=false:=by simp
   have hlt':(j:Int) < (n:Int):=by omega
   have hk0:(0:Int)≤(j:Int):=by omega
   go_wp2_with fail
   have ne:=ext_some wr
   have c2:=fun y:Ext wr=>gw_cell y HC2.out
   refine region_lit (by kernel_rfl) (by kernel_rfl) ?_
   repeat (go_big_quiet_step ((go_at_call 60; exact grow_of (HM.out _))))
   refine wpQuiet_nil ?_
   rintro W' ⟨y0,rfl⟩
   have b3:=hbw.trans ((gw_below y0).mono hbw.size)
   generalize gw y0=W' at b3 ⊢
   clear c0 c1 c2 hbw HM HC2
   go_wp2
   go_roundw
   case rel=>exact ⟨j+1,by omega,by rw [HKN.out],by go_num,b3⟩
   case measure=>simp [intOf]; omega
  ·obtain rfl:j=n:=by omega
   go_wp2
   go_ret
   exact ⟨rfl,hbw⟩
end Go.Proofs.YtnhcbiomkiljpaaGreatDoor.mm
namespace Go.Proofs.YtnhcbiomkiljpaaGreatDoor.bx
open Go.ChangeShapes Go.WideShapes Go.ChangeAt Go.RowKit Go.Deep Go.Joins
open st gr
set_option linter.unusedVariables false
theorem infoB:(Tryz.prog.info? 85).map (fun i=>(i.zero,i.size,i.bytes))=some (some (.agg #[.string ⟨#[]⟩,.int .i64 0,.int .i64 0,.slice none 0 0,.slice none 0 0]),5,80):=by kernel_rfl
def put5 (cs:List Value) (o:Nat) (x:Bx) (p:Value × Value):List Value:=((((cs.set o (.string x.nm)).set (o+1) (.int .i64 x.vd)).set (o+2) (.int .i64 x.nx)).set (o+3) p.1).set (o+4) p.2
theorem put5_len (cs:List Value) (o:Nat) (x:Bx) (p:Value × Value):(put5 cs o x p).length=cs.length:=by simp [put5]
theorem put5_other {cs:List Value} {o j:Nat} {x:Bx} {p:Value × Value} (h:j < o ∨ o+4 < j):(put5 cs o x p)[j]? = cs[j]?:=by
 unfold put5
 rw [List.getElem?_set_ne (by omega),List.getElem?_set_ne (by omega),List.getElem?_set_ne (by omega),List.getElem?_set_ne (by omega),List.getElem?_set_ne (by omega)]
def In5 (cs:List Value) (o:Nat) (x:Bx) (p:Value × Value):Prop:=cs[o]? = some (.string x.nm)∧cs[o+1]? = some (.int .i64 x.vd)∧cs[o+2]? = some (.int .i64 x.nx)∧cs[o+3]? = some p.1∧cs[o+4]? = some p.2
theorem put5_same {cs:List Value} {o:Nat} {x:Bx} {p:Value × Value} (h:o+4 < cs.length):In5 (put5 cs o x p) o x p:=by
 unfold put5 In5
 refine ⟨?_,?_,?_,?_,?_⟩
 ·rw [List.getElem?_set_ne (by omega),List.getElem?_set_ne (by omega),List.getElem?_set_ne (by omega),List.getElem?_set_ne (by omega),List.getElem?_set_self (by omega)]
 ·rw [List.getElem?_set_ne (by omega),List.getElem?_set_ne (by omega),List.getElem?_set_ne (by omega),List.getElem?_set_self (by simp; omega)]
 ·rw [List.getElem?_set_ne (by omega),List.getElem?_set_ne (by omega),List.getElem?_set_self (by simp; omega)]
 ·rw [List.getElem?_set_ne (by omega),List.getElem?_set_self (by simp; omega)]
 ·rw [List.getElem?_set_self (by simp; omega)]
theorem in5_other {cs:List Value} {o q:Nat} {x y:Bx} {p r:Value × Value} (h:In5 cs q y r) (hp:q+4 < o ∨ o+4 < q):In5 (put5 cs o x p) q y r:=by
 obtain ⟨h0,h1,h2,h3,h4⟩:=h
 refine ⟨?_,?_,?_,?_,?_⟩ <;> (rw [put5_other (by omega)]; assumption)
def LayB (xs:List Bx) (vs:Nat→Value × Value) (k:Nat) (cs:List Value):Prop:=∀ j,j < k→In5 cs (j * 5) (xs.getD j noB) (vs j)
def upd (vs:Nat→Value × Value) (k:Nat) (p:Value × Value):Nat→Value × Value:=fun j=>if j=k then p else vs j
theorem layB_step {xs:List Bx} {vs:Nat→Value × Value} {k:Nat} {cs:List Value} (h:LayB xs vs k cs) (hl:k * 5+4 < cs.length) {x:Bx} (hx:xs.getD k noB=x) (p:Value × Value):LayB xs (upd vs k p) (k+1) (put5 cs (k * 5) x p):=by
 intro j hj
 by_cases e:j=k
 ·subst e
  rw [hx]
  simp only [upd,if_true]
  exact put5_same hl
 ·simp only [upd,if_neg e]
  exact in5_other (h j (by omega)) (by omega)
def Made (w:World) (B:Nat) (xs:List Bx) (vs:Nat→Value × Value) (k:Nat):Prop :=
 ∀ j,j < k→∃ g g',vs j=(.slice (some ⟨g,0,none⟩) (xs.getD j noB).ms.length (xs.getD j noB).ms.length,.slice (some ⟨g',0,none⟩) (xs.getD j noB).ks.length (xs.getD j noB).ks.length)∧B < g∧B < g'∧RowsAt w (vs j).1 (vs j).2 (xs.getD j noB).ms (xs.getD j noB).ks
theorem made_below {w w':World} {B:Nat} {xs:List Bx} {vs:Nat→Value × Value} {k:Nat} (h:Made w B xs vs k) (hb:Below w.heap.size w w'):Made w' B xs vs k:=fun j hj=>by
 obtain ⟨g,g',e,h1,h2,h3⟩:=h j hj
 exact ⟨g,g',e,h1,h2,rows_below h3 hb⟩
theorem rows_set {w w':World} {B g g' n m c d:Nat} {ms:List St} {ks:List ByteArray} (h:RowsAt w (.slice (some ⟨g,0,none⟩) n c) (.slice (some ⟨g',0,none⟩) m d) ms ks) (hg:B < g) (hg':B < g') (hw:∀ q,q ≠ B→w'.heap[q]? = w.heap[q]?) (hs:w'.heap.size=w.heap.size):RowsAt w' (.slice (some ⟨g,0,none⟩) n c) (.slice (some ⟨g',0,none⟩) m d) ms ks :=
 ⟨mails_other h.1 (hw g (by omega)) (fun h=>by rw [hs]; exact h),texts_other h.2 (hw g' (by omega)) (fun h=>by rw [hs]; exact h)⟩
theorem made_set {w w':World} {B:Nat} {xs:List Bx} {vs:Nat→Value × Value} {k:Nat} (h:Made w B xs vs k) (hw:∀ q,q ≠ B→w'.heap[q]? = w.heap[q]?) (hs:w'.heap.size=w.heap.size):Made w' B xs vs k:=fun j hj=>by
 obtain ⟨g,g',e,h1,h2,h3⟩:=h j hj
 refine ⟨g,g',e,h1,h2,?_⟩
 rw [e] at h3 ⊢
 exact rows_set h3 h1 h2 hw hs
theorem made_step {w:World} {B:Nat} {xs:List Bx} {vs:Nat→Value × Value} {k:Nat} (h:Made w B xs vs k) {x:Bx} (hx:xs.getD k noB=x) {g g':Nat} (hg:B < g) (hg':B < g') (hr:RowsAt w (.slice (some ⟨g,0,none⟩) x.ms.length x.ms.length) (.slice (some ⟨g',0,none⟩) x.ks.length x.ks.length) x.ms x.ks) :
  Made w B xs (upd vs k (.slice (some ⟨g,0,none⟩) x.ms.length x.ms.length,.slice (some ⟨g',0,none⟩) x.ks.length x.ks.length)) (k+1):=by
 intro j hj
 by_cases e:j=k
 ·subst e
  simp only [upd,if_true]
  rw [hx]
  exact ⟨g,g',rfl,hg,hg',hr⟩
 ·simp only [upd,if_neg e]
  exact h j (by omega)
theorem set5_other (w:World) (B:Nat) (o0 o1 o2 o3 o4:Nat) (a b c d e:Value) (q:Nat) (hq:q ≠ B):(((((w.setCell ⟨B,o0,none⟩ a).setCell ⟨B,o1,none⟩ b).setCell ⟨B,o2,none⟩ c).setCell ⟨B,o3,none⟩ d).setCell ⟨B,o4,none⟩ e).heap[q]? = w.heap[q]?:=by
 rw [heap_setCell_other _ _ _ _ hq,heap_setCell_other _ _ _ _ hq,heap_setCell_other _ _ _ _ hq,heap_setCell_other _ _ _ _ hq,heap_setCell_other _ _ _ _ hq]
theorem set5_size (w:World) (B:Nat) (o0 o1 o2 o3 o4:Nat) (a b c d e:Value):(((((w.setCell ⟨B,o0,none⟩ a).setCell ⟨B,o1,none⟩ b).setCell ⟨B,o2,none⟩ c).setCell ⟨B,o3,none⟩ d).setCell ⟨B,o4,none⟩ e).heap.size=w.heap.size:=by simp
set_option maxHeartbeats 4000000 in
set_option maxRecDepth 100000 in
theorem eqBoxS_any (v u:Value) (xs:List Bx) (vs us:Nat→Value × Value) (w:World) (h1:BoxesAt w v xs vs) (h2:BoxesAt w u xs us) (hs:Smalls xs) :
  Calls Tryz.prog 31 #[v,u] w fun e w'=>e=.returned (.bool true)∧Below w.heap.size w w':=by
 have HALL:Hid (BoxesAt w v xs vs∧BoxesAt w u xs us):=⟨h1,h2⟩
 obtain ⟨⟨a,cap,rfl,hc1⟩,_⟩:=h1
 obtain ⟨⟨c,cap2,rfl,hc2⟩,_⟩:=h2
 obtain ⟨n,hn⟩:∃ n,n=xs.length:=⟨_,rfl⟩
 have HN:Hid (n=xs.length):=hn
 have H1:Hid (xs=[] ∨ ∃ b off,a=some ⟨b,off,none⟩∧b < w.heap.size∧∀ j,j < xs.length→At5 w b (off+j * 5) (xs.getD j noB) (vs j)):=hc1
 have H2:Hid (xs=[] ∨ ∃ b off,c=some ⟨b,off,none⟩∧b < w.heap.size∧∀ j,j < xs.length→At5 w b (off+j * 5) (xs.getD j noB) (us j)):=hc2
 have HS:Hid (Smalls xs):=hs
 have hl:n≤1048576:=by rw [hn]; exact hs.1
 rw [← hn] at HALL ⊢
 clear hc1 hc2 hs hn
 have hnn:((n:Int) != (n:Int))=false:=by simp
 go_enter Tryz.func31,Tryz.ntmps31
 go_wp2
 go_loopw [5] (fun i wr=>∃ k:Nat,k≤n∧i=.int .i64 k∧Below w.heap.size w wr) (fun i _=>n - (intOf i).toNat)
 case atStart=>exact ⟨0,Nat.zero_le _,rfl,Below.refl _ _⟩
 case round =>
  obtain ⟨k,hk,rfl,hbw⟩:=hrel
  by_cases hlt:k < n
  ·have hka:k < xs.length:=by rw [← HN.out]; exact hlt
   rcases H1.out with e | ⟨b,off,rfl,hb1,hcells⟩
   ·rw [e] at hka; simp at hka
   rcases H2.out with e | ⟨b2,off2,rfl,hb2,hcells2⟩
   ·rw [e] at hka; simp at hka
   have ha:=(hcells k hka).keep hbw hb1
   have hb:=(hcells2 k hka).keep hbw hb2
   have hr1:=rows_more ((boxes_in_below HALL.out.1 hbw (Nat.le_refl _)).2 k hka) hbw.size
   have hr2:=rows_more ((boxes_in_below HALL.out.2 hbw (Nat.le_refl _)).2 k hka) hbw.size
   have hsk:=HS.out.2 k hka
   clear hcells hka hcells2
   generalize xs.getD k noB=x at ha hb hr1 hr2 hsk
   generalize vs k=q at ha hr1
   generalize us k=r at hb hr2
   obtain ⟨q1,q2⟩:=q
   obtain ⟨r1,r2⟩:=r
   obtain ⟨c0,c1,c2,c3,c4⟩:=ha
   obtain ⟨d0,d1,d2,d3,d4⟩:=hb
   simp only at c0 c1 c2 c3 c4 d0 d1 d2 d3 d4 hr1 hr2
   have hpl:x.ms.length≤1048576∧x.ks.length≤1048576:=⟨hsk.2.2.1.1,hsk.2.2.2.1⟩
   have HE:Hid (∀ y:Ext wr,Calls Tryz.prog 58 #[.agg #[.string x.nm,.int .i64 x.vd,.int .i64 x.nx,q1,q2],.agg #[.string x.nm,.int .i64 x.vd,.int .i64 x.nx,r1,r2]] (gw y) fun e w'=>e=.returned (.bool true)∧Below (gw y).heap.size (gw y) w'):=fun y=>eqBox_any x q1 q2 r1 r2 (gw y) (rows_below hr1 (gw_below y)) (rows_below hr2 (gw_below y)) hpl
   obtain ⟨⟨a2,cap2,rfl,_⟩,⟨a3,cap3,rfl,_⟩⟩:=hr1
   obtain ⟨⟨a4,cap4,rfl,_⟩,⟨a5,cap5,rfl,_⟩⟩:=hr2
   clear hsk hpl
   have hlt':(k:Int) < (n:Int):=by omega
   have hk0:(0:Int)≤(k:Int):=by omega
   go_wp2_with fail
   have ne:=ext_some wr
   have c0:=fun y:Ext wr=>gw_cell y c0
   have c1:=fun y:Ext wr=>gw_cell y c1
   have c2:=fun y:Ext wr=>gw_cell y c2
   have c3:=fun y:Ext wr=>gw_cell y c3
   have c4:=fun y:Ext wr=>gw_cell y c4
   have d0:=fun y:Ext wr=>gw_cell y d0
   have d1:=fun y:Ext wr=>gw_cell y d1
   have d2:=fun y:Ext wr=>gw_cell y d2
   have d3:=fun y:Ext wr=>gw_cell y d3
   have d4:=fun y:Ext wr=>gw_cell y d4
   refine region_lit (by kernel_rfl) (by kernel_rfl) ?_
   repeat (go_big_quiet_step ((go_at_call 58; exact grow_of (HE.out _))))
   refine wpQuiet_nil ?_
   rintro W' ⟨y,rfl⟩
   have b3:=hbw.trans ((gw_below y).mono hbw.size)
   generalize gw y=W' at b3 ⊢
   clear c0 c1 c2 c3 c4 d0 d1 d2 d3 d4 hbw HE
   go_wp2
   go_roundw
   case rel=>exact ⟨k+1,by omega,by go_num,b3⟩
   case measure=>simp [intOf]; omega
  ·go_wp2
   go_ret
   exact ⟨rfl,hbw⟩
end Go.Proofs.YtnhcbiomkiljpaaGreatDoor.bx
namespace Go.Proofs.YtnhcbiomkiljpaaGreatDoor.it
open Go.RowKit
set_option linter.unusedVariables false
abbrev Pr:=ByteArray × ByteArray
def no:Pr:=(⟨#[]⟩,⟨#[]⟩)
def AttrsAt (w:World) (v:Value) (ps:List Pr):Prop :=
 ∃ a cap,v=.slice a ps.length cap∧(ps=[] ∨ ∃ b off,a=some ⟨b,off,none⟩∧∀ j,j < ps.length→w.cell? ⟨b,off+j * 2,none⟩=some (.string (ps.getD j no).1)∧w.cell? ⟨b,off+j * 2+1,none⟩=some (.string (ps.getD j no).2))
theorem at_below {w w':World} {v:Value} {ps:List Pr} (h:AttrsAt w v ps) (hb:Below w.heap.size w w'):AttrsAt w' v ps:=by
 obtain ⟨a,cap,rfl,h⟩:=h
 refine ⟨a,cap,rfl,?_⟩
 rcases h with h | ⟨b,off,rfl,h⟩
 ·exact .inl h
 ·refine .inr ⟨b,off,rfl,fun j hj=>?_⟩
  obtain ⟨h0,h1⟩:=h j hj
  have hl:=World.block_lt_of_cell? w _ h0
  exact ⟨(hb.cell (p:=⟨b,off+j * 2,none⟩) hl).trans h0,(hb.cell (p:=⟨b,off+j * 2+1,none⟩) hl).trans h1⟩
def Small (ps:List Pr):Prop:=ps.length≤1048576∧∀ j,j < ps.length→(ps.getD j no).1.size≤1048576∧(ps.getD j no).2.size≤1048576
def SmallTo (ps:List Pr) (k:Nat):Prop:=ps.length≤1048576∧∀ j,j < k→(ps.getD j no).1.size≤1048576∧(ps.getD j no).2.size≤1048576
set_option maxHeartbeats 1000000 in
theorem szAttr_any (n v:ByteArray) (left:Int) (w:World) (h0:0≤left) (h1:left≤1048576) (hn:n.size≤maxLen) (hv:v.size≤maxLen) :
  Calls Tryz.prog 40 #[.agg #[.string n,.string v],.int .i64 left] w fun e w'=>(∃ z:Int,e=.returned (.int .i64 z)∧z≤left∧-1≤z∧(0≤z→n.size≤1048576∧v.size≤1048576))∧Below w.heap.size w w':=by
 unfold maxLen at hn hv
 have hbw:Below w.heap.size w (w.alloc (.cells #[.string n,.string v] 74)):=(Below.refl _ _).alloc (Nat.le_refl _) _
 by_cases g0:left - (n.size:Int) < 0
 ·go_enter Tryz.func40,Tryz.ntmps40
  go_wp2
  go_ret
  exact ⟨⟨-1,rfl,by omega,by omega,by omega⟩,hbw⟩
 by_cases g1:left - (n.size:Int) - (v.size:Int) < 0
 ·go_enter Tryz.func40,Tryz.ntmps40
  go_wp2
  go_ret
  exact ⟨⟨-1,rfl,by omega,by omega,by omega⟩,hbw⟩
 ·go_enter Tryz.func40,Tryz.ntmps40
  go_wp2
  go_ret
  exact ⟨⟨_,rfl,by omega,by omega,by omega⟩,hbw⟩
set_option maxHeartbeats 1000000 in
theorem szAttrS_any (v:Value) (ps:List Pr) (left:Int) (w:World) (h:AttrsAt w v ps) (h0:0≤left) (h1:left≤1048576) (hl:ps.length≤maxLen) (hs:∀ j,j < ps.length→(ps.getD j no).1.size≤maxLen∧(ps.getD j no).2.size≤maxLen) :
  Calls Tryz.prog 20 #[v,.int .i64 left] w fun e w'=>(∃ z:Int,e=.returned (.int .i64 z)∧z≤left∧-1≤z∧(0≤z→Small ps))∧Below w.heap.size w w':=by
 obtain ⟨a,cap,rfl,h⟩:=h
 obtain ⟨n,hn⟩:∃ n,n=ps.length:=⟨_,rfl⟩
 have HN:Hid (n=ps.length):=hn
 have HH:Hid (ps=[] ∨ ∃ b off,a=some ⟨b,off,none⟩∧∀ j,j < ps.length→w.cell? ⟨b,off+j * 2,none⟩=some (.string (ps.getD j no).1)∧w.cell? ⟨b,off+j * 2+1,none⟩=some (.string (ps.getD j no).2)):=h
 have HS:Hid (∀ j,j < ps.length→(ps.getD j no).1.size≤maxLen∧(ps.getD j no).2.size≤maxLen):=hs
 rw [← hn] at hl ⊢
 clear h hs hn
 unfold maxLen at hl
 by_cases g0:left - (n:Int) < 0
 ·go_enter Tryz.func20,Tryz.ntmps20
  go_wp2
  go_ret
  exact ⟨⟨-1,rfl,by omega,by omega,by omega⟩,Below.refl _ _⟩
 go_enter Tryz.func20,Tryz.ntmps20
 go_wp2
 go_loopw [1,5] (fun z i wr=>∃ (k:Nat) (y:Int),k≤n∧0≤y∧y≤left∧z=.int .i64 y∧i=.int .i64 k∧SmallTo ps k∧Below w.heap.size w wr) (fun _ i _=>n - (intOf i).toNat)
 case atStart=>exact ⟨0,left - (n:Int),Nat.zero_le _,by omega,by omega,rfl,rfl,⟨by rw [← HN.out]; omega,fun j hj=>absurd hj (Nat.not_lt_zero _)⟩,Below.refl _ _⟩
 case round =>
  obtain ⟨k,y,hk,hy0,hy1,rfl,rfl,hsm,hbw⟩:=hrel
  have HSM:Hid (SmallTo ps k):=hsm
  clear hsm
  by_cases hlt:k < n
  ·have hka:k < ps.length:=by rw [← HN.out]; exact hlt
   rcases HH.out with e | ⟨b,off,rfl,hcells⟩
   ·rw [e] at hka; simp at hka
   obtain ⟨v0,v1⟩:=hcells k hka
   obtain ⟨s0,s1⟩:=HS.out k hka
   have hblt:b < w.heap.size:=World.block_lt_of_cell? w _ v0
   have c0:=(hbw.cell (p:=⟨b,off+k * 2,none⟩) hblt).trans v0
   have c1:=(hbw.cell (p:=⟨b,off+k * 2+1,none⟩) hblt).trans v1
   clear hcells v0 v1 hka
   have HE:Hid (ps.getD k no=((ps.getD k no).1,(ps.getD k no).2)):=rfl
   generalize hn1:(ps.getD k no).1=nm at c0 s0 HE
   generalize hv1:(ps.getD k no).2=vl at c1 s1 HE
   have HN1:Hid ((ps.getD k no).1=nm):=hn1
   have HV1:Hid ((ps.getD k no).2=vl):=hv1
   clear hn1 hv1
   go_wp2_with fail
   refine (szAttr_any nm vl y _ hy0 (by omega) s0 s1).mono ?_
   rintro e w2 ⟨⟨z,rfl,hz0,hz1,hz2⟩,hb2⟩
   have HZ:Hid (0≤z→nm.size≤1048576∧vl.size≤1048576):=hz2
   clear hz2
   by_cases hz:z < 0
   ·go_wp2
    go_ret
    exact ⟨⟨-1,rfl,by omega,by omega,by omega⟩,hbw.trans (hb2.mono hbw.size)⟩
   ·go_wp2
    go_roundw
    case rel=>exact ⟨k+1,z,by omega,by omega,by omega,rfl,by go_num,⟨HSM.out.1,fun j hj=>by by_cases hjk:j=k; subst hjk; rw [HN1.out,HV1.out]; exact HZ.out (by omega); exact HSM.out.2 j (by omega)⟩,hbw.trans (hb2.mono hbw.size)⟩
    case measure=>simp [intOf]; omega
  ·go_wp2
   go_ret
   exact ⟨⟨y,rfl,by omega,by omega,fun _=>⟨HSM.out.1,fun j hj=>HSM.out.2 j (by have:=HN.out; omega)⟩⟩,hbw⟩
end Go.Proofs.YtnhcbiomkiljpaaGreatDoor.it
namespace Go.Proofs.YtnhcbiomkiljpaaGreatDoor.it
open Go.RowKit
set_option linter.unusedVariables false
theorem infoAt:(Tryz.prog.info? 87).map (fun i=>(i.zero,i.size,i.bytes))=some (some (.agg #[.string ⟨#[]⟩,.string ⟨#[]⟩]),2,32):=by kernel_rfl
set_option maxHeartbeats 1000000 in
set_option maxRecDepth 100000 in
theorem toAttr_any (n v:ByteArray) (w:World):Calls Tryz.prog 49 #[.agg #[.string n,.string v]] w fun e w'=>e=.returned (.agg #[.string n,.string v])∧Below w.heap.size w w':=by
 go_enter Tryz.func49,Tryz.ntmps49
 go_wp2
 refine bodyPost_ret (v:=.agg #[.string n,.string v]) (by simp [results,Tryz.results49,go_sem]) rfl ⟨rfl,?_⟩
 exact (((Below.refl _ w).alloc (Nat.le_refl _) _).alloc (by simp) _).alloc (by simp; omega) _
def Lay (ps:List Pr) (k:Nat) (xs:List Value):Prop:=∀ j,j < k→xs[j * 2]? = some (.string (ps.getD j no).1)∧xs[j * 2+1]? = some (.string (ps.getD j no).2)
theorem lay_step {ps:List Pr} {k:Nat} {xs:List Value} (h:Lay ps k xs) (hl:k * 2+1 < xs.length) {a b:ByteArray} (ha:(ps.getD k no).1=a) (hb:(ps.getD k no).2=b):Lay ps (k+1) ((xs.set (k * 2) (.string a)).set (k * 2+1) (.string b)):=by
 intro j hj
 by_cases e:j=k
 ·subst e
  rw [ha,hb]
  refine ⟨?_,?_⟩
  ·rw [List.getElem?_set_ne (by omega),List.getElem?_set_self (by omega)]
  ·rw [List.getElem?_set_self (by rw [List.length_set]; omega)]
 ·obtain ⟨h0,h1⟩:=h j (by omega)
  refine ⟨?_,?_⟩
  ·rw [List.getElem?_set_ne (by omega),List.getElem?_set_ne (by omega)]; exact h0
  ·rw [List.getElem?_set_ne (by omega),List.getElem?_set_ne (by omega)]; exact h1
theorem attrs_lay {w:World} {base e g n cap:Nat} {ps:List Pr} {xs:List Value} (hn:n=ps.length) (h:w.ownsRow base e 2 (.slice (some ⟨g,0,none⟩) n cap) n xs) (hl:Lay ps n xs):AttrsAt w (.slice (some ⟨g,0,none⟩) n cap) ps:=by
 subst hn
 refine ⟨_,cap,rfl,.inr ⟨g,0,rfl,fun j hj=>?_⟩⟩
 obtain ⟨h0,h1⟩:=hl j hj
 refine ⟨?_,?_⟩
 ·rw [Nat.zero_add,h.cellAt (j * 2) (by omega),h0]
 ·rw [Nat.zero_add,h.cellAt (j * 2+1) (by omega),h1]
set_option maxHeartbeats 1000000 in
set_option maxRecDepth 100000 in
theorem toAttrS_any (v:Value) (ps:List Pr) (w:World) (h:AttrsAt w v ps) (hn:ps.length≤1048576) :
  Calls Tryz.prog 26 #[v] w fun e w'=>e=.returned (.slice (some ⟨w.heap.size,0,none⟩) ps.length ps.length)∧AttrsAt w' (.slice (some ⟨w.heap.size,0,none⟩) ps.length ps.length) ps∧Below w.heap.size w w':=by
 obtain ⟨a,cap,rfl,h⟩:=h
 obtain ⟨i0,hi,hz0,hz1,hz2⟩:=info_parts infoAt
 obtain ⟨n,hn'⟩:∃ n,n=ps.length:=⟨_,rfl⟩
 have HN:Hid (n=ps.length):=hn'
 have HH:Hid (ps=[] ∨ ∃ b off,a=some ⟨b,off,none⟩∧∀ j,j < ps.length→w.cell? ⟨b,off+j * 2,none⟩=some (.string (ps.getD j no).1)∧w.cell? ⟨b,off+j * 2+1,none⟩=some (.string (ps.getD j no).2)):=h
 rw [← hn'] at hn ⊢
 clear h hn'
 go_enter Tryz.func26,Tryz.ntmps26
 go_wp2_with (at_make; refine wpList_make_full _ rfl _ _ 39 rfl w.heap.size 87 i0 _ 2 Tryz.underlying39 hi hz0 hz1 _ _ _ _ n rfl rfl rfl rfl (by rw [hz2]; omega) (by unfold maxLen; omega) (Nat.le_refl _) ?_; intro w1 hown1 hg1)
 have hb1:Below w.heap.size w w1:=(Below.refl _ _).grown hg1 (Nat.le_refl _) (fun k hk=>by cases hk)
 clear hg1
 go_loopw [4] (fun i wr=>∃ (k:Nat) (xs:List Value),k≤n∧i=.int .i64 k∧xs.length=n * 2∧Lay ps k xs∧wr.ownsRow w.heap.size 87 2 (.slice (some ⟨w.heap.size,0,none⟩) n n) n xs∧Below w.heap.size w wr) (fun i _=>n - (intOf i).toNat)
 case atStart=>exact ⟨0,_,Nat.zero_le _,rfl,hown1.1.symm ▸ rfl,fun j hj=>absurd hj (Nat.not_lt_zero _),hown1,hb1⟩
 case round =>
  clear hown1 hb1
  obtain ⟨k,xs,hk,rfl,hxl,hm,hown,hbw⟩:=hrel
  have HM:Hid (Lay ps k xs):=hm
  have HL:Hid (xs.length=n * 2):=hxl
  clear hm hxl
  by_cases hlt:k < n
  ·have hka:k < ps.length:=by rw [← HN.out]; exact hlt
   rcases HH.out with e | ⟨b,off,rfl,hcells⟩
   ·rw [e] at hka; simp at hka
   obtain ⟨v0,v1⟩:=hcells k hka
   have hblt:b < w.heap.size:=World.block_lt_of_cell? w _ v0
   have c0:=(hbw.cell (p:=⟨b,off+k * 2,none⟩) hblt).trans v0
   have c1:=(hbw.cell (p:=⟨b,off+k * 2+1,none⟩) hblt).trans v1
   clear hcells v0 v1 hka
   generalize hn1:(ps.getD k no).1=nm at c0
   generalize hv1:(ps.getD k no).2=vl at c1
   have HN1:Hid ((ps.getD k no).1=nm):=hn1
   have HV1:Hid ((ps.getD k no).2=vl):=hv1
   clear hn1 hv1
   go_wp2_with fail
   refine (toAttr_any nm vl _).mono ?_
   rintro e w2 ⟨rfl,hb2⟩
   have hown2:=ow.own_below hown hb2
   have hbw2:=hbw.trans (hb2.mono hbw.size)
   clear hb2 hbw hown c0 c1
   have HO:Hid (w2.ownsRow w.heap.size 87 2 (.slice (some ⟨w.heap.size,0,none⟩) n n) n xs):=hown2
   have q0:=hown2.cellAt (k * 2) (by omega)
   have q1:=hown2.cellAt (k * 2+1) (by omega)
   rw [List.getElem?_eq_getElem (by rw [HL.out]; omega)] at q0 q1
   have f0:=hown2.frozenAt (k * 2)
   have f1:=hown2.frozenAt (k * 2+1)
   clear hown2
   generalize xs[k * 2]'(by rw [HL.out]; omega)=u0 at q0
   generalize xs[k * 2+1]'(by rw [HL.out]; omega)=u1 at q1
   have hlt':(k:Int) < (n:Int):=by omega
   go_wp2
   go_roundw
   case rel=>exact ⟨k+1,(xs.set (k * 2) (.string nm)).set (k * 2+1) (.string vl),by omega,by go_num,by rw [List.length_set,List.length_set]; exact HL.out,lay_step HM.out (by rw [HL.out]; omega) HN1.out HV1.out,((HO.out.stored _ _).1.stored _ _).1,(hbw2.setCell (Nat.le_refl _) _).setCell (Nat.le_refl _) _⟩
   case measure=>simp [intOf]; omega
  ·have HQ:Hid (AttrsAt wr (.slice (some ⟨w.heap.size,0,none⟩) n n) ps):=attrs_lay HN.out hown (fun j hj=>HM.out j (by omega))
   go_wp2
   go_ret
   exact ⟨rfl,HQ.out,hbw⟩
open gr
set_option maxHeartbeats 1000000 in
set_option maxRecDepth 100000 in
theorem eqAttr_any (n v:ByteArray) (w:World):Calls Tryz.prog 59 #[.agg #[.string n,.string v],.agg #[.string n,.string v]] w fun e w'=>e=.returned (.bool true)∧Below w.heap.size w w':=by
 go_enter Tryz.func59,Tryz.ntmps59
 go_wp2
 go_ret
 exact ⟨rfl,((Below.refl _ w).alloc (Nat.le_refl _) _).alloc (by simp) _⟩
set_option maxHeartbeats 1000000 in
set_option maxRecDepth 100000 in
theorem eqAttrS_any (v u:Value) (ps:List Pr) (w:World) (h1:AttrsAt w v ps) (h2:AttrsAt w u ps) (hn:ps.length≤1048576) :
  Calls Tryz.prog 32 #[v,u] w fun e w'=>e=.returned (.bool true)∧Below w.heap.size w w':=by
 obtain ⟨a,cap,rfl,h1⟩:=h1
 obtain ⟨c,cap2,rfl,h2⟩:=h2
 obtain ⟨n,hn'⟩:∃ n,n=ps.length:=⟨_,rfl⟩
 have HN:Hid (n=ps.length):=hn'
 have H1:Hid (ps=[] ∨ ∃ b off,a=some ⟨b,off,none⟩∧∀ j,j < ps.length→w.cell? ⟨b,off+j * 2,none⟩=some (.string (ps.getD j no).1)∧w.cell? ⟨b,off+j * 2+1,none⟩=some (.string (ps.getD j no).2)):=h1
 have H2:Hid (ps=[] ∨ ∃ b off,c=some ⟨b,off,none⟩∧∀ j,j < ps.length→w.cell? ⟨b,off+j * 2,none⟩=some (.string (ps.getD j no).1)∧w.cell? ⟨b,off+j * 2+1,none⟩=some (.string (ps.getD j no).2)):=h2
 rw [← hn'] at hn ⊢
 clear h1 h2 hn'
 have hnn:((n:Int) != (n:Int))=false:=by simp
 go_enter Tryz.func32,Tryz.ntmps32
 go_wp2
 go_loopw [5] (fun i wr=>∃ k:Nat,k≤n∧i=.int .i64 k∧Below w.heap.size w wr) (fun i _=>n - (intOf i).toNat)
 case atStart=>exact ⟨0,Nat.zero_le _,rfl,Below.refl _ _⟩
 case round =>
  obtain ⟨k,hk,rfl,hbw⟩:=hrel
  by_cases hlt:k < n
  ·have hka:k < ps.length:=by rw [← HN.out]; exact hlt
   rcases H1.out with e | ⟨b,off,rfl,hcells⟩
   ·rw [e] at hka; simp at hka
   rcases H2.out with e | ⟨b2,off2,rfl,hcells2⟩
   ·rw [e] at hka; simp at hka
   obtain ⟨v0,v1⟩:=hcells k hka
   obtain ⟨u0,u1⟩:=hcells2 k hka
   have hblt:b < w.heap.size:=World.block_lt_of_cell? w _ v0
   have hblt2:b2 < w.heap.size:=World.block_lt_of_cell? w _ u0
   have c0:=(hbw.cell (p:=⟨b,off+k * 2,none⟩) hblt).trans v0
   have c1:=(hbw.cell (p:=⟨b,off+k * 2+1,none⟩) hblt).trans v1
   have d0:=(hbw.cell (p:=⟨b2,off2+k * 2,none⟩) hblt2).trans u0
   have d1:=(hbw.cell (p:=⟨b2,off2+k * 2+1,none⟩) hblt2).trans u1
   clear hcells v0 v1 hka hcells2 u0 u1
   generalize (ps.getD k no).1=nm at c0 d0
   generalize (ps.getD k no).2=vl at c1 d1
   have hlt':(k:Int) < (n:Int):=by omega
   have hk0:(0:Int)≤(k:Int):=by omega
   go_wp2_with fail
   have ne:=ext_some wr
   have c0:=fun x:Ext wr=>gw_cell x c0
   have c1:=fun x:Ext wr=>gw_cell x c1
   have d0:=fun x:Ext wr=>gw_cell x d0
   have d1:=fun x:Ext wr=>gw_cell x d1
   refine region_lit (by kernel_rfl) (by kernel_rfl) ?_
   repeat (go_big_quiet_step ((go_at_call 59; exact grow_of (eqAttr_any _ _ _))))
   refine wpQuiet_nil ?_
   rintro W' ⟨x,rfl⟩
   have b3:=hbw.trans ((gw_below x).mono hbw.size)
   generalize gw x=W' at b3 ⊢
   clear c0 c1 d0 d1 hbw
   go_wp2
   go_roundw
   case rel=>exact ⟨k+1,by omega,by go_num,b3⟩
   case measure=>simp [intOf]; omega
  ·go_wp2
   go_ret
   exact ⟨rfl,hbw⟩
end Go.Proofs.YtnhcbiomkiljpaaGreatDoor.it
