/-
  FnReplayCardSaid
-/
import Derived.Test.YtmnflpmfngjllaaGreatDoorPkac
import Derived.Test.YtmnflpmfngjllaaGreatDoorShf
import Derived.Orders
import Derived.RegionTactic
set_option maxHeartbeats 16000000
set_option maxRecDepth 100000
set_option linter.unusedVariables false
namespace Go.Proofs.YtmnflpmfngjllaaGreatDoor
namespace st
open Go.ChangeShapes Go.WideShapes Go.ChangeAt Go.RowKit Go.Deep Go.Joins
def B3(w:World)(g:Nat)(t:TypeId)(a b c:Value):Prop:=w.heap[g]?=some (.cells #[a,b,c] t (0,0))
section
variable {w w':World}{g:Nat}{t:TypeId}{a b c a' b' c':Value}
theorem zbN(w:World)(t:TypeId)(a b c:Value):B3 (w.alloc (.cells #[a,b,c] t)) w.heap.size t a b c:=by
 show(w.heap.push (.cells #[a,b,c] t))[w.heap.size]?=_;simp
theorem B3.c0(h:B3 w g t a b c):w.cell? ⟨g,0,none⟩=some a:=by rw[cell_of_row _ _ 0 _ _ _ h];rfl
theorem B3.c1(h:B3 w g t a b c):w.cell? ⟨g,1,none⟩=some b:=by rw[cell_of_row _ _ 1 _ _ _ h];rfl
theorem B3.c1'(h:B3 w g t a b c):w.cell? ⟨g,0+1,none⟩=some b:=by rw[cell_of_row _ _ _ _ _ _ h];rfl
theorem B3.c2(h:B3 w g t a b c):w.cell? ⟨g,2,none⟩=some c:=by rw[cell_of_row _ _ 2 _ _ _ h];rfl
theorem B3.c2'(h:B3 w g t a b c):w.cell? ⟨g,0+2,none⟩=some c:=by rw[cell_of_row _ _ _ _ _ _ h];rfl
theorem B3.f(h:B3 w g t a b c)(j:Nat):w.frozen? ⟨g,j,none⟩=false:=frozen_of_row _ _ _ _ _ h
theorem B3.lt(h:B3 w g t a b c):g<w.heap.size:=(Array.getElem?_eq_some_iff.1 h).1
theorem B3.keep(h:B3 w g t a b c)(hb:Below w.heap.size w w'):B3 w' g t a b c:=(hb.block g h.lt).trans h
theorem B3.put0(h:B3 w g t a b c)(u:Value):B3 (w.setCell ⟨g,0,none⟩ u) g t u b c:=heap_setCell_same _ g 0 _ _ _ h
theorem B3.put1(h:B3 w g t a b c)(u:Value):B3 (w.setCell ⟨g,1,none⟩ u) g t a u c:=heap_setCell_same _ g 1 _ _ _ h
theorem B3.put2(h:B3 w g t a b c)(u:Value):B3 (w.setCell ⟨g,2,none⟩ u) g t a b u:=heap_setCell_same _ g 2 _ _ _ h
def put(w:World)(g:Nat)(a b c:Value):World:=((w.setCell ⟨g,0,none⟩ a).setCell ⟨g,1,none⟩ b).setCell ⟨g,2,none⟩ c
theorem B3.put(h:B3 w g t a b c):B3 (put w g a' b' c') g t a' b' c':=((h.put0 a').put1 b').put2 c'
theorem zbr{B:Nat}{w0:World}(k:Below B w0 w)(hb:B≤g):Below B w0 (put w g a b c):=((k.setCell (p:=⟨g,0,none⟩) hb _).setCell (p:=⟨g,1,none⟩) hb _).setCell (p:=⟨g,2,none⟩) hb _
theorem B3.other{g':Nat}(h:B3 w g t a b c)(j:Nat)(u:Value)(hg:g≠g'):B3 (w.setCell ⟨g',j,none⟩ u) g t a b c:=by
 unfold B3;rw[heap_setCell_other _ _ _ _ hg];exact h
theorem new_below(w:World)(T:TypeId)(cs:Array Value):Below w.heap.size w (w.alloc (.cells cs T)):=bR.alloc lR _
end
def SV(e:St):Value:=.agg #[.int .i64 e.u,.int .i64 e.f,.string e.t]
theorem zbz(s:ByteArray)(w:World)(hs:s.size≤1048576) :
  Calls Tryz.prog 47 #[.string s] w λe w'=>e=.returned (.string s)∧Below w.heap.size w w':=by
 go_enter Tryz.func47,Tryz.ntmps47
 go_wp2_with fail
 refine(Tryz.stringslite_Clone s _ (by omega)).mono ?_;rintro e w' ⟨rfl,hb⟩;go_wp2;go_ret;exact⟨rfl,hb⟩
def cmpI(a b:Int):Int:=if a<b then -1 else if b<a then 1 else 0
theorem zcY(x:St)(w:World)(hd:x.t.size≤1048576) :
  Calls Tryz.prog 144 #[SV x] w λe w'=>e=.returned (SV x)∧Below w.heap.size w w':=by
 obtain⟨u,f,t⟩:=x;unfold SV;simp only at hd ⊢;have A1:=(zbN w 92 (.int .i64 u) (.int .i64 f) (.string t)).keep (new_below _ 92 #[.int .i64 0,.int .i64 0,.string ⟨#[]⟩]);have R1:=zbN (w.alloc (.cells #[.int .i64 u,.int .i64 f,.string t] 92)) 92 (.int .i64 0) (.int .i64 0) (.string ⟨#[]⟩);have b1:Below w.heap.size w ((w.alloc (.cells #[.int .i64 u,.int .i64 f,.string t] 92)).alloc (.cells #[.int .i64 0,.int .i64 0,.string ⟨#[]⟩] 92)):=(new_below w _ _).trans ((new_below _ _ _).mono (by simp));go_enter Tryz.func144,Tryz.ntmps144
 go_wp2_with fail
 rw[show(w.alloc (.cells #[.int .i64 u,.int .i64 f,.string t] 92)).heap.size=w.heap.size+1 from by simp] at R1;generalize(w.alloc (.cells #[.int .i64 u,.int .i64 f,.string t] 92)).alloc (.cells #[.int .i64 0,.int .i64 0,.string ⟨#[]⟩] 92)=w1 at A1 R1 b1 ⊢;refine(zbz _ w1 hd).mono ?_;rintro e w2 ⟨rfl,k2⟩;have A2:=A1.keep k2;have R2:=R1.keep k2;have b2:=b1.trans (k2.mono b1.size);clear A1 R1 k2 b1;have a0:=A2.c0;have a1:=A2.c1;have a2:=A2.c2;have g2:=A2.f 2;have r0:=R2.c0;have r1:=R2.c1';have r2:=R2.c2';have f0:=R2.f 0;have f1:=R2.f 1;have f2:=R2.f 2;go_wp2;have A5:=(R2.other (g':=w.heap.size) 2 (.string t) (by omega)).put (a':=.int .i64 u) (b':=.int .i64 f) (c':=.string t);have b5:Below w.heap.size w (st.put (w2.setCell ⟨w.heap.size,2,none⟩ (.string t)) (w.heap.size+1) (.int .i64 u) (.int .i64 f) (.string t)):=zbr (b2.setCell (p:=⟨w.heap.size,2,none⟩) lR _) (by omega);change bodyPost _ _ _ _ _ (st.put (w2.setCell ⟨w.heap.size,2,none⟩ (.string t)) (w.heap.size+1) (.int .i64 u) (.int .i64 f) (.string t));generalize st.put _ _ _ _ _=W5 at A5 b5 ⊢;have d0:=A5.c0;have d1:=A5.c1;have d2:=A5.c2;exact bodyPost_ret (v:=.agg #[.int .i64 u,.int .i64 f,.string t]) (by simp[results,Tryz.results144,go_sem,d0,d1,d2]) rfl ⟨rfl,b5⟩
theorem nan_any(a:Int)(w:World):Calls Tryz.prog 150 #[.int .i64 a] w λe w'=>e=.returned (.bool false)∧w'=w:=by
 have h:((a:Int) != a)=false:=by simp
 go_enter Tryz.func150,Tryz.ntmps150;go_wp2;go_ret;exact⟨rfl,rfl⟩
theorem compare_any(a b:Int)(w:World):Calls Tryz.prog 148 #[.int .i64 a,.int .i64 b] w λe w'=>e=.returned (.int .i64 (cmpI a b))∧w'=w:=by
 by_cases h1:a<b
 ·have hc:cmpI a b=-1:=by simp[cmpI,h1]
  have HC:=hD hc;clear hc;go_enter Tryz.func148,Tryz.ntmps148
  go_wp2_with (go_at_call 150;refine(nan_any _ _).mono ?_;rintro e w' ⟨rfl,rfl⟩)
  go_ret;exact⟨by rw[HC.out];rfl,rfl⟩
 by_cases h2:b<a
 ·have hc:cmpI a b=1:=by simp[cmpI,h1,h2]
  have HC:=hD hc;clear hc;have h1':b≤a:=by omega
  go_enter Tryz.func148,Tryz.ntmps148
  go_wp2_with (go_at_call 150;refine(nan_any _ _).mono ?_;rintro e w' ⟨rfl,rfl⟩)
  go_ret;exact⟨by rw[HC.out];rfl,rfl⟩
 ·have hc:cmpI a b=0:=by simp[cmpI,h1,h2]
  have HC:=hD hc;clear hc;have h1':b≤a:=by omega
  have h2':a≤b:=by omega
  go_enter Tryz.func148,Tryz.ntmps148
  go_wp2_with (go_at_call 150;refine(nan_any _ _).mono ?_;rintro e w' ⟨rfl,rfl⟩)
  go_ret;exact⟨by rw[HC.out];rfl,rfl⟩
theorem byUid_any(x:St)(z:Int)(w:World):Calls Tryz.prog 147 #[SV x,.int .i64 z] w λe w'=>e=.returned (.int .i64 (cmpI x.u z))∧Below w.heap.size w w':=by
 obtain⟨u,f,t⟩:=x;have hb:=new_below w 92 #[.int .i64 u,.int .i64 f,.string t];unfold SV;simp only;go_enter Tryz.func147,Tryz.ntmps147
 go_wp2_with fail
 refine(compare_any _ _ _).mono ?_;rintro e w' ⟨rfl,rfl⟩;go_wp2;go_ret;exact⟨rfl,hb⟩
end st
namespace rs
def left(l:Array Bool):Nat:=l.toList.countP (λb=>!b)
theorem count_set:∀(l:List Bool) (i:Nat),l[i]?=some false→(l.set i true).countP (λb=>!b)+1=l.countP (λb=>!b)
 | [],i,h=>by simp at h
 | b::l,0,h=>by
  have hb:b=false:=by simpa using h
  subst hb;simp
 | b::l,i+1,h=>by
  have ih:=count_set l i (by simpa using h);rw[List.set_cons_succ,List.countP_cons,List.countP_cons];omega
theorem zcf{l:Array Bool}{i:Nat}(h:l.getD i true=false):l.toList[i]?=some false:=by
 cases hl:l[i]? with
 | none=>simp[hl] at h
 | some b =>
  simp[hl] at h;subst h;simpa using hl
theorem zcG{l:Array Bool}{i:Nat}(h:l.getD i true=false):left (l.setIfInBounds i true)+1=left l:=by
 unfold left;rw[Array.toList_setIfInBounds];exact count_set _ _ (zcf h)
theorem left_zero{l:Array Bool}(h:left l=0)(i:Nat):l.getD i true=true:=by
 cases hg:l.getD i true with
 | true=>rfl
 | false =>
  have:=zcG hg;omega
section
variable {P:Program}{ops:Array Oper}{Q:Exit→Act→World→Prop}
theorem inv{md:Region.Mode}(I:Array Bool→Act→World→Prop)
  (hstep:∀listed a w i,I listed a w→i∈Region.ready md ops listed→wpOp P ops Q i (λa' w'=>I (listed.setIfInBounds i true) a' w') a w)
  (hend:∀listed a w,I listed a w→Region.ready md ops listed=[]→Q .normal a w) :
  ∀(fuel:Nat) (listed:Array Bool) (a:Act) (w:World),left listed≤fuel→I listed a w→wpAny P md ops Q fuel listed a w
 | 0,listed,a,w,hl,h=>by
  have hr:Region.ready md ops listed=[]:=by
   rw[List.eq_nil_iff_forall_not_mem];intro i hi;have:=(mem_ready.1 hi).1;rw[left_zero (by omega) i] at this;cases this
  exact⟨hr,hend listed a w h hr⟩
 | fuel+1,listed,a,w,hl,h=>by
  refine⟨λhr=>hend listed a w h hr,λi hi=>?_⟩;have h1:=zcG (mem_ready.1 hi).1;exact wpOp_mono (λa' w' h'=>inv I hstep hend fuel _ a' w' (by omega) h') (hstep listed a w i h hi)
def upd(f:Nat→Value)(i:Nat)(v:Value):Nat→Value:=λj=>if j=i then v else f j
theorem upd_same(f:Nat→Value)(i:Nat)(v:Value):upd f i v i=v:=by simp[upd]
theorem zad(f:Nat→Value)(i:Nat)(v:Value){j:Nat}(h:j≠i):upd f i v j=f j:=by simp[upd,h]
theorem zbB{l:Array Bool}{i j:Nat}(h:(l.setIfInBounds i true).getD j false=true):j=i∨l.getD j false=true:=by
 by_cases e:j=i
 ·exact .inl e
 ·right;simpa [Array.getElem?_setIfInBounds_ne (Ne.symm e)] using h
theorem zcc{md:Region.Mode}{listed:Array Bool}(hs:listed.size=ops.size)(hdeps:∀(i:Nat) (o:Oper),ops[i]?=some o→∀e∈o.after,Region.binds md e=true→e.on<i)(hr:Region.ready md ops listed=[]):∀(k i:Nat),i<k→i<ops.size→listed.getD i false=true
 | 0,i,h,_=>by omega
 | k+1,i,h,hi=>by
  by_cases hk:i<k
  ·exact zcc hs hdeps hr k i hk hi
  ·have hik:i=k:=by omega
   subst hik
   cases hg:listed.getD i true with
   | true =>
    have hlt:i<listed.size:=by omega
    simp[Array.getElem?_eq_getElem hlt] at hg ⊢;exact hg
   | false =>
    exfalso
    have ho:=Array.getElem?_eq_getElem hi;have:i∈Region.ready md ops listed:=mem_ready.2 ⟨hg,_,ho,λe he hb=>zcc hs hdeps hr i e.on (hdeps i _ ho e he hb) (Nat.lt_trans (hdeps i _ ho e he hb) hi)⟩;rw[hr] at this;cases this
theorem zaW{id:Nat}{a:Act}{w:World}(hm:P.follows .mixedOrders=true)(act:(Nat→Value)→Act)(J:(Nat→Prop)→(Nat→Value)→World→Prop)(v0:Nat→Value)
  (ha:a=act v0) (h0:J (λ_=>False) v0 w.drew) (hdeps:∀(i:Nat) (o:Oper),ops[i]?=some o→∀e∈o.after,Region.binds .any e=true→e.on<i)
  (hop:∀(i:Nat) (o:Oper),ops[i]?=some o→∀(D:Nat→Prop) (vals:Nat→Value) (w:World),J D vals w→(∀e∈o.after,Region.binds .any e=true→D e.on)→¬D i→(∀(j:Nat) (oj:Oper),D j→ops[j]?=some oj→∀e∈oj.after,Region.binds .any e=true→D e.on) →
   wpOp P ops Q i (λa' w'=>∃v,a'=act (upd vals i v)∧J (λj=>j=i∨D j) (upd vals i v) w') (act vals) w)
  (hend:∀(D:Nat→Prop) (vals:Nat→Value) (w:World),(∀i,i<ops.size→D i)→J D vals w→Q .normal (act vals) w) :
  (Code.region id ops true).wp P Q a w:=by
 refine wp_region_any hm ?_;refine inv (λlisted a w=>listed.size=ops.size∧(∀(j:Nat) (oj:Oper),listed.getD j false=true→ops[j]?=some oj→∀e∈oj.after,Region.binds .any e=true→listed.getD e.on false=true)∧∃vals,a=act vals∧J (λj=>listed.getD j false=true) vals w) ?_ ?_ _ _ _ _ ?_ ?_
 ·rintro listed a w i ⟨hs,hcl,vals,rfl,hJ⟩ hi;obtain⟨hg,o,ho,hall⟩:=mem_ready.1 hi;have hni:¬listed.getD i false=true:=by
   have h1:=zcf hg;have h2:listed[i]?=some false:=by simpa using h1
   simp[h2]
  refine wpOp_mono ?_ (hop i o ho (λj=>listed.getD j false=true) vals w hJ hall hni hcl);rintro a' w' ⟨v,rfl,hJ'⟩;have hup:∀k,listed.getD k false=true→(listed.setIfInBounds i true).getD k false=true:=λk hk=>by
   by_cases e:k=i
   ·subst e;exact absurd hk hni
   ·simpa [Array.getElem?_setIfInBounds_ne (Ne.symm e)] using hk
  have hlt:i<listed.size:=by
   have h1:=zcf hg;have h2:listed[i]?=some false:=by simpa using h1
   exact(Array.getElem?_eq_some_iff.1 h2).1
  have hD:(λj=>(listed.setIfInBounds i true).getD j false=true)=(λj=>j=i∨listed.getD j false=true):=by
   funext j
   refine propext ⟨λh=>zbB h,λh=>?_⟩
   rcases h with h|h
   ·subst h;simp[Array.getElem?_setIfInBounds_self_of_lt hlt]
   ·exact hup j h
  refine⟨by rw[Array.size_setIfInBounds];exact hs,λj oj hj hoj e he hb=>?_,_,rfl,by rw[hD];exact hJ'⟩
  rcases zbB hj with h|h
  ·subst h;rw[ho] at hoj;cases hoj;exact hup _ (hall e he hb)
  ·exact hup _ (hcl j oj h hoj e he hb)
 ·rintro listed a w ⟨hs,_,vals,rfl,hJ⟩ hr;exact hend _ vals w (λi hi=>zcc hs hdeps hr (i+1) i (Nat.lt_succ_self i) hi) hJ
 ·unfold left;refine Nat.le_trans List.countP_le_length ?_;simp
 ·have hno:∀j,¬(Array.replicate ops.size false).getD j false=true:=λj hj=>by
   by_cases hj2:j<ops.size
   ·simp[hj2] at hj
   ·simp[hj2] at hj
  refine⟨by simp,λj _ hj=>absurd hj (hno j),v0,ha,?_⟩;rw[show(λj=>(Array.replicate ops.size false).getD j false=true)=(λ_=>False) from funext λj=>propext ⟨λh=>hno j h,False.elim⟩];exact h0
theorem zaK(h:(ops.toList.zipIdx.all λx=>x.1.after.all λe=>!Region.binds .any e||decide (e.on<x.2))=true):∀(i:Nat) (o:Oper),ops[i]?=some o→∀e∈o.after,Region.binds .any e=true→e.on<i:=by
 intro i o ho e he hbd;have h1:(o,i)∈ops.toList.zipIdx:=by
  rw[List.mk_mem_zipIdx_iff_getElem?];simpa using ho
 have h2:=List.all_eq_true.1 h _ h1;have h3:=Array.all_eq_true_iff_forall_mem.1 h2 e he;rw[hbd] at h3;simpa using h3
end
end rs
namespace rk
open rs
def JK(V:Nat→Option Value)(K:World→Prop)(D:Nat→Prop)(f:Nat→Value)(x:World):Prop:=(∀j,D j→∀y,V j=some y→f j=y)∧K x
theorem JK.step{V:Nat→Option Value}{K:World→Prop}{D:Nat→Prop}{f:Nat→Value}{x x':World}{i:Nat}(y:Value)(h:JK V K D f x)(hy:∀z,V i=some z→y=z)(hk:K x'):JK V K (λj=>j=i∨D j) (upd f i y) x':=by
 refine⟨λj hj z hz=>?_,hk⟩;by_cases e:j=i
 ·subst e;rw[upd_same];exact hy z hz
 ·rw[zad f i y e];exact h.1 j (hj.resolve_left e) z hz
end rk
end Go.Proofs.YtmnflpmfngjllaaGreatDoor
