/-
  FnReplayCardSaid
-/
import Derived.Test.YtmnflpmfngjllaaGreatDoorPkaa
import Derived.Laws.AppendOwn
import Derived.Laws.AppendOwnNone
import Derived.Lib.SliceRun
import Derived.Maps.Own
import Derived.Maps.OwnOps
import Derived.Maps.OwnSet
import Derived.Maps.Views
import Derived.Deep.SlicePairs
set_option maxHeartbeats 16000000
set_option maxRecDepth 100000
set_option linter.unusedVariables false
namespace Go.Proofs.YtmnflpmfngjllaaGreatDoor
namespace bx
open Go.RowKit
open st
def mc:List St→List Value
 | []=>[]
 | e::es=>.int .i64 e.u::.int .i64 e.f::.string e.t::mc es
theorem zbD:∀ms:List St,(mc ms).length=ms.length*3
 | []=>rfl
 | e::es=>by simp[mc,zbD es];omega
theorem mc_at:∀(ms:List St) (j:Nat),j<ms.length→In3 (mc ms) (j*3) (ms.getD j noS)
 | [],j,hj=>by simp at hj
 | e::es,0,hj=>⟨rfl,rfl,rfl⟩
 | e::es,j+1,hj=>by
  have h:=mc_at es j (by simpa using hj);unfold In3 at h ⊢;rw[show(j+1)*3=j*3+1+1+1 from by omega];simpa [mc] using h
theorem mc_one:∀(ms:List St),∀u∈mc ms,u.oneCell'=true
 | [],u,h=>by simp[mc] at h
 | e::es,u,h=>by
  simp only[mc,List.mem_cons] at h
  rcases h with rfl|rfl|rfl|h
  ·rfl
  ·rfl
  ·rfl
  ·exact mc_one es u h
theorem mc_cells{w:World}{b off:Nat}{ms:List St}(h:∀j,j<ms.length→At3 w b (off+j*3) (ms.getD j noS))(j:Nat)(u:Value)(hu:(mc ms)[j]?=some u):w.cell? ⟨b,off+j,none⟩=some u:=by
 have hj:=(List.getElem?_eq_some_iff.1 hu).1;rw[zbD] at hj;have hi:j / 3<ms.length:=by omega
 obtain⟨a0,a1,a2⟩:=h (j / 3) hi;obtain⟨m0,m1,m2⟩:=mc_at ms (j / 3) hi;have hr:j % 3=0∨j % 3=1∨j % 3=2:=by omega
 rcases hr with hr|hr|hr
 ·have e:j=j / 3*3:=by omega
  rw[e] at hu ⊢;rw[m0] at hu;cases hu;exact a0
 ·have e:j=j / 3*3+1:=by omega
  rw[e] at hu ⊢;rw[m1] at hu;cases hu;exact a1
 ·have e:j=j / 3*3+2:=by omega
  rw[e] at hu ⊢;rw[m2] at hu;cases hu;exact a2
def OwnM(w:World)(base:Nat)(v:Value)(ms:List St):Prop:=w.ownsRow base 92 3 v ms.length (mc ms)
def OwnK(w:World)(base:Nat)(v:Value)(ks:List ByteArray):Prop:=w.ownsRow base 9 1 v ks.length (ks.map Value.string)
theorem ownM_in{w:World}{B N:Nat}{v:Value}{ms:List St}(h:OwnM w B v ms)(hN:w.heap.size≤N):za5 w N v ms:=by
 rcases id h.2 with⟨rfl,hz⟩|⟨g,cap,cur,rfl,_,hb,_⟩
 ·have:ms=[]:=List.eq_nil_of_length_eq_zero hz;subst this;exact⟨none,0,rfl,.inl rfl⟩
 ·refine⟨_,cap,rfl,.inr ⟨g,0,rfl,Nat.lt_of_lt_of_le (Array.getElem?_eq_some_iff.1 hb).1 hN,λj hj=>?_⟩⟩;obtain⟨h0,h1,h2⟩:=mc_at ms j hj;have h':w.ownsRow B 92 3 (.slice (some ⟨g,0,none⟩) ms.length cap) ms.length (mc ms):=h;refine⟨?_,?_,?_⟩
  ·rw[Nat.zero_add,h'.cellAt _ (by omega),h0]
  ·rw[Nat.zero_add,h'.cellAt _ (by omega),h1]
  ·rw[Nat.zero_add,h'.cellAt _ (by omega),h2]
theorem ownK_in{w:World}{B N:Nat}{v:Value}{ks:List ByteArray}(h:OwnK w B v ks)(hN:w.heap.size≤N):tx.zaU w N v ks:=by
 rcases id h.2 with⟨rfl,hz⟩|⟨g,cap,cur,rfl,_,hb,_⟩
 ·have:ks=[]:=List.eq_nil_of_length_eq_zero hz;subst this;exact⟨none,0,rfl,.inl rfl⟩
 ·refine⟨_,cap,rfl,.inr ⟨g,0,rfl,Nat.lt_of_lt_of_le (Array.getElem?_eq_some_iff.1 hb).1 hN,λj hj=>?_⟩⟩;have h':w.ownsRow B 9 1 (.slice (some ⟨g,0,none⟩) ks.length cap) ks.length (ks.map Value.string):=h;rw[Nat.zero_add,h'.cellAt _ (by omega)];simp[List.getD_eq_getElem?_getD,hj]
def Fine(v:Value):Prop:=v=.slice none 0 0∨∃ad n c,v=.slice (some ad) n c
theorem zaj{w:World}{B e s n:Nat}{v:Value}{xs:List Value}(h:w.ownsRow B e s v n xs):Fine v:=by
 rcases h.2 with⟨rfl,_⟩|⟨g,cap,cur,rfl,_⟩
 ·exact .inl rfl
 ·exact .inr ⟨_,_,_,rfl⟩
theorem infoT:(Tryz.prog.info? 9).map (λi=>(i.zero,i.size,i.bytes))=some (some (.string ⟨#[]⟩),1,16):=by kernel_rfl
theorem src_mails{w:World}{N:Nat}{ad:Addr}{n c:Nat}{ms:List St}(h:za5 w N (.slice (some ad) n c) ms):n=ms.length∧∀j u,(mc ms)[j]?=some u→w.cell? (ad.add j)=some u:=by
 obtain⟨a,cap,e,h⟩:=h;cases e;refine⟨rfl,λj u hu=>?_⟩
 rcases h with h|⟨b,off,e,_,h⟩
 ·rw[h] at hu;simp[mc] at hu
 ·cases e;rw[show((⟨b,off,none⟩:Addr).add j)=⟨b,off+j,none⟩ from by simp[Addr.add]];exact mc_cells h j u hu
theorem src_texts{w:World}{N:Nat}{ad:Addr}{n c:Nat}{ks:List ByteArray}(h:tx.zaU w N (.slice (some ad) n c) ks):n=ks.length∧∀j u,(ks.map Value.string)[j]?=some u→w.cell? (ad.add j)=some u:=by
 obtain⟨a,cap,e,h⟩:=h;cases e;refine⟨rfl,λj u hu=>?_⟩
 rcases h with h|⟨b,off,e,_,h⟩
 ·rw[h] at hu;simp at hu
 ·cases e;rw[show((⟨b,off,none⟩:Addr).add j)=⟨b,off+j,none⟩ from by simp[Addr.add]];have hj:j<ks.length:=by
   have:=(List.getElem?_eq_some_iff.1 hu).1;simpa using this
  rw[h j hj,←hu];simp[List.getD_eq_getElem?_getD,hj]
theorem str_one(ks:List ByteArray):∀u∈ks.map Value.string,u.oneCell'=true:=by
 intro u hu;obtain⟨b,_,rfl⟩:=List.mem_map.1 hu;rfl
theorem cloneM_any(v:Value)(N:Nat)(ms:List St)(w:World)(h:za5 w N v ms)(hv:Fine v)(hn:ms.length≤1048576) :
  Calls Tryz.prog 143 #[v] w λe w'=>(∃v',e=.returned v'∧OwnM w' w.heap.size v' ms)∧Below w.heap.size w w':=by
 obtain⟨i0,hi,hz0,hz1,hz2⟩:=info_parts infoS;have hq:∀(w:World) (a:Option Addr) (n c n' c':Nat),(binOp .eql 63 (.slice a n c) (.slice none n' c')).run Tryz.prog w=.ok (.bool a.isNone) w:=λw a n c n' c'=>Lib.run_eql_slice_nil w _ _ a n c n' c' Tryz.underlying63
 rcases hv with rfl|⟨ad,n,c,rfl⟩
 ·have hms:ms=[]:=by
   obtain⟨a,cap,e,_⟩:=h;simp only[Value.slice.injEq] at e;exact List.eq_nil_of_length_eq_zero e.2.1.symm
  have HM:Hid (OwnM w w.heap.size (.slice none 0 0) ms):=by rw[hms];exact World.ownsRow_nil _ _ _ _
  clear h hms hn;go_enter Tryz.func143,Tryz.ntmps143;go_wp2;go_ret;exact⟨⟨_,rfl,HM.out⟩,Below.refl _ _⟩
 obtain⟨rfl,hs⟩:=src_mails h;have hb:Below w.heap.size w (w.alloc (.cells #[] 92)):=bR.alloc lR _;have HS:Hid (∀j u,(mc ms)[j]?=some u→(w.alloc (.cells #[] 92)).cell? (ad.add j)=some u):=λj u hu=>(hb.cell (World.block_lt_of_cell? w _ (hs j u hu))).trans (hs j u hu)
 have HO:Hid ((w.alloc (.cells #[] 92)).ownsRow w.heap.size 92 3 (.slice (some ⟨w.heap.size,0,none⟩) 0 0) 0 []):=World.ownsRow_made w #[] 0 (Nat.le_refl _) (Nat.zero_le _) rfl;clear h hs;go_enter Tryz.func143,Tryz.ntmps143
 go_wp2_with (at_builtin;refine wpList_append_own _ rfl _ _ 63 rfl w.heap.size 92 i0 _ 3 32 Tryz.underlying63 hi hz0 hz1 hz2 rfl (by decide) _ _ _ rfl HO.out ad ms.length c (mc ms) rfl (zbD ms) HS.out (mc_one ms) (by unfold maxLen;omega) (by omega) (by simp) ?_;intro v' w1 hown hgrow hnil)
 have HE:Hid (OwnM w1 w.heap.size v' ms∧Below w.heap.size w w1):=by
  refine⟨?_,hb.grown hgrow (by simp) (λk hk=>(HO.out.lt k hk).1)⟩;unfold OwnM;simpa using hown
 clear hown hgrow hnil;go_wp2;go_ret;exact⟨⟨_,rfl,HE.out.1⟩,HE.out.2⟩
theorem cloneK_any(v:Value)(N:Nat)(ks:List ByteArray)(w:World)(h:tx.zaU w N v ks)(hv:Fine v)(hn:ks.length≤1048576) :
  Calls Tryz.prog 145 #[v] w λe w'=>(∃v',e=.returned v'∧OwnK w' w.heap.size v' ks)∧Below w.heap.size w w':=by
 obtain⟨i0,hi,hz0,hz1,hz2⟩:=info_parts infoT;have hq:∀(w:World) (a:Option Addr) (n c n' c':Nat),(binOp .eql 39 (.slice a n c) (.slice none n' c')).run Tryz.prog w=.ok (.bool a.isNone) w:=λw a n c n' c'=>Lib.run_eql_slice_nil w _ _ a n c n' c' Tryz.underlying39
 rcases hv with rfl|⟨ad,n,c,rfl⟩
 ·have hms:ks=[]:=by
   obtain⟨a,cap,e,_⟩:=h;simp only[Value.slice.injEq] at e;exact List.eq_nil_of_length_eq_zero e.2.1.symm
  have HM:Hid (OwnK w w.heap.size (.slice none 0 0) ks):=by rw[hms];exact World.ownsRow_nil _ _ _ _
  clear h hms hn;go_enter Tryz.func145,Tryz.ntmps145;go_wp2;go_ret;exact⟨⟨_,rfl,HM.out⟩,Below.refl _ _⟩
 obtain⟨rfl,hs⟩:=src_texts h;have hb:Below w.heap.size w (w.alloc (.cells #[] 9)):=bR.alloc lR _;have HS:Hid (∀j u,(ks.map Value.string)[j]?=some u→(w.alloc (.cells #[] 9)).cell? (ad.add j)=some u):=λj u hu=>(hb.cell (World.block_lt_of_cell? w _ (hs j u hu))).trans (hs j u hu)
 have HO:Hid ((w.alloc (.cells #[] 9)).ownsRow w.heap.size 9 1 (.slice (some ⟨w.heap.size,0,none⟩) 0 0) 0 []):=World.ownsRow_made w #[] 0 (Nat.le_refl _) (Nat.zero_le _) rfl;clear h hs;go_enter Tryz.func145,Tryz.ntmps145
 go_wp2_with (at_builtin;refine wpList_append_own _ rfl _ _ 39 rfl w.heap.size 9 i0 _ 1 16 Tryz.underlying39 hi hz0 hz1 hz2 rfl (by decide) _ _ _ rfl HO.out ad ks.length c (ks.map Value.string) rfl (by simp) HS.out (str_one ks) (by unfold maxLen;omega) (by omega) (by simp) ?_;intro v' w1 hown hgrow hnil)
 have HE:Hid (OwnK w1 w.heap.size v' ks∧Below w.heap.size w w1):=by
  refine⟨?_,hb.grown hgrow (by simp) (λk hk=>(HO.out.lt k hk).1)⟩;unfold OwnK;simpa using hown
 clear hown hgrow hnil;go_wp2;go_ret;exact⟨⟨_,rfl,HE.out.1⟩,HE.out.2⟩
theorem zdx{P:Program}{w:World}{ops:Array Oper}{rest:List Oper}{o:Oper}{a:Act}{Q:Exit→Act→World→Prop}(hgd:o.guard=none)(s x:Operand)(t:TypeId)
  (ho:o.op=.call {callee:=.builtin .append,args:=#[s,x],argTypes:=#[t,t]})
  (base:Nat) (e:TypeId) (i:TypeInfo) (z:Value) (size bytes:Nat) (ht:P.underlying t=some (.slice e)) (hi:P.info? e=some i) (hz:i.zero=some z)
  (hsize:i.size=size) (hby:i.bytes=bytes) (hzs:z.cells.size=size) (hsz:0<size)
  (v:Value) (n:Nat) (xs:List Value) (hs:a.eval s=v) (hown:w.ownsRow base e size v n xs)
  (y:Value) (m:Nat) (news:List Value) (hx:a.eval x=y) (hy:(y=.slice none 0 0∧m=0∧news=[])∨∃ad c,y=.slice (some ad) m c∧news.length=m*size∧∀j u,news[j]?=some u→w.cell? (ad.add j)=some u) (h1:∀u∈news,u.oneCell'=true)
  (h63:n+m≤maxLen) (hbytes:(n+m)*bytes≤140737488355328) (hbase:base≤w.heap.size)
  (h:∀v' w',w'.ownsRow base e size v' (n+m) (xs++news)→w.grownBy w' v.ownBlock→wpList P ops Q rest (a.put o.dst v') w'):wpList P ops Q (o::rest) a w:=by
 rcases hy with⟨rfl,rfl,rfl⟩|⟨ad,c,rfl,hl,hn⟩
 ·refine wpList_append_own_none hgd s x t ho base e i size ht hi v n xs hs hown hx (h v w ?_ (ow.zc3 _ _));rw[List.append_nil];exact hown
 ·exact wpList_append_own w hgd s x t ho base e i z size bytes ht hi hz hsize hby hzs hsz v n xs hs hown ad m c news hx hl hn h1 h63 hbytes hbase (λv' w' a b _=>h v' w' a b)
theorem mails_src{w:World}{N:Nat}{v:Value}{ms:List St}(h:za5 w N v ms)(hv:Fine v):(v=.slice none 0 0∧ms.length=0∧mc ms=[])∨∃ad c,v=.slice (some ad) ms.length c∧(mc ms).length=ms.length*3∧∀j u,(mc ms)[j]?=some u→w.cell? (ad.add j)=some u:=by
 rcases hv with rfl|⟨ad,n,c,rfl⟩
 ·obtain⟨a,cap,e,_⟩:=h;simp only[Value.slice.injEq] at e;have:ms=[]:=List.eq_nil_of_length_eq_zero e.2.1.symm;subst this;exact .inl ⟨rfl,rfl,rfl⟩
 ·obtain⟨rfl,hs⟩:=src_mails h;exact .inr ⟨ad,c,rfl,zbD ms,hs⟩
theorem texts_src{w:World}{N:Nat}{v:Value}{ks:List ByteArray}(h:tx.zaU w N v ks)(hv:Fine v):(v=.slice none 0 0∧ks.length=0∧ks.map Value.string=[])∨∃ad c,v=.slice (some ad) ks.length c∧(ks.map Value.string).length=ks.length*1∧∀j u,(ks.map Value.string)[j]?=some u→w.cell? (ad.add j)=some u:=by
 rcases hv with rfl|⟨ad,n,c,rfl⟩
 ·obtain⟨a,cap,e,_⟩:=h;simp only[Value.slice.injEq] at e;have:ks=[]:=List.eq_nil_of_length_eq_zero e.2.1.symm;subst this;exact .inl ⟨rfl,rfl,rfl⟩
 ·obtain⟨rfl,hs⟩:=src_texts h;exact .inr ⟨ad,c,rfl,by simp,hs⟩
end bx
namespace bk
open Go.RowKit Go.Maps Go.ChangeMaps Go.WideMaps
open ky tx
theorem law:Keyed Tryz.prog 9:=string_keyed Tryz.underlying9
abbrev Own(w:World)(B n:Nat)(D:DataW Unit):Prop:=w.ownsMap Tryz.prog 9 (plainElem Tryz.prog 3) B n D
theorem own_keep{w w':World}{B n k:Nat}{D:DataW Unit}(h:Own w B n D)(hb:Below k w w')(hk:B<k):Own w' B n D:=by
 obtain⟨es,clock,hb',F,hs,hD⟩:=h;exact⟨es,clock,(hb.block B hk).trans hb',F,hs,hD⟩
theorem clear_own{w:World}{B n:Nat}{D:DataW Unit}(h:Own w B n D)(ty:TypeId) :
  ∃w',(Builtin.clear_ #[132] ty #[.map (some B)]).run Tryz.prog w=.ok (.tuple #[]) w'∧Own w' B 0 (.map [])∧w.mapTurned w' B:=by
 obtain⟨es,clock,hb,F,hs,rfl⟩:=h;refine⟨setBlock w B (.map #[] clock),?_,⟨#[],clock,heap_setBlock_same hb _,⟨by simp,MapKept.stamped_empty clock,by simp⟩,Nat.le_refl _,rfl⟩,⟨es,clock,#[],clock,hb,rfl⟩⟩;simp[Builtin.clear_,run_underlying Tryz.underlying132,MapKept.run_getObj_map hb,MapKept.run_setObj_map _ hb,Result.andThen,setBlock]
theorem zdy{w:World}{ops:Array Oper}{rest:List Oper}{o:Oper}{a:Act}{Q:Exit→Act→World→Prop}
  (hg:o.guard=none) (m:Operand) (hop:o.op=Op.call {callee:=Callee.builtin Builtin.clear,args:=#[m],argTypes:=#[132]}) (B n:Nat) (D:DataW Unit)
  (hm:a.eval m=.map (some B)) (hown:Own w B n D)
  (hK:∀w',Own w' B 0 (.map [])→w.mapTurned w' B→wpList Tryz.prog ops Q rest (a.put o.dst (.tuple #[])) w') :
  wpList Tryz.prog ops Q (o::rest) a w:=by
 refine wpList_plain hg λK' hK'=>?_
 obtain⟨w',hrun,r1,r2⟩:=clear_own hown o.type;unfold Oper.wp;simp[execOp,hop,resolve,invoke,builtin,hm,hrun,Result.andThen];exact hK' _ _ (hK w' r1 r2)
def Dist(ks:List ByteArray)(k:Nat):Prop:=∀i j,i<j→j<k→ks.getD i nt≠ks.getD j nt
def dDist(ks:List ByteArray)(k:Nat):Decidable (Dist ks k) :=
 @decidable_of_iff _ (∀j,j<k→∀i,i<j→(ks.getD i nt).data≠(ks.getD j nt).data) ⟨λh i j hij hj e=>h j hj i hij (by rw[e]),λh j hj i hij e=>h i j hij hj (ByteArray.ext e)⟩ inferInstance
def dist(ks:List ByteArray):Bool:=@decide (Dist ks ks.length) (dDist ks ks.length)
def lit(s:ByteArray):Lit:=.string s.data.toList
theorem lit_inj{a b:ByteArray}(h:lit a=lit b):a=b:=by
 unfold lit at h
 injection h with h
 exact WideShapes.bytes_inj h
def Inv(D:DataW Unit)(ks:List ByteArray)(k:Nat):Prop :=
 (∀s,Maps.has D (lit s)=true↔∃j,j<k∧ks.getD j nt=s)∧Maps.size D≤k∧(Maps.size D=k↔Dist ks k)
theorem inv_start(ks:List ByteArray):Inv (.map []) ks 0:=by
 refine⟨λs=>⟨λh=>by simp[Maps.has] at h,λ⟨j,h,_⟩=>absurd h (Nat.not_lt_zero _)⟩,by simp[Maps.size],⟨λ_ i j _ h=>absurd h (Nat.not_lt_zero _),λ_=>by simp[Maps.size]⟩⟩
theorem inv_step{D:DataW Unit}{ks:List ByteArray}{k:Nat}(hD:Tidy D)(h:Inv D ks k){s:ByteArray}(hs:ks.getD k nt=s)(d:DataW Unit):Inv (D.put (lit s) d) ks (k+1):=by
 obtain⟨h1,h2,h3⟩:=h;have hkl:WideAt.IsKeyLit (lit s):=by unfold lit;simp[WideAt.IsKeyLit]
 have hsz:=size_put (k:=lit s) hD d;refine⟨λt=>?_,?_,?_⟩
 ·by_cases e:t=s
  ·subst e;rw[has_put_same hD.isMap hkl];simp;exact⟨k,by omega,hs⟩
  ·rw[has_put_other (λx=>e (lit_inj x)),h1];constructor
   ·rintro⟨j,hj,ej⟩;exact⟨j,by omega,ej⟩
   ·rintro⟨j,hj,ej⟩;by_cases ejk:j=k
    ·subst ejk;exact absurd (ej.symm.trans hs) e
    ·exact⟨j,by omega,ej⟩
 ·rw[hsz]
  split<;>omega
 ·rw[hsz];by_cases hh:Maps.has D (lit s)=true
  ·rw[if_pos hh];obtain⟨j,hj,ej⟩:=(h1 s).1 hh;constructor
   ·intro x;omega
   ·intro x;exact absurd (ej.trans hs.symm) (x j k hj (by omega))
  ·rw[if_neg hh];constructor
   ·intro x i j hij hj;by_cases ejk:j=k
    ·subst ejk;intro y;exact hh ((h1 s).2 ⟨i,hij,y.trans hs⟩)
    ·exact h3.1 (by omega) i j hij (by omega)
   ·intro x;have:=h3.2 (λi j hij hj=>x i j hij (by omega));omega
theorem dist_eq{D:DataW Unit}{ks:List ByteArray}{k:Nat}(hk:k=ks.length)(h:Inv D ks k):((Maps.size D:Int) == (k:Int))=dist ks:=by
 subst hk;unfold dist;by_cases e:Maps.size D=ks.length
 ·rw[ow.dt (h.2.2.1 e)];simp[e]
 ·rw[ow.df (λx=>e (h.2.2.2 x))];simp;omega
theorem learn_any(B n0 N:Nat)(D0:DataW Unit)(v:Value)(ks:List ByteArray)(w:World)(hown:Own w B n0 D0)(h:zaU w N v ks)(hN:N≤B)(hs:zac ks) :
  Calls Tryz.prog 122 #[.map (some B),v] w λe w'=>e=.returned (.bool (dist ks))∧(∃n D,Own w' B n D∧Inv D ks ks.length)∧Below B w w':=by
 obtain⟨a,cap,rfl,h⟩:=h;obtain⟨n,hn⟩:∃n,n=ks.length:=⟨_,rfl⟩
 have HN:=hD hn;have HH:=hD h;have HS:=hD hs;have hl:n≤1048576:=by rw[hn];exact hs.1
 rw[←hn];clear h hs hn;go_enter Tryz.func122,Tryz.ntmps122
 go_wp2_with (refine zdy rfl _ rfl B n0 D0 rfl hown ?_;intro w1 hown1 hturn1)
 have hb1:=bR.grown hturn1.grown (Nat.le_of_lt hown.lt) (λj hj=>by cases hj;exact Nat.le_refl _);clear hturn1 hown
 go_loopw [10] (λi wr=>∃(k:Nat) (D:DataW Unit),k≤n∧i=.int .i64 k∧Own wr B k D∧Inv D ks k∧Below B w wr) (λi _=>n-(intOf i).toNat)
 case atStart=>exact⟨0,_,Nat.zero_le _,rfl,hown1,inv_start ks,hb1⟩
 case round =>
  clear hown1 hb1;obtain⟨k,D,hk,rfl,hown,hinv,hbw⟩:=hrel;have HI:=hD hinv;clear hinv;by_cases hlt:k<n
  ·have hka:k<ks.length:=by rw[←HN.out];exact hlt
   rcases HH.out with e|⟨b,off,rfl,hbN,hcells⟩
   ·rw[e] at hka;simp at hka
   have c0:=(hbw.cell (p:=⟨b,off+k,none⟩) (Nat.lt_of_lt_of_le hbN hN)).trans (hcells k hka);have hsz:=HS.out.2 k hka;clear hcells hka;generalize hx:ks.getD k nt=x at c0 hsz;have HX:=hD hx;clear hx;have hkey:keyOf Tryz.prog 9 (.string x)=some (lit x):=keyOf_string_mk Tryz.underlying9 (by unfold maxLen;omega);have HO:=hD hown;have htd:=hown.tidy law;have HT:=hD htd;have HWS:=hD (Nat.le_of_lt hown.lt);clear htd hown;have hlt':(k:Int)<(n:Int):=by omega
   go_wp2_with (at_mapUpdate;refine wpList_mapUpdate_own _ rfl _ _ _ 132 rfl 9 3 law Tryz.underlying132 _ B k _ rfl HO.out (by unfold maxLen;omega) _ _ _ rfl rfl hkey _ [] (plainElem_int Tryz.underlying3 (WalkArith.wf_i64 (by omega))) ?_;intro w2 hown2 hgrow2)
   have hbw2:Below B w w2:=hbw.grown hgrow2 HWS.out (λj hj=>by cases hj;exact Nat.le_refl _);clear hgrow2 c0;go_wp2
   go_roundw
   case rel=>exact⟨k+1,_,by omega,by go_num,hown2,inv_step HT.out HI.out HX.out _,hbw2⟩
   case measure=>simp[intOf];omega
  ·have hkn:k=n:=by omega
   subst hkn;have HD:=hD (dist_eq HN.out HI.out);have HF:Hid (∃n D,Own wr B n D∧Inv D ks k):=⟨k,D,hown,HI.out⟩
   go_wp2_with (at_len;refine wpList_len_own _ rfl _ 132 rfl 9 3 Tryz.underlying132 _ B k D rfl hown ?_)
   go_wp2;go_ret;exact⟨by rw[←HD.out];first|rfl|(congr 2;rw[Bool.eq_iff_iff];simp),HF.out,hbw⟩
end bk
namespace it
open Go.RowKit
abbrev Pr:=ByteArray×ByteArray
def no:Pr:=(⟨#[]⟩,⟨#[]⟩)
def zav(w:World)(v:Value)(ps:List Pr):Prop :=
 ∃a cap,v=.slice a ps.length cap∧(ps=[]∨∃b off,a=some ⟨b,off,none⟩∧∀j,j<ps.length→w.cell? ⟨b,off+j*2,none⟩=some (.string (ps.getD j no).1)∧w.cell? ⟨b,off+j*2+1,none⟩=some (.string (ps.getD j no).2))
theorem zaY{w w':World}{v:Value}{ps:List Pr}(h:zav w v ps)(hb:Below w.heap.size w w'):zav w' v ps:=by
 obtain⟨a,cap,rfl,h⟩:=h;refine⟨a,cap,rfl,?_⟩
 rcases h with h|⟨b,off,rfl,h⟩
 ·exact .inl h
 ·refine .inr ⟨b,off,rfl,λj hj=>?_⟩;obtain⟨h0,h1⟩:=h j hj;have hl:=World.block_lt_of_cell? w _ h0;exact⟨(hb.cell (p:=⟨b,off+j*2,none⟩) hl).trans h0,(hb.cell (p:=⟨b,off+j*2+1,none⟩) hl).trans h1⟩
def Small(ps:List Pr):Prop:=ps.length≤1048576∧∀j,j<ps.length→(ps.getD j no).1.size≤1048576∧(ps.getD j no).2.size≤1048576
end it
namespace it
open Go.RowKit
theorem infoAt:(Tryz.prog.info? 103).map (λi=>(i.zero,i.size,i.bytes))=some (some (.agg #[.string ⟨#[]⟩,.string ⟨#[]⟩]),2,32):=by kernel_rfl
def Lay(ps:List Pr)(k:Nat)(xs:List Value):Prop:=∀j,j<k→xs[j*2]?=some (.string (ps.getD j no).1)∧xs[j*2+1]?=some (.string (ps.getD j no).2)
theorem attrs_lay{w:World}{base e g n cap:Nat}{ps:List Pr}{xs:List Value}(hn:n=ps.length)(h:w.ownsRow base e 2 (.slice (some ⟨g,0,none⟩) n cap) n xs)(hl:Lay ps n xs):zav w (.slice (some ⟨g,0,none⟩) n cap) ps:=by
 subst hn;refine⟨_,cap,rfl,.inr ⟨g,0,rfl,λj hj=>?_⟩⟩;obtain⟨h0,h1⟩:=hl j hj;refine⟨?_,?_⟩
 ·rw[Nat.zero_add,h.cellAt (j*2) (by omega),h0]
 ·rw[Nat.zero_add,h.cellAt (j*2+1) (by omega),h1]
open gr
end it
namespace it
open Go.ChangeShapes Go.WideShapes Go.ChangeAt Go.RowKit Go.Joins Go.Deep
section
variable {H:Type}{enc:TypeId×Value→H}{w:World}{base:Nat}{spare:Nat→Bool}{held:Bool}
end
end it
namespace mu
open Go.ChangeShapes Go.WideShapes Go.ChangeAt Go.RowKit Go.Deep Go.Joins
open it
structure Mu where
 k:Int
 u:Int
 m:Int
 f:Int
 b:ByteArray
 ps:List Pr
def MV(x:Mu)(v:Value):Value:=.agg #[.int .i64 x.k,.int .i64 x.u,.int .i64 x.m,.int .i64 x.f,.string x.b,v]
def In(z:Int):Prop:=-9223372036854775808≤z∧z≤9223372036854775807
def Ins(x:Mu):Prop:=In x.k∧In x.u∧In x.m∧In x.f
def Small(x:Mu):Prop:=Ins x∧x.b.size≤1048576∧it.Small x.ps
section
variable {H:Type}{enc:TypeId×Value→H}{w:World}{base:Nat}{spare:Nat→Bool}{held:Bool}
end
def Lies(w:World)(b:Nat)(T:TypeId)(x:Mu)(v:Value):Prop:=w.heap[b]?=some (.cells #[.int .i64 x.k,.int .i64 x.u,.int .i64 x.m,.int .i64 x.f,.string x.b,v] T (0,0))
section
variable {w w':World}{b:Nat}{T:TypeId}{x:Mu}{v:Value}
theorem Lies.c0(h:Lies w b T x v):w.cell? ⟨b,0,none⟩=some (.int .i64 x.k):=by rw[cell_of_row w _ _ _ _ _ h];rfl
theorem Lies.c1(h:Lies w b T x v):w.cell? ⟨b,0+1,none⟩=some (.int .i64 x.u):=by rw[cell_of_row w _ _ _ _ _ h];rfl
theorem Lies.c2(h:Lies w b T x v):w.cell? ⟨b,0+2,none⟩=some (.int .i64 x.m):=by rw[cell_of_row w _ _ _ _ _ h];rfl
theorem Lies.c3(h:Lies w b T x v):w.cell? ⟨b,0+3,none⟩=some (.int .i64 x.f):=by rw[cell_of_row w _ _ _ _ _ h];rfl
theorem Lies.c4(h:Lies w b T x v):w.cell? ⟨b,0+4,none⟩=some (.string x.b):=by rw[cell_of_row w _ _ _ _ _ h];rfl
theorem Lies.c5(h:Lies w b T x v):w.cell? ⟨b,0+5,none⟩=some v:=by rw[cell_of_row w _ _ _ _ _ h];rfl
theorem Lies.lt(h:Lies w b T x v):b<w.heap.size:=World.block_lt_of_cell? w _ h.c0
theorem Lies.keep(h:Lies w b T x v)(hb:Below w.heap.size w w'):Lies w' b T x v:=(hb.block b h.lt).trans h
theorem zan(w:World)(T:TypeId)(x:Mu)(v:Value):Lies (w.alloc (.cells #[.int .i64 x.k,.int .i64 x.u,.int .i64 x.m,.int .i64 x.f,.string x.b,v] T)) w.heap.size T x v:=by show(w.heap.push _)[w.heap.size]?=_;simp
theorem new_below(w:World)(T:TypeId)(cs:Array Value):Below w.heap.size w (w.alloc (.cells cs T)):=bR.alloc lR _
end
end mu
namespace nm
open Go.RowKit
def letB(c:Int):Bool:=decide (97≤c∧c≤122∨65≤c∧c≤90∨c=95)
def digB(c:Int):Bool:=decide (48≤c∧c≤57)
theorem zab{a b:Bool}(h:a=b):Ending.returned (.bool a)=.returned (.bool b):=by rw[h]
theorem begins_any(c:Int)(w:World):Calls Tryz.prog 58 #[.int .u8 c] w λe w'=>e=.returned (.bool (letB c))∧w'=w:=by
 go_enter Tryz.func58,Tryz.ntmps58;go_wp2
 all_goals (go_ret;exact⟨zab (by rw[Bool.eq_iff_iff];simp[letB];omega),rfl⟩)
theorem letter_any(c:Int)(w:World):Calls Tryz.prog 134 #[.int .u8 c] w λe w'=>e=.returned (.bool (letB c))∧w'=w:=by
 go_enter Tryz.func134,Tryz.ntmps134;go_wp2
 all_goals (go_ret;exact⟨zab (by rw[Bool.eq_iff_iff];simp[letB];omega),rfl⟩)
theorem isDigit_any(c:Int)(w:World):Calls Tryz.prog 59 #[.int .u8 c] w λe w'=>e=.returned (.bool (digB c))∧w'=w:=by
 go_enter Tryz.func59,Tryz.ntmps59;go_wp2
 all_goals (go_ret;exact⟨zab (by simp[digB];omega),rfl⟩)
theorem digit_any(c:Int)(w:World):Calls Tryz.prog 135 #[.int .u8 c] w λe w'=>e=.returned (.bool (digB c))∧w'=w:=by
 go_enter Tryz.func135,Tryz.ntmps135;go_wp2
 all_goals (go_ret;exact⟨zab (by simp[digB];omega),rfl⟩)
def good(s:ByteArray)(j:Nat):Prop:=∃h:j<s.size,letB ((s[j]'h).toNat:Int)=true∨(0<j∧digB ((s[j]'h).toNat:Int)=true)
def za9(s:ByteArray):Prop:=1≤s.size∧s.size≤40∧∀j,j<s.size→good s j
def zb1(s:ByteArray)(e:Ending):Prop:=∃b:Bool,e=.returned (.bool b)∧(b=true↔za9 s)
theorem not_name{s:ByteArray}{k:Nat}(h:k<s.size)(hl:¬letB ((s[k]'h).toNat:Int)=true)(hd:k=0∨digB ((s[k]'h).toNat:Int)=false):zb1 s (.returned (.bool false)):=by
 refine⟨false,rfl,?_⟩;constructor
 ·intro x;cases x
 ·rintro⟨_,_,hg⟩;obtain⟨h',hx⟩:=hg k h
  rcases hx with hx|⟨hp,hx⟩
  ·exact absurd hx hl
  ·rcases hd with rfl|hd
   ·omega
   ·rw[hd] at hx;cases hx
theorem no_size{s:ByteArray}(h:s.size=0∨40<s.size):zb1 s (.returned (.bool false)) :=
 ⟨false,rfl,⟨λx=>(by cases x),λx=>(by have h1:=x.1;have h2:=x.2.1;omega)⟩⟩
theorem yes_name{s:ByteArray}(h1:1≤s.size)(h2:s.size≤40)(hg:∀j,j<s.size→good s j):zb1 s (.returned (.bool true)) :=
 ⟨true,rfl,⟨λ_=>⟨h1,h2,hg⟩,λ_=>rfl⟩⟩
theorem step{s:ByteArray}{k:Nat}(hg:∀j,j<k→good s j)(h:k<s.size)(hx:letB ((s[k]'h).toNat:Int)=true∨(0<k∧digB ((s[k]'h).toNat:Int)=true)):∀j,j<k+1→good s j:=by
 intro j hj;by_cases e:j=k
 ·subst e;exact⟨h,hx⟩
 ·exact hg j (by omega)
theorem ret_ex{s:ByteArray}{e:Ending}(h:zb1 s e):∃b:Bool,e=.returned (.bool b):=⟨h.choose,h.choose_spec.1⟩
theorem implName_any(s:ByteArray)(w:World)(hs:s.size≤1048576) :
  Calls Tryz.prog 31 #[.string s] w λe w'=>zb1 s e∧w'=w:=by
 by_cases h0:s.size=0
 ·have b0:((s.size:Int) == 0)=true:=beq_iff_eq.2 (by omega);go_enter Tryz.func31,Tryz.ntmps31;go_wp2;go_ret;exact⟨no_size (.inl h0),rfl⟩
 have b0:((s.size:Int) == 0)=false:=beq_eq_false_iff_ne.2 (by omega);by_cases h4:40<s.size
 ·have h4':(40:Int)<(s.size:Int):=by omega
  go_enter Tryz.func31,Tryz.ntmps31;go_wp2;go_ret;exact⟨no_size (.inr h4),rfl⟩
 have h4':(s.size:Int)≤40:=by omega
 go_enter Tryz.func31,Tryz.ntmps31;go_wp2
 go_loop [14] (λi=>∃k:Nat,k≤s.size∧i=.int .i64 k∧∀j,j<k→good s j) (λi=>s.size-(intOf i).toNat)
 case atStart=>exact⟨0,Nat.zero_le _,rfl,λj hj=>absurd hj (Nat.not_lt_zero _)⟩
 case round =>
  obtain⟨k,hk,rfl,hg⟩:=hrel;have HG:=hD hg;clear hg;by_cases hlt:k<s.size
  ·go_wp2_with (first|(go_at_call 58;refine(begins_any _ _).mono ?_;rintro e w' ⟨rfl,rfl⟩)|(go_at_call 59;refine(isDigit_any _ _).mono ?_;rintro e w' ⟨rfl,rfl⟩))
   ·go_round
    case rel=>exact⟨k+1,by omega,by go_num,step HG.out hlt (.inl ‹_›)⟩
    case measure=>simp[intOf];omega
   ·go_ret;exact⟨not_name hlt ‹_› (.inl ‹_›),rfl⟩
   ·go_ret;exact⟨not_name hlt ‹_› (by rename_i h;simp at h;omega),rfl⟩
   ·go_round
    case rel=>exact⟨k+1,by omega,by go_num,step HG.out hlt (.inr ⟨by omega,by rename_i h;simpa using h.2⟩)⟩
    case measure=>simp[intOf];omega
  ·go_wp2;go_ret;exact⟨yes_name (by omega) (by omega) (λj hj=>HG.out j (by omega)),rfl⟩
theorem word_any(s:ByteArray)(w:World)(hs:s.size≤1048576) :
  Calls Tryz.prog 109 #[.string s] w λe w'=>zb1 s e∧w'=w:=by
 by_cases h0:s.size=0
 ·have b0:(s.size:Int)<1:=by omega
  go_enter Tryz.func109,Tryz.ntmps109;go_wp2;go_ret;exact⟨no_size (.inl h0),rfl⟩
 have b0:(1:Int)≤(s.size:Int):=by omega
 by_cases h4:40<s.size
 ·have h4':(40:Int)<(s.size:Int):=by omega
  go_enter Tryz.func109,Tryz.ntmps109;go_wp2;go_ret;exact⟨no_size (.inr h4),rfl⟩
 have h4':(s.size:Int)≤40:=by omega
 have hp:0<s.size:=by omega
 by_cases hl0:letB ((s[0]'hp).toNat:Int)=true
 case neg =>
  go_enter Tryz.func109,Tryz.ntmps109
  go_wp2_with (go_at_call 134;refine(letter_any _ _).mono ?_;rintro e w' ⟨rfl,rfl⟩)
  go_ret;exact⟨not_name hp hl0 (.inl rfl),rfl⟩
 have HL:=hD hl0;go_enter Tryz.func109,Tryz.ntmps109
 go_wp2_with (go_at_call 134;refine(letter_any _ _).mono ?_;rintro e w' ⟨rfl,rfl⟩)
 go_loop [3] (λi=>∃k:Nat,1≤k∧k≤s.size∧i=.int .i64 k∧∀j,j<k→good s j) (λi=>s.size-(intOf i).toNat)
 case atStart=>exact⟨1,Nat.le_refl _,hp,rfl,step (k:=0) (λj hj=>absurd hj (Nat.not_lt_zero _)) hp (.inl HL.out)⟩
 case round =>
  obtain⟨k,hk1,hk,rfl,hg⟩:=hrel;have HG:=hD hg;clear hg;by_cases hlt:k<s.size
  ·go_wp2_with (first|(go_at_call 134;refine(letter_any _ _).mono ?_;rintro e w' ⟨rfl,rfl⟩)|(go_at_call 135;refine(digit_any _ _).mono ?_;rintro e w' ⟨rfl,rfl⟩))
   ·go_round
    case rel=>exact⟨k+1,by omega,by omega,by go_num,step HG.out hlt (.inl ‹_›)⟩
    case measure=>simp[intOf];omega
   ·go_ret;exact⟨not_name hlt ‹_› (by rename_i h;simp at h;exact .inr h),rfl⟩
   ·go_round
    case rel=>exact⟨k+1,by omega,by omega,by go_num,step HG.out hlt (.inr ⟨by omega,by rename_i h;simpa using h⟩)⟩
    case measure=>simp[intOf];omega
  ·go_wp2;go_ret;exact⟨yes_name (by omega) (by omega) (λj hj=>HG.out j (by omega)),rfl⟩
theorem specName_any(s:ByteArray)(w:World)(hs:s.size≤1048576) :
  Calls Tryz.prog 71 #[.string s] w λe w'=>zb1 s e∧w'=w:=by
 go_enter Tryz.func71,Tryz.ntmps71
 go_wp2_with fail
 refine(word_any s _ hs).mono ?_;rintro e w' ⟨hn,rfl⟩;obtain⟨b,rfl⟩:=ret_ex hn;go_wp2;go_ret;exact⟨hn,rfl⟩
end nm
end Go.Proofs.YtmnflpmfngjllaaGreatDoor
