/-
  FnReplayCardSaid
-/
import Derived.Below
import Derived.WalkKit
import Derived.WalkLawsBesides
import Derived.Lib.OthersKept
import Derived.Laws.Cover4
import Derived.Laws.IdiomStrings
import Derived.Laws.BytesArg
import Derived.Lib.AppendStr
import Derived.Test.YtmnflpmfngjllaaGreatDoorRows
import Derived.BigRegion
import Derived.WideShapes
import Derived.Deep.QuietTactic
import Derived.BigQuiet
import Derived.Lib.Strings
import Derived.ProofKit
import Derived.OpenShut
import Derived.ChangeOld
import Derived.Laws.OwnMore
import Derived.Lib.SmallJoins
import Derived.Deep.Fields
import Derived.Deep.Slices
set_option maxHeartbeats 16000000
set_option maxRecDepth 100000
set_option linter.unusedVariables false
namespace Go.Proofs.YtmnflpmfngjllaaGreatDoor
open Go.RowKit
theorem hD{p : Prop}(h : p) : Hid p := h
theorem bR{B : Nat}{w : World} : Below B w w := Below.refl _ _
theorem lR{n : Nat} : n ≤ n := Nat.le_refl _
namespace ow
open Go.RowKit
theorem dt{p:Prop}{d:Decidable p}(h:p):@decide p d=true:=decide_eq_true h
theorem df{p:Prop}{d:Decidable p}(h:¬p):@decide p d=false:=decide_eq_false h
theorem dof{p:Prop}{d:Decidable p}(h:@decide p d=true):p:=of_decide_eq_true h
def decB(a b:ByteArray):Decidable (a=b):=decidable_of_iff (a.data=b.data) ⟨λh=>ByteArray.ext h,λh=>by rw[h]⟩
def Says(p:Prop)(e:Ending):Prop:=∃b:Bool,e=.returned (.bool b)∧(b=true↔p)
section
variable {w w' W:World}{base e size n k p:Nat}{v:Value}{xs:List Value}{s:ByteArray}
theorem zaN(h:w.ownsRow base e size v n xs):∀j,v.ownBlock=some j→base≤j:=by
 intro j hj
 rcases h.2 with⟨rfl,_⟩|⟨g,cap,cur,rfl,b,c,_⟩
 ·cases hj
 ·have:g=j:=by simpa [Value.ownBlock] using hj
  omega
theorem own_base{base':Nat}(h:w.ownsRow base e size v n xs)(hb:base'≤base):w.ownsRow base' e size v n xs:=by
 obtain⟨h1,h2⟩:=h;refine⟨h1,?_⟩
 rcases h2 with h2|⟨g,cap,cur,a,b,c⟩
 ·exact .inl h2
 ·exact .inr ⟨g,cap,cur,a,Nat.le_trans hb b,c⟩
theorem own_below(h:w.ownsRow base e size v n xs)(hb:Below w.heap.size w w'):w'.ownsRow base e size v n xs:=by
 obtain⟨h1,h2⟩:=h;refine⟨h1,?_⟩
 rcases h2 with h2|⟨g,cap,cur,a,b,c,d⟩
 ·exact .inl h2
 ·have hlt:=(Array.getElem?_eq_some_iff.1 c).1;exact .inr ⟨g,cap,cur,a,b,(hb.block g hlt).trans c,d⟩
theorem apart{w2:World}{e2 size2 n2:Nat}{v2:Value}{xs2:List Value}(h:w.ownsRow base e size v n xs)(h2:w2.ownsRow w.heap.size e2 size2 v2 n2 xs2):v.ownBlock=none∨v.ownBlock≠v2.ownBlock:=by
 rcases h.2 with⟨rfl,_⟩|⟨g,cap,cur,rfl,b,c,d⟩
 ·exact .inl rfl
 ·right;intro e;have hlt:=(Array.getElem?_eq_some_iff.1 c).1;have:=zaN h2 g e.symm;omega
theorem zcw(w:World)(t:TypeId):(w.alloc (.cells #[] t)).ownsRow w.heap.size t 1 (.slice (some ⟨w.heap.size,0,none⟩) 0 0) 0 []:=by
 have h1:(w.alloc (.cells #[] t)).heap[w.heap.size]?=some (.cells #[] t):=by
  show(w.heap.push (.cells #[] t))[w.heap.size]?=_;simp
 exact⟨rfl,.inr ⟨_,0,#[],rfl,Nat.le_refl _,h1,Nat.le_refl _,Nat.zero_le _,rfl,rfl⟩⟩
theorem zaI(w:World)(c:List Value)(t:TypeId):∀j u,c[j]?=some u→(w.alloc (.cells c.toArray t)).cell? ((⟨w.heap.size,0,none⟩:Addr).add j)=some u:=by
 intro j u hj;have h1:(w.alloc (.cells c.toArray t)).heap[w.heap.size]?=some (.cells c.toArray t):=by
  show(w.heap.push (.cells c.toArray t))[w.heap.size]?=_;simp
 rw[show((⟨w.heap.size,0,none⟩:Addr).add j)=⟨w.heap.size,j,none⟩ from by simp[Addr.add];omega];rw[cell_of_row _ _ j _ t _ h1];simpa using hj
theorem add_at(g j:Nat):(⟨g,0,none⟩:Addr).add j=⟨g,j,none⟩:=by simp[Addr.add];omega
theorem cell_new(w:World)(c:List Value)(t:TypeId)(j:Nat)(u:Value)(h:c[j]?=some u):(w.alloc (.cells c.toArray t)).cell? ⟨w.heap.size,j,none⟩=some u:=by
 rw[←add_at];exact zaI w c t j u h
end
section
variable {P:Program}{w:World}{base n:Nat}{src dst e:TypeId}{v:Value}
theorem zcd(l:List UInt8)(h:w.ownsRow base e 1 v n (l.map λb=>Value.int .u8 (b.toNat:Int)))
  (hs:P.underlying src=some (.slice e)) (he:P.underlying e=some (.int .u8)) (hd:P.underlying dst=some .string) :
  (convert src dst v).run P w=.ok (.string ⟨l.toArray⟩) w:=by
 have hl:l.length=n:=by have:=h.1;simpa using this
 rcases h.2 with⟨rfl,h0⟩|⟨g,cap,cur,rfl,_⟩
 ·have:l=[]:=List.eq_nil_of_length_eq_zero (by omega);subst this;rw[run_convert_bytes_string w src dst e _ _ _ hs he hd];rfl
 ·subst hl;refine run_convert_bytes_back w src dst e ⟨g,0,none⟩ cap l hs he hd (λj hj=>?_);rw[show((⟨g,0,none⟩:Addr).add j)=⟨g,j,none⟩ from by simp[Addr.add];omega,h.cellAt j (by omega)];simp[hj]
theorem zcz(t:TypeId)(s:ByteArray)(k k':IntKind)(p q:Nat)(h:P.underlying t=some .string)(i j:Int)(hi:i=p)(hj:j=q)(h1:p≤q)(h2:q≤s.size)(wx:World) :
  (Instr.slice t (.string s) (some (.int k i)) (some (.int k' j)) none).run P wx=.ok (.string (s.extract p q)) wx:=by
 subst hi hj;rw[run_slice_string (P:=P) (w:=wx) t s k k' _ _ h (by omega) (by omega) (by omega)];rfl
end
def Reads(k:IntKind)(w:World)(v:Value)(zs:List Int):Prop :=
 ∃(a:Option Addr) (cap:Nat),v=.slice a zs.length cap∧(zs=[]∨∃b off,a=some ⟨b,off,none⟩∧∀j,j<zs.length→w.cell? ⟨b,off+j,none⟩=some (.int k (zs.getD j 0)))
theorem reads_keep{k:IntKind}{w w':World}{v:Value}{zs:List Int}(h:Reads k w v zs)(hc:∀a u,w.cell? a=some u→w'.cell? a=some u):Reads k w' v zs:=by
 obtain⟨a,cap,rfl,h⟩:=h;refine⟨a,cap,rfl,?_⟩
 rcases h with h|⟨b,off,rfl,h⟩
 ·exact .inl h
 ·exact .inr ⟨b,off,rfl,λj hj=>hc _ _ (h j hj)⟩
theorem zah{a b c:World}{row:Option Nat}(h:a.grownBy b row)(k:b.grownBy c row):a.grownBy c row :=
 ⟨k.os.trans h.os,k.tape.trans h.tape,k.output.trans h.output,Nat.le_trans h.size k.size,λi hi hr=>(k.block i (Nat.lt_of_lt_of_le hi h.size) hr).trans (h.block i hi hr)⟩
theorem zc3(a:World)(row:Option Nat):a.grownBy a row:=⟨rfl,rfl,rfl,Nat.le_refl _,λ_ _ _=>rfl⟩
theorem grown_drewN{w w1:World}{row:Option Nat}(h:w.grownBy w1 row)(n:Nat):w.grownBy (w1.drewN n) row:=⟨h.os,h.tape,h.output,h.size,h.block⟩
theorem zbC{w w1:World}{row:Option Nat}(h:Below w.heap.size w w1):w.grownBy w1 row:=⟨h.os,h.tape,h.output,h.size,λk hk _=>h.block k hk⟩
end ow
namespace mk
open Go.RowKit
def ch(k:Int):UInt8:=UInt8.ofNat (48+(k % 10).toNat)
def dgs:Nat→Int→ByteArray→ByteArray
 | 0,_,o=>o
 | f+1,k,o=>if k≤0 then o else dgs f (k / 10) (⟨#[ch k]⟩++o)
def mt(k:Int):ByteArray:=⟨#[109]⟩++dgs 30 k ⟨#[]⟩
end mk
namespace ky
open Go.RowKit
def nt:ByteArray:=⟨#[]⟩
def TextsAt(w:World)(v:Value)(ks:List ByteArray):Prop :=
 ∃a cap,v=.slice a ks.length cap∧(ks=[]∨∃b off,a=some ⟨b,off,none⟩∧∀j,j<ks.length→w.cell? ⟨b,off+j,none⟩=some (.string (ks.getD j nt)))
def OwnT(w:World)(base:Nat)(v:Value)(ks:List ByteArray):Prop:=w.ownsRow base 9 1 v ks.length (ks.map Value.string)
theorem own_texts{w:World}{base:Nat}{v:Value}{ks:List ByteArray}(h:OwnT w base v ks):TextsAt w v ks:=by
 rcases h.2 with⟨rfl,h0⟩|⟨g,cap,cur,rfl,_⟩
 ·obtain rfl:=List.eq_nil_of_length_eq_zero h0;exact⟨none,0,rfl,.inl rfl⟩
 ·refine⟨_,cap,rfl,.inr ⟨g,0,rfl,λj hj=>?_⟩⟩;rw[Nat.zero_add,h.cellAt j (by omega)];simp[List.getD_eq_getElem?_getD,hj]
theorem zci{a b:ByteArray}(h:a≠b):(a.toList == b.toList)=false:=beq_eq_false_iff_ne.2 λe=>h (WideShapes.bytes_inj (by rw[←Lib.toList_data,←Lib.toList_data];exact e))
theorem get_in{ks:List ByteArray}{j:Nat}(h:j<ks.length):ks.getD j nt∈ks:=by rw[List.getD_eq_getElem?_getD,List.getElem?_eq_getElem h];exact List.getElem_mem h
theorem not_in{ks:List ByteArray}{s:ByteArray}(h:∀j,j<ks.length→ks.getD j nt≠s):s ∉ ks:=by
 intro hm;obtain⟨j,hj,e⟩:=List.mem_iff_getElem.1 hm;apply h j hj;rw[List.getD_eq_getElem?_getD,List.getElem?_eq_getElem hj];exact e
def has(ks:List ByteArray)(s:ByteArray):Bool:=decide (s.data∈ks.map λk=>k.data)
theorem has_of{ks:List ByteArray}{s:ByteArray}(h:has ks s=true):s∈ks:=by
 obtain⟨x,hx,e⟩:=List.mem_map.1 (of_decide_eq_true h);exact ByteArray.ext e ▸ hx
theorem has_yes{ks:List ByteArray}{s:ByteArray}(h:s∈ks):has ks s=true:=decide_eq_true (List.mem_map.2 ⟨s,h,rfl⟩)
theorem has_no{ks:List ByteArray}{s:ByteArray}(h:s ∉ ks):has ks s=false:=by
 cases e:has ks s
 ·rfl
 ·exact absurd (has_of e) h
theorem spec_has(v:Value)(ks:List ByteArray)(s:ByteArray)(w:World)(h:TextsAt w v ks)(hn:ks.length≤1048576) :
  Calls Tryz.prog 74 #[v,.string s] w λe w'=>e=.returned (.bool (has ks s))∧w'=w:=by
 obtain⟨a,cap,rfl,hh⟩:=h;obtain⟨m,hm⟩:∃m,m=ks.length:=⟨_,rfl⟩
 have HN:=hD hm;have HH:=hD hh;rw[←hm] at hn ⊢;clear hh hm;go_enter Tryz.func74,Tryz.ntmps74;go_wp2
 go_loop [5] (λi=>∃j:Nat,j≤m∧i=.int .i64 j∧∀x,x<j→ks.getD x nt≠s) (λi=>m-(intOf i).toNat)
 case atStart=>exact⟨0,Nat.zero_le _,rfl,λj hj=>absurd hj (Nat.not_lt_zero _)⟩
 case round =>
  obtain⟨j,hj,rfl,hg⟩:=hrel;have HG:=hD hg;clear hg;by_cases hlt:j<m
  ·have hka:j<ks.length:=by rw[←HN.out];exact hlt
   rcases HH.out with e|⟨b,off,rfl,hcells⟩
   ·rw[e] at hka;simp at hka
   have c0:=hcells j hka;have HM:=hD (get_in hka);clear hcells hka;generalize hx:ks.getD j nt=x at c0 HM;have HX:=hD hx;clear hx;by_cases hs:x=s
   ·have hs':(x.toList == s.toList)=true:=by rw[hs];simp
    have HR:=hD (has_yes (hs ▸ HM.out));clear hs;go_wp2;go_ret;exact⟨by rw[HR.out];rfl,rfl⟩
   ·have hs':(x.toList == s.toList)=false:=zci hs;have HS:=hD hs;clear hs;go_wp2
    go_round
    case rel=>exact⟨j+1,by omega,by go_num,λy hy=>by by_cases hyj:y=j;subst hyj;rw[HX.out];exact HS.out;exact HG.out y (by omega)⟩
    case measure=>simp[intOf];omega
  ·have HR:Hid (has ks s=false):=has_no (not_in λy hy=>HG.out y (by have:=HN.out;omega));go_wp2;go_ret;exact⟨by rw[HR.out];rfl,rfl⟩
end ky
namespace gr
open Go.RowKit
def Ext(w:World):Type:={x:World // Below w.heap.size w x}
def gw{w:World}(x:Ext w):World:=x.1
section
variable {P:Program}{w:World}
theorem zbe(x:Ext w):Below w.heap.size w (gw x):=x.2
theorem zcC(w:World):Nonempty (Ext w):=⟨⟨w,Below.refl _ _⟩⟩
theorem zaA(x:Ext w){p:Addr}{v:Value}(h:w.cell? p=some v):(gw x).cell? p=some v:=(x.2.cell (World.block_lt_of_cell? w _ h)).trans h
theorem zca{id:Nat}{Q:Exit→Act→World→Prop}{a:Act}{l:List Oper}(hm:P.follows .mixedOrders=true)(hB:Region.lexB .any l.toArray=true)
  (h:wpQuiet P l.toArray (λw'=>∃x:Ext w,w'=gw x) (λa'=>∀w',(∃x:Ext w,w'=gw x)→Q .normal a' w') l a):(Code.region id l.toArray true).wp P Q a w :=
 wp_region_quiet (C:=λw'=>∃x:Ext w,w'=gw x) hm hB ⟨⟨_,(Below.refl _ w).drew⟩,rfl⟩ (by simpa using h)
theorem zaQ{f:FuncId}{args:Array Value}{x:Ext w}{v:Value}(h:Calls P f args (gw x) λe w'=>e=.returned v∧Below (gw x).heap.size (gw x) w') :
  Calls P f args (gw x) λe w''=>e=.returned v∧∃y:Ext w,w''=gw y :=
 h.mono λe w' ⟨he,hb⟩=>⟨he,⟨w',(zbe x).trans (hb.mono (zbe x).size)⟩,rfl⟩
end
end gr
namespace mk
open Go.RowKit
open ky gr
theorem zam(w:World)(g j:Nat)(u:Value):w.grownBy (w.setCell ⟨g,j,none⟩ u) (some g) :=
 ⟨rfl,rfl,rfl,by simp[World.setCell],λi hi hr=>heap_setCell_other w ⟨g,j,none⟩ i u (λe=>hr (by rw[e]))⟩
end mk
namespace st
open Go.ChangeShapes Go.WideShapes Go.ChangeAt Go.RowKit Go.Joins Go.Deep
open gr
structure St where
 u:Int
 f:Int
 t:ByteArray
def noS:St:=⟨0,0,⟨#[]⟩⟩
def In(z:Int):Prop:=-9223372036854775808≤z∧z≤9223372036854775807
def Small(e:St):Prop:=In e.u∧In e.f∧e.t.size≤1048576
def At3(w:World)(b o:Nat)(e:St):Prop :=
 w.cell? ⟨b,o,none⟩=some (.int .i64 e.u)∧w.cell? ⟨b,o+1,none⟩=some (.int .i64 e.f)∧w.cell? ⟨b,o+2,none⟩=some (.string e.t)
theorem At3.lt{w:World}{b o:Nat}{e:St}(h:At3 w b o e):b<w.heap.size:=World.block_lt_of_cell? w _ h.1
theorem At3.keep{w w':World}{n b o:Nat}{e:St}(h:At3 w b o e)(hb:Below n w w')(hn:b<n):At3 w' b o e:=by
 obtain⟨h0,h1,h2⟩:=h;exact⟨(hb.cell (p:=⟨b,o,none⟩) hn).trans h0,(hb.cell (p:=⟨b,o+1,none⟩) hn).trans h1,(hb.cell (p:=⟨b,o+2,none⟩) hn).trans h2⟩
def za5(w:World)(n:Nat)(v:Value)(es:List St):Prop :=
 ∃a cap,v=.slice a es.length cap∧(es=[]∨∃b off,a=some ⟨b,off,none⟩∧b<n∧∀j,j<es.length→At3 w b (off+j*3) (es.getD j noS))
theorem mails_below{w w':World}{n k:Nat}{v:Value}{es:List St}(h:za5 w n v es)(hb:Below k w w')(hk:n≤k):za5 w' n v es:=by
 obtain⟨a,cap,rfl,h⟩:=h;refine⟨a,cap,rfl,?_⟩
 rcases h with h|⟨b,off,rfl,hb',h⟩
 ·exact .inl h
 ·exact .inr ⟨b,off,rfl,hb',λj hj=>(h j hj).keep hb (by omega)⟩
theorem mails_more{w:World}{n k:Nat}{v:Value}{es:List St}(h:za5 w n v es)(hk:n≤k):za5 w k v es:=by
 obtain⟨a,cap,rfl,h⟩:=h;refine⟨a,cap,rfl,?_⟩
 rcases h with h|⟨b,off,rfl,hb',h⟩
 ·exact .inl h
 ·exact .inr ⟨b,off,rfl,by omega,h⟩
def zac(es:List St):Prop:=es.length≤1048576∧∀j,j<es.length→Small (es.getD j noS)
theorem infoS:(Tryz.prog.info? 92).map (λi=>(i.zero,i.size,i.bytes))=some (some (.agg #[.int .i64 0,.int .i64 0,.string ⟨#[]⟩]),3,32):=by kernel_rfl
def put3(xs:List Value)(o:Nat)(e:St):List Value:=((xs.set o (.int .i64 e.u)).set (o+1) (.int .i64 e.f)).set (o+2) (.string e.t)
def In3(xs:List Value)(o:Nat)(e:St):Prop:=xs[o]?=some (.int .i64 e.u)∧xs[o+1]?=some (.int .i64 e.f)∧xs[o+2]?=some (.string e.t)
def Lay(es:List St)(k:Nat)(xs:List Value):Prop:=∀j,j<k→In3 xs (j*3) (es.getD j noS)
section
variable {H:Type}{enc:TypeId×Value→H}{w:World}{base:Nat}{spare:Nat→Bool}{held:Bool}
end
end st
namespace tx
open Go.ChangeShapes Go.WideShapes Go.ChangeAt Go.RowKit Go.Joins Go.Deep
open ky
def zaU(w:World)(n:Nat)(v:Value)(ks:List ByteArray):Prop :=
 ∃a cap,v=.slice a ks.length cap∧(ks=[]∨∃b off,a=some ⟨b,off,none⟩∧b<n∧∀j,j<ks.length→w.cell? ⟨b,off+j,none⟩=some (.string (ks.getD j nt)))
theorem texts_at{w:World}{n:Nat}{v:Value}{ks:List ByteArray}(h:zaU w n v ks):TextsAt w v ks:=by
 obtain⟨a,cap,rfl,h⟩:=h;refine⟨a,cap,rfl,?_⟩
 rcases h with h|⟨b,off,rfl,hb',h⟩
 ·exact .inl h
 ·exact .inr ⟨b,off,rfl,h⟩
theorem texts_below{w w':World}{n k:Nat}{v:Value}{ks:List ByteArray}(h:zaU w n v ks)(hb:Below k w w')(hk:n≤k):zaU w' n v ks:=by
 obtain⟨a,cap,rfl,h⟩:=h;refine⟨a,cap,rfl,?_⟩
 rcases h with h|⟨b,off,rfl,hb',h⟩
 ·exact .inl h
 ·exact .inr ⟨b,off,rfl,hb',λj hj=>(hb.cell (p:=⟨b,off+j,none⟩) (Nat.lt_of_lt_of_le hb' hk)).trans (h j hj)⟩
theorem texts_more{w:World}{n k:Nat}{v:Value}{ks:List ByteArray}(h:zaU w n v ks)(hk:n≤k):zaU w k v ks:=by
 obtain⟨a,cap,rfl,h⟩:=h;refine⟨a,cap,rfl,?_⟩
 rcases h with h|⟨b,off,rfl,hb',h⟩
 ·exact .inl h
 ·exact .inr ⟨b,off,rfl,by omega,h⟩
def zac(ks:List ByteArray):Prop:=ks.length≤1048576∧∀j,j<ks.length→(ks.getD j nt).size≤1048576
theorem infoT:(Tryz.prog.info? 9).map (λi=>(i.zero,i.size,i.bytes))=some (some (.string ⟨#[]⟩),1,16):=by kernel_rfl
def Lay(ks:List ByteArray)(k:Nat)(xs:List Value):Prop:=∀j,j<k→xs[j]?=some (.string (ks.getD j nt))
section
variable {H:Type}{enc:TypeId×Value→H}{w:World}{base:Nat}{spare:Nat→Bool}{held:Bool}
end
end tx
namespace bx
open Go.ChangeShapes Go.WideShapes Go.ChangeAt Go.RowKit Go.Deep Go.Joins
open st
structure Bx where
 nm:ByteArray
 vd:Int
 nx:Int
 ms:List St
 ks:List ByteArray
def BV(x:Bx)(v u:Value):Value:=.agg #[.string x.nm,.int .i64 x.vd,.int .i64 x.nx,v,u]
def Ins(x:Bx):Prop:=In x.vd∧In x.nx
def Small(x:Bx):Prop:=Ins x∧x.nm.size≤1048576∧st.zac x.ms∧tx.zac x.ks
def RowsIn(w:World)(n:Nat)(v u:Value)(ms:List St)(ks:List ByteArray):Prop:=za5 w n v ms∧tx.zaU w n u ks
theorem zbs{w w':World}{n k:Nat}{v u:Value}{ms:List St}{ks:List ByteArray}(h:RowsIn w n v u ms ks)(hb:Below k w w')(hk:n≤k):RowsIn w' n v u ms ks:=⟨mails_below h.1 hb hk,tx.texts_below h.2 hb hk⟩
theorem zbt{w:World}{n k:Nat}{v u:Value}{ms:List St}{ks:List ByteArray}(h:RowsIn w n v u ms ks)(hk:n≤k):RowsIn w k v u ms ks:=⟨mails_more h.1 hk,tx.texts_more h.2 hk⟩
def zaE(w:World)(v u:Value)(ms:List St)(ks:List ByteArray):Prop:=RowsIn w w.heap.size v u ms ks
theorem zaT{w w':World}{v u:Value}{ms:List St}{ks:List ByteArray}(h:zaE w v u ms ks)(hb:Below w.heap.size w w'):zaE w' v u ms ks:=zbt (zbs h hb lR) hb.size
section
variable {H:Type}{enc:TypeId×Value→H}{w:World}{base:Nat}{spare:Nat→Bool}{held:Bool}
end
def Lies(w:World)(b:Nat)(T:TypeId)(x:Bx)(v u:Value):Prop:=w.heap[b]?=some (.cells #[.string x.nm,.int .i64 x.vd,.int .i64 x.nx,v,u] T (0,0))
section
variable {w w':World}{b:Nat}{T:TypeId}{x:Bx}{v u:Value}
theorem Lies.c0(h:Lies w b T x v u):w.cell? ⟨b,0,none⟩=some (.string x.nm):=by rw[cell_of_row w _ _ _ _ _ h];rfl
theorem Lies.c1(h:Lies w b T x v u):w.cell? ⟨b,0+1,none⟩=some (.int .i64 x.vd):=by rw[cell_of_row w _ _ _ _ _ h];rfl
theorem Lies.c2(h:Lies w b T x v u):w.cell? ⟨b,0+2,none⟩=some (.int .i64 x.nx):=by rw[cell_of_row w _ _ _ _ _ h];rfl
theorem Lies.c3(h:Lies w b T x v u):w.cell? ⟨b,0+3,none⟩=some v:=by rw[cell_of_row w _ _ _ _ _ h];rfl
theorem Lies.c4(h:Lies w b T x v u):w.cell? ⟨b,0+4,none⟩=some u:=by rw[cell_of_row w _ _ _ _ _ h];rfl
theorem Lies.lt(h:Lies w b T x v u):b<w.heap.size:=World.block_lt_of_cell? w _ h.c0
theorem Lies.keep(h:Lies w b T x v u)(hb:Below w.heap.size w w'):Lies w' b T x v u:=(hb.block b h.lt).trans h
theorem zan(w:World)(T:TypeId)(x:Bx)(v u:Value):Lies (w.alloc (.cells #[.string x.nm,.int .i64 x.vd,.int .i64 x.nx,v,u] T)) w.heap.size T x v u:=by show(w.heap.push _)[w.heap.size]?=_;simp
theorem new_below(w:World)(T:TypeId)(cs:Array Value):Below w.heap.size w (w.alloc (.cells cs T)):=bR.alloc lR _
end
end bx
namespace bx
open Go.ChangeShapes Go.WideShapes Go.ChangeAt Go.RowKit Go.Deep Go.Joins
open st
theorem zbS(w:World)(o:Obj):(w.alloc o).heap[w.heap.size]?=some o:=(MapKept.heap_alloc w _).1
theorem new1(w:World)(o0 o1 o2:Obj):(((w.alloc o0).alloc o1).alloc o2).heap[w.heap.size+1]?=some o1:=by
 have h:=zbS (w.alloc o0) o1;rw[show(w.alloc o0).heap.size=w.heap.size+1 by simp] at h;rw[Below.heap_alloc _ _ _ (by simp),h]
theorem new2(w:World)(o0 o1 o2:Obj):(((w.alloc o0).alloc o1).alloc o2).heap[w.heap.size+1+1]?=some o2:=by
 have h:=zbS ((w.alloc o0).alloc o1) o2;rw[show((w.alloc o0).alloc o1).heap.size=w.heap.size+1+1 by simp] at h;exact h
def fin(w2:World)(b:Nat)(x:Bx)(V U:Value):World:=(((((w2.setCell ⟨b+1+1,4,none⟩ U).setCell ⟨b+1,0,none⟩ (.string x.nm)).setCell ⟨b+1,1,none⟩ (.int .i64 x.vd)).setCell ⟨b+1,2,none⟩ (.int .i64 x.nx)).setCell ⟨b+1,3,none⟩ V).setCell ⟨b+1,4,none⟩ U
end bx
namespace bx
open Go.ChangeShapes Go.WideShapes Go.ChangeAt Go.RowKit Go.Deep Go.Joins
open st gr
def noB:Bx:=⟨⟨#[]⟩,0,0,[],[]⟩
def At5(w:World)(b o:Nat)(x:Bx)(p:Value×Value):Prop :=
 w.cell? ⟨b,o,none⟩=some (.string x.nm)∧w.cell? ⟨b,o+1,none⟩=some (.int .i64 x.vd)∧w.cell? ⟨b,o+2,none⟩=some (.int .i64 x.nx)∧w.cell? ⟨b,o+3,none⟩=some p.1∧w.cell? ⟨b,o+4,none⟩=some p.2
theorem At5.keep{w w':World}{n b o:Nat}{x:Bx}{p:Value×Value}(h:At5 w b o x p)(hb:Below n w w')(hn:b<n):At5 w' b o x p:=by
 obtain⟨h0,h1,h2,h3,h4⟩:=h;exact⟨(hb.cell (p:=⟨b,o,none⟩) hn).trans h0,(hb.cell (p:=⟨b,o+1,none⟩) hn).trans h1,(hb.cell (p:=⟨b,o+2,none⟩) hn).trans h2,(hb.cell (p:=⟨b,o+3,none⟩) hn).trans h3,(hb.cell (p:=⟨b,o+4,none⟩) hn).trans h4⟩
def CellsIn(w:World)(n:Nat)(v:Value)(xs:List Bx)(vs:Nat→Value×Value):Prop :=
 ∃a cap,v=.slice a xs.length cap∧(xs=[]∨∃b off,a=some ⟨b,off,none⟩∧b<n∧∀j,j<xs.length→At5 w b (off+j*5) (xs.getD j noB) (vs j))
def za4(w:World)(n:Nat)(v:Value)(xs:List Bx)(vs:Nat→Value×Value):Prop :=
 CellsIn w n v xs vs∧∀j,j<xs.length→RowsIn w n (vs j).1 (vs j).2 (xs.getD j noB).ms (xs.getD j noB).ks
theorem za6{w w':World}{n k:Nat}{v:Value}{xs:List Bx}{vs:Nat→Value×Value}(h:za4 w n v xs vs)(hb:Below k w w')(hk:n≤k):za4 w' n v xs vs:=by
 obtain⟨⟨a,cap,rfl,h⟩,h2⟩:=h;refine⟨⟨a,cap,rfl,?_⟩,λj hj=>zbs (h2 j hj) hb hk⟩
 rcases h with h|⟨b,off,rfl,hb',h⟩
 ·exact .inl h
 ·exact .inr ⟨b,off,rfl,hb',λj hj=>(h j hj).keep hb (by omega)⟩
theorem boxes_more{w:World}{n k:Nat}{v:Value}{xs:List Bx}{vs:Nat→Value×Value}(h:za4 w n v xs vs)(hk:n≤k):za4 w k v xs vs:=by
 obtain⟨⟨a,cap,rfl,h⟩,h2⟩:=h;refine⟨⟨a,cap,rfl,?_⟩,λj hj=>zbt (h2 j hj) hk⟩
 rcases h with h|⟨b,off,rfl,hb',h⟩
 ·exact .inl h
 ·exact .inr ⟨b,off,rfl,by omega,h⟩
def zaa(w:World)(v:Value)(xs:List Bx)(vs:Nat→Value×Value):Prop:=za4 w w.heap.size v xs vs
theorem zap{w w':World}{v:Value}{xs:List Bx}{vs:Nat→Value×Value}(h:zaa w v xs vs)(hb:Below w.heap.size w w'):zaa w' v xs vs:=boxes_more (za6 h hb lR) hb.size
def zac(xs:List Bx):Prop:=xs.length≤1048576∧∀j,j<xs.length→Small (xs.getD j noB)
section
variable {H:Type}{enc:TypeId×Value→H}{w:World}{base:Nat}{spare:Nat→Bool}{held:Bool}
end
end bx
namespace mu
open Go.RowKit
theorem zcx{w:World}{b base e size n:Nat}{v:Value}{xs:List Value}(h:w.ownsRow base e size v n xs)(hb:b≤base):w.ownsRow b e size v n xs :=
 ⟨h.1,h.2.imp id λ⟨g,cap,cur,he,hb',r⟩=>⟨g,cap,cur,he,Nat.le_trans hb hb',r⟩⟩
theorem own_block{w w':World}{base e size n g m c:Nat}{xs:List Value}(h:w.ownsRow base e size (.slice (some ⟨g,0,none⟩) m c) n xs)(hb:w'.heap[g]?=w.heap[g]?):w'.ownsRow base e size (.slice (some ⟨g,0,none⟩) m c) n xs:=by
 obtain⟨h1,h2⟩:=h;refine⟨h1,?_⟩
 rcases h2 with⟨e,hz⟩|⟨g',cap,cur,e,hB,hh,r⟩
 ·exact .inl ⟨e,hz⟩
 ·cases e;exact .inr ⟨g,_,cur,rfl,hB,hb.trans hh,r⟩
end mu
namespace st
open Go.ChangeShapes Go.WideShapes Go.ChangeAt Go.RowKit Go.Deep Go.Joins
end st
namespace tx
open Go.ChangeShapes Go.WideShapes Go.ChangeAt Go.RowKit Go.Deep Go.Joins
open ky
end tx
namespace bx
open Go.ChangeShapes Go.WideShapes Go.ChangeAt Go.RowKit Go.Deep Go.Joins
open st gr
end bx
namespace mx
open Go.RowKit
open gr mk st bx
def Same(o o':Option Obj):Prop:=o'=o∨∃c c' e,o=some (.cells c e (0,0))∧o'=some (.cells c' e (0,0))∧c'.size=c.size
structure Mk (A B:Nat) (w w':World):Prop where
 os:w'.os=w.os
 tape:w'.tape=w.tape
 output:w'.output=w.output
 size:w.heap.size≤w'.heap.size
 block:∀k,k<w.heap.size→k<A∨B≤k→w'.heap[k]?=w.heap[k]?
 like:∀k,k<w.heap.size→Same w.heap[k]? w'.heap[k]?
end mx
end Go.Proofs.YtmnflpmfngjllaaGreatDoor
