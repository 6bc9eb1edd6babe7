/-
  FnReplayCardSaid
-/
import Derived.Test.YtmnflpmfngjllaaGreatDoorPkbq
set_option maxHeartbeats 16000000
set_option maxRecDepth 100000
set_option linter.unusedVariables false
namespace Go.Proofs.YtmnflpmfngjllaaGreatDoor
namespace hf
open Go.RowKit
open hd (cutGo foldGo foldL tv Safe)
theorem row_at{w:World}{base n:Nat}{v:Value}{ws:List (List UInt8)}(h:w.ownsRow base 9 1 v n (ws.map tv))(k:Nat)(hk:k<n):∃g cap x,v=.slice (some ⟨g,0,none⟩) n cap∧n≤cap∧ws[k]?=some x:=by
 have hl:ws.length=n:=by have:=h.1;simpa using this
 rcases h.2 with⟨_,h0⟩|⟨g,cap,cur,hv,_,_,hc,_⟩
 ·omega
 ·exact⟨g,cap,ws[k]'(by omega),hv,hc,List.getElem?_eq_getElem (by omega)⟩
theorem row_cell{w:World}{base n g cap:Nat}{ws:List (List UInt8)}{x:List UInt8}(h:w.ownsRow base 9 1 (.slice (some ⟨g,0,none⟩) n cap) n (ws.map tv))(k:Nat)(hk:ws[k]?=some x):w.cell? ⟨g,k,none⟩=some (.string ⟨x.toArray⟩):=by
 have:=h.cells (g:=g) rfl k (tv x) (by rw[List.getElem?_map,hk];rfl)
 rwa [ow.add_at] at this
theorem step_yes{ws:List (List UInt8)}{k wd:Nat}{x out tot:List UInt8}(hk:ws[k]?=some x)(h0:k≠0)(h:78<wd+1+x.length)(H:out++foldGo (decide (k=0)) wd (ws.drop k)=tot):(out++[13,10]++([32]++x))++foldGo (decide (k+1=0)) (0+(1+x.length)) (ws.drop (k+1))=tot:=by
 rw[Lib.drop_at hk,show decide (k=0)=false from decide_eq_false h0,hd.foldGo_yes _ h] at H;rw[←H,Nat.zero_add];simp
theorem step_no{ws:List (List UInt8)}{k wd:Nat}{x out tot:List UInt8}(hk:ws[k]?=some x)(h:k=0∨wd+1+x.length≤78)(H:out++foldGo (decide (k=0)) wd (ws.drop k)=tot):(out++([32]++x))++foldGo (decide (k+1=0)) (wd+(1+x.length)) (ws.drop (k+1))=tot:=by
 rw[Lib.drop_at hk,hd.foldGo_no _ (h.imp (λe=>decide_eq_true e) id)] at H;rw[←H,←Nat.add_assoc];simp
theorem step_end{ws:List (List UInt8)}{k wd:Nat}{f:Bool}{out tot:List UInt8}(hk:ws.length≤k)(H:out++foldGo f wd (ws.drop k)=tot):out=tot:=by
 rw[List.drop_eq_nil_of_le hk] at H;simpa [foldGo] using H
theorem specFold_any(nm s:ByteArray)(w:World)(hm:nm.size≤40)(hs:s.size≤2000) :
  Calls Tryz.prog 96 #[.string nm,.string s] w λe w'=>(∃r:ByteArray,e=.returned (.string r)∧r.data.toList=foldL nm.data.toList s.data.toList)∧Below w.heap.size w w':=by
 have hcl:=hd.zcZ s.data.toList [];rw[←Lib.size_eq] at hcl;have HX:Hid (∀x∈cutGo [] s.data.toList,x.length≤2000):=λx hx=>by
  have:=hd.cutGo_mem _ _ _ hx;rw[←Lib.size_eq] at this;simp at this;omega
 have hm':(nm.size:Int)≤40:=by omega
 go_enter Tryz.func96,Tryz.ntmps96
 go_wp2_with fail
 refine(hd.cut_any s _ (by omega)).mono ?_;rintro e w1 ⟨v,rfl,own,hb1⟩;obtain⟨ws,hws⟩:∃ws,ws=cutGo [] s.data.toList:=⟨_,rfl⟩
 rw[←hws] at own hcl HX;have HW:=hD hws;clear hws;obtain⟨n,hn⟩:∃n,n=ws.length:=⟨_,rfl⟩
 have hn2:n≤2001:=by simp at hcl;omega
 rw[←hn] at own;have HN:=hD hn;clear hn hcl;obtain⟨ao,cap,rfl⟩:∃ao cap,v=.slice ao n cap:=by
  rcases own.2 with⟨hv,h0⟩|⟨g,cap,cur,hv,_⟩
  ·exact⟨none,0,by rw[hv,h0]⟩
  ·exact⟨_,cap,hv⟩
 obtain⟨tot,htot⟩:∃tot,tot=nm.data.toList++[58]++foldGo true (nm.data.toList.length+1) ws:=⟨_,rfl⟩
 have HTOT:=hD htot;clear htot;go_wp2
 go_loopw [5,6,8] (λo b i wr=>∃(k wd:Nat) (out:ByteArray),k≤n∧i=.int .i64 k∧o=.string out∧b=.int .i64 wd∧wd≤41+k*2001∧out.size≤41+k*2003∧wr.ownsRow w.heap.size 9 1 (.slice ao n cap) n (ws.map tv)∧Below w.heap.size w wr∧Hid (out.data.toList++foldGo (decide (k=0)) wd (ws.drop k)=tot)) (λ_ _ i _=>n-(intOf i).toNat)
 case atStart =>
  refine⟨0,nm.size+1,nm++{data:=#[58]},Nat.zero_le _,rfl,rfl,by go_num,by omega,by rw[ByteArray.size_append];show _+1≤_;omega,own,hb1,?_⟩;rw[HTOT.out,Lib.size_eq];simp;exact(trivial:True)
 case round =>
  obtain⟨k,wd,out,hk,rfl,rfl,rfl,hwd,ho,hown,hbw,HD⟩:=hrel;by_cases hlt:k<n
  ·obtain⟨g,cap',x,hv,hnc,hx⟩:=row_at hown k hlt;cases hv;have hc0:=row_cell hown k hx;have hxl:=HX.out x (List.mem_of_getElem? hx);have hlt':(k:Int)<(n:Int):=by omega
   obtain⟨X,hX⟩:∃X:ByteArray,X=⟨x.toArray⟩:=⟨_,rfl⟩
   have hXz:X.size=x.length:=by rw[hX,Lib.size_eq]
   have hXs:X.size≤2000:=by omega
   have hXs':(X.size:Int)≤2000:=by omega
   have hXl:X.data.toList=x:=by rw[hX]
   rw[←hX] at hc0;have HXL:Hid (X.data.toList=x∧X.size=x.length):=⟨hXl,hXz⟩
   have HK:=hD hx;clear hX hXl hx hXz;have hos:(out.size:Int)≤5000000:=by omega
   have hwd':(wd:Int)≤5000000:=by omega
   by_cases hk0:k=0
   ·have d0:decide (0<k)=false:=decide_eq_false (by omega);have d1:decide ((0:Int)<(k:Int))=false:=decide_eq_false (by omega);have HK0:=hD hk0;clear hk0;go_wp2
    go_roundw
    case rel =>
     refine⟨k+1,wd+(1+X.size),out++({data:=#[32]}++X),by omega,by go_num,rfl,by go_num,by omega,by rw[ByteArray.size_append,ByteArray.size_append];show _+(1+_)≤_;omega,hown,hbw,?_⟩;have:=step_no HK.out (.inl HK0.out) HD.out;rw[HXL.out.2,←this,←HXL.out.1];simp;exact(trivial:True)
    case measure=>simp[intOf];omega
   have d0:=decide_eq_true (by omega);have d1:(0:Int)<(k:Int):=by omega
   by_cases hf:78<wd+1+X.size
   ·have f1:(78:Int)<(wd:Int)+1+(X.size:Int):=by omega
    go_wp2
    go_roundw
    case rel =>
     refine⟨k+1,0+(1+X.size),out++{data:=#[13,10]}++({data:=#[32]}++X),by omega,by go_num,rfl,by go_num,by omega,by rw[ByteArray.size_append,ByteArray.size_append,ByteArray.size_append];show _+2+(1+_)≤_;omega,hown,hbw,?_⟩;have:=step_yes HK.out hk0 (by rw[←HXL.out.2];exact hf) HD.out;rw[HXL.out.2,←this,←HXL.out.1];simp;exact(trivial:True)
    case measure=>simp[intOf];omega
   ·have f1:(wd:Int)+1+(X.size:Int)≤78:=by omega
    go_wp2
    go_roundw
    case rel =>
     refine⟨k+1,wd+(1+X.size),out++({data:=#[32]}++X),by omega,by go_num,rfl,by go_num,by omega,by rw[ByteArray.size_append,ByteArray.size_append];show _+(1+_)≤_;omega,hown,hbw,?_⟩;have:=step_no HK.out (.inr (by rw[←HXL.out.2];omega)) HD.out;rw[HXL.out.2,←this,←HXL.out.1];simp;exact(trivial:True)
    case measure=>simp[intOf];omega
  ·have hge:(n:Int)≤(k:Int):=by omega
   have hos:(out.size:Int)≤5000000:=by omega
   go_wp2;go_ret;refine⟨⟨out++{data:=#[13,10]},rfl,?_⟩,hbw⟩;have:=step_end (by have:=HN.out;omega) HD.out;unfold foldL;rw[←HW.out,←HTOT.out,←this];simp
end hf
namespace hf
open Go.RowKit
open hd (cutGo foldGo foldL tv)
end hf
namespace li
def blk(c:UInt8):Bool:=c == 9||c == 10||c == 13||c == 32
def step(x:List UInt8×Bool)(c:UInt8):List UInt8×Bool :=
 if blk c then(x.1,true) else(if x.1.isEmpty=false&&x.2 then x.1++[32,c] else x.1++[c],false)
def one(b:Bool):Nat:=cond b 1 0
def st(l:List UInt8):List UInt8×Bool:=l.foldl step ([],false)
def line(l:List UInt8):List UInt8:=(st l).1
end li
namespace xm
open Go.RowKit
def xr(n:Int):Bool:=decide (n=9∨n=10∨n=13∨(32≤n∧n≠65534∧n≠65535∧(n≤55295∨(57344≤n∧n≤1114111))))
def letB(c:Int):Bool:=decide (97≤c∧c≤122∨65≤c∧c≤90∨c=95)
def digB(c:Int):Bool:=decide (48≤c∧c≤57)
end xm
namespace xm
open Go.RowKit
end xm
namespace xm
open Go.RowKit
def xbad(s:ByteArray)(k:Nat):Prop:=ut.zaq s k∨xr ((Utf8.decode s k).1:Int)=false
def zbM(s:ByteArray)(g:Nat):Prop:=∃n,g=ut.pos s n∧g≤s.size∧(∀m,m<n→¬xbad s (ut.pos s m))∧(g=s.size∨(g<s.size∧xbad s g))
end xm
namespace li
open Go.RowKit
end li
namespace li
open Go.RowKit
end li
namespace en
open Go.RowKit
theorem pos_far(s:ByteArray):∀n,(∀m,m<n→ut.pos s m<s.size)→n≤ut.pos s n
 | 0,_=>Nat.zero_le _
 | n+1,h=>by
  have h1:=pos_far s n (λm hm=>h m (by omega));have h2:=(ut.pos_le s n (h n (by omega))).2;omega
def dBad(s:ByteArray)(k:Nat):Decidable (xm.xbad s k):=inferInstanceAs (Decidable (Utf8.decode s k=(65533,1)∨xm.xr ((Utf8.decode s k).1:Int)=false))
def dAll(s:ByteArray)(n:Nat):Decidable (∀m,m<n→¬xm.xbad s (ut.pos s m)):=@Nat.decidableBallLT n (λm _=>¬xm.xbad s (ut.pos s m)) (λm _=>@instDecidableNot _ (dBad s (ut.pos s m)))
theorem good_first{s:ByteArray}(h:xm.zbM s s.size):∃n,n<s.size+1∧s.size=ut.pos s n∧∀m,m<n→¬xm.xbad s (ut.pos s m):=by
 obtain⟨n,e,_,hb,_⟩:=h;have key:∀k,s.size=ut.pos s k→(∀m,m<k→¬xm.xbad s (ut.pos s m))→∃n,n<s.size+1∧s.size=ut.pos s n∧∀m,m<n→¬xm.xbad s (ut.pos s m):=by
  intro k
  induction k using Nat.strongRecOn with
  | _ k ih =>
   intro e hb;by_cases hx:∃m,m<k∧s.size≤ut.pos s m
   ·obtain⟨m,hm,hle⟩:=hx;have hmono:=ut.zb8 s m (k-m);rw[show m+(k-m)=k from by omega] at hmono;exact ih m hm (by omega) (λj hj=>hb j (by omega))
   ·have:=pos_far s k (λm hm=>by
     by_cases h2:ut.pos s m<s.size
     ·exact h2
     ·exact absurd ⟨m,hm,by omega⟩ hx)
    exact⟨k,by omega,e,hb⟩
 exact key n e hb
def dFirst(s:ByteArray)(n:Nat):Decidable (s.size=ut.pos s n∧∀m,m<n→¬xm.xbad s (ut.pos s m)):=@instDecidableAnd _ _ _ (dAll s n)
def findB(s:ByteArray):Nat→Bool
 | 0=>@decide _ (dFirst s 0)
 | k+1=>@decide _ (dFirst s (k+1))||findB s k
theorem find_iff(s:ByteArray):∀k,findB s k=true↔∃n,n<k+1∧s.size=ut.pos s n∧∀m,m<n→¬xm.xbad s (ut.pos s m)
 | 0=>by
  rw[findB];constructor
  ·intro h;exact⟨0,by omega,ow.dof h⟩
  ·rintro⟨n,hn,h⟩;obtain rfl:n=0:=by omega
   exact ow.dt h
 | k+1=>by
  rw[findB,Bool.or_eq_true,find_iff s k];constructor
  ·rintro(h|⟨n,hn,h⟩)
   ·exact⟨k+1,by omega,ow.dof h⟩
   ·exact⟨n,by omega,h⟩
  ·rintro⟨n,hn,h⟩;by_cases e:n=k+1
   ·subst e;exact .inl (ow.dt h)
   ·exact .inr ⟨n,by omega,h⟩
def dGoodTo(s:ByteArray):Decidable (xm.zbM s s.size):=decidable_of_iff (findB s s.size=true) ⟨λh=>by
 obtain⟨n,_,e,hb⟩:=(find_iff s s.size).1 h
 exact⟨n,e,Nat.le_refl _,hb,.inl rfl⟩,λh=>(find_iff s s.size).2 (good_first h)⟩
def ofx(s:ByteArray)(n:Nat):Bool:=@decide (s.size≤n∧xm.zbM s s.size) (@instDecidableAnd _ _ _ (dGoodTo s))
def fld(s:ByteArray):Bool:=@decide (s.size≤200∧xm.zbM s s.size∧li.line s.data.toList=s.data.toList) (@instDecidableAnd _ _ _ (@instDecidableAnd _ _ (dGoodTo s) _))
def stamp(d:Int):Bool:=decide (0≤d∧d≤4102444799)
theorem ofx_cases{s:ByteArray}{n:Nat}(h:ofx s n=true):s.size≤n∧xm.zbM s s.size:=ow.dof h
theorem zc2{s:ByteArray}(h:fld s=true):s.size≤200∧xm.zbM s s.size∧li.line s.data.toList=s.data.toList:=ow.dof h
end en
namespace en
open Go.RowKit
structure En where
 i:ByteArray
 t:ByteArray
 l:ByteArray
 a:ByteArray
 d:Int
 c:ByteArray
def cl(e:En):Array Value:=#[.string e.i,.string e.t,.string e.l,.string e.a,.int .i64 e.d,.string e.c]
def EV(e:En):Value:=.agg (cl e)
def Lies(w:World)(b:Nat)(T:TypeId)(e:En):Prop:=w.heap[b]?=some (.cells (cl e) T (0,0))
section
variable {w w':World}{b:Nat}{T:TypeId}{e:En}
theorem Lies.c0(h:Lies w b T e):w.cell? ⟨b,0,none⟩=some (.string e.i):=by rw[cell_of_row w _ _ _ _ _ h];rfl
theorem Lies.c1(h:Lies w b T e):w.cell? ⟨b,0+1,none⟩=some (.string e.t):=by rw[cell_of_row w _ _ _ _ _ h];rfl
theorem Lies.c2(h:Lies w b T e):w.cell? ⟨b,0+2,none⟩=some (.string e.l):=by rw[cell_of_row w _ _ _ _ _ h];rfl
theorem Lies.c3(h:Lies w b T e):w.cell? ⟨b,0+3,none⟩=some (.string e.a):=by rw[cell_of_row w _ _ _ _ _ h];rfl
theorem Lies.c4(h:Lies w b T e):w.cell? ⟨b,0+4,none⟩=some (.int .i64 e.d):=by rw[cell_of_row w _ _ _ _ _ h];rfl
theorem Lies.c5(h:Lies w b T e):w.cell? ⟨b,0+5,none⟩=some (.string e.c):=by rw[cell_of_row w _ _ _ _ _ h];rfl
theorem Lies.lt(h:Lies w b T e):b<w.heap.size:=World.block_lt_of_cell? w _ h.c0
theorem zan(w:World)(T:TypeId)(e:En):Lies (w.alloc (.cells (cl e) T)) w.heap.size T e:=by show(w.heap.push _)[w.heap.size]?=_;simp
end
def Small(e:En):Prop:=e.i.size≤1048576∧e.t.size≤1048576∧e.l.size≤1048576∧e.a.size≤1048576∧e.c.size≤1048576
def eok(e:En):Bool:=!(e.i.size == 0)&&fld e.i&&fld e.t&&fld e.l&&fld e.a&&ofx e.c 1000&&stamp e.d
end en
namespace dw
open Go.RowKit
def inB(n a b:Int):Bool:=decide (a≤n∧n≤b)
def wd(n:Int):Value:=if inB n 0 4102444799 then .tuple #[.int .i64 ((n / 86400+4) % 7),.int .i64 0] else .tuple #[.int .i64 0,.int .i64 4]
end dw
namespace dx
open Go.RowKit
def dg(n:Int):UInt8:=UInt8.ofNat (48+n).toNat
theorem dg_nat{n:Int}(h0:0≤n)(h1:n≤9):((dg n).toNat:Int)=48+n:=by
 unfold dg;rw[UInt8.toNat_ofNat_of_lt' (by show(48+n).toNat<256;omega)];omega
def two(n:Int):List UInt8:=[dg (n / 10),dg (n % 10)]
theorem zbO(w:World)(o:Obj):Below w.heap.size w (w.alloc o):=(Below.refl _ w).alloc lR _
theorem app(a b:List UInt8):(⟨a.toArray⟩:ByteArray)++⟨b.toArray⟩=⟨(a++b).toArray⟩:=by
 apply ByteArray.ext;simp
theorem conv_new(w:World)(l:List UInt8)(cs:Array Value)(h:cs.toList=l.map λb=>Value.int .u8 (b.toNat:Int)) :
  (convert 22 9 (.slice (some ⟨w.heap.size,0,none⟩) l.length l.length)).run Tryz.prog (w.alloc (.cells cs 5))=.ok (.string ⟨l.toArray⟩) (w.alloc (.cells cs 5)):=by
 refine run_convert_bytes_back _ 22 9 5 ⟨w.heap.size,0,none⟩ l.length l Tryz.underlying22 Tryz.underlying5 Tryz.underlying9 (λj hj=>?_);have:=ow.zaI w cs.toList 5 j (.int .u8 (l[j].toNat:Int)) (by rw[h];simp[hj]);simpa using this
theorem spec_two(n:Int)(h0:0≤n)(h1:n≤99)(w:World):Calls Tryz.prog 129 #[.int .i64 n] w λe w'=>e=.returned (.string ⟨(two n).toArray⟩)∧Below w.heap.size w w':=by
 have cv:=conv_new w (two n) #[.int .u8 (48+n / 10 % 10),.int .u8 (48+n % 10)] (by
  show _=[Value.int .u8 ((dg (n / 10)).toNat:Int),Value.int .u8 ((dg (n % 10)).toNat:Int)]
  rw[dg_nat (by omega) (by omega),dg_nat (by omega) (by omega),show n / 10 % 10=n / 10 by omega])
 have e2:(two n).length=2:=rfl;rw[e2] at cv;go_enter Tryz.func129,Tryz.ntmps129;go_wp2;go_ret;exact⟨rfl,zbO _ _⟩
end dx
namespace dt
open Go.RowKit
def lp(y:Int):Int:=if y % 4=0 then 1 else 0
theorem lp_01(y:Int):0≤lp y∧lp y≤1:=by unfold lp;split<;>omega
def dm(y m:Int):Int:=if m=2 then 28+lp y else if m=4∨m=6∨m=9∨m=11 then 30 else 31
theorem dm_two(y:Int):dm y 2=28+lp y:=if_pos rfl
theorem dm_30{y m:Int}(h:m=4∨m=6∨m=9∨m=11):dm y m=30:=by unfold dm;rw[if_neg (by omega),if_pos h]
theorem dm_31{y m:Int}(h:m≠2)(h':¬(m=4∨m=6∨m=9∨m=11)):dm y m=31:=by unfold dm;rw[if_neg h,if_neg h']
theorem dm_pos(y m:Int):28≤dm y m∧dm y m≤31:=by
 have:=lp_01 y;unfold dm
 split
 ·omega
 ·split<;>omega
def yd(y:Int):Int:=(y-1970)*365+(y-1970+1) / 4
theorem yd_first:yd 1970=0:=by decide
theorem yd_step(y:Int):yd (y+1)=yd y+365+lp y:=by unfold yd lp;split<;>omega
theorem yd_pos{y:Int}(h:1970≤y):0≤yd y:=by unfold yd;omega
theorem yd_mono{y z:Int}(h:y≤z):yd y≤yd z:=by unfold yd;omega
def ms(y:Int):Nat→Int
 | 0=>0
 | k+1=>ms y k+dm y ((k:Int)+1)
theorem ms_succ(y:Int)(k:Nat):ms y (k+1)=ms y k+dm y ((k:Int)+1):=rfl
theorem ms_pos(y:Int)(k:Nat):0≤ms y k:=by
 induction k with
 | zero=>exact Int.le_refl _
 | succ k ih=>rw[ms_succ];have:=dm_pos y ((k:Int)+1);omega
theorem ms_mono{y:Int}{j k:Nat}(h:j≤k):ms y j≤ms y k:=by
 induction k with
 | zero=>have:j=0:=by omega
         subst this;exact Int.le_refl _
 | succ k ih =>
  by_cases e:j=k+1
  ·subst e;exact Int.le_refl _
  ·have:=ih (by omega);have:=dm_pos y ((k:Int)+1);rw[ms_succ];omega
theorem ms_12(y:Int):ms y 12=365+lp y:=by
 simp[ms,dm];omega
theorem ms_le{y:Int}{k:Nat}(h:k≤12):ms y k≤366:=by
 have h1:=ms_mono (y:=y) h;have h2:=ms_12 y;have h3:=lp_01 y;omega
def fm(y r:Int):Nat→Nat
 | 0=>0
 | f+1=>if ms y (f+1)≤r then f+1 else fm y r f
theorem fm_le(y r:Int)(f:Nat):fm y r f≤f:=by
 induction f with
 | zero=>exact Nat.le_refl _
 | succ f ih=>unfold fm;split<;>omega
theorem fm_lo{y r:Int}(h:0≤r)(f:Nat):ms y (fm y r f)≤r:=by
 induction f with
 | zero=>exact h
 | succ f ih=>unfold fm;split<;>assumption
theorem fm_hi{y r:Int}(f:Nat)(h:r<ms y (f+1)):r<ms y (fm y r f+1):=by
 induction f with
 | zero=>exact h
 | succ f ih =>
  unfold fm
  split
  ·exact h
  ·exact ih (by omega)
def mo(y r:Int):Nat:=fm y r 11
theorem mo_le(y r:Int):mo y r≤11:=fm_le y r 11
theorem mo_lo{y r:Int}(h:0≤r):ms y (mo y r)≤r:=fm_lo h 11
theorem mo_hi{y r:Int}(h:r<365+lp y):r<ms y (mo y r+1):=fm_hi 11 (by rw[ms_12];exact h)
theorem mo_is{y r:Int}{k:Nat}(h0:0≤r)(h1:r<365+lp y)(hl:ms y k≤r)(hh:r<ms y (k+1)):mo y r=k:=by
 have a:=mo_lo (y:=y) h0;have b:=mo_hi (y:=y) h1
 rcases Nat.lt_trichotomy (mo y r) k with c|c|c
 ·have:=ms_mono (y:=y) (show mo y r+1≤k by omega);omega
 ·exact c
 ·have:=ms_mono (y:=y) (show k+1≤mo y r by omega);omega
def yr(n:Int):Int:=1970+(4*(n / 86400)+2) / 1461
def rs(n:Int):Int:=n / 86400-yd (yr n)
def mn(n:Int):Int:=(mo (yr n) (rs n):Int)+1
def dy(n:Int):Int:=rs n-ms (yr n) (mo (yr n) (rs n))+1
def hr(n:Int):Int:=n / 3600 % 24
def mt(n:Int):Int:=n / 60 % 60
def sc(n:Int):Int:=n % 60
def C6(y m d h i s:Int):Value:=.agg #[.int .i64 y,.int .i64 m,.int .i64 d,.int .i64 h,.int .i64 i,.int .i64 s]
def civ(n:Int):Value:=C6 (yr n) (mn n) (dy n) (hr n) (mt n) (sc n)
theorem yr_at(d:Int)(h:0≤d):yd (1970+(4*d+2) / 1461)≤d∧d<yd (1970+(4*d+2) / 1461+1):=by
 unfold yd;omega
theorem yr_lo{n:Int}(h:0≤n):yd (yr n)≤n / 86400:=(yr_at _ (by omega)).1
theorem yr_hi{n:Int}(h:0≤n):n / 86400<yd (yr n+1):=(yr_at _ (by omega)).2
theorem yr_is{n y:Int}(h:0≤n)(hl:yd y≤n / 86400)(hh:n / 86400<yd (y+1)):yr n=y:=by
 have a:=yr_lo h;have b:=yr_hi h
 rcases Int.lt_trichotomy (yr n) y with c|c|c
 ·have:=yd_mono (show yr n+1≤y by omega);omega
 ·exact c
 ·have:=yd_mono (show y+1≤yr n by omega);omega
theorem yr_1970{n:Int}(h:0≤n):1970≤yr n:=by unfold yr;omega
theorem yr_2099{n:Int}(h:0≤n)(h':n≤4102444799):yr n≤2099:=by unfold yr;omega
theorem rs_lo{n:Int}(h:0≤n):0≤rs n:=by have:=yr_lo h;unfold rs;omega
theorem rs_hi{n:Int}(h:0≤n):rs n<365+lp (yr n):=by have:=yr_hi h;have:=yd_step (yr n);unfold rs;omega
def Ok(y m d h i s:Int):Prop:=1970≤y∧y≤2099∧1≤m∧m≤12∧1≤d∧d≤dm y m∧0≤h∧h≤23∧0≤i∧i≤59∧0≤s∧s≤59
theorem civ_ok{n:Int}(h:0≤n)(h':n≤4102444799):Ok (yr n) (mn n) (dy n) (hr n) (mt n) (sc n):=by
 have a:=mo_lo (y:=yr n) (rs_lo h);have b:=mo_hi (rs_hi h);have c:=mo_le (yr n) (rs n);rw[ms_succ] at b;refine⟨yr_1970 h,yr_2099 h h',?_,?_,?_,?_,?_,?_,?_,?_,?_,?_⟩
 ·unfold mn;omega
 ·unfold mn;omega
 ·unfold dy;omega
 ·unfold dy mn;omega
 all_goals (first|(unfold hr;omega)|(unfold mt;omega)|(unfold sc;omega))
def st(y m d h i s:Int):Int:=(((yd y+ms y (m-1).toNat+d-1)*24+h)*60+i)*60+s
end dt
namespace dw
open Go.RowKit
open dt
def lpB(y:Int):Bool:=y % 4 == 0
theorem lp_bit(y:Int):lp y=if lpB y then 1 else 0:=by unfold lp lpB;by_cases h:y % 4=0<;>simp[h]
theorem leap_any(y:Int)(h1:1970≤y)(h2:y≤2099)(w:World):Calls Tryz.prog 141 #[.int .i64 y] w λe w'=>e=.returned (.bool (lpB y))∧w'=w:=by
 by_cases c:y % 4=0
 ·have d1:=beq_iff_eq.2 c;by_cases c2:y % 100=0
  ·have d2:(y % 100 == 0)=true:=beq_iff_eq.2 c2;have d3:(y % 400 == 0)=true:=beq_iff_eq.2 (by omega);have e:lpB y=true:=d1;rw[e];clear e;go_enter Tryz.func141,Tryz.ntmps141;go_wp2;go_ret;exact⟨rfl,rfl⟩
  ·have d2:(y % 100 == 0)=false:=beq_eq_false_iff_ne.2 c2;have e:lpB y=true:=d1;rw[e];clear e;go_enter Tryz.func141,Tryz.ntmps141;go_wp2;go_ret;exact⟨rfl,rfl⟩
 ·have d1:(y % 4 == 0)=false:=beq_eq_false_iff_ne.2 c;have e:lpB y=false:=d1;rw[e];clear e;go_enter Tryz.func141,Tryz.ntmps141;go_wp2;go_ret;exact⟨rfl,rfl⟩
theorem bit_any(b:Bool)(w:World):Calls Tryz.prog 140 #[.bool b] w λe w'=>e=.returned (.int .i64 (if b then 1 else 0))∧w'=w:=by
 cases b
 all_goals
  go_enter Tryz.func140,Tryz.ntmps140;go_wp2;go_ret;exact⟨rfl,rfl⟩
theorem spec_dm(y m:Int)(h1:1970≤y)(h2:y≤2099)(w:World):Calls Tryz.prog 142 #[.int .i64 y,.int .i64 m] w λe w'=>e=.returned (.int .i64 (dm y m))∧w'=w:=by
 by_cases c2:m=2
 ·subst c2;rw[dm_two,lp_bit];have u:(0:Int)≤(if lpB y then 1 else 0)∧(if lpB y then 1 else 0)≤(1:Int):=by split<;>omega
  generalize hz:(if lpB y then(1:Int) else 0)=z at u ⊢;obtain⟨u1,u2⟩:=u;go_enter Tryz.func142,Tryz.ntmps142
  go_wp2_with fail
  refine(leap_any y h1 h2 _).mono ?_;rintro e w' ⟨rfl,rfl⟩
  go_wp2_with fail
  refine(bit_any _ _).mono ?_;rintro e w' ⟨rfl,rfl⟩;rw[hz];go_wp2;go_ret;exact⟨rfl,rfl⟩
 have d2:=beq_eq_false_iff_ne.2 c2;by_cases c:m=4∨m=6∨m=9∨m=11
 ·rw[dm_30 c];clear c2
  rcases c with rfl|rfl|rfl|rfl
  all_goals
   clear d2;go_enter Tryz.func142,Tryz.ntmps142;go_wp2;go_ret;exact⟨rfl,rfl⟩
 ·have d4:(m == 4)=false:=beq_eq_false_iff_ne.2 (by omega);have d6:(m == 6)=false:=beq_eq_false_iff_ne.2 (by omega);have d9:(m == 9)=false:=beq_eq_false_iff_ne.2 (by omega);have d11:(m == 11)=false:=beq_eq_false_iff_ne.2 (by omega);rw[dm_31 c2 c];clear c c2;go_enter Tryz.func142,Tryz.ntmps142;go_wp2;go_ret;exact⟨rfl,rfl⟩
end dw
namespace dw
open Go.RowKit
open dt
theorem zbO(w:World)(o:Obj):Below w.heap.size w (w.alloc o):=(Below.refl _ w).alloc lR _
end dw
namespace dw
open Go.RowKit
open dt
end dw
namespace dw
open Go.RowKit
open dt
def Lies(w:World)(b:Nat)(y m d h i s:Int):Prop:=w.heap[b]?=some (.cells #[.int .i64 y,.int .i64 m,.int .i64 d,.int .i64 h,.int .i64 i,.int .i64 s] 169)
section
variable {w w':World}{b:Nat}{y m d h i s:Int}
theorem Lies.c0(L:Lies w b y m d h i s):w.cell? ⟨b,0,none⟩=some (.int .i64 y):=by rw[cell_of_row _ _ _ _ _ _ L];rfl
theorem Lies.c1(L:Lies w b y m d h i s):w.cell? ⟨b,0+1,none⟩=some (.int .i64 m):=by rw[cell_of_row _ _ _ _ _ _ L];rfl
theorem Lies.c2(L:Lies w b y m d h i s):w.cell? ⟨b,0+2,none⟩=some (.int .i64 d):=by rw[cell_of_row _ _ _ _ _ _ L];rfl
theorem Lies.c3(L:Lies w b y m d h i s):w.cell? ⟨b,0+3,none⟩=some (.int .i64 h):=by rw[cell_of_row _ _ _ _ _ _ L];rfl
theorem Lies.c4(L:Lies w b y m d h i s):w.cell? ⟨b,0+4,none⟩=some (.int .i64 i):=by rw[cell_of_row _ _ _ _ _ _ L];rfl
theorem Lies.c5(L:Lies w b y m d h i s):w.cell? ⟨b,0+5,none⟩=some (.int .i64 s):=by rw[cell_of_row _ _ _ _ _ _ L];rfl
theorem zan(w:World)(y m d h i s:Int):Lies (w.alloc (.cells #[.int .i64 y,.int .i64 m,.int .i64 d,.int .i64 h,.int .i64 i,.int .i64 s] 169)) w.heap.size y m d h i s:=by
 show(w.heap.push _)[w.heap.size]?=_;simp
end
end dw
namespace dx
open Go.RowKit
open dt gr
def clk(h i s:Int):List UInt8:=two h++[58]++two i++[58]++two s
theorem spec_clk(y m d h i s:Int)(h0:0≤h)(h1:h≤99)(i0:0≤i)(i1:i≤99)(s0:0≤s)(s1:s≤99)(w:World) :
  Calls Tryz.prog 131 #[C6 y m d h i s] w λe w'=>e=.returned (.string ⟨(clk h i s).toArray⟩)∧Below w.heap.size w w':=by
 unfold C6;go_enter Tryz.func131,Tryz.ntmps131
 go_wp2_with fail
 have L:=dw.zan w y m d h i s;have b:=zbO w (.cells #[.int .i64 y,.int .i64 m,.int .i64 d,.int .i64 h,.int .i64 i,.int .i64 s] 169);generalize w.alloc _=W at L b ⊢;have ne:=zcC W;have l2:∀n,(two n).length=2:=λ_=>rfl
 have c3:=λx:Ext W=>zaA x L.c3
 have c4:=λx:Ext W=>zaA x L.c4
 have c5:=λx:Ext W=>zaA x L.c5
 clear L;refine zca (by kernel_rfl) (by kernel_rfl) ?_
 repeat (go_big_quiet_step ((first|(go_at_call 129;exact zaQ (spec_two _ (by assumption) (by assumption) _)))))
 refine wpQuiet_nil ?_;rintro W' ⟨x,rfl⟩;have b2:=b.trans ((zbe x).mono b.size);generalize gw x=W' at b2 ⊢;clear c3 c4 c5 ne l2;go_wp2;go_ret;refine⟨?_,b2⟩;unfold clk;simp only[←app];rfl
end dx
end Go.Proofs.YtmnflpmfngjllaaGreatDoor
