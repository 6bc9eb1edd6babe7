/-
  FnReplayCardSaid
-/
import Derived.Test.YtmnflpmfngjllaaGreatDoorPkbl
import Derived.Laws.RangeAny
import Derived.Lib.IndexBytes
set_option maxHeartbeats 16000000
set_option maxRecDepth 100000
set_option linter.unusedVariables false
namespace Go.Proofs.YtmnflpmfngjllaaGreatDoor
namespace se
open Go.RowKit
open sr
def Bytes(w:World)(a:Option Addr)(len:Nat):Prop :=
 len≤1048576∧(len=0∨∃cb off,a=some ⟨cb,off,none⟩∧∀j,j<len→∃z:Int,0≤z∧z≤255∧w.cell? ⟨cb,off+j,none⟩=some (.int .u8 z))
theorem bytes_below{w w':World}{a:Option Addr}{len:Nat}(h:Bytes w a len)(hb:Below w.heap.size w w'):Bytes w' a len:=by
 obtain⟨hl,h⟩:=h;refine⟨hl,?_⟩
 rcases h with h|⟨cb,off,rfl,hc⟩
 ·exact .inl h
 ·refine .inr ⟨cb,off,rfl,λj hj=>?_⟩;obtain⟨z,z0,z1,hz⟩:=hc j hj;exact⟨z,z0,z1,(hb.cell (p:=⟨cb,off+j,none⟩) (World.block_lt_of_cell? w _ hz)).trans hz⟩
def started(w:World)(a:Option Addr)(len cap:Nat):World:=w.alloc (.cells #[.slice a len cap,.int .i64 0,.int .i64 ((len:Int) % 1000)] 69)
theorem src_started(w:World)(a:Option Addr)(len cap:Nat):Src (started w a len cap) w.heap.size a len cap 0 ((len:Int) % 1000):=by
 show(w.heap.push _)[w.heap.size]?=_;simp
theorem code_started{w:World}{a:Option Addr}{len cap:Nat}(h:Bytes w a len):sr.Code (started w a len cap) w.heap.size a len:=by
 obtain⟨hl,h⟩:=h;refine⟨hl,?_⟩
 rcases h with h|⟨cb,off,rfl,hc⟩
 ·exact .inl h
 ·by_cases h0:len=0
  ·exact .inl h0
  obtain⟨z,_,_,hz⟩:=hc 0 (by omega);have hlt:cb<w.heap.size:=World.block_lt_of_cell? w _ hz;refine .inr ⟨cb,off,rfl,hlt,λj hj=>?_⟩;obtain⟨z,z0,z1,hz⟩:=hc j hj;have hb:Below w.heap.size w (started w (some ⟨cb,off,none⟩) len cap):=bR.alloc lR _;exact⟨z,z0,z1,(hb.cell (p:=⟨cb,off+j,none⟩) hlt).trans hz⟩
theorem source_any(w:World)(a:Option Addr)(len cap:Nat)(h:len≤1048576) :
  Calls Tryz.prog 14 #[.slice a len cap] w λe w'=>e=.returned (.pointer (some ⟨w.heap.size,0,none⟩))∧w'=started w a len cap:=by
 go_enter Tryz.func14,Tryz.ntmps14;go_wp2;go_ret;exact⟨rfl,rfl⟩
theorem grown_alloc(w:World)(o:Obj):w.grownBy (w.alloc o) none:=⟨rfl,rfl,rfl,by simp,λk hk _=>Below.heap_alloc _ _ _ hk⟩
theorem grown_none{w w1 w2:World}{row:Option Nat}(h1:w.grownBy w1 row)(h2:w1.grownBy w2 none):w.grownBy w2 row :=
 ⟨h2.os.trans h1.os,h2.tape.trans h1.tape,h2.output.trans h1.output,Nat.le_trans h1.size h2.size,λi hi hr=>(h2.block i (Nat.lt_of_lt_of_le hi h1.size) (by simp)).trans (h1.block i hi hr)⟩
theorem stamp_any(w:World)(b:Nat)(a:Option Addr)(len cap:Nat)(at_ sd:Int)(hs:Src w b a len cap at_ sd)(hc:sr.Code w b a len)(h0:0≤at_)(h1:at_≤800000)(s0:0≤sd)(s1:sd<2147483648) :
  Calls Tryz.prog 95 #[.pointer (some ⟨b,0,none⟩)] w λe w'=>∃n at' sd':Int,e=.returned (.int .i64 n)∧0≤n∧n≤4102444799∧at_≤at'∧at'≤at_+9∧0≤sd'∧sd'<2147483648∧Src w' b a len cap at' sd'∧sr.Code w' b a len∧w.grownBy w' (some b):=by
 go_enter Tryz.func95,Tryz.ntmps95
 go_wp2_with fail
 refine(next_any _ b a len cap at_ sd 1000000 hs hc h0 (by omega) s0 s1 (by omega) (by omega)).mono ?_;rintro e w1 ⟨r,at1,sd1,rfl,r0,r1,a0,a1,d0,d1,hs1,hg1⟩;have hc1:=code_keep hc hg1
 go_wp2_with fail
 refine(next_any _ b a len cap at1 sd1 1000000 hs1 hc1 (by omega) (by omega) d0 d1 (by omega) (by omega)).mono ?_;rintro e w2 ⟨q,at2,sd2,rfl,q0,q1,a2,a3,d2,d3,hs2,hg2⟩;have hc2:=code_keep hc1 hg2;have hg12:=ow.zah hg1 hg2;have hlt:=(Array.getElem?_eq_some_iff.1 hs2).1;clear hs hc hs1 hc1 hg1 hg2
 go_wp2_with fail
 have ga:=grown_alloc w2 (.cells #[.int .i64 (r*4102),.int .i64 (q*4000+86399),.int .i64 0,.int .i64 4102444799,.int .i64 951782400,.int .i64 1709164800] 3);have hnew:(w2.alloc (.cells #[.int .i64 (r*4102),.int .i64 (q*4000+86399),.int .i64 0,.int .i64 4102444799,.int .i64 951782400,.int .i64 1709164800] 3)).heap[w2.heap.size]?=some (.cells #[.int .i64 (r*4102),.int .i64 (q*4000+86399),.int .i64 0,.int .i64 4102444799,.int .i64 951782400,.int .i64 1709164800] 3):=by
  show(w2.heap.push _)[w2.heap.size]?=_;simp
 have hs3:=src_keep hs2 ga (by simp);have hc3:=code_keep' hc2 ga (λk e=>by cases e);have hlt3:w2.heap.size<(w2.alloc (.cells #[.int .i64 (r*4102),.int .i64 (q*4000+86399),.int .i64 0,.int .i64 4102444799,.int .i64 951782400,.int .i64 1709164800] 3)).heap.size:=by simp
 have hg3:=grown_none hg12 ga;clear ga hs2 hc2 hg12;generalize w2.alloc _=w3 at hnew hs3 hc3 hg3 hlt3 ⊢;refine(next_any _ b a len cap at2 sd2 6 hs3 hc3 (by omega) (by omega) d2 d3 (by omega) (by omega)).mono ?_;rintro e w4 ⟨p,at4,sd4,rfl,p0,p1,a4,a5,d4,d5,hs4,hg4⟩;have hcells:w4.heap[w2.heap.size]?=some (.cells #[.int .i64 (r*4102),.int .i64 (q*4000+86399),.int .i64 0,.int .i64 4102444799,.int .i64 951782400,.int .i64 1709164800] 3):=by
  rw[hg4.block _ hlt3 (by simp;omega)];exact hnew
 have HG:Hid (Src w4 b a len cap at4 sd4∧sr.Code w4 b a len∧w.grownBy w4 (some b)):=⟨hs4,code_keep hc3 hg4,ow.zah hg3 hg4⟩
 clear hs3 hc3 hnew hg3 hg4 hs4 hlt3;have hp:p=0∨p=1∨p=2∨p=3∨p=4∨p=5:=by omega
 have hcell:∀(j:Nat) (v:Int),([r*4102,q*4000+86399,0,4102444799,951782400,1709164800]:List Int)[j]?=some v→w4.cell? ⟨w2.heap.size,j,none⟩=some (.int .i64 v):=by
  intro j v hv;rw[cell_of_row _ _ _ _ _ _ hcells]
  match j,hv with
  | 0,hv=>cases hv;rfl
  | 1,hv=>cases hv;rfl
  | 2,hv=>cases hv;rfl
  | 3,hv=>cases hv;rfl
  | 4,hv=>cases hv;rfl
  | 5,hv=>cases hv;rfl
  | j+6,hv=>simp at hv
 clear hcells
 rcases hp with rfl|rfl|rfl|rfl|rfl|rfl
 ·have c:=hcell 0 _ rfl;clear hcell;go_wp2;go_ret;exact⟨_,at4,sd4,rfl,by omega,by omega,by omega,by omega,d4,d5,HG.out⟩
 ·have c:=hcell 1 _ rfl;clear hcell;go_wp2;go_ret;exact⟨_,at4,sd4,rfl,by omega,by omega,by omega,by omega,d4,d5,HG.out⟩
 ·have c:=hcell 2 _ rfl;clear hcell;go_wp2;go_ret;exact⟨_,at4,sd4,rfl,by omega,by omega,by omega,by omega,d4,d5,HG.out⟩
 ·have c:=hcell 3 _ rfl;clear hcell;go_wp2;go_ret;exact⟨_,at4,sd4,rfl,by omega,by omega,by omega,by omega,d4,d5,HG.out⟩
 ·have c:=hcell 4 _ rfl;clear hcell;go_wp2;go_ret;exact⟨_,at4,sd4,rfl,by omega,by omega,by omega,by omega,d4,d5,HG.out⟩
 ·have c:=hcell 5 _ rfl;clear hcell;go_wp2;go_ret;exact⟨_,at4,sd4,rfl,by omega,by omega,by omega,by omega,d4,d5,HG.out⟩
def idL:List ByteArray:=[⟨#[105,100,49]⟩,⟨#[105,100,50]⟩,⟨#[105,100,51]⟩,⟨#[117,114,110,58,120,32,38,32,121]⟩,⟨#[105,100,32,195,164]⟩]
def fldL:List ByteArray:=[⟨#[]⟩,⟨#[116,105,116,108,101]⟩,⟨#[97,32,38,32,98]⟩,⟨#[195,164,195,182,32,226,130,172]⟩,⟨#[60,120,62]⟩,⟨#[111,110,101,32,116,119,111]⟩,⟨#[61,63,117,116,102,45,56,63,81,63,120,63,61]⟩,⟨#[240,159,152,128]⟩]
def linkL:List ByteArray:=[⟨#[]⟩,⟨#[104,116,116,112,58,47,47,97,47,98,63,99,61,100,38,101]⟩,⟨#[108,105,110,107]⟩]
def conL:List ByteArray:=[⟨#[]⟩,⟨#[116,101,120,116]⟩,⟨#[116,119,111,10,108,105,110,101,115,10]⟩,⟨#[97,13,98,13,10]⟩,⟨#[46,10,46,46,10]⟩,⟨#[195,164,32,60,98,62]⟩,⟨#[116,114,97,105,108,105,110,103,32,10,61,32,120]⟩,⟨#[48,49,50,51,52,53,54,55,56,57,48,49,50,51,52,53,54,55,56,57,48,49,50,51,52,53,54,55,56,57,48,49,50,51,52,53,54,55,56,57,48,49,50,51,52,53,54,55,56,57,48,49,50,51,52,53,54,55,56,57,48,49,50,51,52,53,54,55,56,57,48,49,50,51,52,53,54,55,56,57,48,49,50,51,52,53,54,55,56,57,48]⟩]
theorem row_cells(w:World)(L:List ByteArray)(j:Nat)(h:j<L.length):∃s:ByteArray,s∈L∧(w.alloc (.cells (L.map Value.string).toArray 9)).cell? ⟨w.heap.size,j,none⟩=some (.string s) :=
 ⟨L[j],List.getElem_mem h,ow.cell_new w (L.map Value.string) _ j _ (by simp[h])⟩
theorem pick_any(w:World)(b:Nat)(a:Option Addr)(len cap:Nat)(at_ sd:Int)(lb n c2:Nat)(Q:ByteArray→Prop)(hs:Src w b a len cap at_ sd)(hc:sr.Code w b a len)(h0:0≤at_)(h1:at_≤900000)(s0:0≤sd)(s1:sd<2147483648)
  (hn:1≤n) (hn2:n≤1000) (hne:lb≠b) (hcell:∀j,j<n→∃s:ByteArray,Q s∧w.cell? ⟨lb,j,none⟩=some (.string s)) :
  Calls Tryz.prog 93 #[.pointer (some ⟨b,0,none⟩),.slice (some ⟨lb,0,none⟩) n c2] w λe w'=>∃(s:ByteArray) (at' sd':Int),e=.returned (.string s)∧Q s∧at_≤at'∧at'≤at_+3∧0≤sd'∧sd'<2147483648∧Src w' b a len cap at' sd'∧w.grownBy w' (some b):=by
 have hz:=beq_eq_false_iff_ne.2 (by omega);go_enter Tryz.func93,Tryz.ntmps93
 go_wp2_with fail
 refine(next_any _ b a len cap at_ sd n hs hc h0 h1 s0 s1 (by omega) (by omega)).mono ?_;rintro e w1 ⟨x,at1,sd1,rfl,x0,x1,a0,a1,d0,d1,hs1,hg1⟩;obtain⟨k,rfl⟩:∃k:Nat,x=(k:Int):=⟨x.toNat,by omega⟩
 obtain⟨s,hsz,hk⟩:=hcell k (by omega);have hk1:=hg1.cell hk (λe=>hne (by simpa using e));have HH:Hid (Src w1 b a len cap at1 sd1∧w.grownBy w1 (some b)∧Q s):=⟨hs1,hg1,hsz⟩
 clear hs1 hg1 hs hc hcell hk hsz;have hlt:(k:Int)<(n:Int):=by omega
 go_wp2;go_ret;exact⟨s,at1,sd1,rfl,HH.out.2.2,a0,a1,d0,d1,HH.out.1,HH.out.2.1⟩
def Pk(w:World)(b:Nat)(a:Option Addr)(len cap:Nat)(at_:Int)(L:List ByteArray)(e:Ending)(w':World):Prop :=
 ∃(s:ByteArray) (at' sd':Int),e=.returned (.string s)∧s∈L∧at_≤at'∧at'≤at_+3∧0≤sd'∧sd'<2147483648∧Src w' b a len cap at' sd'∧sr.Code w' b a len∧w.grownBy w' (some b)
theorem list_any(L:List ByteArray)(n:Nat)(w:World)(b:Nat)(a:Option Addr)(len cap:Nat)(at_ sd:Int)(hs:Src w b a len cap at_ sd)(hc:sr.Code w b a len)(h0:0≤at_)(h1:at_≤900000)(s0:0≤sd)(s1:sd<2147483648)(hL:n=L.length)(hn:1≤n)(hn2:n≤1000) :
  Calls Tryz.prog 93 #[.pointer (some ⟨b,0,none⟩),.slice (some ⟨w.heap.size,0,none⟩) n n] (w.alloc (.cells (L.map Value.string).toArray 9)) λe w'=>Pk w b a len cap at_ L e w':=by
 have hbw:b<w.heap.size:=(Array.getElem?_eq_some_iff.1 hs).1;have hga:w.grownBy (w.alloc (.cells (L.map Value.string).toArray 9)) (some b):=World.grownBy_alloc _ _ _;have hsa:Src (w.alloc (.cells (L.map Value.string).toArray 9)) b a len cap at_ sd:=src_keep hs (World.grownBy_alloc _ _ none) (by simp);have hca:=code_keep hc hga;refine(pick_any _ b a len cap at_ sd w.heap.size n n (·∈L) hsa hca h0 h1 s0 s1 hn hn2 (by omega) (λj hj=>row_cells w L j (by omega))).mono ?_;rintro e w1 ⟨s,at1,sd1,he,hq,a0,a1,d0,d1,hs1,hg1⟩;exact⟨s,at1,sd1,he,hq,a0,a1,d0,d1,hs1,code_keep hca hg1,ow.zah hga hg1⟩
theorem field_any(w:World)(b:Nat)(a:Option Addr)(len cap:Nat)(at_ sd:Int)(hs:Src w b a len cap at_ sd)(hc:sr.Code w b a len)(h0:0≤at_)(h1:at_≤900000)(s0:0≤sd)(s1:sd<2147483648) :
  Calls Tryz.prog 94 #[.pointer (some ⟨b,0,none⟩)] w λe w'=>Pk w b a len cap at_ fldL e w':=by
 have HP:=hD (list_any fldL 8 w b a len cap at_ sd hs hc h0 h1 s0 s1 rfl (by omega) (by omega));clear hs hc;go_enter Tryz.func94,Tryz.ntmps94
 go_wp2_with fail
 refine HP.out.mono ?_;rintro e w1 ⟨s,at1,sd1,rfl,hq⟩;have HH:=hD hq;clear HP hq;go_wp2;go_ret;exact⟨s,at1,sd1,rfl,HH.out⟩
end se
namespace se
open Go.RowKit
open sr
def EV6(i t l au:ByteArray)(d:Int)(c:ByteArray):Value:=.agg #[.string i,.string t,.string l,.string au,.int .i64 d,.string c]
def DrawnE(w:World)(b:Nat)(a:Option Addr)(len cap:Nat)(at_:Int)(e:Ending)(w':World):Prop :=
 ∃(i t l au c:ByteArray) (d at' sd':Int),e=.returned (EV6 i t l au d c)∧(i∈idL∧t∈fldL∧l∈linkL∧au∈fldL∧c∈conL∧0≤d∧d≤4102444799)∧at_≤at'∧at'≤at_+24∧0≤sd'∧sd'<2147483648∧Src w' b a len cap at' sd'∧sr.Code w' b a len∧w.grownBy w' (some b)
def B6(w:World)(g:Nat)(T:TypeId)(v0 v1 v2 v3 v4 v5:Value):Prop:=w.heap[g]?=some (.cells #[v0,v1,v2,v3,v4,v5] T (0,0))
theorem B6.keep{w w':World}{g b:Nat}{T:TypeId}{v0 v1 v2 v3 v4 v5:Value}(h:B6 w g T v0 v1 v2 v3 v4 v5)(hg:w.grownBy w' (some b))(hne:b≠g):B6 w' g T v0 v1 v2 v3 v4 v5 :=
 (hg.block g (Array.getElem?_eq_some_iff.1 h).1 (by simp;omega)).trans h
theorem B6.cell{w:World}{g:Nat}{T:TypeId}{v0 v1 v2 v3 v4 v5:Value}(h:B6 w g T v0 v1 v2 v3 v4 v5)(j:Nat)(v:Value)(hv:([v0,v1,v2,v3,v4,v5]:List Value)[j]?=some v):w.cell? ⟨g,j,none⟩=some v:=by
 rw[cell_of_row w _ _ _ _ _ h];simpa using hv
theorem B6.f{w:World}{g:Nat}{T:TypeId}{v0 v1 v2 v3 v4 v5:Value}(h:B6 w g T v0 v1 v2 v3 v4 v5)(j:Nat):w.frozen? ⟨g,j,none⟩=false:=frozen_of_row _ _ _ _ _ h
def fill(w:World)(g:Nat)(i t l au:ByteArray)(d:Int)(c:ByteArray):World:=(((((w.setCell ⟨g,0,none⟩ (.string i)).setCell ⟨g,1,none⟩ (.string t)).setCell ⟨g,2,none⟩ (.string l)).setCell ⟨g,3,none⟩ (.string au)).setCell ⟨g,4,none⟩ (.int .i64 d)).setCell ⟨g,5,none⟩ (.string c)
theorem fill_block{w:World}{g:Nat}{T:TypeId}{v0 v1 v2 v3 v4 v5:Value}(h:B6 w g T v0 v1 v2 v3 v4 v5)(i t l au:ByteArray)(d:Int)(c:ByteArray):B6 (fill w g i t l au d c) g T (.string i) (.string t) (.string l) (.string au) (.int .i64 d) (.string c):=by
 have M2:=heap_setCell_same _ g 0 _ _ (.string i) h;have M3:=heap_setCell_same _ g 1 _ _ (.string t) M2;have M4:=heap_setCell_same _ g 2 _ _ (.string l) M3;have M5:=heap_setCell_same _ g 3 _ _ (.string au) M4;have M6:=heap_setCell_same _ g 4 _ _ (.int .i64 d) M5;exact heap_setCell_same _ g 5 _ _ (.string c) M6
theorem fill_grown(w:World)(g:Nat)(i t l au:ByteArray)(d:Int)(c:ByteArray):w.grownBy (fill w g i t l au d c) (some g):=by
 unfold fill;exact ow.zah (ow.zah (ow.zah (ow.zah (ow.zah (zam _ _ _ _) (zam _ _ _ _)) (zam _ _ _ _)) (zam _ _ _ _)) (zam _ _ _ _)) (zam _ _ _ _)
theorem zcs{w w1 w2:World}{b g:Nat}(h1:w.grownBy w1 (some b))(h2:w1.grownBy w2 (some g))(hg:w.heap.size≤g):w.grownBy w2 (some b) :=
 ⟨h2.os.trans h1.os,h2.tape.trans h1.tape,h2.output.trans h1.output,Nat.le_trans h1.size h2.size,λi hi hr=>(h2.block i (Nat.lt_of_lt_of_le hi h1.size) (by simp;omega)).trans (h1.block i hi hr)⟩
theorem entry_any(w:World)(b:Nat)(a:Option Addr)(len cap:Nat)(at_ sd:Int)(hs:Src w b a len cap at_ sd)(hc:sr.Code w b a len)(h0:0≤at_)(h1:at_≤700000)(s0:0≤sd)(s1:sd<2147483648) :
  Calls Tryz.prog 55 #[.pointer (some ⟨b,0,none⟩)] w λe w'=>DrawnE w b a len cap at_ e w':=by
 have hbw:b<w.heap.size:=(Array.getElem?_eq_some_iff.1 hs).1;have ga:w.grownBy (w.alloc (.cells #[.string ⟨#[]⟩,.string ⟨#[]⟩,.string ⟨#[]⟩,.string ⟨#[]⟩,.int .i64 0,.string ⟨#[]⟩] 98)) (some b):=World.grownBy_alloc _ _ _;have hs0:=src_keep hs (World.grownBy_alloc w (.cells #[.string ⟨#[]⟩,.string ⟨#[]⟩,.string ⟨#[]⟩,.string ⟨#[]⟩,.int .i64 0,.string ⟨#[]⟩] 98) none) (by simp);have hc0:=code_keep hc ga;have R0:B6 (w.alloc (.cells #[.string ⟨#[]⟩,.string ⟨#[]⟩,.string ⟨#[]⟩,.string ⟨#[]⟩,.int .i64 0,.string ⟨#[]⟩] 98)) w.heap.size 98 (.string ⟨#[]⟩) (.string ⟨#[]⟩) (.string ⟨#[]⟩) (.string ⟨#[]⟩) (.int .i64 0) (.string ⟨#[]⟩):=(MapKept.heap_alloc w _).1;obtain⟨W0,hW0⟩:∃W0,W0=w.alloc (.cells #[.string ⟨#[]⟩,.string ⟨#[]⟩,.string ⟨#[]⟩,.string ⟨#[]⟩,.int .i64 0,.string ⟨#[]⟩] 98):=⟨_,rfl⟩
 have hsz:W0.heap.size=w.heap.size+1:=by rw[hW0];simp
 rw[←hW0] at ga hs0 hc0 R0;have HP:=hD (list_any idL 5 W0 b a len cap at_ sd hs0 hc0 h0 (by omega) s0 s1 rfl (by omega) (by omega));rw[hsz,hW0] at HP;clear hs hc hs0 hc0;go_enter Tryz.func55,Tryz.ntmps55
 go_wp2_with fail
 refine HP.out.mono ?_;rintro e w1 ⟨i,at1,sd1,rfl,hm_i,a10,a11,d10,d11,hs1,hc1,hg1⟩;have HM_i:=hD hm_i;clear hm_i;rw[←hW0] at hg1;have R1:=R0.keep hg1 (by omega);have G1:=ow.zah ga hg1;clear ga hg1 R0 HP hsz hW0
 go_wp2_with fail
 refine(field_any w1 b a len cap at1 sd1 hs1 hc1 (by omega) (by omega) d10 d11).mono ?_;rintro e w2 ⟨t,at2,sd2,rfl,hm_t,a20,a21,d20,d21,hs2,hc2,hg2⟩;have HM_t:=hD hm_t;clear hm_t;have R2:=R1.keep hg2 (by omega);have G2:=ow.zah G1 hg2;clear hs1 hc1 R1 G1 hg2
 go_wp2_with fail
 refine(list_any linkL 3 w2 b a len cap at2 sd2 hs2 hc2 (by omega) (by omega) d20 d21 rfl (by omega) (by omega)).mono ?_;rintro e w3 ⟨l,at3,sd3,rfl,hm_l,a30,a31,d30,d31,hs3,hc3,hg3⟩;have HM_l:=hD hm_l;clear hm_l;have R3:=R2.keep hg3 (by omega);have G3:=ow.zah G2 hg3;clear hs2 hc2 R2 G2 hg3
 go_wp2_with fail
 refine(field_any w3 b a len cap at3 sd3 hs3 hc3 (by omega) (by omega) d30 d31).mono ?_;rintro e w4 ⟨au,at4,sd4,rfl,hm_au,a40,a41,d40,d41,hs4,hc4,hg4⟩;have HM_au:=hD hm_au;clear hm_au;have R4:=R3.keep hg4 (by omega);have G4:=ow.zah G3 hg4;clear hs3 hc3 R3 G3 hg4
 go_wp2_with fail
 refine(stamp_any w4 b a len cap at4 sd4 hs4 hc4 (by omega) (by omega) d40 d41).mono ?_;rintro e w5 ⟨d,at5,sd5,rfl,n0,n1,a50,a51,d50,d51,hs5,hc5,hg5⟩;have R5:=R4.keep hg5 (by omega);have G5:=ow.zah G4 hg5;clear hs4 hc4 R4 G4 hg5
 go_wp2_with fail
 refine(list_any conL 8 w5 b a len cap at5 sd5 hs5 hc5 (by omega) (by omega) d50 d51 rfl (by omega) (by omega)).mono ?_;rintro e w6 ⟨c,at6,sd6,rfl,hm_c,a60,a61,d60,d61,hs6,hc6,hg6⟩;have HM_c:=hD hm_c;clear hm_c;have R6:=R5.keep hg6 (by omega);have G6:=ow.zah G5 hg6;clear hs5 hc5 R5 G5 hg6;have gE:w6.grownBy (w6.alloc (.cells #[.string i,.string t,.string l,.string au,.int .i64 d,.string c] 98)) (some b):=World.grownBy_alloc _ _ _;have R7:=R6.keep gE (by omega);have G7:=ow.zah G6 gE;have hs7:=src_keep hs6 (World.grownBy_alloc w6 (.cells #[.string i,.string t,.string l,.string au,.int .i64 d,.string c] 98) none) (by simp);have hc7:=code_keep hc6 gE;have r0:=R7.cell 0 _ rfl;have r1:(w6.alloc (.cells #[.string i,.string t,.string l,.string au,.int .i64 d,.string c] 98)).cell? ⟨w.heap.size,0+1,none⟩=_:=R7.cell 1 _ rfl;have r2:(w6.alloc (.cells #[.string i,.string t,.string l,.string au,.int .i64 d,.string c] 98)).cell? ⟨w.heap.size,0+2,none⟩=_:=R7.cell 2 _ rfl;have r3:(w6.alloc (.cells #[.string i,.string t,.string l,.string au,.int .i64 d,.string c] 98)).cell? ⟨w.heap.size,0+3,none⟩=_:=R7.cell 3 _ rfl;have r4:(w6.alloc (.cells #[.string i,.string t,.string l,.string au,.int .i64 d,.string c] 98)).cell? ⟨w.heap.size,0+4,none⟩=_:=R7.cell 4 _ rfl;have r5:(w6.alloc (.cells #[.string i,.string t,.string l,.string au,.int .i64 d,.string c] 98)).cell? ⟨w.heap.size,0+5,none⟩=_:=R7.cell 5 _ rfl;have f:=R7.f;have HH:Hid (Src (w6.alloc (.cells #[.string i,.string t,.string l,.string au,.int .i64 d,.string c] 98)) b a len cap at6 sd6∧sr.Code (w6.alloc (.cells #[.string i,.string t,.string l,.string au,.int .i64 d,.string c] 98)) b a len∧w.grownBy (w6.alloc (.cells #[.string i,.string t,.string l,.string au,.int .i64 d,.string c] 98)) (some b)∧B6 (w6.alloc (.cells #[.string i,.string t,.string l,.string au,.int .i64 d,.string c] 98)) w.heap.size 98 (.string ⟨#[]⟩) (.string ⟨#[]⟩) (.string ⟨#[]⟩) (.string ⟨#[]⟩) (.int .i64 0) (.string ⟨#[]⟩)):=⟨hs7,hc7,G7,R7⟩
 have h67:w6.heap.size≠w.heap.size:=by have:=G6.size;have:=(Array.getElem?_eq_some_iff.1 R6).1;omega
 clear hs6 hc6 R6 G6 gE R7 G7 hs7 hc7
 go_wp2_with fail
 clear r0 r1 r2 r3 r4 r5 f h67;change bodyPost _ _ _ _ _ (fill (w6.alloc (.cells #[.string i,.string t,.string l,.string au,.int .i64 d,.string c] 98)) w.heap.size i t l au d c);obtain⟨hs7,hc7,G7,R7⟩:=HH.out;have A5:=fill_block R7 i t l au d c;have gf:=fill_grown (w6.alloc (.cells #[.string i,.string t,.string l,.string au,.int .i64 d,.string c] 98)) w.heap.size i t l au d c;have G8:=zcs G7 gf lR;have hs8:=src_keep hs7 gf (by simp;omega);have hc8:=code_keep' hc7 gf (λk e=>by cases e;omega);clear HH hs7 hc7 G7 R7 gf;generalize fill _ _ _ _ _ _ _ _=X at A5 G8 hs8 hc8 ⊢;have x0:=A5.cell 0 _ rfl;have x1:=A5.cell 1 _ rfl;have x2:=A5.cell 2 _ rfl;have x3:=A5.cell 3 _ rfl;have x4:=A5.cell 4 _ rfl;have x5:=A5.cell 5 _ rfl;exact bodyPost_ret (v:=.agg #[.string i,.string t,.string l,.string au,.int .i64 d,.string c]) (by simp[results,Tryz.results55,go_sem,x0,x1,x2,x3,x4,x5]) rfl ⟨i,t,l,au,c,d,at6,sd6,rfl,⟨HM_i.out,HM_t.out,HM_l.out,HM_au.out,HM_c.out,n0,n1⟩,by omega,by omega,d60,d61,hs8,hc8,G8⟩
end se
namespace ut
open Go.RowKit
def inB(n a b:Int):Bool:=decide (a≤n∧n≤b)
def scB(n:Int):Bool:=inB n 0 55295||inB n 57344 1114111
def decF(n k b0 b1 b2 b3:Nat):Nat×Nat :=
 if b0<128 then(b0,1)
 else if b0 / 32 == 6&&(decide (k+1<n)&&b1 / 64 == 2) then
  if(b0 % 32)*64+b1 % 64 ≥ 128 then((b0 % 32)*64+b1 % 64,2) else(65533,1)
 else if b0 / 16 == 14&&(decide (k+1<n)&&b1 / 64 == 2)&&(decide (k+2<n)&&b2 / 64 == 2) then
  if decide ((b0 % 16)*4096+(b1 % 64)*64+b2 % 64 ≥ 2048)&&Utf8.valid (((b0 % 16)*4096+(b1 % 64)*64+b2 % 64:Nat):Int) then((b0 % 16)*4096+(b1 % 64)*64+b2 % 64,3) else(65533,1)
 else if b0 / 8 == 30&&(decide (k+1<n)&&b1 / 64 == 2)&&(decide (k+2<n)&&b2 / 64 == 2)&&(decide (k+3<n)&&b3 / 64 == 2) then
  if decide ((b0 % 8)*262144+(b1 % 64)*4096+(b2 % 64)*64+b3 % 64 ≥ 65536)&&Utf8.valid (((b0 % 8)*262144+(b1 % 64)*4096+(b2 % 64)*64+b3 % 64:Nat):Int) then((b0 % 8)*262144+(b1 % 64)*4096+(b2 % 64)*64+b3 % 64,4) else(65533,1)
 else(65533,1)
theorem zaJ(s:ByteArray)(k:Nat):Utf8.decode s k=decF s.size k (s.get! k).toNat (s.get! (k+1)).toNat (s.get! (k+2)).toNat (s.get! (k+3)).toNat:=rfl
theorem zar(s:ByteArray)(i:Nat)(h:i<s.size):s.get! i=s[i]'h:=by
 simp[ByteArray.get!,getElem!_pos,h];rfl
def zaq(s:ByteArray)(k:Nat):Prop:=Utf8.decode s k=(65533,1)
def zau(s:ByteArray)(k:Nat)(e:Ending):Prop :=
 (zaq s k∧e=.returned (.tuple #[.int .i64 0,.int .i64 1,.bool false])) ∨
 (¬zaq s k∧e=.returned (.tuple #[.int .i64 (Utf8.decode s k).1,.int .i64 (Utf8.decode s k).2,.bool true]))
theorem F1{n k b0 b1 b2 b3:Nat}(h:b0<128):decF n k b0 b1 b2 b3=(b0,1):=by simp[decF,h]
theorem F2{n k b0 b1 b2 b3:Nat}(h:194≤b0)(h':b0≤223)(hn:k+1<n)(c:128≤b1)(c':b1≤191) :
  decF n k b0 b1 b2 b3=((b0-192)*64+(b1-128),2):=by
 have e0:b0 / 32=6:=by omega
 have e1:b1 / 64=2:=by omega
 have e2:(b0 % 32)*64+b1 % 64 ≥ 128:=by omega
 have e3:¬b0<128:=by omega
 simp only[decF,e0,e1,e2,e3,hn];simp;omega
theorem F3{n k b0 b1 b2 b3:Nat}(h:224≤b0)(h':b0≤239)(hn:k+2<n)(c:128≤b1)(c':b1≤191)(d:128≤b2)(d':b2≤191) :
  decF n k b0 b1 b2 b3=if 2048≤(b0-224)*4096+(b1-128)*64+(b2-128)∧((b0-224)*4096+(b1-128)*64+(b2-128)<55296∨57344≤(b0-224)*4096+(b1-128)*64+(b2-128)) then((b0-224)*4096+(b1-128)*64+(b2-128),3) else(65533,1):=by
 have e0:¬b0 / 32=6:=by omega
 have f0:b0 / 16=14:=by omega
 have e1:b1 / 64=2:=by omega
 have e2:b2 / 64=2:=by omega
 have e3:¬b0<128:=by omega
 have hn1:k+1<n:=by omega
 have ec:(b0 % 16)*4096+(b1 % 64)*64+b2 % 64=(b0-224)*4096+(b1-128)*64+(b2-128):=by omega
 have hc:(b0-224)*4096+(b1-128)*64+(b2-128)<65536:=by omega
 unfold decF;rw[if_neg e3,if_neg (by simp[e0]),if_pos (by simp[f0,e1,e2,hn,hn1]),ec];generalize(b0-224)*4096+(b1-128)*64+(b2-128)=m at hc;have hiff:(decide (m ≥ 2048)&&Utf8.valid (m:Int))=true↔2048≤m∧(m<55296∨57344≤m):=by simp[Utf8.valid];omega
 by_cases g:2048≤m∧(m<55296∨57344≤m)
 ·rw[if_pos g,if_pos (hiff.2 g)]
 ·rw[if_neg g,if_neg (λx=>g (hiff.1 x))]
theorem F4{n k b0 b1 b2 b3:Nat}(h:240≤b0)(h':b0≤244)(hn:k+3<n)(c:128≤b1)(c':b1≤191)(d:128≤b2)(d':b2≤191)(f:128≤b3)(f':b3≤191) :
  decF n k b0 b1 b2 b3=if 65536≤(b0-240)*262144+(b1-128)*4096+(b2-128)*64+(b3-128)∧(b0-240)*262144+(b1-128)*4096+(b2-128)*64+(b3-128)≤1114111 then((b0-240)*262144+(b1-128)*4096+(b2-128)*64+(b3-128),4) else(65533,1):=by
 have e0:¬b0 / 32=6:=by omega
 have f0:¬b0 / 16=14:=by omega
 have g0:b0 / 8=30:=by omega
 have e1:b1 / 64=2:=by omega
 have e2:b2 / 64=2:=by omega
 have e4:b3 / 64=2:=by omega
 have e3:¬b0<128:=by omega
 have hn1:k+1<n:=by omega
 have hn2:k+2<n:=by omega
 have ec:(b0 % 8)*262144+(b1 % 64)*4096+(b2 % 64)*64+b3 % 64=(b0-240)*262144+(b1-128)*4096+(b2-128)*64+(b3-128):=by omega
 unfold decF;rw[if_neg e3,if_neg (by simp[e0]),if_neg (by simp[f0]),if_pos (by simp[g0,e1,e2,e4,hn,hn1,hn2]),ec];generalize(b0-240)*262144+(b1-128)*4096+(b2-128)*64+(b3-128)=m;have hiff:(decide (m ≥ 65536)&&Utf8.valid (m:Int))=true↔65536≤m∧m≤1114111:=by simp[Utf8.valid];omega
 by_cases g:65536≤m∧m≤1114111
 ·rw[if_pos g,if_pos (hiff.2 g)]
 ·rw[if_neg g,if_neg (λx=>g (hiff.1 x))]
theorem Fbad{n k b0 b1 b2 b3:Nat}(h0:128≤b0)
  (h:b0<194∨245≤b0∨n≤k+1∨b1<128∨192≤b1∨(224≤b0∧(n≤k+2∨b2<128∨192≤b2))∨(240≤b0∧(n≤k+3∨b3<128∨192≤b3))) :
  decF n k b0 b1 b2 b3=(65533,1):=by
 have e3:¬b0<128:=by omega
 unfold decF;rw[if_neg e3]
 split
 ·rename_i g;simp at g;rw[if_neg (by omega)]
 split
 ·rename_i g;simp at g
  exfalso
  omega
 split
 ·rename_i g;simp at g;rw[if_neg];simp[Utf8.valid];omega
 ·rfl
section
variable {s:ByteArray}{k:Nat}
theorem r_ok1(hk:k<s.size)(h:((s[k]'hk).toNat:Int)<128):zau s k (.returned (.tuple #[.int .i64 ((s[k]'hk).toNat:Int),.int .i64 1,.bool true])):=by
 have e:Utf8.decode s k=((s[k]'hk).toNat,1):=by rw[zaJ,zar s k hk,F1 (by omega)]
 refine .inr ⟨λhb=>?_,by rw[e];rfl⟩;rw[zaq,e] at hb;simp at hb;omega
theorem r_ok2(hk:k<s.size)(h1:k+1<s.size)(h:194≤((s[k]'hk).toNat:Int))(h':((s[k]'hk).toNat:Int)≤223)
  (c:128≤((s[k+1]'h1).toNat:Int)) (c':((s[k+1]'h1).toNat:Int)≤191) :
  zau s k (.returned (.tuple #[.int .i64 ((((s[k]'hk).toNat:Int)-192)*64+((s[k+1]'h1).toNat:Int)-128),.int .i64 2,.bool true])):=by
 have e:Utf8.decode s k=(((s[k]'hk).toNat-192)*64+((s[k+1]'h1).toNat-128),2):=by rw[zaJ,zar s k hk,zar s (k+1) h1,F2 (by omega) (by omega) h1 (by omega) (by omega)]
 refine .inr ⟨λhb=>?_,?_⟩
 ·rw[zaq,e] at hb;simp at hb
 ·rw[e];have e2:(((s[k]'hk).toNat:Int)-192)*64+((s[k+1]'h1).toNat:Int)-128=((((s[k]'hk).toNat-192)*64+((s[k+1]'h1).toNat-128):Nat):Int):=by omega
  rw[e2];rfl
theorem r_ok3(hk:k<s.size)(h1:k+1<s.size)(h2:k+2<s.size)(h:224≤((s[k]'hk).toNat:Int))(h':((s[k]'hk).toNat:Int)≤239)
  (c:128≤((s[k+1]'h1).toNat:Int)) (c':((s[k+1]'h1).toNat:Int)≤191) (d:128≤((s[k+2]'h2).toNat:Int)) (d':((s[k+2]'h2).toNat:Int)≤191)
  (g:2048≤((((s[k]'hk).toNat:Int)-224)*64+((s[k+1]'h1).toNat:Int)-128)*64+((s[k+2]'h2).toNat:Int)-128)
  (g':((((s[k]'hk).toNat:Int)-224)*64+((s[k+1]'h1).toNat:Int)-128)*64+((s[k+2]'h2).toNat:Int)-128≤55295∨57344≤((((s[k]'hk).toNat:Int)-224)*64+((s[k+1]'h1).toNat:Int)-128)*64+((s[k+2]'h2).toNat:Int)-128) :
  zau s k (.returned (.tuple #[.int .i64 (((((s[k]'hk).toNat:Int)-224)*64+((s[k+1]'h1).toNat:Int)-128)*64+((s[k+2]'h2).toNat:Int)-128),.int .i64 3,.bool true])):=by
 have e:Utf8.decode s k=(((s[k]'hk).toNat-224)*4096+((s[k+1]'h1).toNat-128)*64+((s[k+2]'h2).toNat-128),3):=by
  rw[zaJ,zar s k hk,zar s (k+1) h1,zar s (k+2) h2,F3 (by omega) (by omega) h2 (by omega) (by omega) (by omega) (by omega),if_pos (by omega)]
 refine .inr ⟨λhb=>?_,?_⟩
 ·rw[zaq,e] at hb;simp at hb
 ·rw[e];have e2:((((s[k]'hk).toNat:Int)-224)*64+((s[k+1]'h1).toNat:Int)-128)*64+((s[k+2]'h2).toNat:Int)-128=((((s[k]'hk).toNat-224)*4096+((s[k+1]'h1).toNat-128)*64+((s[k+2]'h2).toNat-128):Nat):Int):=by omega
  rw[e2];rfl
theorem r_ok4(hk:k<s.size)(h1:k+1<s.size)(h2:k+2<s.size)(h3:k+3<s.size)(h:240≤((s[k]'hk).toNat:Int))(h':((s[k]'hk).toNat:Int)≤244)
  (c:128≤((s[k+1]'h1).toNat:Int)) (c':((s[k+1]'h1).toNat:Int)≤191) (d:128≤((s[k+2]'h2).toNat:Int)) (d':((s[k+2]'h2).toNat:Int)≤191)
  (f:128≤((s[k+3]'h3).toNat:Int)) (f':((s[k+3]'h3).toNat:Int)≤191)
  (g:65536≤(((((s[k]'hk).toNat:Int)-240)*64+((s[k+1]'h1).toNat:Int)-128)*64+((s[k+2]'h2).toNat:Int)-128)*64+((s[k+3]'h3).toNat:Int)-128)
  (g':(((((s[k]'hk).toNat:Int)-240)*64+((s[k+1]'h1).toNat:Int)-128)*64+((s[k+2]'h2).toNat:Int)-128)*64+((s[k+3]'h3).toNat:Int)-128≤1114111) :
  zau s k (.returned (.tuple #[.int .i64 ((((((s[k]'hk).toNat:Int)-240)*64+((s[k+1]'h1).toNat:Int)-128)*64+((s[k+2]'h2).toNat:Int)-128)*64+((s[k+3]'h3).toNat:Int)-128),.int .i64 4,.bool true])):=by
 have e:Utf8.decode s k=(((s[k]'hk).toNat-240)*262144+((s[k+1]'h1).toNat-128)*4096+((s[k+2]'h2).toNat-128)*64+((s[k+3]'h3).toNat-128),4):=by
  rw[zaJ,zar s k hk,zar s (k+1) h1,zar s (k+2) h2,zar s (k+3) h3,F4 (by omega) (by omega) h3 (by omega) (by omega) (by omega) (by omega) (by omega) (by omega),if_pos (by omega)]
 refine .inr ⟨λhb=>?_,?_⟩
 ·rw[zaq,e] at hb;simp at hb
 ·rw[e];have e2:(((((s[k]'hk).toNat:Int)-240)*64+((s[k+1]'h1).toNat:Int)-128)*64+((s[k+2]'h2).toNat:Int)-128)*64+((s[k+3]'h3).toNat:Int)-128=((((s[k]'hk).toNat-240)*262144+((s[k+1]'h1).toNat-128)*4096+((s[k+2]'h2).toNat-128)*64+((s[k+3]'h3).toNat-128):Nat):Int):=by omega
  rw[e2];rfl
theorem zaS(h:zaq s k):zau s k (.returned (.tuple #[.int .i64 0,.int .i64 1,.bool false])):=.inl ⟨h,rfl⟩
theorem b_lead(hk:k<s.size)(h0:128≤((s[k]'hk).toNat:Int))(h:((s[k]'hk).toNat:Int)<194∨244<((s[k]'hk).toNat:Int)):zaq s k:=by
 rw[zaq,zaJ,zar s k hk,Fbad (by omega) (by omega)]
theorem b_short2(hk:k<s.size)(h0:128≤((s[k]'hk).toNat:Int))(h:s.size<k+2):zaq s k:=by
 rw[zaq,zaJ,zar s k hk,Fbad (by omega) (by omega)]
theorem b_short3(hk:k<s.size)(h0:224≤((s[k]'hk).toNat:Int))(h:s.size<k+3):zaq s k:=by
 rw[zaq,zaJ,zar s k hk,Fbad (by omega) (by omega)]
theorem b_short4(hk:k<s.size)(h0:240≤((s[k]'hk).toNat:Int))(h:s.size<k+4):zaq s k:=by
 rw[zaq,zaJ,zar s k hk,Fbad (by omega) (by omega)]
theorem b_c1(hk:k<s.size)(h1:k+1<s.size)(h0:128≤((s[k]'hk).toNat:Int))(h:((s[k+1]'h1).toNat:Int)<128∨191<((s[k+1]'h1).toNat:Int)):zaq s k:=by
 rw[zaq,zaJ,zar s k hk,zar s (k+1) h1,Fbad (by omega) (by omega)]
theorem b_c2(hk:k<s.size)(h2:k+2<s.size)(h0:224≤((s[k]'hk).toNat:Int))(h:((s[k+2]'h2).toNat:Int)<128∨191<((s[k+2]'h2).toNat:Int)):zaq s k:=by
 rw[zaq,zaJ,zar s k hk,zar s (k+2) h2,Fbad (by omega) (by omega)]
theorem b_c3(hk:k<s.size)(h3:k+3<s.size)(h0:240≤((s[k]'hk).toNat:Int))(h:((s[k+3]'h3).toNat:Int)<128∨191<((s[k+3]'h3).toNat:Int)):zaq s k:=by
 rw[zaq,zaJ,zar s k hk,zar s (k+3) h3,Fbad (by omega) (by omega)]
theorem b_size3(hk:k<s.size)(h1:k+1<s.size)(h2:k+2<s.size)(h:224≤((s[k]'hk).toNat:Int))(h':((s[k]'hk).toNat:Int)≤239)
  (c:128≤((s[k+1]'h1).toNat:Int)) (c':((s[k+1]'h1).toNat:Int)≤191) (d:128≤((s[k+2]'h2).toNat:Int)) (d':((s[k+2]'h2).toNat:Int)≤191)
  (g:((((s[k]'hk).toNat:Int)-224)*64+((s[k+1]'h1).toNat:Int)-128)*64+((s[k+2]'h2).toNat:Int)-128<2048∨(55295<((((s[k]'hk).toNat:Int)-224)*64+((s[k+1]'h1).toNat:Int)-128)*64+((s[k+2]'h2).toNat:Int)-128∧((((s[k]'hk).toNat:Int)-224)*64+((s[k+1]'h1).toNat:Int)-128)*64+((s[k+2]'h2).toNat:Int)-128<57344)):zaq s k:=by
 rw[zaq,zaJ,zar s k hk,zar s (k+1) h1,zar s (k+2) h2,F3 (by omega) (by omega) h2 (by omega) (by omega) (by omega) (by omega),if_neg (by omega)]
theorem b_size4(hk:k<s.size)(h1:k+1<s.size)(h2:k+2<s.size)(h3:k+3<s.size)(h:240≤((s[k]'hk).toNat:Int))(h':((s[k]'hk).toNat:Int)≤244)
  (c:128≤((s[k+1]'h1).toNat:Int)) (c':((s[k+1]'h1).toNat:Int)≤191) (d:128≤((s[k+2]'h2).toNat:Int)) (d':((s[k+2]'h2).toNat:Int)≤191)
  (f:128≤((s[k+3]'h3).toNat:Int)) (f':((s[k+3]'h3).toNat:Int)≤191)
  (g:(((((s[k]'hk).toNat:Int)-240)*64+((s[k+1]'h1).toNat:Int)-128)*64+((s[k+2]'h2).toNat:Int)-128)*64+((s[k+3]'h3).toNat:Int)-128<65536∨1114111<(((((s[k]'hk).toNat:Int)-240)*64+((s[k+1]'h1).toNat:Int)-128)*64+((s[k+2]'h2).toNat:Int)-128)*64+((s[k+3]'h3).toNat:Int)-128):zaq s k:=by
 rw[zaq,zaJ,zar s k hk,zar s (k+1) h1,zar s (k+2) h2,zar s (k+3) h3,F4 (by omega) (by omega) h3 (by omega) (by omega) (by omega) (by omega) (by omega) (by omega),if_neg (by omega)]
end
end ut
namespace ut
open Go.RowKit
def pos(s:ByteArray):Nat→Nat
 | 0=>0
 | n+1=>pos s n+(Utf8.decode s (pos s n)).2
def Right(s:ByteArray):Prop:=∀n,pos s n<s.size→¬zaq s (pos s n)
def Says(p:Prop)(e:Ending):Prop:=∃b:Bool,e=.returned (.bool b)∧(b=true↔p)
theorem F_wide(n k b0 b1 b2 b3:Nat)(hk:k<n):1≤(decF n k b0 b1 b2 b3).2∧k+(decF n k b0 b1 b2 b3).2≤n:=by
 unfold decF
 split
 ·simp;omega
 split
 ·rename_i g;simp at g
  split<;>simp<;>omega
 split
 ·rename_i g;simp at g
  split<;>simp<;>omega
 split
 ·rename_i g;simp at g
  split<;>simp<;>omega
 ·simp;omega
theorem wide(s:ByteArray)(k:Nat)(hk:k<s.size):1≤(Utf8.decode s k).2∧k+(Utf8.decode s k).2≤s.size:=by
 rw[zaJ];exact F_wide _ _ _ _ _ _ hk
theorem pos_le(s:ByteArray)(n:Nat)(h:pos s n<s.size):pos s (n+1)≤s.size∧pos s n<pos s (n+1):=by
 have:=wide s _ h;simp only[pos];omega
theorem zb8(s:ByteArray)(n m:Nat):pos s n≤pos s (n+m):=by
 induction m with
 | zero=>exact Nat.le_refl _
 | succ m ih=>rw[←Nat.add_assoc];simp only[pos];omega
theorem bad_wide{s:ByteArray}{k:Nat}(h:zaq s k):(Utf8.decode s k).2=1:=by rw[zaq] at h;rw[h]
theorem bad_rune{s:ByteArray}{k:Nat}(h:zaq s k):(Utf8.decode s k).1=65533:=by rw[zaq] at h;rw[h]
end ut
end Go.Proofs.YtmnflpmfngjllaaGreatDoor
