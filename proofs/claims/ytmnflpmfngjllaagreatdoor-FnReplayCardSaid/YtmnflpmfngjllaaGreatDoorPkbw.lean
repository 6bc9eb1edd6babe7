/-
  FnReplayCardSaid
-/
import Derived.Test.YtmnflpmfngjllaaGreatDoorPkbv
set_option maxHeartbeats 16000000
set_option maxRecDepth 100000
set_option linter.unusedVariables false
namespace Go.Proofs.YtmnflpmfngjllaaGreatDoor
namespace en
open Go.RowKit
def xbadB(s:ByteArray)(k:Nat):Bool:=decide (Utf8.decode s k=(65533,1))||!xm.xr ((Utf8.decode s k).1:Int)
theorem xbadB_no{s:ByteArray}{k:Nat}(h:xbadB s k=false):¬xm.xbad s k:=by
 unfold xbadB at h;rw[Bool.or_eq_false_iff] at h;rintro(h1|h1)
 ·exact of_decide_eq_false h.1 h1
 ·rw[h1] at h;cases h.2
def allGood(s:ByteArray)(n:Nat):Bool:=decide (ut.pos s n=s.size)&&(List.range n).all λm=>!xbadB s (ut.pos s m)
theorem good_of{s:ByteArray}{n:Nat}(h:allGood s n=true):xm.zbM s s.size:=by
 unfold allGood at h;rw[Bool.and_eq_true,List.all_eq_true] at h;refine⟨n,(of_decide_eq_true h.1).symm,Nat.le_refl _,λm hm=>?_,.inl rfl⟩;have:=h.2 m (List.mem_range.2 hm);rw[Bool.not_eq_true'] at this;exact xbadB_no this
theorem za7{s:ByteArray}(n:Nat)(h:(decide (s.size≤200)&&allGood s n&&decide (li.line s.data.toList=s.data.toList))=true):fld s=true:=by
 simp only[Bool.and_eq_true] at h;exact ow.dt ⟨of_decide_eq_true h.1.1,good_of h.1.2,of_decide_eq_true h.2⟩
theorem ofx_of{s:ByteArray}(n:Nat)(h:(decide (s.size≤1000)&&allGood s n)=true):ofx s 1000=true:=by
 simp only[Bool.and_eq_true] at h;exact ow.dt ⟨of_decide_eq_true h.1,good_of h.2⟩
def idL:List ByteArray:=[⟨#[105,100,49]⟩,⟨#[105,100,50]⟩,⟨#[105,100,51]⟩,⟨#[117,114,110,58,120,32,38,32,121]⟩,⟨#[105,100,32,195,164]⟩]
def fldL:List ByteArray:=[⟨#[]⟩,⟨#[116,105,116,108,101]⟩,⟨#[97,32,38,32,98]⟩,⟨#[195,164,195,182,32,226,130,172]⟩,⟨#[60,120,62]⟩,⟨#[111,110,101,32,116,119,111]⟩,⟨#[61,63,117,116,102,45,56,63,81,63,120,63,61]⟩,⟨#[240,159,152,128]⟩]
theorem idL_ok:∀s∈idL,fld s=true∧s.size≠0:=by
 intro s hs;simp only[idL,List.mem_cons,List.not_mem_nil,or_false] at hs
 rcases hs with rfl|rfl|rfl|rfl|rfl
 ·exact⟨za7 3 (by decide +kernel),by decide⟩
 ·exact⟨za7 3 (by decide +kernel),by decide⟩
 ·exact⟨za7 3 (by decide +kernel),by decide⟩
 ·exact⟨za7 9 (by decide +kernel),by decide⟩
 ·exact⟨za7 4 (by decide +kernel),by decide⟩
theorem fldL_ok:∀s∈fldL,fld s=true:=by
 intro s hs;simp only[fldL,List.mem_cons,List.not_mem_nil,or_false] at hs
 rcases hs with rfl|rfl|rfl|rfl|rfl|rfl|rfl|rfl
 ·exact za7 0 (by decide +kernel)
 ·exact za7 5 (by decide +kernel)
 ·exact za7 5 (by decide +kernel)
 ·exact za7 4 (by decide +kernel)
 ·exact za7 3 (by decide +kernel)
 ·exact za7 7 (by decide +kernel)
 ·exact za7 13 (by decide +kernel)
 ·exact za7 1 (by decide +kernel)
def linkL:List ByteArray:=[⟨#[]⟩,⟨#[104,116,116,112,58,47,47,97,47,98,63,99,61,100,38,101]⟩,⟨#[108,105,110,107]⟩]
def conL:List ByteArray:=[⟨#[]⟩,⟨#[116,101,120,116]⟩,⟨#[116,119,111,10,108,105,110,101,115,10]⟩,⟨#[97,13,98,13,10]⟩,⟨#[46,10,46,46,10]⟩,⟨#[195,164,32,60,98,62]⟩,⟨#[116,114,97,105,108,105,110,103,32,10,61,32,120]⟩,⟨#[48,49,50,51,52,53,54,55,56,57,48,49,50,51,52,53,54,55,56,57,48,49,50,51,52,53,54,55,56,57,48,49,50,51,52,53,54,55,56,57,48,49,50,51,52,53,54,55,56,57,48,49,50,51,52,53,54,55,56,57,48,49,50,51,52,53,54,55,56,57,48,49,50,51,52,53,54,55,56,57,48,49,50,51,52,53,54,55,56,57,48]⟩]
theorem linkL_ok:∀s∈linkL,fld s=true:=by
 intro s hs;simp only[linkL,List.mem_cons,List.not_mem_nil,or_false] at hs
 rcases hs with rfl|rfl|rfl
 ·exact za7 0 (by decide +kernel)
 ·exact za7 16 (by decide +kernel)
 ·exact za7 4 (by decide +kernel)
theorem conL_ok:∀s∈conL,ofx s 1000=true:=by
 intro s hs;simp only[conL,List.mem_cons,List.not_mem_nil,or_false] at hs
 rcases hs with rfl|rfl|rfl|rfl|rfl|rfl|rfl|rfl
 ·exact ofx_of 0 (by decide +kernel)
 ·exact ofx_of 4 (by decide +kernel)
 ·exact ofx_of 10 (by decide +kernel)
 ·exact ofx_of 5 (by decide +kernel)
 ·exact ofx_of 5 (by decide +kernel)
 ·exact ofx_of 5 (by decide +kernel)
 ·exact ofx_of 13 (by decide +kernel)
 ·exact ofx_of 91 (by decide +kernel)
theorem drawn_ok{i t l a c:ByteArray}{d:Int}(hi:i∈idL)(ht:t∈fldL)(hl:l∈linkL)(ha:a∈fldL)(hc:c∈conL)(d0:0≤d)(d1:d≤4102444799):eok ⟨i,t,l,a,d,c⟩=true:=by
 obtain⟨h1,h2⟩:=idL_ok i hi;have h3:stamp d=true:=decide_eq_true ⟨d0,d1⟩;simp[eok,h1,h2,h3,fldL_ok t ht,linkL_ok l hl,fldL_ok a ha,conL_ok c hc]
end en
namespace qu
def hv(c:UInt8):Int:=if 48≤c.toNat∧c.toNat≤57 then(c.toNat:Int)-48 else if 65≤c.toNat∧c.toNat≤70 then(c.toNat:Int)-55 else -1
def soft(l:List UInt8):Bool:=l.head? == some 61&&crlf l.tail
def fq(l:List UInt8):Option (List UInt8×Nat) :=
 if soft l then some ([],3)
 else if crlf l then some ([13,10],2)
 else if l.getD 0 0=61 then(if l.length<3∨hv (l.getD 1 0)<0∨hv (l.getD 2 0)<0 then none else some ([UInt8.ofNat ((hv (l.getD 1 0)).toNat*16+(hv (l.getD 2 0)).toNat)],3))
 else if 32≤(l.getD 0 0).toNat∧(l.getD 0 0).toNat≤126 then some ([l.getD 0 0],1)
 else none
def uqn:Nat→List UInt8→Option (List UInt8)
 | _,[]=>some []
 | 0,_=>none
 | n+1,l=>(fq l).bind λp=>(uqn n (l.drop p.2)).map (p.1++·)
def uq(l:List UInt8):Option (List UInt8):=uqn l.length l
def uc(s:ByteArray):Int:=if s.size≤65536 then(if(uq s.data.toList).isSome then 0 else 3) else 2
end qu
namespace qu
end qu
namespace qu
end qu
namespace ln
open Go
end ln
namespace uf
open Go
def fw:List UInt8:=[13,10,32]
def rep:Nat→List UInt8→List UInt8
 | _,[]=>[]
 | n+1,_::r=>rep n r
 | 0,c::r=>if fw.isPrefixOf (c::r) then 32::rep 2 r else c::rep 0 r
end uf
namespace ff
open Go
open hd (cutGo foldGo foldL)
theorem fold_len:∀(r:List (List UInt8)) (f:Bool) (wd:Nat),(foldGo f wd r).length≤3*((r.map List.length).sum+r.length)
 | [],f,wd=>by rw[foldGo];simp
 | x::r,f,wd=>by
  rw[foldGo]
  split
  ·have:=fold_len r false (1+x.length);simp;omega
  ·have:=fold_len r false (wd+1+x.length);simp;omega
theorem field_len(nm v:List UInt8):(foldL nm v).length≤nm.length+3*v.length+6:=by
 have h1:=fold_len (cutGo [] v) true (nm.length+1);have h2:=hd.zcZ v [];unfold foldL;simp at h1 h2 ⊢;omega
end ff
namespace rn
open Go
open en (idL fldL linkL conL)
theorem fldL_few:∀s∈fldL,(EN s).size≤100:=by
 intro s hs;simp only[fldL,List.mem_cons,List.not_mem_nil,or_false] at hs
 rcases hs with rfl|rfl|rfl|rfl|rfl|rfl|rfl|rfl<;>decide +kernel
theorem idL_few:∀s∈idL,(EN s).size≤100∧1≤s.size∧s.size≤20:=by
 intro s hs;simp only[idL,List.mem_cons,List.not_mem_nil,or_false] at hs
 rcases hs with rfl|rfl|rfl|rfl|rfl<;>decide +kernel
theorem linkL_few:∀s∈linkL,(EN s).size≤100:=by
 intro s hs;simp only[linkL,List.mem_cons,List.not_mem_nil,or_false] at hs
 rcases hs with rfl|rfl|rfl<;>decide +kernel
theorem conL_few:∀s∈conL,s.data.toList.length≤100:=by
 intro s hs;simp only[conL,List.mem_cons,List.not_mem_nil,or_false] at hs
 rcases hs with rfl|rfl|rfl|rfl|rfl|rfl|rfl|rfl<;>decide
theorem zbQ(nm s:ByteArray):(FO nm s).size≤nm.size+3*s.size+6:=by
 have:=ff.field_len nm.data.toList s.data.toList;rw[Lib.size_eq,Lib.size_eq,Lib.size_eq];show(hd.foldL nm.data.toList s.data.toList).toArray.toList.length≤_;simpa using this
theorem rend_few{i t l a c:ByteArray}{d:Int}{box:ByteArray}(hb:nm.za9 box)(hi:i∈idL)(ht:t∈fldL)(hl:l∈linkL)(ha:a∈fldL)(hc:c∈conL)(d0:0≤d)(d1:d≤4102444799):(rend ⟨i,t,l,a,d,c⟩ box).size≤4000:=by
 have e1:=fldL_few t ht;have e2:=fldL_few a ha;have e3:=(idL_few i hi).1;have e4:=linkL_few l hl;have e5:=conL_few c hc;have e6:=(mid_safe ⟨i,t,l,a,d,c⟩ box hb).2;have e7:=(date_safe d d0 d1).2;have e8:=qu.qt_len 0 (crl c.data.toList);have e9:=crl_len c.data.toList;have s1:∀l:List UInt8,(⟨l.toArray⟩:ByteArray).size=l.length:=λl=>by rw[Lib.size_eq]
 unfold rend foldAll flds;simp only[List.foldl_cons,List.foldl_nil,ByteArray.size_append];have f1:=zbQ ⟨#[70,114,111,109]⟩ (EN a);have f2:=zbQ ⟨#[68,97,116,101]⟩ ⟨(dx.t82 d).toArray⟩;have f3:=zbQ ⟨#[83,117,98,106,101,99,116]⟩ (EN t);have f4:=zbQ ⟨#[77,101,115,115,97,103,101,45,73,68]⟩ (mid ⟨i,t,l,a,d,c⟩ box);have f5:=zbQ ⟨#[88,45,73,100]⟩ (EN i);have f6:=zbQ ⟨#[88,45,76,105,110,107]⟩ (EN l);have f7:=zbQ ⟨#[77,73,77,69,45,86,101,114,115,105,111,110]⟩ ⟨#[49,46,48]⟩;have f8:=zbQ ⟨#[67,111,110,116,101,110,116,45,84,121,112,101]⟩ ⟨#[116,101,120,116,47,112,108,97,105,110,59,32,99,104,97,114,115,101,116,61,117,116,102,45,56]⟩;have f9:=zbQ ⟨#[67,111,110,116,101,110,116,45,84,114,97,110,115,102,101,114,45,69,110,99,111,100,105,110,103]⟩ ⟨#[113,117,111,116,101,100,45,112,114,105,110,116,97,98,108,101]⟩;have hdt:=s1 (dx.t82 d);have k1:(⟨#[70,114,111,109]⟩:ByteArray).size=4:=rfl;have k2:(⟨#[68,97,116,101]⟩:ByteArray).size=4:=rfl;have k3:(⟨#[83,117,98,106,101,99,116]⟩:ByteArray).size=7:=rfl;have k4:(⟨#[77,101,115,115,97,103,101,45,73,68]⟩:ByteArray).size=10:=rfl;have k5:(⟨#[88,45,73,100]⟩:ByteArray).size=4:=rfl;have k6:(⟨#[88,45,76,105,110,107]⟩:ByteArray).size=6:=rfl;have k7:(⟨#[77,73,77,69,45,86,101,114,115,105,111,110]⟩:ByteArray).size=12:=rfl;have k8:(⟨#[67,111,110,116,101,110,116,45,84,121,112,101]⟩:ByteArray).size=12:=rfl;have k9:(⟨#[67,111,110,116,101,110,116,45,84,114,97,110,115,102,101,114,45,69,110,99,111,100,105,110,103]⟩:ByteArray).size=25:=rfl;have q7:(⟨#[49,46,48]⟩:ByteArray).size=3:=rfl;have q8:(⟨#[116,101,120,116,47,112,108,97,105,110,59,32,99,104,97,114,115,101,116,61,117,116,102,45,56]⟩:ByteArray).size=25:=rfl;have q9:(⟨#[113,117,111,116,101,100,45,112,114,105,110,116,97,98,108,101]⟩:ByteArray).size=16:=rfl;have z0:(⟨#[]⟩:ByteArray).size=0:=rfl;have z2:(⟨#[13,10]⟩:ByteArray).size=2:=rfl;have hq:=s1 (qu.qt 0 (crl c.data.toList));omega
end rn
namespace dm
open Go.RowKit Go.Deep
open it
open sr (Src Code src_keep code_keep code_keep' next_any)
open se (B6 Pk list_any)
def za8:List ByteArray:=[⟨#[110,101,119,115]⟩,⟨#[98,108,111,103]⟩,⟨#[119,111,114,107]⟩,⟨#[111,116,104,101,114]⟩]
theorem zdc(s:ByteArray)(h:mu.nmB s=true):nm.za9 s:=of_decide_eq_true (inst:=mu.dName s) h
theorem zcv:∀s∈za8,mu.nmB s=true:=by
 intro s hs;simp only[za8,List.mem_cons,List.not_mem_nil,or_false] at hs
 rcases hs with rfl|rfl|rfl|rfl<;>decide +kernel
theorem B6.lt{w:World}{g:Nat}{T:TypeId}{v0 v1 v2 v3 v4 v5:Value}(h:B6 w g T v0 v1 v2 v3 v4 v5):g<w.heap.size:=(Array.getElem?_eq_some_iff.1 h).1
theorem B6.put5{w:World}{g:Nat}{T:TypeId}{v0 v1 v2 v3 v4 v5:Value}(h:B6 w g T v0 v1 v2 v3 v4 v5)(u:Value):B6 (w.setCell ⟨g,5,none⟩ u) g T v0 v1 v2 v3 v4 u:=heap_setCell_same _ g 5 _ _ _ h
theorem B6.grow{w w':World}{g:Nat}{T:TypeId}{v0 v1 v2 v3 v4 v5:Value}{row:Option Nat}(h:B6 w g T v0 v1 v2 v3 v4 v5)(hg:w.grownBy w' row)(hne:some g≠row):B6 w' g T v0 v1 v2 v3 v4 v5:=(hg.block g (B6.lt h) hne).trans h
def put6(w:World)(g:Nat)(a b c d e f:Value):World:=(((((w.setCell ⟨g,0,none⟩ a).setCell ⟨g,1,none⟩ b).setCell ⟨g,2,none⟩ c).setCell ⟨g,3,none⟩ d).setCell ⟨g,4,none⟩ e).setCell ⟨g,5,none⟩ f
theorem B6.put{w:World}{g:Nat}{T:TypeId}{v0 v1 v2 v3 v4 v5 a b c d e f:Value}(h:B6 w g T v0 v1 v2 v3 v4 v5):B6 (put6 w g a b c d e f) g T a b c d e f :=
 heap_setCell_same _ g 5 _ _ _ (heap_setCell_same _ g 4 _ _ _ (heap_setCell_same _ g 3 _ _ _ (heap_setCell_same _ g 2 _ _ _ (heap_setCell_same _ g 1 _ _ _ (heap_setCell_same _ g 0 _ _ _ h)))))
theorem zbk(w:World)(g:Nat)(a b c d e f:Value):w.grownBy (put6 w g a b c d e f) (some g) :=
 ow.zah (ow.zah (ow.zah (ow.zah (ow.zah (sr.zam w g 0 a) (sr.zam _ g 1 b)) (sr.zam _ g 2 c)) (sr.zam _ g 3 d)) (sr.zam _ g 4 e)) (sr.zam _ g 5 f)
theorem grown_of{w w':World}(h:Below w.heap.size w w'):w.grownBy w' none:=⟨h.os,h.tape,h.output,h.size,λk hk _=>h.block k hk⟩
theorem grown_wide{w w':World}(b:Nat)(h:w.grownBy w' none):w.grownBy w' (some b):=⟨h.os,h.tape,h.output,h.size,λk hk _=>h.block k hk (by simp)⟩
theorem zbq{w w1 w2:World}{b:Nat}{row:Option Nat}(h1:w.grownBy w1 (some b))(h2:w1.grownBy w2 row)(hg:∀k,row=some k→w.heap.size≤k):w.grownBy w2 (some b) :=
 ⟨h2.os.trans h1.os,h2.tape.trans h1.tape,h2.output.trans h1.output,Nat.le_trans h1.size h2.size,λi hi hr=>(h2.block i (Nat.lt_of_lt_of_le hi h1.size) (λe=>by have:=hg i e.symm;omega)).trans (h1.block i hi hr)⟩
def zaw:List Pr→List Value
 | []=>[]
 | x::ps=>.string x.1::.string x.2::zaw ps
theorem zc5(ps:List Pr)(x:Pr):zaw (ps++[x])=zaw ps++[.string x.1,.string x.2]:=by
 induction ps with
 | nil=>rfl
 | cons y ps ih=>simp[zaw,ih]
theorem icells_at(ps:List Pr):∀j,j<ps.length→(zaw ps)[j*2]?=some (.string (ps.getD j no).1)∧(zaw ps)[j*2+1]?=some (.string (ps.getD j no).2):=by
 induction ps with
 | nil=>intro j hj;simp at hj
 | cons x ps ih =>
  intro j hj
  cases j with
  | zero=>exact⟨rfl,rfl⟩
  | succ j =>
   have:=ih j (by simpa using hj);rw[show(j+1)*2=j*2+1+1 from by omega];simpa [zaw] using this
def zag(w:World)(base:Nat)(v:Value)(ps:List Pr):Prop:=w.ownsRow base 103 2 v ps.length (zaw ps)
theorem zbX{w:World}{base:Nat}{v:Value}{ps:List Pr}(h:zag w base v ps):zav w v ps:=by
 rcases id h.2 with⟨e,hx⟩|⟨g,cap,cur,e,_⟩
 ·have hl:ps=[]:=by
   cases ps with
   | nil=>rfl
   | cons x ps=>simp at hx
  subst hl;exact⟨none,0,e,.inl rfl⟩
 ·have h':w.ownsRow base 103 2 v ps.length (zaw ps):=h;rw[e] at h' ⊢;exact attrs_lay rfl h' (icells_at ps)
theorem zaM{w:World}{b base e size n:Nat}{v:Value}{xs:List Value}(h:w.ownsRow base e size v n xs)(hb:b≤base):w.ownsRow b e size v n xs :=
 ⟨h.1,h.2.imp id λ⟨g,cap,cur,he,hb',r⟩=>⟨g,cap,cur,he,Nat.le_trans hb hb',r⟩⟩
theorem zaF{w w':World}{base e size n:Nat}{v:Value}{xs:List Value}{row:Option Nat}(h:w.ownsRow base e size v n xs)(hg:w.grownBy w' row)(hr:∀k,row=some k→k<base):w'.ownsRow base e size v n xs:=by
 refine h.kept hg ?_
 cases hv:v.ownBlock with
 | none=>exact .inl rfl
 | some k =>
  refine .inr λe=>?_
  have h1:=(h.lt k hv).1;have h2:=hr k e.symm;omega
def key(i:ByteArray)(n:Nat):ByteArray:=i++⟨(Lib.decDigits n).toArray⟩
def ItD(p:Pr):Prop:=(1≤p.1.size∧p.1.size≤200)∧p.2.size≤4000
theorem key_ok{i:ByteArray}{n:Nat}(h:1≤i.size∧i.size≤20)(hn:n≤2):1≤(key i n).size∧(key i n).size≤200:=by
 have:=dx.zce 0 n (by omega);have e:(⟨(Lib.decDigits n).toArray⟩:ByteArray).size=(Lib.decDigits n).length:=by simp[ByteArray.size]
 unfold key;rw[ByteArray.size_append,e];omega
structure Q where
 w0:World
 b:Nat
 a:Option Addr
 len:Nat
 cap:Nat
 at_:Int
 sd:Int
 M:Nat
 E:Nat
 bx:ByteArray
 v:Value
 ps:List Pr
 i:ByteArray
 t:ByteArray
 l:ByteArray
 au:ByteArray
 d:Int
 c:ByteArray
 tx:ByteArray
def Vf(q:Q):Nat→Option Value
 | 0=>some (.pointer (some ⟨q.M,0+5,none⟩))
 | 1=>some q.v
 | 2=>some (.pointer (some ⟨q.E,0,none⟩))
 | 3=>some (.string q.i)
 | 4=>some (.pointer (some ⟨q.b,0,none⟩))
 | 8=>some (.agg #[.string q.i,.string q.t,.string q.l,.string q.au,.int .i64 q.d,.string q.c])
 | 9=>some (.pointer (some ⟨q.M,0+4,none⟩))
 | 10=>some (.string q.bx)
 | 11=>some (.string q.tx)
 | 15=>some (.pointer (some ⟨q.M,0+5,none⟩))
 | _=>none
def Zero(x:World)(g:Nat):Prop:=B6 x g 35 (.int .i64 0) (.int .i64 0) (.int .i64 0) (.int .i64 0) (.string ⟨#[]⟩) (.slice none 0 0)
def MB(x:World)(g:Nat)(bx:ByteArray)(v:Value):Prop:=B6 x g 35 (.int .i64 2) (.int .i64 0) (.int .i64 0) (.int .i64 0) (.string bx) v
structure Fx (q:Q) (x:World):Prop where
 gr:q.w0.grownBy x (some q.b)
 z:Zero x q.w0.heap.size
 en:B6 x q.E 98 (.string q.i) (.string q.t) (.string q.l) (.string q.au) (.int .i64 q.d) (.string q.c)
 cd:sr.Code x q.b q.a q.len
structure Pl (q:Q):Prop where
 b0:q.b<q.w0.heap.size
 m0:q.w0.heap.size<q.M
 e0:q.M<q.E
theorem Fx.step{q:Q}{x x':World}{row:Option Nat}(h:Fx q x)(hp:Pl q)(hg:x.grownBy x' row)(hr:∀k,row=some k→k=q.b∨k=q.M∨(q.M<k∧k≠q.E)):Fx q x':=by
 obtain⟨p1,p2,p3⟩:=hp;have ne:∀g,g≠q.b→g≠q.M→(g≤q.M∨g=q.E)→some g≠row:=λg h1 h2 h3 e=>by
  rcases hr g e.symm with e|e|⟨e,e'⟩
  ·exact h1 e
  ·exact h2 e
  ·rcases h3 with h3|h3
   ·omega
   ·exact e' h3
 refine⟨?_,B6.grow h.z hg (ne _ (by omega) (by omega) (by omega)),B6.grow h.en hg (ne _ (by omega) (by omega) (by omega)),code_keep' h.cd hg (λk e=>by rcases hr k e with e|e|⟨e,_⟩<;>omega)⟩;exact⟨hg.os.trans h.gr.os,hg.tape.trans h.gr.tape,hg.output.trans h.gr.output,Nat.le_trans h.gr.size hg.size,λi hi hri=>(hg.block i (Nat.lt_of_lt_of_le hi h.gr.size) (ne i (λe=>hri (by rw[e])) (by omega) (by omega))).trans (h.gr.block i hi hri)⟩
def Later(q:Q)(x:World):Prop:=∃at' sd':Int,q.at_≤at'∧at'≤q.at_+3∧0≤sd'∧sd'<2147483648∧Src x q.b q.a q.len q.cap at' sd'
theorem Later.step{q:Q}{x x':World}{row:Option Nat}(h:Later q x)(hg:x.grownBy x' row)(hr:some q.b≠row):Later q x':=by
 obtain⟨a,s,h1,h2,h3,h4,h5⟩:=h;exact⟨a,s,h1,h2,h3,h4,src_keep h5 hg hr⟩
def J(q:Q)(D:Nat→Prop)(f:Nat→Value)(x:World):Prop :=
 (∀j,D j→∀y,Vf q j=some y→f j=y)∧Fx q x∧(¬D 5→Src x q.b q.a q.len q.cap q.at_ q.sd) ∧
 (D 5→Later q x∧∃n:Nat,n≤2∧f 5=.int .i64 (n:Int)∧(D 6→f 6=.string ⟨(Lib.decDigits n).toArray⟩)∧(D 7→f 7=.string (key q.i n))∧(D 12→f 12=.agg #[.string (key q.i n),.string q.tx]) ∧
  (D 13→¬D 14→∃g,f 13=.slice (some ⟨g,0,none⟩) 1 1∧x.cell? ⟨g,0,none⟩=some (.string (key q.i n))∧x.cell? ⟨g,1,none⟩=some (.string q.tx))∧(D 14→zag x (q.M+1) (f 14) (q.ps++[(key q.i n,q.tx)]))) ∧
 (¬D 14→zag x (q.M+1) q.v q.ps)∧(¬D 16→MB x q.M q.bx q.v)∧(D 16→MB x q.M q.bx (f 14))
theorem zb0{q:Q}{D:Nat→Prop}{f:Nat→Value}{i:Nat}{y:Value}(h:∀j,D j→∀z,Vf q j=some z→f j=z)(hy:∀z,Vf q i=some z→y=z):∀j,(j=i∨D j)→∀z,Vf q j=some z→rs.upd f i y j=z:=by
 intro j hj z hz;by_cases e:j=i
 ·subst e;rw[rs.upd_same];exact hy z hz
 ·rw[rs.zad f i y e];exact h j (hj.resolve_left e) z hz
section
variable {q:Q}{D:Nat→Prop}{f:Nat→Value}{x x':World}{i:Nat}
theorem J.start(hf:Fx q x)(hs:Src x q.b q.a q.len q.cap q.at_ q.sd)(hr:zag x (q.M+1) q.v q.ps)(hm:MB x q.M q.bx q.v):J q (λ_=>False) f x :=
 ⟨λj hj=>hj.elim,hf,λ_=>hs,λd=>d.elim,λ_=>hr,λ_=>hm,λd=>d.elim⟩
theorem J.pure(y:Value)(h:J q D f x)(hp:Pl q)(hy:∀z,Vf q i=some z→y=z)(hi:i≠5∧i≠6∧i≠7∧i≠12∧i≠13∧i≠14∧i≠16)(hg:Below x.heap.size x x'):J q (λj=>j=i∨D j) (rs.upd f i y) x':=by
 obtain⟨i5,i6,i7,i12,i13,i14,i16⟩:=hi;obtain⟨hv,hf,h5,hd,h14,h16,h16'⟩:=h;have hgr:=grown_of hg;have nn:∀g:Nat,some g≠none:=λg e=>by cases e
 refine⟨zb0 hv hy,hf.step hp hgr (λk e=>by cases e),λn=>src_keep (h5 λd=>n (.inr d)) hgr (nn _),λd=>?_,λn=>zaF (h14 λd=>n (.inr d)) hgr (λk e=>by cases e),λn=>B6.grow (h16 λd=>n (.inr d)) hgr (nn _),λd=>?_⟩
 ·obtain⟨hl,n,n2,e5,e6,e7,e12,e13,e14⟩:=hd (d.resolve_left (Ne.symm i5));refine⟨hl.step hgr (nn _),n,n2,?_,λd=>?_,λd=>?_,λd=>?_,λd dn=>?_,λd=>?_⟩
  ·rw[rs.zad f i y (Ne.symm i5)];exact e5
  ·rw[rs.zad f i y (Ne.symm i6)];exact e6 (d.resolve_left (Ne.symm i6))
  ·rw[rs.zad f i y (Ne.symm i7)];exact e7 (d.resolve_left (Ne.symm i7))
  ·rw[rs.zad f i y (Ne.symm i12)];exact e12 (d.resolve_left (Ne.symm i12))
  ·rw[rs.zad f i y (Ne.symm i13)];obtain⟨g,e,c0,c1⟩:=e13 (d.resolve_left (Ne.symm i13)) (λd=>dn (.inr d));exact⟨g,e,(hg.cell (p:=⟨g,0,none⟩) (World.block_lt_of_cell? x _ c0)).trans c0,(hg.cell (p:=⟨g,1,none⟩) (World.block_lt_of_cell? x _ c1)).trans c1⟩
  ·rw[rs.zad f i y (Ne.symm i14)];exact zaF (e14 (d.resolve_left (Ne.symm i14))) hgr (λk e=>by cases e)
 ·rw[rs.zad f i y (Ne.symm i14)];exact B6.grow (h16' (d.resolve_left (Ne.symm i16))) hgr (nn _)
theorem J.next(n:Nat)(h:J q D f x)(hp:Pl q)(hi:i=5)(hn:¬D 5)(n6:¬D 6)(n7:¬D 7)(n12:¬D 12)(n13:¬D 13)(n14:¬D 14)(n16:¬D 16)(h2:n≤2)(hg:x.grownBy x' (some q.b))(hl:Later q x'):J q (λj=>j=i∨D j) (rs.upd f i (.int .i64 (n:Int))) x':=by
 subst hi;obtain⟨hv,hf,h5,hd,h14,h16,h16'⟩:=h;have p1:=hp.b0;have p2:=hp.m0;refine⟨zb0 hv (λz hz=>by cases hz),hf.step hp hg (λk e=>by cases e;exact .inl rfl),λn=>absurd (.inl rfl) n,λd=>⟨hl,n,h2,rs.upd_same _ _ _,λd=>absurd (d.resolve_left (by decide)) n6,λd=>absurd (d.resolve_left (by decide)) n7,λd=>absurd (d.resolve_left (by decide)) n12,λd=>absurd (d.resolve_left (by decide)) n13,λd=>absurd (d.resolve_left (by decide)) n14⟩,λ_=>zaF (h14 n14) hg (λk e=>by cases e;omega),λ_=>B6.grow (h16 n16) hg (λe=>by have:=Option.some.inj e;omega),λd=>absurd (d.resolve_left (by decide)) n16⟩
theorem J.told(y:Nat→Value)(h:J q D f x)(hp:Pl q)(hi:i=6∨i=7∨i=12)(d5:D 5)(hni:¬D i)(hg:Below x.heap.size x x')(hV:Vf q i=none)
  (n:Nat) (e5:f 5=.int .i64 (n:Int)) (h6:i=6→y n=.string ⟨(Lib.decDigits n).toArray⟩) (h7:i=7→y n=.string (key q.i n)) (h12:i=12→y n=.agg #[.string (key q.i n),.string q.tx]):J q (λj=>j=i∨D j) (rs.upd f i (y n)) x':=by
 obtain⟨hv,hf,h5,hd,h14,h16,h16'⟩:=h;have hgr:=grown_of hg;have nn:∀g:Nat,some g≠none:=λg e=>by cases e
 obtain⟨hl,m,n2,e5',e6,e7,e12,e13,e14⟩:=hd d5;obtain rfl:m=n:=by rw[e5] at e5';injection e5' with _ e;omega
 have j5:(5:Nat)≠i:=by omega
 have j13:(13:Nat)≠i:=by omega
 have j14:(14:Nat)≠i:=by omega
 have j16:(16:Nat)≠i:=by omega
 refine⟨zb0 hv (λz hz=>by rw[hV] at hz;cases hz),hf.step hp hgr (λk e=>by cases e),λn=>absurd (.inr d5) n,λd=>⟨hl.step hgr (nn _),m,n2,by rw[rs.zad _ _ _ j5];exact e5,λd=>?_,λd=>?_,λd=>?_,λd dn=>?_,λd=>?_⟩,λn=>zaF (h14 λd=>n (.inr d)) hgr (λk e=>by cases e),λn=>B6.grow (h16 λd=>n (.inr d)) hgr (nn _),λd=>?_⟩
 ·by_cases e:6=i
  ·rw[←e,rs.upd_same];exact h6 e.symm
  ·rw[rs.zad _ _ _ e];exact e6 (d.resolve_left e)
 ·by_cases e:7=i
  ·rw[←e,rs.upd_same];exact h7 e.symm
  ·rw[rs.zad _ _ _ e];exact e7 (d.resolve_left e)
 ·by_cases e:12=i
  ·rw[←e,rs.upd_same];exact h12 e.symm
  ·rw[rs.zad _ _ _ e];exact e12 (d.resolve_left e)
 ·rw[rs.zad _ _ _ j13];obtain⟨g,e,c0,c1⟩:=e13 (d.resolve_left j13) (λd=>dn (.inr d));exact⟨g,e,(hg.cell (p:=⟨g,0,none⟩) (World.block_lt_of_cell? x _ c0)).trans c0,(hg.cell (p:=⟨g,1,none⟩) (World.block_lt_of_cell? x _ c1)).trans c1⟩
 ·rw[rs.zad _ _ _ j14];exact zaF (e14 (d.resolve_left j14)) hgr (λk e=>by cases e)
 ·rw[rs.zad _ _ _ j14];exact B6.grow (h16' (d.resolve_left j16)) hgr (nn _)
theorem J.build(g:Nat)(h:J q D f x)(hp:Pl q)(hi:i=13)(d5:D 5)(n14:¬D 14)(n16:¬D 16)(hg:Below x.heap.size x x')(n:Nat)(e5:f 5=.int .i64 (n:Int))(c0:x'.cell? ⟨g,0,none⟩=some (.string (key q.i n)))(c1:x'.cell? ⟨g,1,none⟩=some (.string q.tx)):J q (λj=>j=i∨D j) (rs.upd f i (.slice (some ⟨g,0,none⟩) 1 1)) x':=by
 subst hi;obtain⟨hv,hf,h5,hd,h14,h16,h16'⟩:=h;have hgr:=grown_of hg;have nn:∀g:Nat,some g≠none:=λg e=>by cases e
 obtain⟨hl,m,n2,e5',e6,e7,e12,e13,e14⟩:=hd d5;obtain rfl:m=n:=by rw[e5] at e5';injection e5' with _ e;omega
 refine⟨zb0 hv (λz hz=>by cases hz),hf.step hp hgr (λk e=>by cases e),λn=>absurd (.inr d5) n,λd=>⟨hl.step hgr (nn _),m,n2,by rw[rs.zad _ _ _ (by decide)];exact e5,λd=>?_,λd=>?_,λd=>?_,λ_ _=>⟨g,rs.upd_same _ _ _,c0,c1⟩,λd=>absurd (d.resolve_left (by decide)) n14⟩,λ_=>zaF (h14 n14) hgr (λk e=>by cases e),λ_=>B6.grow (h16 n16) hgr (nn _),λd=>absurd (d.resolve_left (by decide)) n16⟩
 ·rw[rs.zad _ _ _ (by decide)];exact e6 (d.resolve_left (by decide))
 ·rw[rs.zad _ _ _ (by decide)];exact e7 (d.resolve_left (by decide))
 ·rw[rs.zad _ _ _ (by decide)];exact e12 (d.resolve_left (by decide))
theorem J.app(v':Value)(h:J q D f x)(hp:Pl q)(hE:zag x (q.M+1) q.v q.ps→q.v.ownBlock≠some q.E)(hi:i=14)(d5:D 5)(n14:¬D 14)(n16:¬D 16)(n:Nat)(e5:f 5=.int .i64 (n:Int))(ho:x'.ownsRow (q.M+1) 103 2 v' (q.ps.length+1) (zaw q.ps++[.string (key q.i n),.string q.tx]))(hg:x.grownBy x' q.v.ownBlock):J q (λj=>j=i∨D j) (rs.upd f i v') x':=by
 subst hi;obtain⟨hv,hf,h5,hd,h14,h16,h16'⟩:=h;obtain⟨hl,m,n2,e5',e6,e7,e12,e13,e14⟩:=hd d5;obtain rfl:m=n:=by rw[e5] at e5';injection e5' with _ e;omega
 have hr:=h14 n14;have hne:=hE hr;have off:∀k,q.v.ownBlock=some k→q.M+1≤k∧k≠q.E:=λk e=>⟨(hr.lt k e).1,λe2=>hne (by rw[e,e2])⟩
 have p1:=hp.b0;have p2:=hp.m0;refine⟨zb0 hv (λz hz=>by cases hz),hf.step hp hg (λk e=>by have:=off k e;exact .inr (.inr ⟨by omega,this.2⟩)),λn=>absurd (.inr d5) n,λd=>⟨hl.step hg (λe=>by have:=off _ e.symm;omega),m,n2,by rw[rs.zad _ _ _ (by decide)];exact e5,λd=>?_,λd=>?_,λd=>?_,λ_ dn=>absurd (.inl rfl) dn,λ_=>?_⟩,λn=>absurd (.inl rfl) n,λ_=>B6.grow (h16 n16) hg (λe=>by have:=off _ e.symm;omega),λd=>absurd (d.resolve_left (by decide)) n16⟩
 ·rw[rs.zad _ _ _ (by decide)];exact e6 (d.resolve_left (by decide))
 ·rw[rs.zad _ _ _ (by decide)];exact e7 (d.resolve_left (by decide))
 ·rw[rs.zad _ _ _ (by decide)];exact e12 (d.resolve_left (by decide))
 ·rw[rs.upd_same];unfold zag;rw[zc5,List.length_append];exact ho
theorem J.store(y:Value)(h:J q D f x)(hp:Pl q)(hi:i=16)(d5:D 5)(d14:D 14)(n16:¬D 16):J q (λj=>j=i∨D j) (rs.upd f i y) (x.setCell ⟨q.M,5,none⟩ (f 14)):=by
 subst hi;obtain⟨hv,hf,h5,hd,h14,h16,h16'⟩:=h;obtain⟨hl,m,n2,e5',e6,e7,e12,e13,e14⟩:=hd d5;have hg:=sr.zam x q.M 5 (f 14);have p1:=hp.b0;have p2:=hp.m0;have hm:=h16 n16;refine⟨zb0 hv (λz hz=>by cases hz),hf.step hp hg (λk e=>by cases e;exact .inr (.inl rfl)),λn=>absurd (.inr d5) n,λd=>⟨hl.step hg (λe=>by have:=Option.some.inj e;omega),m,n2,by rw[rs.zad _ _ _ (by decide)];exact e5',λd=>?_,λd=>?_,λd=>?_,λ_ dn=>absurd (.inr d14) dn,λ_=>?_⟩,λn=>absurd (.inr d14) n,λn=>absurd (.inl rfl) n,λ_=>?_⟩
 ·rw[rs.zad _ _ _ (by decide)];exact e6 (d.resolve_left (by decide))
 ·rw[rs.zad _ _ _ (by decide)];exact e7 (d.resolve_left (by decide))
 ·rw[rs.zad _ _ _ (by decide)];exact e12 (d.resolve_left (by decide))
 ·rw[rs.zad _ _ _ (by decide)];exact zaF (e14 d14) hg (λk e=>by cases e;omega)
 ·rw[rs.zad _ _ _ (by decide)];exact B6.put5 hm _
end
end dm
end Go.Proofs.YtmnflpmfngjllaaGreatDoor
