/-
  FnReplayCardSaid
-/
import Derived.Lib.Fields
import Derived.Lib.FieldsLaws
import Derived.Test.YtmnflpmfngjllaaGreatDoorPkbn
import Derived.Lib.IndexMore
import Derived.Lib.IndexLaws
set_option maxHeartbeats 16000000
set_option maxRecDepth 100000
set_option linter.unusedVariables false
namespace Go.Proofs.YtmnflpmfngjllaaGreatDoor
namespace b6
def alpha:List UInt8:=[65,66,67,68,69,70,71,72,73,74,75,76,77,78,79,80,81,82,83,84,85,86,87,88,89,90,97,98,99,100,101,102,103,104,105,106,107,108,109,110,111,112,113,114,115,116,117,118,119,120,121,122,48,49,50,51,52,53,54,55,56,57,43,47]
def vals:List Int:=[(-1),(-1),(-1),(-1),(-1),(-1),(-1),(-1),(-1),(-1),(-1),(-1),(-1),(-1),(-1),(-1),(-1),(-1),(-1),(-1),(-1),(-1),(-1),(-1),(-1),(-1),(-1),(-1),(-1),(-1),(-1),(-1),(-1),(-1),(-1),(-1),(-1),(-1),(-1),(-1),(-1),(-1),(-1),62,(-1),(-1),(-1),63,52,53,54,55,56,57,58,59,60,61,(-1),(-1),(-1),(-1),(-1),(-1),(-1),0,1,2,3,4,5,6,7,8,9,10,11,12,13,14,15,16,17,18,19,20,21,22,23,24,25,(-1),(-1),(-1),(-1),(-1),(-1),26,27,28,29,30,31,32,33,34,35,36,37,38,39,40,41,42,43,44,45,46,47,48,49,50,51,(-1),(-1),(-1),(-1),(-1)]
def L(n:Nat):UInt8:=alpha.getD n 0
def V(c:UInt8):Int:=vals.getD c.toNat (-1)
theorem V_L_all:∀n:Fin 64,V (L n.val)=(n.val:Int):=by decide +kernel
theorem V_L(n:Nat)(h:n<64):V (L n)=(n:Int):=V_L_all ⟨n,h⟩
theorem byte_all{p:UInt8→Prop}(h:∀n:Fin 256,p (UInt8.ofNat n.val))(c:UInt8):p c:=by
 have:=h ⟨c.toNat,c.toNat_lt⟩;simpa using this
theorem L_ne_pad_all:∀n:Fin 64,L n.val≠61:=by decide +kernel
theorem L_ne_pad(n:Nat)(h:n<64):L n≠61:=L_ne_pad_all ⟨n,h⟩
def enc:List UInt8→List UInt8
 | []=>[]
 | [a]=>[L (a.toNat / 4),L (a.toNat % 4*16),61,61]
 | [a,b]=>[L (a.toNat / 4),L (a.toNat % 4*16+b.toNat / 16),L (b.toNat % 16*4),61]
 | a::b::c::r=>L (a.toNat / 4)::L (a.toNat % 4*16+b.toNat / 16)::L (b.toNat % 16*4+c.toNat / 64)::L (c.toNat % 64)::enc r
theorem enc_len:∀(n:Nat) (l:List UInt8),l.length≤n→(enc l).length=(l.length+2) / 3*4:=by
 intro n
 induction n with
 | zero =>
  intro l h;obtain rfl:l=[]:=List.eq_nil_of_length_eq_zero (by omega);rfl
 | succ n ih =>
  intro l h
  match l,h with
  | [],_=>rfl
  | [a],_=>simp[enc]
  | [a,b],_=>simp[enc]
  | a::b::c::r,h =>
   have:=ih r (by simp at h;omega);simp only[enc,List.length_cons,this];omega
theorem zc0(l:List UInt8):(enc l).length=(l.length+2) / 3*4:=enc_len l.length l lR
def num(a b c d:UInt8):Nat:=(((V a).toNat*64+(V b).toNat)*64+(V c).toNat)*64+(V d).toNat
def by2(n:Nat):UInt8:=UInt8.ofNat (n / 65536)
def by1(n:Nat):UInt8:=UInt8.ofNat (n / 256)
def by0(n:Nat):UInt8:=UInt8.ofNat n
def dec:List UInt8→Option (List UInt8)
 | a::b::c::d::r =>
  if V a<0∨V b<0 then none
  else if r=[]∧c=61∧d=61 then(if(V b).toNat % 16=0 then some [by2 (num a b 65 65)] else none)
  else if V c<0 then none
  else if r=[]∧d=61 then(if(V c).toNat % 4=0 then some [by2 (num a b c 65),by1 (num a b c 65)] else none)
  else if V d<0 then none
  else(dec r).map λx=>by2 (num a b c d)::by1 (num a b c d)::by0 (num a b c d)::x
 | []=>some []
 | _=>none
theorem VA:V 65=0:=by decide +kernel
theorem dec_enc_n:∀(n:Nat) (l:List UInt8),l.length≤n→dec (enc l)=some l:=by
 intro n
 induction n with
 | zero =>
  intro l h;obtain rfl:l=[]:=List.eq_nil_of_length_eq_zero (by omega);rfl
 | succ n ih =>
  intro l h
  match l,h with
  | [],_=>rfl
  | [a],_ =>
   have ha:=a.toNat_lt;have e1:=V_L (a.toNat / 4) (by omega);have e2:=V_L (a.toNat % 4*16) (by omega);simp only[enc,dec];rw[if_neg (by rw[e1,e2];omega),if_pos (by simp),if_pos (by rw[e2];omega)]
   congr 2
   apply UInt8.toNat_inj.1;simp only[by2,num,e1,e2,VA,UInt8.toNat_ofNat',Int.toNat_natCast,Int.toNat_zero];omega
  | [a,b],_ =>
   have ha:=a.toNat_lt;have hb:=b.toNat_lt;have e1:=V_L (a.toNat / 4) (by omega);have e2:=V_L (a.toNat % 4*16+b.toNat / 16) (by omega);have e3:=V_L (b.toNat % 16*4) (by omega);simp only[enc,dec];rw[if_neg (by rw[e1,e2];omega),if_neg (λh=>L_ne_pad _ (by omega) h.2.1),if_neg (by rw[e3];omega),if_pos (by simp),if_pos (by rw[e3];omega)]
   congr 2
   ·apply UInt8.toNat_inj.1;simp only[by2,num,e1,e2,e3,VA,UInt8.toNat_ofNat',Int.toNat_natCast,Int.toNat_zero];omega
   ·congr 1
    apply UInt8.toNat_inj.1;simp only[by1,num,e1,e2,e3,VA,UInt8.toNat_ofNat',Int.toNat_natCast,Int.toNat_zero];omega
  | a::b::c::r,h =>
   have ha:=a.toNat_lt;have hb:=b.toNat_lt;have hc:=c.toNat_lt;have e1:=V_L (a.toNat / 4) (by omega);have e2:=V_L (a.toNat % 4*16+b.toNat / 16) (by omega);have e3:=V_L (b.toNat % 16*4+c.toNat / 64) (by omega);have e4:=V_L (c.toNat % 64) (by omega);simp only[enc,dec];rw[if_neg (by rw[e1,e2];omega),if_neg (λh=>L_ne_pad _ (by omega) h.2.1),if_neg (by rw[e3];omega),if_neg (λh=>L_ne_pad _ (by omega) h.2),if_neg (by rw[e4];omega),ih r (by simp at h;omega)];simp only[Option.map_some]
   congr 2
   ·apply UInt8.toNat_inj.1;simp only[by2,num,e1,e2,e3,e4,UInt8.toNat_ofNat',Int.toNat_natCast];omega
   ·congr 1
    ·apply UInt8.toNat_inj.1;simp only[by1,num,e1,e2,e3,e4,UInt8.toNat_ofNat',Int.toNat_natCast];omega
    ·congr 1
     apply UInt8.toNat_inj.1;simp only[by0,num,e1,e2,e3,e4,UInt8.toNat_ofNat',Int.toNat_natCast];omega
theorem dec_enc(l:List UInt8):dec (enc l)=some l:=dec_enc_n l.length l lR
end b6
namespace hd
open Go
def step(o:Option Nat)(c:UInt8):Option Nat:=o.bind λw =>
 if c.toNat<32∨126<c.toNat then none else if c.toNat=32 then(if w=0 then none else some 0) else if 200≤w then none else some (w+1)
def wid(l:List UInt8):Option Nat:=l.foldl step (some 0)
def Safe(l:List UInt8):Prop:=l.length≤2000∧(l=[]∨∃w,wid l=some w∧0<w)
theorem fold_none:∀l:List UInt8,l.foldl step none=none
 | []=>rfl
 | c::l=>by rw[List.foldl_cons];exact fold_none l
theorem wid_snoc(l:List UInt8)(c:UInt8):wid (l++[c])=step (wid l) c:=by simp[wid]
theorem take_snoc(s:ByteArray)(k:Nat)(h:k<s.size):s.data.toList.take (k+1)=s.data.toList.take k++[s[k]]:=by
 rw[List.take_succ_eq_append_getElem (by simpa using h)];rfl
theorem wid_at(s:ByteArray)(k:Nat)(h:k<s.size):wid (s.data.toList.take (k+1))=step (wid (s.data.toList.take k)) s[k]:=by
 rw[take_snoc s k h,wid_snoc]
theorem take_all(s:ByteArray)(k:Nat)(h:s.size≤k):s.data.toList.take k=s.data.toList:=List.take_of_length_le (by rw[←Lib.size_eq];exact h)
theorem bad_at{s:ByteArray}{k w:Nat}(h:k<s.size)(hw:wid (s.data.toList.take k)=some w)(hb:step (some w) s[k]=none):¬Safe s.data.toList:=by
 rintro⟨_,h0|⟨w',hw',_⟩⟩
 ·have:s.size=0:=by rw[Lib.size_eq,h0];rfl
  omega
 ·have e:wid s.data.toList=(s.data.toList.drop (k+1)).foldl step (wid (s.data.toList.take (k+1))):=by
   unfold wid;rw[←List.foldl_append,List.take_append_drop]
  rw[wid_at s k h,hw,hb,fold_none] at e;rw[e] at hw';cases hw'
theorem big{s:ByteArray}(h:2000<s.size):¬Safe s.data.toList:=λx=>by have:=x.1;rw[←Lib.size_eq] at this;omega
theorem good{s:ByteArray}{w:Nat}(h:s.size≤2000)(hw:wid s.data.toList=some w)(hp:s.size=0∨0<w):Safe s.data.toList:=by
 refine⟨by rw[←Lib.size_eq];exact h,?_⟩
 rcases hp with h0|h0
 ·exact .inl (List.eq_nil_of_length_eq_zero (by rw[←Lib.size_eq];exact h0))
 ·exact .inr ⟨w,hw,h0⟩
theorem endBad{s:ByteArray}(h0:s.size≠0)(hw:wid s.data.toList=some 0):¬Safe s.data.toList:=by
 rintro⟨_,h1|⟨w',hw',h1⟩⟩
 ·have:s.size=0:=by rw[Lib.size_eq,h1];rfl
  omega
 ·rw[hw] at hw';cases hw';omega
theorem st_bad{c:UInt8}{w:Nat}(h:(c.toNat:Int)<32∨126<(c.toNat:Int)):step (some w) c=none:=by
 show(if c.toNat<32∨126<c.toNat then none else _)=none;rw[if_pos (by omega)]
theorem st_sp0{c:UInt8}(h:(c.toNat:Int)=32):step (some 0) c=none:=by
 show(if c.toNat<32∨126<c.toNat then none else if c.toNat=32 then(if(0:Nat)=0 then none else some 0) else _)=none;rw[if_neg (by omega),if_pos (by omega),if_pos rfl]
theorem st_sp{c:UInt8}{w:Nat}(h:(c.toNat:Int)=32)(hw:w≠0):step (some w) c=some 0:=by
 show(if c.toNat<32∨126<c.toNat then none else if c.toNat=32 then(if w=0 then none else some 0) else _)=some 0;rw[if_neg (by omega),if_pos (by omega),if_neg hw]
theorem st_ch{c:UInt8}{w:Nat}(h1:32≤(c.toNat:Int))(h2:(c.toNat:Int)≤126)(h3:(c.toNat:Int)≠32)(hw:w<200):step (some w) c=some (w+1):=by
 show(if c.toNat<32∨126<c.toNat then none else if c.toNat=32 then(if w=0 then none else some 0) else if 200≤w then none else some (w+1))=some (w+1);rw[if_neg (by omega),if_neg (by omega),if_neg (by omega)]
theorem st_long{c:UInt8}{w:Nat}(h3:(c.toNat:Int)≠32)(hw:200≤w):step (some w) c=none:=by
 show(if c.toNat<32∨126<c.toNat then none else if c.toNat=32 then(if w=0 then none else some 0) else if 200≤w then none else some (w+1))=none
 split
 ·rfl
 ·rw[if_neg (by omega)]
theorem wid_le(l:List UInt8):∀w w',w≤200→l.foldl step (some w)=some w'→w'≤200:=by
 induction l with
 | nil=>intro w w' h e;cases e;exact h
 | cons c l ih =>
  intro w w' h e;rw[List.foldl_cons] at e
  cases hs:step (some w) c with
  | none=>rw[hs,fold_none] at e;cases e
  | some v =>
   rw[hs] at e;refine ih v w' ?_ e;have:(if c.toNat<32∨126<c.toNat then none else if c.toNat=32 then(if w=0 then none else some 0) else if 200≤w then none else some (w+1))=some v:=hs
   split at this
   ·cases this
   ·split at this
    ·split at this
     ·cases this
     ·cases this;omega
    ·split at this
     ·cases this
     ·cases this;omega
theorem width_le{l:List UInt8}{w:Nat}(h:wid l=some w):w≤200:=wid_le l 0 w (by omega) h
def cutGo:List UInt8→List UInt8→List (List UInt8)
 | cur,[]=>[cur]
 | cur,b::l=>if b.toNat=32 then cur::cutGo [] l else cutGo (cur++[b]) l
def foldGo:Bool→Nat→List (List UInt8)→List UInt8
 | _,_,[]=>[]
 | first,width,x::r=>if first=false∧78<width+1+x.length then[13,10,32]++x++foldGo false (1+x.length) r else[32]++x++foldGo false (width+1+x.length) r
def foldL(name value:List UInt8):List UInt8:=name++[58]++foldGo true (name.length+1) (cutGo [] value)++[13,10]
theorem foldGo_yes{width:Nat}{x:List UInt8}(r:List (List UInt8))(h:78<width+1+x.length):foldGo false width (x::r)=[13,10,32]++x++foldGo false (1+x.length) r:=by
 rw[foldGo,if_pos ⟨rfl,h⟩]
theorem foldGo_no{first:Bool}{width:Nat}{x:List UInt8}(r:List (List UInt8))(h:first=true∨width+1+x.length≤78):foldGo first width (x::r)=[32]++x++foldGo false (width+1+x.length) r:=by
 rw[foldGo,if_neg];rintro⟨h1,h2⟩
 rcases h with h|h
 ·rw[h] at h1;cases h1
 ·omega
theorem zcZ:∀(l cur:List UInt8),((cutGo cur l).map List.length).sum+(cutGo cur l).length=cur.length+l.length+1
 | [],cur=>by simp[cutGo]
 | b::l,cur=>by
  rw[cutGo]
  split
  ·have:=zcZ l [];simp at this ⊢;omega
  ·have:=zcZ l (cur++[b]);simp at this ⊢;omega
theorem cutGo_mem:∀(l cur x:List UInt8),x∈cutGo cur l→x.length≤cur.length+l.length
 | [],cur,x,h=>by simp[cutGo] at h;subst h;simp
 | b::l,cur,x,h=>by
  rw[cutGo] at h
  split at h
  ·rcases List.mem_cons.1 h with rfl|h
   ·simp
   ·have:=cutGo_mem l [] x h;simp at this ⊢;omega
  ·have:=cutGo_mem l (cur++[b]) x h;simp at this ⊢;omega
end hd
namespace hd
open Go
def head:List UInt8:=[61,63,117,116,102,45,56,63,66,63]
def tail:List UInt8:=[63,61]
def zaB(l:List UInt8):List UInt8:=head++b6.enc l++tail
def sep(out:List UInt8):List UInt8:=if out=[] then[] else[32]
def Ends:Nat→ByteArray→List UInt8→List UInt8→Prop
 | 0,t,out,r=>t.size=0∧r=out
 | n+1,t,out,r=>(t.size=0∧r=out)∨(t.size≠0∧∃k,ut.CutAt t 45 k∧Ends n (t.extract k t.size) (out++sep out++zaB (t.extract 0 k).data.toList) r)
def EndsAny(t:ByteArray)(out r:List UInt8):Prop:=∃n,Ends n t out r
theorem ends_nil{t:ByteArray}(out:List UInt8)(h:t.size=0):EndsAny t out out:=⟨0,h,rfl⟩
theorem ends_step{t:ByteArray}{out r:List UInt8}{k:Nat}(h:t.size≠0)(hk:ut.CutAt t 45 k)(he:EndsAny (t.extract k t.size) (out++sep out++zaB (t.extract 0 k).data.toList) r):EndsAny t out r:=by
 obtain⟨n,hn⟩:=he;exact⟨n+1,.inr ⟨h,k,hk,hn⟩⟩
def Coded(x y:List UInt8):Prop:=Lib.hasPrefix x head=true∧Lib.hasSuffix (x.drop 10) tail=true∧b6.dec ((x.drop 10).take ((x.drop 10).length-2))=some y∧y≠[]∧ut.Right ⟨y.toArray⟩
theorem coded_one{x y y':List UInt8}(h:Coded x y)(h':Coded x y'):y=y':=by
 have:=h.2.2.1.symm.trans h'.2.2.1;cases this;rfl
def Dec:Bool→Bool→List (List UInt8)→List UInt8→Prop
 | _,_,[],out=>out=[]
 | f,was,x::r,out=>(∃y o,Coded x y∧Dec false true r o∧out=(if f||was then[] else[32])++y++o)∨((∀y,¬Coded x y)∧∃o,Dec false false r o∧out=(if f then[] else[32])++x++o)
theorem dec_one:∀(ws:List (List UInt8)) (f was:Bool) (o o':List UInt8),Dec f was ws o→Dec f was ws o'→o=o'
 | [],f,was,o,o',h,h'=>by rw[show o=[] from h,show o'=[] from h']
 | x::r,f,was,o,o',h,h'=>by
  rcases h with⟨y,p,hc,hd,rfl⟩|⟨hc,p,hd,rfl⟩
  ·rcases h' with⟨y',p',hc',hd',rfl⟩|⟨hc',_⟩
   ·rw[coded_one hc hc',dec_one r false true p p' hd hd']
   ·exact absurd hc (hc' y)
  ·rcases h' with⟨y',p',hc',hd',rfl⟩|⟨hc',p',hd',rfl⟩
   ·exact absurd hc' (hc y')
   ·rw[dec_one r false false p p' hd hd']
theorem dec_code{f was:Bool}{x y:List UInt8}{r:List (List UInt8)}{o:List UInt8}(h:Coded x y)(hd:Dec false true r o):Dec f was (x::r) ((if f||was then[] else[32])++y++o):=.inl ⟨y,o,h,hd,rfl⟩
theorem index_no:∀(l sub:List UInt8),sub≠[]→Lib.index l sub=-1→∀j,Lib.occAt l sub j=false
 | [],sub,hs,h,j=>by
  unfold Lib.occAt;rw[List.drop_nil]
  cases sub with
  | nil=>exact absurd rfl hs
  | cons a b=>rfl
 | b::l,sub,hs,h,j=>by
  rw[Lib.index] at h
  split at h
  ·cases h
  ·rename_i h0
   split at h
   ·rename_i h1;have ih:=index_no l sub hs (by simpa using h1)
    cases j with
    | zero=>unfold Lib.occAt;rw[List.drop_zero];exact Bool.eq_false_iff.2 h0
    | succ j=>exact ih j
   ·rename_i h1;have:=Lib.index_ge l sub;have h2:Lib.index l sub≠-1:=by simpa using h1
    omega
def sign:List UInt8:=[61,63]
theorem occ_sign(l:List UInt8)(j:Nat):Lib.occAt l sign j=true↔l[j]?=some 61∧l[j+1]?=some 63:=by
 unfold Lib.occAt sign;rw[show l[j]?=(l.drop j)[0]? from by simp,show l[j+1]?=(l.drop j)[1]? from by simp]
 match l.drop j with
 | []=>simp
 | [a]=>simp
 | a::b::r =>
  simp only[List.isPrefixOf,List.getElem?_cons_zero,List.getElem?_cons_succ,Bool.and_true,Bool.and_eq_true,beq_iff_eq,Option.some.injEq];exact⟨λh=>⟨h.1.symm,h.2.symm⟩,λh=>⟨h.1.symm,h.2.symm⟩⟩
theorem contains_iff(l:List UInt8):Lib.contains l sign=true↔∃j:Nat,l[j]?=some 61∧l[j+1]?=some 63:=by
 unfold Lib.contains;rw[decide_eq_true_iff];constructor
 ·intro h;by_cases hx:∃j:Nat,l[j]?=some 61∧l[j+1]?=some 63
  ·exact hx
  ·have:Lib.index l sign=-1:=Lib.index_none (λj _=>by
    cases ho:Lib.occAt l sign j with
    | false=>rfl
    | true=>exact absurd ⟨j,(occ_sign l j).1 ho⟩ hx)
   omega
 ·rintro⟨j,hj⟩;have h1:=Lib.index_ge l sign;by_cases h2:Lib.index l sign=-1
  ·have:=index_no l sign (by simp[sign]) h2 j;rw[(occ_sign l j).2 hj] at this;cases this
  ·omega
def Plain(l:List UInt8):Prop:=Safe l∧Lib.contains l sign=false
end hd
namespace ut
open Go.RowKit
theorem F_wide1(n k b0 b1 b2 b3:Nat):1≤(decF n k b0 b1 b2 b3).2:=by
 unfold decF
 repeat' split
 all_goals simp
theorem pos_up(s:ByteArray)(n:Nat):pos s n<pos s (n+1):=by
 have:1≤(Utf8.decode s (pos s n)).2:=by rw[zaJ];exact F_wide1 _ _ _ _ _ _
 simp only[pos];omega
theorem pos_lt(s:ByteArray){a b:Nat}(h:a<b):pos s a<pos s b:=by
 have h1:=zb8 s (a+1) (b-(a+1));rw[show a+1+(b-(a+1))=b from by omega] at h1;have:=pos_up s a;omega
theorem pos_ge(s:ByteArray)(n:Nat):n≤pos s n:=by
 induction n with
 | zero=>exact Nat.zero_le _
 | succ n ih=>have:=pos_up s n;omega
def runesL(s:ByteArray):Nat→List Int
 | 0=>[]
 | n+1=>runesL s n++[((Utf8.decode s (pos s n)).1:Int)]
def piece(s:ByteArray)(k:Nat):List UInt8:=if Utf8.decode s k=(65533,1) then[239,191,189] else(s.extract k (k+(Utf8.decode s k).2)).data.toList
def fixL(s:ByteArray):Nat→List UInt8
 | 0=>[]
 | n+1=>fixL s n++piece s (pos s n)
theorem piece_bad{s:ByteArray}{k:Nat}(h:zaq s k):piece s k=[239,191,189]:=by rw[zaq] at h;unfold piece;rw[if_pos h]
theorem piece_good{s:ByteArray}{k:Nat}(h:¬zaq s k):piece s k=(s.extract k (k+(Utf8.decode s k).2)).data.toList:=by rw[zaq] at h;unfold piece;rw[if_neg h]
theorem zdi(c:Nat):Utf8.valid (c:Int)=true↔c<55296∨(57344≤c∧c≤1114111):=by simp[Utf8.valid];omega
theorem enc1{c:Nat}(h:c<128):(Utf8.encode (c:Int)).data.toList=[UInt8.ofNat c]:=by
 have hv:=(zdi c).2 (by omega);simp only[Utf8.encode,hv,if_true,Int.toNat_natCast];rw[if_pos h]
theorem enc2{c:Nat}(h:128≤c)(h':c<2048):(Utf8.encode (c:Int)).data.toList=[UInt8.ofNat (192+c / 64),UInt8.ofNat (128+c % 64)]:=by
 have hv:=(zdi c).2 (by omega);simp only[Utf8.encode,hv,if_true,Int.toNat_natCast];rw[if_neg (by omega),if_pos h']
theorem enc3{c:Nat}(h:2048≤c)(h':c<65536)(hv:Utf8.valid (c:Int)=true):(Utf8.encode (c:Int)).data.toList=[UInt8.ofNat (224+c / 4096),UInt8.ofNat (128+c / 64 % 64),UInt8.ofNat (128+c % 64)]:=by
 simp only[Utf8.encode,hv,if_true,Int.toNat_natCast];rw[if_neg (by omega),if_neg (by omega),if_pos h']
theorem enc4{c:Nat}(h:65536≤c)(hv:Utf8.valid (c:Int)=true):(Utf8.encode (c:Int)).data.toList=[UInt8.ofNat (240+c / 262144),UInt8.ofNat (128+c / 4096 % 64),UInt8.ofNat (128+c / 64 % 64),UInt8.ofNat (128+c % 64)]:=by
 simp only[Utf8.encode,hv,if_true,Int.toNat_natCast];rw[if_neg (by omega),if_neg (by omega),if_neg (by omega)]
theorem zbH{b:UInt8}{x:Nat}(h:x=b.toNat):UInt8.ofNat x=b:=by rw[h];exact UInt8.ofNat_toNat
theorem ext1(s:ByteArray)(k:Nat)(h:k<s.size):(s.extract k (k+1)).data.toList=[s.get! k]:=by
 rw[Lib.extract_data,zar s k h];have hl:=(Lib.size_eq s).symm;rw[List.drop_eq_getElem_cons (by omega),show k+1-k=1 from by omega];rfl
theorem ext2(s:ByteArray)(k:Nat)(h:k+1<s.size):(s.extract k (k+2)).data.toList=[s.get! k,s.get! (k+1)]:=by
 rw[Lib.extract_data,zar s k (by omega),zar s (k+1) h];have hl:=(Lib.size_eq s).symm;rw[List.drop_eq_getElem_cons (by omega),List.drop_eq_getElem_cons (by omega),show k+2-k=2 from by omega];rfl
theorem ext3(s:ByteArray)(k:Nat)(h:k+2<s.size):(s.extract k (k+3)).data.toList=[s.get! k,s.get! (k+1),s.get! (k+2)]:=by
 rw[Lib.extract_data,zar s k (by omega),zar s (k+1) (by omega),zar s (k+2) h];have hl:=(Lib.size_eq s).symm;rw[List.drop_eq_getElem_cons (by omega),List.drop_eq_getElem_cons (by omega),List.drop_eq_getElem_cons (by omega),show k+3-k=3 from by omega];rfl
theorem ext4(s:ByteArray)(k:Nat)(h:k+3<s.size):(s.extract k (k+4)).data.toList=[s.get! k,s.get! (k+1),s.get! (k+2),s.get! (k+3)]:=by
 rw[Lib.extract_data,zar s k (by omega),zar s (k+1) (by omega),zar s (k+2) (by omega),zar s (k+3) h];have hl:=(Lib.size_eq s).symm;rw[List.drop_eq_getElem_cons (by omega),List.drop_eq_getElem_cons (by omega),List.drop_eq_getElem_cons (by omega),List.drop_eq_getElem_cons (by omega),show k+4-k=4 from by omega];rfl
theorem enc_piece(s:ByteArray)(k:Nat)(hk:k<s.size):(Utf8.encode ((Utf8.decode s k).1:Int)).data.toList=piece s k:=by
 have u0:=UInt8.toNat_lt (s.get! k);have u1:=UInt8.toNat_lt (s.get! (k+1));have u2:=UInt8.toNat_lt (s.get! (k+2));have u3:=UInt8.toNat_lt (s.get! (k+3));by_cases hb:zaq s k
 ·rw[piece_bad hb,bad_rune hb];rfl
 rw[piece_good hb];rw[zaq] at hb;have e:=zaJ s k
 revert e hb
 generalize Utf8.decode s k=d;unfold decF
 split
 ·rename_i g;rintro hb rfl;rw[enc1 g,ext1 s k hk,zbH rfl]
 split
 ·rename_i g0 g;simp at g
  split
  ·rename_i g2;rintro hb rfl;rw[enc2 g2 (by omega),ext2 s k (by omega),zbH (b:=s.get! k) (by omega),zbH (b:=s.get! (k+1)) (by omega)]
  ·rintro hb rfl;exact absurd rfl hb
 split
 ·rename_i g0 g1 g;simp at g
  split
  ·rename_i g2;simp only[Bool.and_eq_true,decide_eq_true_eq] at g2;rintro hb rfl;rw[enc3 g2.1 (by omega) g2.2,ext3 s k (by omega),zbH (b:=s.get! k) (by omega),zbH (b:=s.get! (k+1)) (by omega),zbH (b:=s.get! (k+2)) (by omega)]
  ·rintro hb rfl;exact absurd rfl hb
 split
 ·rename_i g0 g1 g3 g;simp at g
  split
  ·rename_i g2;simp only[Bool.and_eq_true,decide_eq_true_eq] at g2;rintro hb rfl;rw[enc4 g2.1 g2.2,ext4 s k (by omega),zbH (b:=s.get! k) (by omega),zbH (b:=s.get! (k+1)) (by omega),zbH (b:=s.get! (k+2)) (by omega),zbH (b:=s.get! (k+3)) (by omega)]
  ·rintro hb rfl;exact absurd rfl hb
 ·rintro hb rfl;exact absurd rfl hb
theorem runesBytes_snoc(l:List Int)(r:Int):runesBytes (l++[r])=runesBytes l++Utf8.encode r:=by simp[runesBytes]
theorem zcX{a b:ByteArray}(h:a.data.toList=b.data.toList):a=b:=by
 rw[←Lib.mk_data a,←Lib.mk_data b,h]
theorem runes_fix(s:ByteArray)(n:Nat)(h:∀m,m<n→pos s m<s.size):(runesBytes (runesL s n)).data.toList=fixL s n:=by
 induction n with
 | zero=>rfl
 | succ n ih =>
  rw[runesL,runesBytes_snoc,fixL,←enc_piece s (pos s n) (h n (by omega)),←ih (λm hm=>h m (by omega))];rw[ByteArray.data_append,Array.toList_append]
end ut
namespace ut
open Go.RowKit
end ut
namespace ut
open Go.RowKit
def cellsOf(l:List UInt8):List Value:=l.map λb=>Value.int .u8 (b.toNat:Int)
def encB(r:Int):List UInt8:=(Utf8.encode r).data.toList
theorem sc_valid{c:Nat}(h:scB (c:Int)=true):Utf8.valid (c:Int)=true:=by
 rw[zdi];simp[scB,inB] at h;omega
theorem flat_runes(zs:List Int):runesBytes zs=⟨(zs.flatMap encB).toArray⟩:=by
 refine zcX ?_;have key:∀(l:List Int) (b:ByteArray),(l.foldl (λr n=>r++Utf8.encode n) b).data.toList=b.data.toList++l.flatMap encB:=by
  intro l
  induction l with
  | nil=>intro b;simp
  | cons a l ih =>
   intro b;rw[List.foldl_cons,ih,ByteArray.data_append,Array.toList_append,List.flatMap_cons,List.append_assoc];rfl
 rw[runesBytes,key];rfl
end ut
namespace ut
open Go.RowKit
def mk(l:List UInt8):ByteArray:=⟨l.toArray⟩
theorem zb5(l:List UInt8):(mk l).size=l.length:=by rw[Lib.size_eq];rfl
theorem mk_list(l:List UInt8):(mk l).data.toList=l:=rfl
theorem get_list(l:List UInt8)(i:Nat)(h:i<l.length):(mk l).get! i=l[i]:=by
 rw[zar (mk l) i (by rw[zb5];exact h)];rfl
theorem enc_list{c:Nat}(hv:scB (c:Int)=true)(hm:c≤1114111) :
  (c<128∧encB c=[UInt8.ofNat c])∨(128≤c∧c<2048∧encB c=[UInt8.ofNat (192+c / 64),UInt8.ofNat (128+c % 64)]) ∨
  (2048≤c∧c<65536∧encB c=[UInt8.ofNat (224+c / 4096),UInt8.ofNat (128+c / 64 % 64),UInt8.ofNat (128+c % 64)]) ∨
  (65536≤c∧encB c=[UInt8.ofNat (240+c / 262144),UInt8.ofNat (128+c / 4096 % 64),UInt8.ofNat (128+c / 64 % 64),UInt8.ofNat (128+c % 64)]):=by
 by_cases h1:c<128
 ·exact .inl ⟨h1,by rw[encB,enc1 h1]⟩
 by_cases h2:c<2048
 ·exact .inr (.inl ⟨by omega,h2,by rw[encB,enc2 (by omega) h2]⟩)
 by_cases h3:c<65536
 ·exact .inr (.inr (.inl ⟨by omega,h3,by rw[encB,enc3 (by omega) h3 (sc_valid hv)]⟩))
 ·exact .inr (.inr (.inr ⟨by omega,by rw[encB,enc4 (by omega) (sc_valid hv)]⟩))
theorem zbF{x:Nat}(h:x<256):(UInt8.ofNat x).toNat=x:=by rw[UInt8.toNat_ofNat'];omega
theorem dec_at(pre post:List UInt8){c:Nat}(hv:scB (c:Int)=true):Utf8.decode (mk (pre++(encB c++post))) pre.length=(c,(encB c).length):=by
 have hm:c≤1114111∧(c<55296∨57344≤c):=by simp[scB,inB] at hv;omega
 have hget:∀(e:List UInt8) (i:Nat) (hi:i<e.length),(mk (pre++(e++post))).get! (pre.length+i)=e[i]:=by
  intro e i hi;rw[get_list _ _ (by simp;omega)];simp[List.getElem_append_right,List.getElem_append_left,hi]
 have hsz:∀e:List UInt8,(mk (pre++(e++post))).size=pre.length+e.length+post.length:=by
  intro e;rw[zb5];simp;omega
 rcases enc_list hv hm.1 with⟨h,e⟩|⟨h,h',e⟩|⟨h,h',e⟩|⟨h,e⟩
 ·rw[e,zaJ];have g0:=hget [UInt8.ofNat c] 0 (by simp);simp only[Nat.add_zero] at g0;rw[g0];simp only[List.getElem_cons_zero];rw[zbF (by omega),F1 h];rfl
 ·rw[e,zaJ,hsz];have g0:=hget [UInt8.ofNat (192+c / 64),UInt8.ofNat (128+c % 64)] 0 (by simp);have g1:=hget [UInt8.ofNat (192+c / 64),UInt8.ofNat (128+c % 64)] 1 (by simp);simp only[Nat.add_zero] at g0;rw[g0,g1];simp only[List.getElem_cons_zero,List.getElem_cons_succ];rw[zbF (by omega),zbF (by omega),F2 (by omega) (by omega) (by simp;omega) (by omega) (by omega)];refine Prod.ext ?_ rfl;show _=c;omega
 ·rw[e,zaJ,hsz];have g0:=hget [UInt8.ofNat (224+c / 4096),UInt8.ofNat (128+c / 64 % 64),UInt8.ofNat (128+c % 64)] 0 (by simp);have g1:=hget [UInt8.ofNat (224+c / 4096),UInt8.ofNat (128+c / 64 % 64),UInt8.ofNat (128+c % 64)] 1 (by simp);have g2:=hget [UInt8.ofNat (224+c / 4096),UInt8.ofNat (128+c / 64 % 64),UInt8.ofNat (128+c % 64)] 2 (by simp);simp only[Nat.add_zero] at g0;rw[g0,g1,g2];simp only[List.getElem_cons_zero,List.getElem_cons_succ];rw[zbF (by omega),zbF (by omega),zbF (by omega),F3 (by omega) (by omega) (by simp;omega) (by omega) (by omega) (by omega) (by omega),if_pos (by omega)];refine Prod.ext ?_ rfl;show _=c;omega
 ·rw[e,zaJ,hsz];have g0:=hget [UInt8.ofNat (240+c / 262144),UInt8.ofNat (128+c / 4096 % 64),UInt8.ofNat (128+c / 64 % 64),UInt8.ofNat (128+c % 64)] 0 (by simp);have g1:=hget [UInt8.ofNat (240+c / 262144),UInt8.ofNat (128+c / 4096 % 64),UInt8.ofNat (128+c / 64 % 64),UInt8.ofNat (128+c % 64)] 1 (by simp);have g2:=hget [UInt8.ofNat (240+c / 262144),UInt8.ofNat (128+c / 4096 % 64),UInt8.ofNat (128+c / 64 % 64),UInt8.ofNat (128+c % 64)] 2 (by simp);have g3:=hget [UInt8.ofNat (240+c / 262144),UInt8.ofNat (128+c / 4096 % 64),UInt8.ofNat (128+c / 64 % 64),UInt8.ofNat (128+c % 64)] 3 (by simp);simp only[Nat.add_zero] at g0;rw[g0,g1,g2,g3];simp only[List.getElem_cons_zero,List.getElem_cons_succ];rw[zbF (by omega),zbF (by omega),zbF (by omega),zbF (by omega),F4 (by omega) (by omega) (by simp;omega) (by omega) (by omega) (by omega) (by omega) (by omega) (by omega),if_pos (by omega)];refine Prod.ext ?_ rfl;show _=c;omega
def Runes(zs:List Int):Prop:=∀r∈zs,scB r=true
theorem dec_flat(zs:List Int)(hz:Runes zs)(j:Nat)(hj:j<zs.length) :
  Utf8.decode (mk (zs.flatMap encB)) ((zs.take j).flatMap encB).length=(zs[j].toNat,(encB zs[j]).length):=by
 have h1:zs=zs.take j++(zs[j]::zs.drop (j+1)):=by
  rw[List.getElem_cons_drop,List.take_append_drop]
 have hsc:=hz _ (List.getElem_mem hj);obtain⟨c,hc⟩:∃c:Nat,zs[j]=(c:Int):=⟨zs[j].toNat,by simp[scB,inB] at hsc;omega⟩
 rw[hc] at hsc h1 ⊢;have h2:zs.flatMap encB=(zs.take j).flatMap encB++(encB (c:Int)++(zs.drop (j+1)).flatMap encB):=by
  conv=>lhs;rw[h1]
  rw[List.flatMap_append,List.flatMap_cons]
 rw[h2,dec_at _ _ hsc];rfl
theorem pos_flat(zs:List Int)(hz:Runes zs)(j:Nat)(hj:j≤zs.length):pos (mk (zs.flatMap encB)) j=((zs.take j).flatMap encB).length:=by
 induction j with
 | zero=>rfl
 | succ j ih =>
  have h1:=ih (by omega);rw[pos,h1,dec_flat zs hz j (by omega),List.take_succ_eq_append_getElem (by omega),List.flatMap_append,List.length_append,List.flatMap_cons,List.flatMap_nil,List.append_nil]
theorem pos_flat_end(zs:List Int)(hz:Runes zs):pos (mk (zs.flatMap encB)) zs.length=(mk (zs.flatMap encB)).size:=by
 rw[pos_flat zs hz zs.length lR,List.take_length,zb5]
theorem right_flat(zs:List Int)(hz:Runes zs):Right (mk (zs.flatMap encB)):=by
 intro n hn hb;by_cases h:n<zs.length
 ·rw[pos_flat zs hz n (by omega),zaq,dec_flat zs hz n h] at hb;have hsc:=hz _ (List.getElem_mem h);obtain⟨c,hc⟩:∃c:Nat,zs[n]=(c:Int):=⟨zs[n].toNat,by simp[scB,inB] at hsc;omega⟩
  rw[hc] at hb hsc;simp only[Prod.mk.injEq,Int.toNat_natCast] at hb
  rcases enc_list hsc (by simp[scB,inB] at hsc;omega) with⟨_,e⟩|⟨_,_,e⟩|⟨_,_,e⟩|⟨_,e⟩<;>rw[e] at hb<;>simp at hb<;>omega
 ·have:=zb8 (mk (zs.flatMap encB)) zs.length (n-zs.length);rw[show zs.length+(n-zs.length)=n from by omega,pos_flat_end zs hz] at this;omega
end ut
namespace ut
open Go.RowKit
end ut
namespace ut
open Go.RowKit
theorem extract_pre(A B:List UInt8):(mk (A++B)).extract 0 A.length=mk A:=by
 refine zcX ?_;rw[Lib.extract_data,mk_list,mk_list];simp
end ut
end Go.Proofs.YtmnflpmfngjllaaGreatDoor
