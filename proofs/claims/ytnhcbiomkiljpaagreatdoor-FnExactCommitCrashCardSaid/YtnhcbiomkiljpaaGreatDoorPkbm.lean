/-
  The region of Commit's law that copies both arguments, calls, and keeps what is answered.
  The rest of that region's steps.
  Plain facts: the records of a text that was put together of them, whole or torn.
  Both LogCrash functions.
  Plain facts: a mutation is read back from its bytes.
-/
import Derived.Test.YtnhcbiomkiljpaaGreatDoorPkbl
import Derived.Test.YtnhcbiomkiljpaaGreatDoorPkay
import Derived.Test.YtnhcbiomkiljpaaGreatDoorPkbg
import Derived.Test.YtnhcbiomkiljpaaGreatDoorPkbb

namespace Go.Proofs.YtnhcbiomkiljpaaGreatDoor.eg
open Go.RowKit Go.WideShapes
open bx bl ml
set_option linter.unusedVariables false
structure JC (W:World) (AGE AGM:Value) (r:Int) (d:ByteArray) (s:Int) (xs:List Bx) (x:mu.Mu) (D:Nat→Prop) (f:Nat→Value) (X:World):Prop where
 bel:Below W.heap.size W X
 p0:D 0→f 0=AGE
 p1:D 1→¬ D 4→∃ B us,f 1=.agg #[.int .i64 r,.string d,.int .i64 s,.slice (some ⟨B,0,none⟩) xs.length xs.length]∧BoxesAt X (.slice (some ⟨B,0,none⟩) xs.length xs.length) xs us∧Fines xs us∧∀ j,j < xs.length→∀ a n c,(us j).2=.slice a n c→n≤c
 p2:D 2→f 2=AGM
 p3:D 3→¬ D 4→∃ g,f 3=mu.MV x (.slice (some ⟨g,0,none⟩) x.ps.length x.ps.length)∧it.AttrsAt X (.slice (some ⟨g,0,none⟩) x.ps.length x.ps.length) x.ps
 p8:D 8→∃ g,f 8=.pointer (some ⟨g,0,none⟩)∧W.heap.size≤g∧(¬ D 9→LiesE X g 35 0 ⟨#[]⟩ 0 (.slice none 0 0))
 p4:D 4→∃ (r':Int) (d':ByteArray) (s':Int) (La:Option Addr) (Ln Lc:Nat) (ys:List Bx) (us:Nat→Value × Value) (c:Int),f 4=.tuple #[.agg #[.int .i64 r',.string d',.int .i64 s',.slice La Ln Lc],.int .i64 c]∧Cm r d s xs x r' d' s' ys c∧OwnL X W.heap.size (.slice La Ln Lc) ys us ∧
  (D 5→f 5=.tuple #[.agg #[.int .i64 r',.string d',.int .i64 s',.slice La Ln Lc],.int .i64 c])∧(D 6→f 6=.agg #[.int .i64 r',.string d',.int .i64 s',.slice La Ln Lc])∧(D 7→f 7=.int .i64 c)∧(D 10→f 10=.int .i64 c)∧(D 9→∃ g,f 8=.pointer (some ⟨g,0,none⟩)∧LiesE X g 35 r' d' s' (.slice La Ln Lc))
section
variable {W:World} {AGE AGM:Value} {r:Int} {d:ByteArray} {s:Int} {xs:List Bx} {x:mu.Mu} {D:Nat→Prop} {f:Nat→Value} {X X':World}
end
end Go.Proofs.YtnhcbiomkiljpaaGreatDoor.eg

namespace Go.Proofs.YtnhcbiomkiljpaaGreatDoor.eg
open Go.RowKit Go.WideShapes
open bx bl ml
set_option linter.unusedVariables false
theorem fines_mine {w:World} {B:Nat} {xs:List Bx} {vs:Nat→Value × Value} (h:Mine w B xs vs):Fines xs vs:=fun j hj=>by
 obtain ⟨g,g',e,_,_,⟨c1,h1⟩,⟨c2,h2⟩⟩:=h.2 j hj
 rw [e]
 exact ⟨own_fine h1,own_fine h2⟩
theorem two_new (w:World) (r:Int) (d:ByteArray) (s:Int) (v:Value) (M:mu.Mu) (iv:Value) :
  LiesE ((w.alloc (.cells #[.int .i64 r,.string d,.int .i64 s,v] 26)).alloc (.cells #[.int .i64 M.k,.int .i64 M.u,.int .i64 M.m,.int .i64 M.f,.string M.b,iv] 29)) w.heap.size 26 r d s v∧mu.Lies ((w.alloc (.cells #[.int .i64 r,.string d,.int .i64 s,v] 26)).alloc (.cells #[.int .i64 M.k,.int .i64 M.u,.int .i64 M.m,.int .i64 M.f,.string M.b,iv] 29)) (w.heap.size+1) 29 M iv∧Below w.heap.size w ((w.alloc (.cells #[.int .i64 r,.string d,.int .i64 s,v] 26)).alloc (.cells #[.int .i64 M.k,.int .i64 M.u,.int .i64 M.m,.int .i64 M.f,.string M.b,iv] 29)):=by
 refine ⟨(liesE_new w 26 r d s v).keep (new_below _ _ _),?_,(new_below w _ _).alloc (by simp) _⟩
 have:=mu.lies_new (w.alloc (.cells #[.int .i64 r,.string d,.int .i64 s,v] 26)) 29 M iv
 rw [show (w.alloc (.cells #[.int .i64 r,.string d,.int .i64 s,v] 26)).heap.size=w.heap.size+1 by simp] at this
 exact this
theorem tuple2 {y z y' z':Value} (h:Value.tuple #[y,z]=.tuple #[y',z']):y=y'∧z=z':=by
 simp only [Value.tuple.injEq,Array.mk.injEq,List.cons.injEq,and_true] at h
 exact h
section
variable {W:World} {AGE AGM:Value} {r:Int} {d:ByteArray} {s:Int} {xs:List Bx} {x:mu.Mu} {D:Nat→Prop} {f:Nat→Value} {X X':World}
end
end Go.Proofs.YtnhcbiomkiljpaaGreatDoor.eg

namespace Go.Proofs.YtnhcbiomkiljpaaGreatDoor.lg
open Go.RowKit
set_option linter.unusedVariables false
def catR:List ByteArray→ByteArray
 | []=>nt
 | x :: l=>fr x ++ catR l
def Right (x:ByteArray):Prop:=1≤x.size∧x.size≤20000
def Rights (l:List ByteArray):Prop:=∀ x ∈ l,Right x
theorem nt_app (a:ByteArray):nt ++ a=a:=ByteArray.empty_append
theorem app_nt (a:ByteArray):a ++ nt=a:=ByteArray.append_empty
theorem catR_app (l:List ByteArray) (x:ByteArray):catR (l ++ [x])=catR l ++ fr x:=by
 induction l with
 | nil=>show fr x ++ nt=nt ++ fr x; rw [nt_app,app_nt]
 | cons y l ih=>show fr y ++ catR (l ++ [x])=fr y ++ catR l ++ fr x; rw [ih,ByteArray.append_assoc]
theorem catR_cons (x:ByteArray) (l:List ByteArray):(catR (x :: l)).size=7+x.size+(catR l).size:=by
 show (fr x ++ catR l).size=_
 rw [ByteArray.size_append,fr_size]
theorem num_be3 (n:Nat) (h:n < 16777216):num (be 3 n)=n:=by
 simp only [be,num,List.foldl_cons,List.foldl_nil,Nat.pow_zero,Nat.pow_one,Nat.div_one]
 rw [UInt8.toNat_ofNat',UInt8.toNat_ofNat',UInt8.toNat_ofNat',show 256 ^ 2=65536 from rfl]
 omega
theorem ex_mid {A b C:ByteArray} {i j:Nat} (h:i≤j) (hj:j≤b.size):(A ++ b ++ C).extract (A.size+i) (A.size+j)=b.extract i j:=by
 rw [ByteArray.append_assoc,ByteArray.extract_append_size_add,ByteArray.extract_append,show i - b.size=0 from by omega,show j - b.size=0 from by omega]
 have:C.extract 0 0=nt:=by
  apply ByteArray.ext
  simp [nt]
 rw [this,app_nt]
theorem ex_over {b:ByteArray} {k:Nat} (h:b.size≤k):b.extract 0 k=b:=by
 have e:b.extract 0 k=b.extract 0 b.size:=by
  apply ByteArray.ext_getElem
  ·rw [ByteArray.size_extract,ByteArray.size_extract]
   omega
  ·intro i hi hi'
   rw [ByteArray.getElem_extract,ByteArray.getElem_extract]
 rw [e]
 exact ByteArray.extract_zero_size
theorem fr_head (x:ByteArray):(fr x).extract 0 3=hb x:=by
 unfold fr
 rw [ByteArray.append_assoc]
 exact ByteArray.extract_append_eq_left (hb_size x).symm
theorem fr_body (x:ByteArray):(fr x).extract 7 (7+x.size)=x:=by
 unfold fr
 have h:(hb x ++ sb (hb x) x).size=7:=by rw [ByteArray.size_append,hb_size,sb_size]
 exact ByteArray.extract_append_eq_right h.symm (by rw [h])
theorem fr_all (x:ByteArray):(fr x).extract 0 (7+x.size)=fr x:=by
 rw [← fr_size x]
 exact ByteArray.extract_zero_size
theorem next_at {A C x:ByteArray} (h:Right x):next (A ++ fr x ++ C) A.size=(0,x):=by
 have hsz:(A ++ fr x ++ C).size=A.size+(7+x.size)+C.size:=by rw [ByteArray.size_append,ByteArray.size_append,fr_size]
 have hf:=fr_size x
 have e1:(A ++ fr x ++ C).extract A.size (A.size+3)=hb x:=by
  have:=ex_mid (A:=A) (b:=fr x) (C:=C) (i:=0) (j:=3) (by omega) (by omega)
  rw [Nat.add_zero] at this
  rw [this,fr_head]
 have hn:numB (hb x)=x.size:=by
  show num (be 3 x.size)=x.size
  exact num_be3 _ (by have:=h.2; omega)
 have e2:(A ++ fr x ++ C).extract (A.size+7) (A.size+7+x.size)=x:=by
  have:=ex_mid (A:=A) (b:=fr x) (C:=C) (i:=7) (j:=7+x.size) (by omega) (by omega)
  rw [← Nat.add_assoc] at this
  rw [this,fr_body]
 have e3:(A ++ fr x ++ C).extract A.size (A.size+7+x.size)=fr x:=by
  have:=ex_mid (A:=A) (b:=fr x) (C:=C) (i:=0) (j:=7+x.size) (by omega) (by omega)
  rw [Nat.add_zero,← Nat.add_assoc] at this
  rw [this,fr_all]
 unfold next
 have h1:=h.1
 have h2:=h.2
 rw [e1,hn,if_neg (by omega),if_neg (by omega),if_neg (by omega),e2,e3,if_neg (fun hh=>hh rfl)]
theorem next_torn {A x:ByteArray} {k:Nat} (h:Right x) (h0:0 < k) (hk:k < 7+x.size):(next (A ++ (fr x).extract 0 k) A.size).1=18:=by
 have hf:=fr_size x
 have hes:((fr x).extract 0 k).size=k:=by rw [size_ex (by omega) (by omega)]; omega
 have hsz:(A ++ (fr x).extract 0 k).size=A.size+k:=by rw [ByteArray.size_append,hes]
 unfold next
 by_cases h7:k < 7
 ·rw [if_pos (by omega)]
 ·have e1:(A ++ (fr x).extract 0 k).extract A.size (A.size+3)=hb x:=by
   have:=ByteArray.extract_append_size_add (a:=A) (b:=(fr x).extract 0 k) (i:=0) (j:=3)
   rw [Nat.add_zero] at this
   rw [this,ByteArray.extract_extract,Nat.min_eq_left (by omega)]
   exact fr_head x
  have hn:numB (hb x)=x.size:=by
   show num (be 3 x.size)=x.size
   exact num_be3 _ (by have:=h.2; omega)
  have h1:=h.1
  have h2:=h.2
  rw [e1,hn,if_neg (by omega),if_neg (by omega),if_pos (by omega)]
theorem scan_whole:∀ (l:List ByteArray) (A:ByteArray) (acc:List ByteArray) (f:Nat),Rights l→(catR l).size < f→scan (A ++ catR l) f A.size acc=(acc ++ l,(A ++ catR l).size,0)
 | [],A,acc,f,_,_=>by
  rw [show catR []=nt from rfl,app_nt,scan_end (Nat.le_refl _),List.append_nil]
 | x :: l,A,acc,f,hl,hf=>by
  have hx:=hl x (by simp)
  have hc:=catR_cons x l
  have e:A ++ catR (x :: l)=A ++ fr x ++ catR l:=by show A ++ (fr x ++ catR l)=_; rw [ByteArray.append_assoc]
  have hsz:(A ++ fr x ++ catR l).size=A.size+(7+x.size)+(catR l).size:=by rw [ByteArray.size_append,ByteArray.size_append,fr_size]
  have hnx:=next_at (A:=A) (C:=catR l) hx
  rw [e]
  obtain ⟨g,hg,hs⟩:=scan_step (t:=A ++ fr x ++ catR l) (f:=f) (p:=A.size) (acc:=acc) (by omega) (by omega) (by rw [hnx])
  rw [hnx] at hs hg
  simp only at hs hg
  have hp:A.size+7+x.size=(A ++ fr x).size:=by rw [ByteArray.size_append,fr_size]; omega
  rw [hs,hp,scan_whole l (A ++ fr x) (acc ++ [x]) g (fun y hy=>hl y (by simp [hy])) (by omega)]
  simp
theorem recs_whole {l:List ByteArray} (h:Rights l):recs (catR l)=(l,(catR l).size,0):=by
 have:=scan_whole l nt [] ((catR l).size+1) h (by omega)
 rw [nt_app] at this
 exact this
def fits:List ByteArray→Nat→Nat
 | [],_=>0
 | x :: l,k=>if 7+x.size≤k then 1+fits l (k - (7+x.size)) else 0
theorem fits_le:∀ (l:List ByteArray) (k:Nat),fits l k≤l.length
 | [],_=>Nat.le_refl _
 | x :: l,k=>by
  rw [fits]
  split
  ·have:=fits_le l (k - (7+x.size))
   rw [List.length_cons]
   omega
  ·exact Nat.zero_le _
theorem fits_max:∀ (l:List ByteArray) (k j:Nat),j≤l.length→(catR (l.take j)).size≤k→j≤fits l k
 | [],_,j,hj,_=>hj
 | x :: l,k,0,_,_=>Nat.zero_le _
 | x :: l,k,j+1,hj,h=>by
  rw [List.take_succ_cons,catR_cons] at h
  rw [fits,if_pos (by omega)]
  have:=fits_max l (k - (7+x.size)) j (by rw [List.length_cons] at hj; omega) (by omega)
  omega
theorem fits_size:∀ (l:List ByteArray) (k:Nat),(catR (l.take (fits l k))).size≤k
 | [],k=>by rw [show ([]:List ByteArray).take (fits [] k)=[] from by simp]; exact Nat.zero_le _
 | x :: l,k=>by
  rw [fits]
  split
  ·rename_i h
   have:=fits_size l (k - (7+x.size))
   rw [Nat.add_comm 1,List.take_succ_cons,catR_cons]
   omega
  ·exact Nat.zero_le _
theorem cat_pre:∀ (l:List ByteArray) (j:Nat),(catR l).extract 0 (catR (l.take j)).size=catR (l.take j)
 | l,0=>by
  rw [List.take_zero]
  show (catR l).extract 0 0=nt
  apply ByteArray.ext
  simp [nt]
 | [],j+1=>by rw [List.take_nil]; exact ByteArray.extract_zero_size
 | x :: l,j+1=>by
  rw [List.take_succ_cons,catR_cons]
  show (fr x ++ catR l).extract 0 _=fr x ++ catR (l.take j)
  rw [ByteArray.extract_append,fr_size,show 0 - (7+x.size)=0 from by omega,show 7+x.size+(catR (l.take j)).size - (7+x.size)=(catR (l.take j)).size from by omega,cat_pre l j]
  congr 1
  exact ex_over (by rw [fr_size]; omega)
theorem scan_torn:∀ (l:List ByteArray) (A:ByteArray) (acc:List ByteArray) (f k:Nat),Rights l→k≤(catR l).size→k < f →
  ∃ c,(c=0 ∨ c=18)∧scan (A ++ (catR l).extract 0 k) f A.size acc=(acc ++ l.take (fits l k),A.size+(catR (l.take (fits l k))).size,c)
 | [],A,acc,f,k,_,hk,_=>by
  have hk0:k=0:=by have:(catR []).size=0:=rfl; omega
  subst hk0
  have e:(catR []).extract 0 0=nt:=by apply ByteArray.ext; simp [nt]
  rw [e,app_nt,scan_end (Nat.le_refl _)]
  exact ⟨0,.inl rfl,by simp [show catR []=nt from rfl,show nt.size=0 from rfl]⟩
 | x :: l,A,acc,f,k,hl,hk,hf=>by
  have hx:=hl x (by simp)
  have hc:=catR_cons x l
  have hfs:=fr_size x
  by_cases h1:7+x.size≤k
  ·have e:(catR (x :: l)).extract 0 k=fr x ++ (catR l).extract 0 (k - (7+x.size)):=by
    show (fr x ++ catR l).extract 0 k=_
    rw [ByteArray.extract_append,fr_size,show 0 - (7+x.size)=0 from by omega]
    congr 1
    exact ex_over (by rw [fr_size]; omega)
   have e2:A ++ (fr x ++ (catR l).extract 0 (k - (7+x.size)))=A ++ fr x ++ (catR l).extract 0 (k - (7+x.size)):=by rw [ByteArray.append_assoc]
   have hes:((catR l).extract 0 (k - (7+x.size))).size=k - (7+x.size):=by rw [size_ex (by omega) (by omega)]; omega
   have hsz:(A ++ fr x ++ (catR l).extract 0 (k - (7+x.size))).size=A.size+(7+x.size)+(k - (7+x.size)):=by rw [ByteArray.size_append,ByteArray.size_append,fr_size,hes]
   have hnx:=next_at (A:=A) (C:=(catR l).extract 0 (k - (7+x.size))) hx
   rw [e,e2]
   obtain ⟨g,hg,hs⟩:=scan_step (t:=A ++ fr x ++ (catR l).extract 0 (k - (7+x.size))) (f:=f) (p:=A.size) (acc:=acc) (by omega) (by omega) (by rw [hnx])
   rw [hnx] at hs hg
   simp only at hs hg
   have hp:A.size+7+x.size=(A ++ fr x).size:=by rw [ByteArray.size_append,fr_size]; omega
   rw [hs,hp]
   obtain ⟨c,hcc,hsc⟩:=scan_torn l (A ++ fr x) (acc ++ [x]) g (k - (7+x.size)) (fun y hy=>hl y (by simp [hy])) (by omega) (by omega)
   refine ⟨c,hcc,?_⟩
   rw [hsc,fits,if_pos h1,Nat.add_comm 1,List.take_succ_cons,catR_cons,← hp]
   simp
   omega
  ·have hft:fits (x :: l) k=0:=by rw [fits,if_neg h1]
   have e:(catR (x :: l)).extract 0 k=(fr x).extract 0 k:=by
    show (fr x ++ catR l).extract 0 k=_
    rw [ByteArray.extract_append,fr_size,show 0 - (7+x.size)=0 from by omega,show k - (7+x.size)=0 from by omega]
    have:(catR l).extract 0 0=nt:=by apply ByteArray.ext; simp [nt]
    rw [this,app_nt]
   rw [e,hft]
   have hes:((fr x).extract 0 k).size=k:=by rw [size_ex (by omega) (by omega)]; omega
   have hsz:(A ++ (fr x).extract 0 k).size=A.size+k:=by rw [ByteArray.size_append,hes]
   by_cases h0:k=0
   ·rw [scan_end (by omega)]
    exact ⟨0,.inl rfl,by simp [show catR []=nt from rfl,show nt.size=0 from rfl]⟩
   ·have ht:=next_torn (A:=A) hx (by omega) (show k < 7+x.size by omega)
    rw [scan_stop (by omega) (by omega) (by rw [ht]; decide),ht]
    exact ⟨18,.inr rfl,by simp [show catR []=nt from rfl,show nt.size=0 from rfl]⟩
theorem recs_torn {l:List ByteArray} (h:Rights l) {k:Nat} (hk:k≤(catR l).size):∃ c,(c=0 ∨ c=18)∧recs ((catR l).extract 0 k)=(l.take (fits l k),(catR (l.take (fits l k))).size,c):=by
 have hes:((catR l).extract 0 k).size=k:=by rw [size_ex (by omega) hk]; omega
 obtain ⟨c,hc,hs⟩:=scan_torn l nt [] (k+1) k h hk (by omega)
 refine ⟨c,hc,?_⟩
 rw [nt_app] at hs
 unfold recs
 rw [hes]
 have h0:nt.size=0:=rfl
 rw [h0] at hs
 simpa using hs
end Go.Proofs.YtnhcbiomkiljpaaGreatDoor.lg

namespace Go.Proofs.YtnhcbiomkiljpaaGreatDoor.lg
open Go.ChangeShapes Go.WideShapes Go.ChangeAt Go.RowKit Go.Deep Go.Joins
set_option linter.unusedVariables false
def left (n:Nat) (s keep:Int):Nat:=(s+min (max keep 0) ((n:Int) - s)).toNat
def crash (r:Int) (d:ByteArray) (s keep:Int):Value:=if ok r d.size s=true then RV r (d.extract 0 (left d.size s keep)) (left d.size s keep) 0 else RV 0 ⟨#[]⟩ 0 1
theorem left_le {r:Int} {n:Nat} {s:Int} (keep:Int) (h:ok r n s=true):left n s keep≤n∧((left n s keep:Nat):Int)=s+min (max keep 0) ((n:Int) - s)∧((left n s keep:Nat):Int)=s+max 0 (min keep ((n:Int) - s)):=by
 have h:=of_decide_eq_true h
 unfold left
 omega
set_option maxHeartbeats 1000000 in
set_option maxRecDepth 100000 in
theorem impl_crash (r:Int) (d:ByteArray) (s keep:Int) (w:World) (hr:In r) (hd:d.size≤1048576) (hs:In s) (hk:In keep) :
  Calls Tryz.prog 72 #[LV r d s,.int .i64 keep] w fun e w'=>e=.returned (crash r d s keep)∧Below w.heap.size w w':=by
 obtain ⟨A1,R1,b1⟩:=two_new w 32 r d s
 have HO:=fun W=>impl_ok r d s W hr (Nat.le_trans hd (by unfold maxLen; omega)) hs
 unfold crash LV
 by_cases ho:ok r d.size s=true
 ·obtain ⟨hkx,hk1,hk2⟩:=left_le keep ho
  have ho2:=of_decide_eq_true ho
  rw [if_pos ho]
  rw [ho] at HO
  have HC:=fun W=>cut_any r d s (left d.size s keep) W hkx hd
  have HO':Hid _:=HO
  clear HO hr hs
  generalize left d.size s keep=K at hkx hk1 hk2 HC ⊢
  have HC':Hid _:=HC
  clear HC ho
  unfold RV LV
  go_enter Tryz.func72,Tryz.ntmps72
  go_wp2_with fail
  generalize (w.alloc (.cells #[.int .i64 r,.string d,.int .i64 s] 32)).alloc (.cells #[.int .i64 0,.string ⟨#[]⟩,.int .i64 0] 32)=w1 at A1 R1 b1 ⊢
  refine (HO'.out w1).mono ?_
  rintro e w2 ⟨rfl,k2⟩
  have A2:=A1.keep k2
  have R2:=R1.keep k2
  have b2:=b1.trans (k2.mono b1.size)
  clear A1 R1 k2 b1
  have a0:=A2.c0
  have a1:=A2.c1
  have a2:=A2.c2
  have a1':=A2.c1'
  have a2':=A2.c2'
  go_wp2_with fail
  rw [← hk1]
  clear hk1 hk2
  refine (HC'.out w2).mono ?_
  rintro e w3 ⟨rfl,k3⟩
  unfold LV
  have R3:=R2.keep k3
  have b3:=b2.trans (k3.mono b2.size)
  clear A2 R2 b2 a0 a1 a2 a1' a2' k3
  have r0:=R3.c0
  have r1:=R3.c1'
  have r2:=R3.c2'
  have f0:=R3.f 0
  have f1:=R3.f 1
  have f2:=R3.f 2
  go_wp2
  have A5:=R3.put (a':=.int .i64 r) (b':=.string (d.extract 0 K)) (c':=.int .i64 K)
  have b5:=put_below (g:=w.heap.size+1) (a:=.int .i64 r) (b:=.string (d.extract 0 K)) (c:=.int .i64 K) b3 (by omega)
  change bodyPost _ _ _ _ _ (lg.put w3 (w.heap.size+1) (.int .i64 r) (.string (d.extract 0 K)) (.int .i64 K))
  generalize lg.put _ _ _ _ _=W5 at A5 b5 ⊢
  have d0:=A5.c0
  have d1:=A5.c1
  have d2:=A5.c2
  exact bodyPost_ret (v:=.tuple #[.agg #[.int .i64 r,.string (d.extract 0 K),.int .i64 K],.int .i64 0]) (by simp [results,Tryz.results72,go_sem,d0,d1,d2]) rfl ⟨rfl,b5⟩
 ·have ho':ok r d.size s=false:=by simpa using ho
  rw [ho'] at HO
  rw [if_neg ho]
  have HO':Hid _:=HO
  clear HO ho ho' hr hs
  unfold RV LV
  go_enter Tryz.func72,Tryz.ntmps72
  go_wp2_with fail
  generalize (w.alloc (.cells #[.int .i64 r,.string d,.int .i64 s] 32)).alloc (.cells #[.int .i64 0,.string ⟨#[]⟩,.int .i64 0] 32)=w1 at A1 R1 b1 ⊢
  refine (HO'.out w1).mono ?_
  rintro e w3 ⟨rfl,k2⟩
  have R3:=R1.keep k2
  have b3:=b1.trans (k2.mono b1.size)
  clear A1 R1 k2 b1
  have r0:=R3.c0
  have r1:=R3.c1'
  have r2:=R3.c2'
  have f0:=R3.f 0
  have f1:=R3.f 1
  have f2:=R3.f 2
  go_wp2
  have A5:=R3.put (a':=.int .i64 0) (b':=.string ⟨#[]⟩) (c':=.int .i64 0)
  have b5:=put_below (g:=w.heap.size+1) (a:=.int .i64 0) (b:=.string ⟨#[]⟩) (c:=.int .i64 0) b3 (by omega)
  change bodyPost _ _ _ _ _ (lg.put w3 (w.heap.size+1) (.int .i64 0) (.string ⟨#[]⟩) (.int .i64 0))
  generalize lg.put _ _ _ _ _=W5 at A5 b5 ⊢
  have d0:=A5.c0
  have d1:=A5.c1
  have d2:=A5.c2
  exact bodyPost_ret (v:=.tuple #[.agg #[.int .i64 0,.string ⟨#[]⟩,.int .i64 0],.int .i64 1]) (by simp [results,Tryz.results72,go_sem,d0,d1,d2]) rfl ⟨rfl,b5⟩
set_option maxHeartbeats 1000000 in
set_option maxRecDepth 100000 in
theorem l08Crash_any (r:Int) (d:ByteArray) (s keep:Int) (w:World) (hd:d.size≤1048576) (h:ok r d.size s=true) (hk:In keep) :
  Calls Tryz.prog 66 #[LV r d s,.int .i64 keep] w fun e w'=>e=.returned (LV r (d.extract 0 (left d.size s keep)) (left d.size s keep))∧Below w.heap.size w w':=by
 obtain ⟨hkx,hk1,hk2⟩:=left_le keep h
 have ho2:=of_decide_eq_true h
 generalize left d.size s keep=K at hkx hk1 hk2 ⊢
 obtain ⟨A1,R1,b1⟩:=two_new w 32 r (d.extract 0 K) s
 have hsz:(d.extract 0 K).size=K:=by simp; omega
 have HS:=fun W=>l08Sync_any r (d.extract 0 K) s W
 rw [hsz] at HS
 have HS':Hid _:=HS
 clear h hsz HS
 unfold LV
 go_enter Tryz.func66,Tryz.ntmps66
 go_wp2_with fail
 have hex:(s+max 0 (min keep ((d.size:Int) - s))).toNat=K:=by rw [← hk2]; rfl
 rw [hex]
 clear hk1 hk2 hex
 generalize (w.alloc (.cells #[.int .i64 r,.string (d.extract 0 K),.int .i64 s] 32)).alloc (.cells #[.int .i64 0,.string ⟨#[]⟩,.int .i64 0] 32)=w1 at A1 R1 b1 ⊢
 refine (HS'.out w1).mono ?_
 rintro e w3 ⟨rfl,k2⟩
 unfold LV
 have R3:=R1.keep k2
 have b3:=b1.trans (k2.mono b1.size)
 clear A1 R1 k2 b1
 have r0:=R3.c0
 have r1:=R3.c1'
 have r2:=R3.c2'
 have f0:=R3.f 0
 have f1:=R3.f 1
 have f2:=R3.f 2
 go_wp2
 have A5:=R3.put (a':=.int .i64 r) (b':=.string (d.extract 0 K)) (c':=.int .i64 K)
 have b5:=put_below (g:=w.heap.size+1) (a:=.int .i64 r) (b:=.string (d.extract 0 K)) (c:=.int .i64 K) b3 (by omega)
 change bodyPost _ _ _ _ _ (lg.put w3 (w.heap.size+1) (.int .i64 r) (.string (d.extract 0 K)) (.int .i64 K))
 generalize lg.put _ _ _ _ _=W5 at A5 b5 ⊢
 have d0:=A5.c0
 have d1:=A5.c1
 have d2:=A5.c2
 exact bodyPost_ret (v:=.agg #[.int .i64 r,.string (d.extract 0 K),.int .i64 K]) (by simp [results,Tryz.results66,go_sem,d0,d1,d2]) rfl ⟨rfl,b5⟩
end Go.Proofs.YtnhcbiomkiljpaaGreatDoor.lg

namespace Go.Proofs.YtnhcbiomkiljpaaGreatDoor.mb
open Go.RowKit
open it mu
open rm (pl its its_next mtn_is rok_yes mtn fin rok numB)
set_option linter.unusedVariables false
def tx (l:List UInt8):ByteArray:=⟨l.toArray⟩
theorem tx_size (l:List UInt8):(tx l).size=l.length:=by simp [tx,ByteArray.size]
theorem tx_self (b:ByteArray):tx b.data.toList=b:=by cases b; simp [tx]
theorem tx_get (l:List UInt8) (i:Nat) (h:i < (tx l).size) (h':i < l.length):(tx l)[i]=l[i]:=by
 show (l.toArray)[i]'_=_
 simp
theorem tx_ex (A B C:List UInt8) (i j:Nat) (hi:i=A.length) (hj:j=A.length+B.length):(tx (A ++ B ++ C)).extract i j=tx B:=by
 subst hi hj
 apply ByteArray.ext
 show _=B.toArray
 rw [ByteArray.data_extract]
 apply Array.toList_inj.1
 simp [tx,List.extract_eq_take_drop]
theorem be2 (n:Nat):lg.be 2 n=[UInt8.ofNat (n / 256),UInt8.ofNat n]:=by simp [lg.be]
theorem num_be2 (n:Nat) (h:n < 65536):numB (tx (lg.be 2 n))=n:=by
 unfold rm.numB rm.num tx
 rw [be2]
 simp
 omega
theorem take_split {ps:List Pr} {j:Nat} (h:j < ps.length):itsB ps ps.length=itsB ps j ++ itB (ps.getD j no) ++ (ps.drop (j+1)).flatMap itB:=by
 have e:ps=ps.take j ++ ps.getD j no :: ps.drop (j+1):=by
  have:ps.getD j no=ps[j]:=by simp [List.getD_eq_getElem?_getD,h]
  rw [this,← List.drop_eq_getElem_cons h,List.take_append_drop]
 unfold itsB
 rw [List.take_length]
 conv=>lhs; rw [e]
 rw [List.flatMap_append,List.flatMap_cons,List.append_assoc]
theorem its_read {ps:List Pr} {H:List UInt8} (hf:∀ j,j < ps.length→(ps.getD j no).1.size≤200∧(ps.getD j no).2.size≤4000):∀ j,j≤ps.length→its j (pl (tx (H ++ itsB ps ps.length)) H.length)=(ps.take j,pl (tx (H ++ itsB ps ps.length)) (H.length+(itsB ps j).length))
 | 0,_=>by simp [its,itsB]
 | j+1,hj=>by
  have ih:=its_read (H:=H) hf j (by omega)
  have hp:=hf j (by omega)
  obtain ⟨k,hk⟩:∃ k,k=ps.getD j no:=⟨_,rfl⟩
  have hs:=take_split (ps:=ps) (j:=j) (by omega)
  have hlen:=itB_len (ps.getD j no)
  have hst:=itsB_step (ps:=ps) (k:=j) (by omega)
  have h1:=num_be2 (ps.getD j no).1.size (by omega)
  have h2:=num_be2 (ps.getD j no).2.size (by omega)
  have hsz:(tx (H ++ itsB ps ps.length)).size=H.length+(itsB ps j).length+(4+(ps.getD j no).1.size+(ps.getD j no).2.size)+((ps.drop (j+1)).flatMap itB).length:=by
   rw [tx_size,hs]
   simp only [List.length_append,hlen]
   omega
  have htk:ps.take (j+1)=ps.take j ++ [ps.getD j no]:=by
   rw [List.take_add_one]
   congr 1
   have:j < ps.length:=by omega
   simp [List.getD_eq_getElem?_getD,this]
  rw [← hk] at *
  have hl1:k.1.data.toList.length=k.1.size:=rfl
  have hl2:k.2.data.toList.length=k.2.size:=rfl
  have hb1:=lg.be_len 2 k.1.size
  have hb2:=lg.be_len 2 k.2.size
  have x1:(tx (H ++ itsB ps ps.length)).extract (H.length+(itsB ps j).length) (H.length+(itsB ps j).length+2)=tx (lg.be 2 k.1.size):=by
   rw [hs]
   have:=tx_ex (H ++ itsB ps j) (lg.be 2 k.1.size) (lg.be 2 k.2.size ++ k.1.data.toList ++ k.2.data.toList ++ (ps.drop (j+1)).flatMap itB) (H.length+(itsB ps j).length) (H.length+(itsB ps j).length+2) (by simp) (by simp [hb1])
   simpa [itB,List.append_assoc] using this
  have x2:(tx (H ++ itsB ps ps.length)).extract (H.length+(itsB ps j).length+2) (H.length+(itsB ps j).length+4)=tx (lg.be 2 k.2.size):=by
   rw [hs]
   have:=tx_ex (H ++ itsB ps j ++ lg.be 2 k.1.size) (lg.be 2 k.2.size) (k.1.data.toList ++ k.2.data.toList ++ (ps.drop (j+1)).flatMap itB) (H.length+(itsB ps j).length+2) (H.length+(itsB ps j).length+4) (by simp [hb1]; omega) (by simp [hb1,hb2]; omega)
   simpa [itB,List.append_assoc] using this
  have x3:(tx (H ++ itsB ps ps.length)).extract (H.length+(itsB ps j).length+4) (H.length+(itsB ps j).length+4+k.1.size)=k.1:=by
   rw [hs]
   have:=tx_ex (H ++ itsB ps j ++ lg.be 2 k.1.size ++ lg.be 2 k.2.size) k.1.data.toList (k.2.data.toList ++ (ps.drop (j+1)).flatMap itB) (H.length+(itsB ps j).length+4) (H.length+(itsB ps j).length+4+k.1.size) (by simp [hb1,hb2]; omega) (by simp [hb1,hb2]; omega)
   rw [tx_self] at this
   simpa [itB,List.append_assoc] using this
  have x4:(tx (H ++ itsB ps ps.length)).extract (H.length+(itsB ps j).length+4+k.1.size) (H.length+(itsB ps j).length+4+k.1.size+k.2.size)=k.2:=by
   rw [hs]
   have:=tx_ex (H ++ itsB ps j ++ lg.be 2 k.1.size ++ lg.be 2 k.2.size ++ k.1.data.toList) k.2.data.toList ((ps.drop (j+1)).flatMap itB) (H.length+(itsB ps j).length+4+k.1.size) (H.length+(itsB ps j).length+4+k.1.size+k.2.size) (by simp [hb1,hb2]; omega) (by simp [hb1,hb2]; omega)
   rw [tx_self] at this
   simpa [itB,List.append_assoc] using this
  have:=its_next ih (k:=k.1.size) (n:=k.2.size) (by omega) (by rw [x1,h1]) (by rw [x2,h2]) (by omega)
  rw [this,x3,x4,htk,hst]
  congr 2
  simp only [List.length_append,hlen]
  omega
theorem u8_back {z:Int} (h:0≤z∧z < 256):(((u8 z).toNat:Nat):Int)=z:=by
 unfold u8
 rw [UInt8.toNat_ofNat']
 omega
theorem mu_eq {k u m f:Int} {b:ByteArray} {ps:List Pr} {M:Mu} (h1:k=M.k) (h2:u=M.u) (h3:m=M.m) (h4:f=M.f) (h5:b=M.b) (h6:ps=M.ps):(⟨k,u,m,f,b,ps⟩:Mu)=M:=by
 subst h1 h2 h3 h4 h5 h6
 rfl
theorem mb_back {M:Mu} (h:mok M=true):rok (tx (mB M))=true∧mtn (tx (mB M),false)=M:=by
 have hf:=fits_of h
 obtain ⟨hk,hu,hm,hfl,hb,hn,hi⟩:=hf
 have hbl:M.b.data.toList.length=M.b.size:=rfl
 have hH:(hdB M ++ lg.be 2 M.u.toNat ++ M.b.data.toList).length=7+M.b.size:=by
  simp [hdB,lg.be_len,hbl]
  omega
 have hsz:(tx (mB M)).size=7+M.b.size+(itsB M.ps M.ps.length).length:=by
  rw [tx_size,mB,List.length_append,hH]
 have h7:7≤(tx (mB M)).size:=by omega
 have g0:(tx (mB M))[0]=u8 M.k:=(tx_get (mB M) 0 (by omega) (by rw [← tx_size]; omega)).trans (by simp [mB,hdB])
 have g1:(tx (mB M))[1]=u8 M.m:=(tx_get (mB M) 1 (by omega) (by rw [← tx_size]; omega)).trans (by simp [mB,hdB])
 have g2:(tx (mB M))[2]=u8 M.f:=(tx_get (mB M) 2 (by omega) (by rw [← tx_size]; omega)).trans (by simp [mB,hdB])
 have g3:(tx (mB M))[3]=u8 (M.ps.length:Int):=(tx_get (mB M) 3 (by omega) (by rw [← tx_size]; omega)).trans (by simp [mB,hdB])
 have g4:(tx (mB M))[4]=u8 (M.b.size:Int):=(tx_get (mB M) 4 (by omega) (by rw [← tx_size]; omega)).trans (by simp [mB,hdB])
 have n3:((tx (mB M))[3]).toNat=M.ps.length:=by rw [g3]; have:=u8_back (z:=(M.ps.length:Int)) (by omega); omega
 have n4:((tx (mB M))[4]).toNat=M.b.size:=by rw [g4]; have:=u8_back (z:=(M.b.size:Int)) (by omega); omega
 have x5:(tx (mB M)).extract 5 7=tx (lg.be 2 M.u.toNat):=by
  have:=tx_ex (hdB M) (lg.be 2 M.u.toNat) (M.b.data.toList ++ itsB M.ps M.ps.length) 5 7 (by simp [hdB]) (by simp [hdB,lg.be_len])
  simpa [mB,List.append_assoc] using this
 have x7:(tx (mB M)).extract 7 (7+M.b.size)=M.b:=by
  have:=tx_ex (hdB M ++ lg.be 2 M.u.toNat) M.b.data.toList (itsB M.ps M.ps.length) 7 (7+M.b.size) (by simp [hdB,lg.be_len]) (by simp [hdB,lg.be_len,hbl])
  rw [tx_self] at this
  simpa [mB,List.append_assoc] using this
 have hi2:=its_read (H:=hdB M ++ lg.be 2 M.u.toNat ++ M.b.data.toList) hi M.ps.length (Nat.le_refl _)
 rw [hH,List.take_length] at hi2
 have hi3:its ((tx (mB M))[3]).toNat (pl (tx (mB M)) (7+((tx (mB M))[4]).toNat))=(M.ps,pl (tx (mB M)) (7+M.b.size+(itsB M.ps M.ps.length).length)):=by
  rw [n3,n4]
  exact hi2
 have hu5:=num_be2 M.u.toNat (by omega)
 obtain ⟨e1,e2⟩:=mtn_is h7 (by rw [n4]; omega) hi3
 have e3:mtn (tx (mB M),false)=M:=by
  refine e1.trans (mu_eq ?_ ?_ ?_ ?_ ?_ rfl)
  ·rw [g0]; exact u8_back hk
  ·rw [x5,hu5]; omega
  ·rw [g1]; exact u8_back hm
  ·rw [g2]; exact u8_back hfl
  ·rw [n4]; exact x7
 refine ⟨?_,e3⟩
 rw [rok_yes (by rw [e2]; rfl) (by rw [e2,rm.pl_size,hsz]; omega),e3]
 exact h
end Go.Proofs.YtnhcbiomkiljpaaGreatDoor.mb
