/-
  The place of a box among boxes, and the program's own test of boxes.
  The specification's test of a box.
-/
import Derived.Test.YtnhcbiomkiljpaaGreatDoorPkad
import Derived.Test.YtnhcbiomkiljpaaGreatDoorPkai
import Derived.Deep.QuietTactic
import Derived.BigQuiet
import Derived.Deep.DeepCutAuto
import Derived.Deep.Cut
import Derived.Deep.CutRange
namespace Go.Proofs.YtnhcbiomkiljpaaGreatDoor.bx
open Go.RowKit
open st
set_option linter.unusedVariables false
def SOK (xs:List Bx) (k:Nat):Prop:=∀ j,j < k→bok (xs.getD j noB)=true∧(xs.getD j noB).vd=(j:Int)+1∧∀ i,i < j→(xs.getD i noB).nm ≠ (xs.getD j noB).nm
def dSok (xs:List Bx) (k:Nat):Decidable (SOK xs k) :=
 @decidable_of_iff _ (∀ j,j < k→bok (xs.getD j noB)=true∧(xs.getD j noB).vd=(j:Int)+1∧∀ i,i < j→(xs.getD i noB).nm.data ≠ (xs.getD j noB).nm.data) ⟨fun h j hj=>⟨(h j hj).1,(h j hj).2.1,fun i hi e=>(h j hj).2.2 i hi (by rw [e])⟩,fun h j hj=>⟨(h j hj).1,(h j hj).2.1,fun i hi e=>(h j hj).2.2 i hi (ByteArray.ext e)⟩⟩ inferInstance
def sok (xs:List Bx):Bool:=@decide (xs.length≤4∧SOK xs xs.length) (@instDecidableAnd _ _ _ (dSok xs xs.length))
theorem sok_no {xs:List Bx} (h:¬ (xs.length≤4∧SOK xs xs.length)):sok xs=false:=ow.df h
theorem sok_yes {xs:List Bx} (h:xs.length≤4) (h2:SOK xs xs.length):sok xs=true:=ow.dt ⟨h,h2⟩
theorem sok_of {xs:List Bx} (h:sok xs=true):xs.length≤4∧SOK xs xs.length:=ow.dof h
theorem sok_step {xs:List Bx} {k:Nat} (h:SOK xs k) {x:Bx} (hx:xs.getD k noB=x) (h1:bok x=true) (h2:x.vd=(k:Int)+1) (h3:∀ i,i < k→(xs.getD i noB).nm ≠ x.nm):SOK xs (k+1):=by
 intro j hj
 by_cases e:j=k
 ·subst e; rw [hx]; exact ⟨h1,h2,h3⟩
 ·exact h j (by omega)
def Plc (xs:List Bx) (s:ByteArray) (r:Int):Prop:=(∃ k:Nat,r=k∧k < xs.length∧(xs.getD k noB).nm=s∧∀ j,j < k→(xs.getD j noB).nm ≠ s) ∨ (r=-1∧∀ j,j < xs.length→(xs.getD j noB).nm ≠ s)
set_option maxHeartbeats 1000000 in
set_option maxRecDepth 100000 in
theorem named_any (x:Bx) (p:Value × Value) (s:ByteArray) (g:Nat) (w:World) (hg:w.cell? ⟨g,0,none⟩=some (.string s)) (hp:∃ a n c a' n' c',p=(.slice a n c,.slice a' n' c')) :
  Calls Tryz.prog 133 #[.agg #[.string x.nm,.int .i64 x.vd,.int .i64 x.nx,p.1,p.2],.pointer (some ⟨g,0,none⟩)] w fun e w'=>(∃ b:Bool,e=.returned (.bool b)∧(b=true ↔ x.nm=s))∧Below w.heap.size w w':=by
 obtain ⟨a,n,c,a',n',c',rfl⟩:=hp
 simp only
 have hb:=new_below w 85 #[.string x.nm,.int .i64 x.vd,.int .i64 x.nx,.slice a n c,.slice a' n' c']
 have hg2:=(hb.cell (p:=⟨g,0,none⟩) (World.block_lt_of_cell? w _ hg)).trans hg
 obtain ⟨nm,vd,nx,ms,ks⟩:=x
 simp only at hb hg2 ⊢
 have hgl:g < w.heap.size:=World.block_lt_of_cell? w _ hg
 have hgn:w.heap.size ≠ g:=by omega
 have hgn2:g ≠ w.heap.size:=by omega
 by_cases he:nm=s
 ·have he':(nm.toList == s.toList)=true:=by rw [he]; simp
  have HE:Hid (nm=s):=he
  clear he
  go_enter Tryz.func133,Tryz.ntmps133
  go_wp2
  go_ret
  exact ⟨⟨true,rfl,by simp [HE.out]⟩,hb⟩
 ·have he':(nm.toList == s.toList)=false:=ky.ne_list he
  have HE:Hid (¬ nm=s):=he
  clear he
  go_enter Tryz.func133,Tryz.ntmps133
  go_wp2
  go_ret
  exact ⟨⟨false,rfl,by simp [HE.out]⟩,hb⟩
theorem rows_form {w:World} {n:Nat} {v u:Value} {ms:List St} {ks:List ByteArray} (h:RowsIn w n v u ms ks):∃ a n c a' n' c',(v,u)=(Value.slice a n c,Value.slice a' n' c'):=by
 obtain ⟨⟨a,cap,rfl,_⟩,⟨a1,cap1,rfl,_⟩⟩:=h
 exact ⟨_,_,_,_,_,_,rfl⟩
set_option maxHeartbeats 2000000 in
set_option maxRecDepth 100000 in
theorem index_any (N:Nat) (v:Value) (xs:List Bx) (vs:Nat→Value × Value) (s:ByteArray) (g:Nat) (w:World) (h:BoxesIn w N v xs vs) (hN:N≤w.heap.size) (hg:w.cell? ⟨g,0,none⟩=some (.string s)) (hn:xs.length≤1048576) :
  Calls Tryz.prog 132 #[v,.func (Fn.func 133) #[] #[.pointer (some ⟨g,0,none⟩)]] w fun e w'=>(∃ r:Int,e=.returned (.int .i64 r)∧Plc xs s r)∧Below w.heap.size w w':=by
 have HALL:Hid (BoxesIn w N v xs vs):=h
 obtain ⟨⟨a,cap,rfl,hc⟩,_⟩:=h
 obtain ⟨n,hn'⟩:∃ n,n=xs.length:=⟨_,rfl⟩
 have HN:Hid (n=xs.length):=hn'
 have HH:Hid (xs=[] ∨ ∃ b off,a=some ⟨b,off,none⟩∧b < N∧∀ j,j < xs.length→At5 w b (off+j * 5) (xs.getD j noB) (vs j)):=hc
 have HG:Hid (w.cell? ⟨g,0,none⟩=some (.string s)):=hg
 have hgl:g < w.heap.size:=World.block_lt_of_cell? w _ hg
 rw [← hn'] at hn HALL ⊢
 clear hc hn' hg
 go_enter Tryz.func132,Tryz.ntmps132
 go_wp2
 go_loopw [8] (fun i wr=>∃ k:Nat,k≤n∧i=.int .i64 k∧(∀ j,j < k→(xs.getD j noB).nm ≠ s)∧Below w.heap.size w wr) (fun i _=>n - (intOf i).toNat)
 case atStart=>exact ⟨0,Nat.zero_le _,rfl,fun j hj=>absurd hj (Nat.not_lt_zero _),Below.refl _ _⟩
 case round =>
  obtain ⟨k,hk,rfl,hno,hbw⟩:=hrel
  have HNO:Hid (∀ j,j < k→(xs.getD j noB).nm ≠ s):=hno
  clear hno
  by_cases hlt:k < n
  ·have hka:k < xs.length:=by rw [← HN.out]; exact hlt
   rcases HH.out with e | ⟨b,off,rfl,hbl,hcells⟩
   ·rw [e] at hka; simp at hka
   have hat:=(hcells k hka).keep hbw (by omega)
   have hfm:=rows_form (HALL.out.2 k hka)
   have HKA:Hid (k < xs.length):=hka
   clear hcells hka
   generalize hx:xs.getD k noB=x at hat
   have HX:Hid (xs.getD k noB=x):=hx
   generalize hq:vs k=q at hat hfm
   clear hx hq
   obtain ⟨q1,q2⟩:=q
   obtain ⟨c0,c1,c2,c3,c4⟩:=hat
   simp only at c0 c1 c2 c3 c4 hfm
   have HC:Hid (wr.cell? ⟨g,0,none⟩=some (.string s)):=(hbw.cell (p:=⟨g,0,none⟩) hgl).trans HG.out
   have HFM:Hid (∃ a n c a' n' c',(q1,q2)=(Value.slice a n c,Value.slice a' n' c')):=hfm
   obtain ⟨_,_,_,_,_,_,e⟩:=hfm
   cases e
   have hlt':(k:Int) < (n:Int):=by omega
   go_wp2_with fail
   refine (named_any x _ s g wr HC.out HFM.out).mono ?_
   rintro e w2 ⟨⟨bb,rfl,hbb⟩,hb2⟩
   have b2:=hbw.trans (hb2.mono hbw.size)
   have HBB:Hid (bb=true ↔ x.nm=s):=hbb
   clear hb2 hbw c0 c1 c2 c3 c4 HC HFM hbb
   cases bb
   ·have HE:Hid (∀ j,j < k+1→(xs.getD j noB).nm ≠ s):=fun j hj=>by
     by_cases e:j=k
     ·rw [e,HX.out]; intro y; have:=HBB.out.2 y; simp at this
     ·exact HNO.out j (by omega)
    go_wp2
    go_roundw
    case rel=>exact ⟨k+1,by omega,by go_num,HE.out,b2⟩
    case measure=>simp [intOf]; omega
   ·have HE:Hid (Plc xs s k):=.inl ⟨k,rfl,HKA.out,by rw [HX.out]; exact HBB.out.1 (by trivial),HNO.out⟩
    go_wp2
    go_ret
    exact ⟨⟨k,rfl,HE.out⟩,b2⟩
  ·have HE:Hid (Plc xs s (-1)):=.inr ⟨rfl,fun j hj=>HNO.out j (by have:=HN.out; omega)⟩
   go_wp2
   go_ret
   exact ⟨⟨-1,rfl,HE.out⟩,hbw⟩
set_option maxHeartbeats 1000000 in
set_option maxRecDepth 100000 in
theorem place_any (N:Nat) (v:Value) (xs:List Bx) (vs:Nat→Value × Value) (s:ByteArray) (w:World) (h:BoxesIn w N v xs vs) (hN:N≤w.heap.size) (hn:xs.length≤1048576) :
  Calls Tryz.prog 110 #[v,.string s] w fun e w'=>(∃ r:Int,e=.returned (.int .i64 r)∧Plc xs s r)∧Below w.heap.size w w':=by
 have b0:=new_below w 9 #[.string s]
 have HA:Hid (BoxesIn (w.alloc (.cells #[.string s] 9)) N v xs vs):=boxes_in_below h b0 hN
 have hN1:N≤(w.alloc (.cells #[.string s] 9)).heap.size:=by simp; omega
 have HC:Hid ((w.alloc (.cells #[.string s] 9)).cell? ⟨w.heap.size,0,none⟩=some (.string s)):=by
  have h2:=heap_new w (.cells #[.string s] 9)
  exact (by rw [cell_of_row _ _ _ _ _ _ h2]; rfl:(w.alloc (.cells #[.string s] 9)).cell? ⟨w.heap.size,0,none⟩=some (.string s))
 obtain ⟨⟨a,cap,rfl,_⟩,_⟩:=h
 go_enter Tryz.func110,Tryz.ntmps110
 go_wp2_with fail
 generalize w.alloc _=w0 at b0 HA hN1 HC ⊢
 refine (index_any N _ xs vs s w.heap.size w0 HA.out hN1 HC.out hn).mono ?_
 rintro e w2 ⟨⟨r,rfl,hr⟩,hb2⟩
 have b2:=b0.trans (hb2.mono b0.size)
 have HR:Hid (Plc xs s r):=hr
 clear b0 hb2 hr HA HC
 go_wp2
 go_ret
 exact ⟨⟨r,rfl,HR.out⟩,b2⟩
set_option maxHeartbeats 4000000 in
set_option maxRecDepth 100000 in
theorem impl_sok (v:Value) (xs:List Bx) (vs:Nat→Value × Value) (w:World) (h:BoxesAt w v xs vs) (hs:Smalls xs) :
  Calls Tryz.prog 97 #[v] w fun e w'=>e=.returned (.bool (sok xs))∧Below w.heap.size w w':=by
 have hmm:=@run_makeMap Tryz.prog
 have O0:=World.ownsMap_made (H:=Unit) w Tryz.prog 9 (plainElem Tryz.prog 3)
 have bm:Below w.heap.size w (w.alloc (.map #[] 0)):=(Below.refl _ _).alloc (Nat.le_refl _) _
 have HALL:Hid (BoxesIn w w.heap.size v xs vs):=h
 obtain ⟨⟨a,cap,rfl,hc⟩,_⟩:=h
 obtain ⟨n,hn⟩:∃ n,n=xs.length:=⟨_,rfl⟩
 have HN:Hid (n=xs.length):=hn
 have HH:Hid (xs=[] ∨ ∃ b off,a=some ⟨b,off,none⟩∧b < w.heap.size∧∀ j,j < xs.length→At5 w b (off+j * 5) (xs.getD j noB) (vs j)):=hc
 have HS:Hid (Smalls xs):=hs
 have hl:n≤1048576:=by rw [hn]; exact hs.1
 rw [← hn] at HALL ⊢
 clear hc hs hn
 by_cases g0:4 < n
 ·have g0':(4:Int) < (n:Int):=by omega
  have HR:Hid (sok xs=false):=sok_no (by have:=HN.out; omega)
  go_enter Tryz.func97,Tryz.ntmps97
  go_wp2
  go_ret
  exact ⟨mu.ret_bool HR.out.symm,Below.refl _ _⟩
 have g0':(n:Int)≤4:=by omega
 have O0:Hid (bk.Own (w.alloc (.map #[] 0)) w.heap.size 0 (.map [])):=O0
 have hml:w.heap.size < (w.alloc (.map #[] 0)).heap.size:=by simp
 go_enter Tryz.func97,Tryz.ntmps97
 go_wp2
 generalize w.alloc _=w0 at O0 bm hml ⊢
 go_loopw [12] (fun i wr=>∃ (k m:Nat) (D:DataW Unit),k≤n∧i=.int .i64 k∧SOK xs k∧bk.Own wr w.heap.size m D∧Below w.heap.size w wr) (fun i _=>n - (intOf i).toNat)
 case atStart=>exact ⟨0,0,_,Nat.zero_le _,rfl,fun j hj=>absurd hj (Nat.not_lt_zero _),O0.out,bm⟩
 case round =>
  clear O0 bm hml
  obtain ⟨k,m,D,hk,rfl,hal,hown,hbw⟩:=hrel
  have HAL:Hid (SOK xs k):=hal
  have HO:Hid (bk.Own wr w.heap.size m D):=hown
  have hwl:w.heap.size < wr.heap.size:=hown.lt
  clear hal hown
  by_cases hlt:k < n
  ·have hka:k < xs.length:=by rw [← HN.out]; exact hlt
   rcases HH.out with e | ⟨b,off,rfl,hbl,hcells⟩
   ·rw [e] at hka; simp at hka
   have hat:=(hcells k hka).keep hbw hbl
   have hrw:=(boxes_in_below HALL.out hbw (Nat.le_refl _)).2 k hka
   have HAR:Hid (BoxesIn wr w.heap.size (.slice (some ⟨b,off,none⟩) n cap) xs vs):=boxes_in_below HALL.out hbw (Nat.le_refl _)
   have hsk:=HS.out.2 k hka
   have HKA:Hid (k < xs.length):=hka
   clear hcells hka
   generalize hx:xs.getD k noB=x at hat hsk hrw
   have HX:Hid (xs.getD k noB=x):=hx
   generalize vs k=q at hat hrw
   clear hx
   obtain ⟨q1,q2⟩:=q
   obtain ⟨c0,c1,c2,c3,c4⟩:=hat
   simp only at c0 c1 c2 c3 c4 hrw
   have HSK:Hid (Small x):=hsk
   have hin:In x.vd:=hsk.1.1
   have hlt':(k:Int) < (n:Int):=by omega
   have L0:=lies_new wr 85 x q1 q2
   have hb2:=new_below wr 85 #[.string x.nm,.int .i64 x.vd,.int .i64 x.nx,q1,q2]
   have HRW:=rows_in_below hrw hb2 (Nat.le_of_lt hwl)
   have HAR2:=boxes_in_below HAR.out hb2 (Nat.le_of_lt hwl)
   have HO2:=bk.own_keep HO.out hb2 hwl
   have hb3:=hbw.trans (hb2.mono hbw.size)
   have hwl2:w.heap.size < (wr.alloc (.cells #[.string x.nm,.int .i64 x.vd,.int .i64 x.nx,q1,q2] 85)).heap.size:=Nat.lt_of_lt_of_le hwl hb2.size
   clear hsk HAR HO hb2 hbw
   obtain ⟨⟨a2,cap2,rfl,_⟩,⟨a3,cap3,rfl,_⟩⟩:=hrw
   obtain ⟨nm,vd,nx,ms,ks⟩:=x
   simp only at c0 c1 c2 c3 c4 L0 HRW HAR2 HO2 hb3 hwl2 hin
   by_cases r1:¬ vd=(k:Int)+1
   ·have r1':(vd != (k:Int)+1)=true:=by simp [r1]
    have HR:Hid (sok xs=false):=sok_no (fun y=>r1 (by have:=(y.2 k HKA.out).2.1; rw [HX.out] at this; exact this))
    clear r1
    go_wp2
    go_ret
    exact ⟨mu.ret_bool HR.out.symm,hb3⟩
   have r1:vd=(k:Int)+1:=Decidable.of_not_not r1
   have r1':(vd != (k:Int)+1)=false:=by simp [r1]
   have HR1:Hid (vd=(k:Int)+1):=r1
   clear r1
   go_wp2_with fail
   generalize hBB:wr.heap.size=BB at L0 ⊢
   generalize wr.alloc _=w2 at L0 HRW HAR2 HO2 hb3 hwl2 ⊢
   have HRW:Hid (RowsIn w2 w.heap.size (.slice a2 ms.length cap2) (.slice a3 ks.length cap3) ms ks):=HRW
   have HAR2:Hid (BoxesIn w2 w.heap.size (.slice (some ⟨b,off,none⟩) n cap) xs vs):=HAR2
   have HO2:Hid (bk.Own w2 w.heap.size m D):=HO2
   refine (place_any w.heap.size _ xs vs nm w2 HAR2.out (Nat.le_of_lt hwl2) (by have:=HN.out; omega)).mono ?_
   rintro e w4 ⟨⟨r,rfl,hr⟩,hb4⟩
   have L4:=L0.keep hb4
   have HRW4:Hid (RowsIn w4 w.heap.size (.slice a2 ms.length cap2) (.slice a3 ks.length cap3) ms ks):=rows_in_below HRW.out hb4 (Nat.le_of_lt hwl2)
   have HO4:Hid (bk.Own w4 w.heap.size m D):=bk.own_keep HO2.out hb4 hwl2
   have b4:=hb3.trans (hb4.mono hb3.size)
   have HPL:Hid (Plc xs nm r):=hr
   clear L0 HRW HAR2 HO2 hb3 hb4 hr hwl2 c0 c1 c2 c3 c4 hBB
   have e0:=L4.c0
   have e1:=L4.c1
   have e2:=L4.c2
   have e3:=L4.c3
   have e4:=L4.c4
   simp only at e0 e1 e2
   clear L4
   by_cases r2:¬ r=(k:Int)
   ·have r2':(r != (k:Int))=true:=by simp [r2]
    have HR:Hid (sok xs=false):=sok_no (fun y=>by
     rcases HPL.out with ⟨j,rfl,hj,hjn,hjf⟩ | ⟨rfl,hno⟩
     ·by_cases ejk:j < k
      ·exact (y.2 k HKA.out).2.2 j ejk (by rw [HX.out]; exact hjn)
      ·have:k < j:=by omega
       exact hjf k this (by rw [HX.out])
     ·exact hno k HKA.out (by rw [HX.out]))
    clear r2
    go_wp2
    go_ret
    exact ⟨mu.ret_bool HR.out.symm,b4⟩
   have r2:r=(k:Int):=Decidable.of_not_not r2
   have r2':(r != (k:Int))=false:=by simp [r2]
   have HFR:Hid (∀ j,j < k→(xs.getD j noB).nm ≠ nm):=by
    rcases HPL.out with ⟨j,hj,_,_,hjf⟩ | ⟨hj,_⟩
    ·have:j=k:=by omega
     subst this
     exact hjf
    ·omega
   clear HPL
   subst r2
   go_wp2_with fail
   refine (isRight_any ⟨nm,vd,nx,ms,ks⟩ _ _ w.heap.size m w.heap.size D w4 HRW4.out (Nat.le_refl _) HO4.out HSK.out).mono ?_
   rintro e w5 ⟨rfl,⟨m5,D5,ho5⟩,hb5⟩
   have HO5:Hid (bk.Own w5 w.heap.size m5 D5):=ho5
   have b5:=b4.trans hb5
   clear b4 hb5 ho5 HO4 HRW4 e0 e1 e2 e3 e4
   have HT:Hid (bok ⟨nm,vd,nx,ms,ks⟩=true→SOK xs (k+1)):=fun h=>sok_step HAL.out HX.out h HR1.out HFR.out
   have HF:Hid (bok ⟨nm,vd,nx,ms,ks⟩=false→sok xs=false):=fun h=>sok_no (fun y=>by have:=(y.2 k HKA.out).1; rw [HX.out,h] at this; cases this)
   generalize bok ⟨nm,vd,nx,ms,ks⟩=R at HT HF ⊢
   cases R
   ·have HR:Hid (sok xs=false):=HF.out (by trivial)
    go_wp2
    go_ret
    exact ⟨mu.ret_bool HR.out.symm,b5⟩
   ·have HR:Hid (SOK xs (k+1)):=HT.out (by trivial)
    go_wp2
    go_roundw
    case rel=>exact ⟨k+1,m5,D5,by omega,by go_num,HR.out,HO5.out,b5⟩
    case measure=>simp [intOf]; omega
  ·have HR:Hid (sok xs=true):=sok_yes (by have:=HN.out; omega) (fun j hj=>HAL.out j (by have:=HN.out; omega))
   go_wp2
   go_ret
   exact ⟨mu.ret_bool HR.out.symm,hbw⟩
end Go.Proofs.YtnhcbiomkiljpaaGreatDoor.bx
namespace Go.Proofs.YtnhcbiomkiljpaaGreatDoor.bx
open Go.RowKit
open st
set_option linter.unusedVariables false
theorem bel_drewN {B:Nat} {a w:World} (h:Below B a w) (n:Nat):Below B a (w.drewN n):=⟨h.os,h.tape,h.output,h.size,h.block⟩
theorem texts_take {w:World} {N n k cap:Nat} {a:Option Addr} {ks:List ByteArray} (hn:n=ks.length) (h:tx.TextsIn w N (.slice a n cap) ks) (hk:k≤n):ky.TextsAt w (.slice a k cap) (ks.take k):=by
 subst hn
 obtain ⟨a',cap',e,h⟩:=h
 cases e
 refine ⟨a,cap,by rw [List.length_take]; congr 1; omega,?_⟩
 rcases h with h | ⟨b,off,rfl,_,h⟩
 ·exact .inl (by rw [h]; simp)
 ·refine .inr ⟨b,off,rfl,fun j hj=>?_⟩
  rw [List.length_take] at hj
  rw [h j (by omega)]
  simp [List.getD_eq_getElem?_getD,show j < k by omega]
theorem take_mem {ks:List ByteArray} {k:Nat} (hk:k≤ks.length) (s:ByteArray):s ∈ ks.take k ↔ ∃ j,j < k∧ks.getD j ky.nt=s:=by
 constructor
 ·intro h
  obtain ⟨j,hj,e⟩:=List.mem_iff_getElem.1 h
  rw [List.length_take] at hj
  refine ⟨j,by omega,?_⟩
  rw [List.getElem_take] at e
  rw [List.getD_eq_getElem?_getD,List.getElem?_eq_getElem (by omega)]
  exact e
 ·rintro ⟨j,hj,rfl⟩
  rw [List.getD_eq_getElem?_getD,List.getElem?_eq_getElem (by omega)]
  refine List.mem_iff_getElem.2 ⟨j,by rw [List.length_take]; omega,?_⟩
  rw [List.getElem_take]
  rfl
theorem dist_step {ks:List ByteArray} {k:Nat} (hk:k < ks.length) (h:bk.Dist ks k) {x:ByteArray} (hx:ks.getD k ky.nt=x) (hh:ky.has (ks.take k) x=false):bk.Dist ks (k+1):=by
 intro i j hij hj
 by_cases e:j=k
 ·subst e
  intro y
  have:x ∈ ks.take j:=(take_mem (by omega) x).2 ⟨i,hij,y.trans hx⟩
  rw [ky.has_yes this] at hh
  cases hh
 ·exact h i j hij (by omega)
theorem dist_bad {ks:List ByteArray} {k:Nat} (hk:k < ks.length) {x:ByteArray} (hx:ks.getD k ky.nt=x) (hh:ky.has (ks.take k) x=true):bk.dist ks=false:=by
 refine ow.df fun h=>?_
 obtain ⟨j,hj,e⟩:=(take_mem (by omega) x).1 (ky.has_of hh)
 exact h j k hj hk (e.trans hx.symm)
theorem dist_yes {ks:List ByteArray} (h:bk.Dist ks ks.length):bk.dist ks=true:=ow.dt h
set_option maxHeartbeats 8000000 in
set_option maxRecDepth 100000 in
theorem spec_bok (x:Bx) (v u:Value) (w:World) (h:RowsAt w v u x.ms x.ks) (hx:Small x) (hcap:∀ a n c,u=.slice a n c→n≤c) :
  Calls Tryz.prog 117 #[BV x v u] w fun e w'=>e=.returned (.bool (bok x))∧Below w.heap.size w w':=by
 have L0:=lies_new w 85 x v u
 have b0:=new_below w 85 #[.string x.nm,.int .i64 x.vd,.int .i64 x.nx,v,u]
 have HA:Hid (RowsIn (w.alloc (.cells #[.string x.nm,.int .i64 x.vd,.int .i64 x.nx,v,u] 85)) w.heap.size v u x.ms x.ks):=rows_in_below h b0 (Nat.le_refl _)
 have hsz:w.heap.size < (w.alloc (.cells #[.string x.nm,.int .i64 x.vd,.int .i64 x.nx,v,u] 85)).heap.size:=by simp
 have HF:Hid (¬ (mu.nmB x.nm=true∧(1≤x.vd∧x.vd≤1000000)∧(1≤x.nx∧x.nx≤1001)∧mailsB x.ms x.nx=true∧(x.ks.length:Int)=x.nx - 1∧keysB x.ks=true∧bk.dist x.ks=true)→bok x=false):=fun hh=>Bool.eq_false_iff.2 fun y=>hh ((bok_of x).1 y)
 have HT:Hid (mu.nmB x.nm=true∧(1≤x.vd∧x.vd≤1000000)∧(1≤x.nx∧x.nx≤1001)∧mailsB x.ms x.nx=true∧(x.ks.length:Int)=x.nx - 1∧keysB x.ks=true∧bk.dist x.ks=true→bok x=true):=(bok_of x).2
 obtain ⟨⟨a,cap,rfl,_⟩,⟨a1,cap1,rfl,_⟩⟩:=h
 obtain ⟨nm,vd,nx,ms,ks⟩:=x
 obtain ⟨hi,hnm,hms,hks⟩:=hx
 have HMS:Hid (st.Smalls ms):=hms
 have HKS:Hid (tx.Smalls ks):=hks
 unfold BV
 simp only at L0 b0 HA hsz HF HT hnm ⊢
 obtain ⟨n,hn⟩:∃ n,n=ms.length:=⟨_,rfl⟩
 obtain ⟨p,hp⟩:∃ p,p=ks.length:=⟨_,rfl⟩
 have HLM:Hid (n=ms.length):=hn
 have HLK:Hid (p=ks.length):=hp
 have hnl:n≤1048576:=by rw [hn]; exact hms.1
 have hpl:p≤1048576:=by rw [hp]; exact hks.1
 have hcp:p≤cap1:=by rw [hp]; exact hcap _ _ _ rfl
 clear hcap
 rw [← hn,← hp] at L0 b0 HA hsz ⊢
 rw [← hp] at HF HT
 clear hi hms hks hn hp
 have HNM:Hid (∀ w,Calls Tryz.prog 82 #[.string nm] w fun e w'=>e=.returned (.bool (mu.nmB nm))∧w'=w):=fun w=>mu.spec_name nm w hnm
 have HI:Hid (∀ (n a b:Int) (w:World),Calls Tryz.prog 83 #[.int .i64 n,.int .i64 a,.int .i64 b] w fun e w'=>e=.returned (.bool (decide (a≤n∧n≤b)))∧w'=w):=mu.in_any
 generalize bok ⟨nm,vd,nx,ms,ks⟩=R at HF HT ⊢
 go_enter Tryz.func117,Tryz.ntmps117
 go_wp2_with fail
 generalize w.alloc _=w0 at L0 b0 HA hsz ⊢
 refine (HNM.out _).mono ?_
 rintro e w' ⟨rfl,rfl⟩
 have c0:=L0.c0
 have c1:=L0.c1
 have c2:=L0.c2
 have c3:=L0.c3
 have c4:=L0.c4
 simp only at c0 c1 c2 c3 c4
 generalize hq:mu.nmB nm=nb at HF HT ⊢
 clear hq HNM
 cases nb
 ·have HZ:Hid (R=false):=HF.out (fun x=>by have:=x.1; simp at this)
  go_wp2
  go_ret
  exact ⟨mu.ret_bool HZ.out.symm,b0⟩
 by_cases q1:¬ (1≤vd∧vd≤1000000)
 ·have e1:decide (1≤vd∧vd≤1000000)=false:=decide_eq_false q1
  have HZ:Hid (R=false):=HF.out (fun x=>q1 x.2.1)
  clear q1
  go_wp2_with (go_at_call 83; refine (HI.out _ _ _ _).mono ?_; rintro e w' ⟨rfl,rfl⟩; rw [e1])
  go_ret
  exact ⟨mu.ret_bool HZ.out.symm,b0⟩
 have q1:1≤vd∧vd≤1000000:=Decidable.of_not_not q1
 have e1:decide (1≤vd∧vd≤1000000)=true:=decide_eq_true q1
 have HQ1:Hid (1≤vd∧vd≤1000000):=q1
 clear q1
 by_cases q2:¬ (1≤nx∧nx≤1001)
 ·have e2:decide (1≤nx∧nx≤1001)=false:=decide_eq_false q2
  have HZ:Hid (R=false):=HF.out (fun x=>q2 x.2.2.1)
  clear q2
  go_wp2_with (go_at_call 83; refine (HI.out _ _ _ _).mono ?_; rintro e w' ⟨rfl,rfl⟩; first | rw [e1] | rw [e2])
  go_ret
  exact ⟨mu.ret_bool HZ.out.symm,b0⟩
 have q2:1≤nx∧nx≤1001:=Decidable.of_not_not q2
 have e2:decide (1≤nx∧nx≤1001)=true:=decide_eq_true q2
 obtain ⟨n1,n2⟩:=q2
 by_cases q3:30 < n
 ·have q3':(30:Int) < (n:Int):=by omega
  have HZ:Hid (R=false):=HF.out (fun x=>by have:=(mails_of x.2.2.2.1).1; have:=HLM.out; omega)
  go_wp2_with (go_at_call 83; refine (HI.out _ _ _ _).mono ?_; rintro e w' ⟨rfl,rfl⟩; first | rw [e1] | rw [e2])
  go_ret
  exact ⟨mu.ret_bool HZ.out.symm,b0⟩
 have q3':(n:Int)≤30:=by omega
 by_cases q4:60 < p
 ·have q4':(60:Int) < (p:Int):=by omega
  have HZ:Hid (R=false):=HF.out (fun x=>by have:=(keys_of x.2.2.2.2.2.1).1; have:=HLK.out; omega)
  go_wp2_with (go_at_call 83; refine (HI.out _ _ _ _).mono ?_; rintro e w' ⟨rfl,rfl⟩; first | rw [e1] | rw [e2])
  go_ret
  exact ⟨mu.ret_bool HZ.out.symm,b0⟩
 have q4':(p:Int)≤60:=by omega
 by_cases q5:¬ (p:Int)=nx - 1
 ·have q5':((p:Int) != nx - 1)=true:=by simp [q5]
  have HZ:Hid (R=false):=HF.out (fun x=>q5 x.2.2.2.2.1)
  clear q5
  go_wp2_with (go_at_call 83; refine (HI.out _ _ _ _).mono ?_; rintro e w' ⟨rfl,rfl⟩; first | rw [e1] | rw [e2])
  go_ret
  exact ⟨mu.ret_bool HZ.out.symm,b0⟩
 have q5:(p:Int)=nx - 1:=by omega
 have q5':((p:Int) != nx - 1)=false:=by simp [q5]
 have HQ5:Hid ((p:Int)=nx - 1):=q5
 clear q5
 go_wp2_with (go_at_call 83; refine (HI.out _ _ _ _).mono ?_; rintro e w' ⟨rfl,rfl⟩; first | rw [e1] | rw [e2])
 clear c0 c1 c2 c3 c4
 have HL0:Hid (∀ wr,Below w'.heap.size w' wr→Lies wr w.heap.size 85 ⟨nm,vd,nx,ms,ks⟩ (.slice a n cap) (.slice a1 p cap1)):=fun wr h=>L0.keep h
 have HBB:Hid (∀ wr,Below w'.heap.size w' wr→Below w.heap.size w wr):=fun wr h=>b0.trans (h.mono b0.size)
 clear L0 b0 e1 e2
 go_loopw [3] (fun i wr=>∃ (k:Nat),k≤n∧i=.int .i64 k∧MGood ms nx k∧Below w'.heap.size w' wr) (fun i _=>n - (intOf i).toNat)
 case atStart=>exact ⟨0,Nat.zero_le _,rfl,fun j hj=>absurd hj (Nat.not_lt_zero _),Below.refl _ _⟩
 case round =>
  obtain ⟨k,hk,rfl,hal,hbw⟩:=hrel
  have HAL:Hid (MGood ms nx k):=hal
  clear hal
  have Lr:=HL0.out _ hbw
  have HAr:Hid (RowsIn wr w.heap.size (.slice a n cap) (.slice a1 p cap1) ms ks):=rows_in_below HA.out hbw (Nat.le_of_lt hsz)
  have c2:=Lr.c2
  have c3:=Lr.c3
  have c4:=Lr.c4
  simp only at c2 c3 c4
  by_cases hlt:k < n
  ·have hka:k < ms.length:=by rw [← HLM.out]; exact hlt
   obtain ⟨b,off,ha,hbN,hcells⟩:∃ b off,a=some ⟨b,off,none⟩∧b < w.heap.size∧∀ j,j < ms.length→At3 wr b (off+j * 3) (ms.getD j noS):=by
    obtain ⟨a',cap',e,hh⟩:=HAr.out.1
    cases e
    rcases hh with e | ⟨b,off,e,hb,hc⟩
    ·rw [e] at hka; simp at hka
    ·exact ⟨b,off,e,hb,hc⟩
   have hat:=hcells k hka
   have HPR:Hid (∀ j,j < ms.length→At3 wr b (off+j * 3) (ms.getD j noS)):=hcells
   have HKA:Hid (k < ms.length):=hka
   subst ha
   clear hcells hka
   generalize hx:ms.getD k noS=x at hat
   have HX:Hid (ms.getD k noS=x):=hx
   clear hx
   obtain ⟨uu,f,t⟩:=x
   obtain ⟨d0,d1,d2⟩:=hat
   simp only at d0 d1 d2
   have hlt':(k:Int) < (n:Int):=by omega
   have hk0:(0:Int)≤(k:Int):=by omega
   go_upto_region 7 with fail
   have hb2:=new_below wr 122 #[.int .i64 uu,.int .i64 f,.string t]
   have M0:(wr.alloc (.cells #[.int .i64 uu,.int .i64 f,.string t] 122)).heap[wr.heap.size]? = some (.cells #[.int .i64 uu,.int .i64 f,.string t] 122 (0,0)):=heap_new _ _
   have L1:=Lr.keep hb2
   have HPR1:Hid (∀ j,j < ms.length→At3 (wr.alloc (.cells #[.int .i64 uu,.int .i64 f,.string t] 122)) b (off+j * 3) (ms.getD j noS)):=fun j hj=>(HPR.out j hj).keep hb2 (HPR.out j hj).lt
   have hbw1:=hbw.trans (hb2.mono hbw.size)
   generalize wr.alloc _=W1 at M0 L1 HPR1 hbw1 ⊢
   have l2:=L1.c2
   have l3:=L1.c3
   have m0:W1.cell? ⟨wr.heap.size,0,none⟩=some (.int .i64 uu):=by rw [cell_of_row W1 _ _ _ _ _ M0]; rfl
   have m1:W1.cell? ⟨wr.heap.size,0+1,none⟩=some (.int .i64 f):=by rw [cell_of_row W1 _ _ _ _ _ M0]; rfl
   have m2:W1.cell? ⟨wr.heap.size,0+2,none⟩=some (.string t):=by rw [cell_of_row W1 _ _ _ _ _ M0]; rfl
   simp only at l2 l3
   have HQ:Hid (0≤last ms k):=last_pos HAL.out
   clear c2 c3 c4 d0 d1 d2 M0 L1 Lr hbw hb2 HPR
   obtain ⟨bad,hbad⟩:∃ bad:Bool,(bad=true ↔ ¬ mOK nx (last ms k) ⟨uu,f,t⟩):=⟨@decide _ (Classical.propDecidable _),@decide_eq_true_iff _ (Classical.propDecidable _)⟩
   have HB:Hid (bad=true ↔ ¬ mOK nx (last ms k) ⟨uu,f,t⟩):=hbad
   clear hbad
   go_cut [89] (fun t wx=>t=.bool bad∧∃ q,wx=W1.drewN q)
   case first =>
    by_cases r1:¬ (1≤uu∧uu≤nx - 1)
    ·have e1:decide (1≤uu∧uu≤nx - 1)=false:=decide_eq_false r1
     have hbd:bad=true:=HB.out.2 (fun y=>by have h1:=y.1; have h2:=y.2.1; have h3:=HQ.out; simp only at h1 h2; omega)
     have HBD:Hid (bad=true):=hbd
     clear r1 hbd
     go_quiet ((go_at_call 83; exact Calls.quiet_of_same (HI.out _ _ _ _)))
     go_wp2_with fail
     go_meet
     exact ⟨by rw [HBD.out],_,rfl⟩
    have r1:1≤uu∧uu≤nx - 1:=Decidable.of_not_not r1
    have e1:decide (1≤uu∧uu≤nx - 1)=true:=decide_eq_true r1
    by_cases hk1:k=0
    ·have hl0:last ms k=0:=by rw [hk1]; rfl
     have HL1:Hid (last ms k=0):=hl0
     subst hk1
     clear hl0
     have hkz:decide ((0:Int) < ((0:Nat):Int))=false:=rfl
     by_cases r3:¬ (0≤f∧f≤31)
     ·have e3:decide (0≤f∧f≤31)=false:=decide_eq_false r3
      have hbd:bad=true:=HB.out.2 (fun y=>r3 y.2.2.1)
      have HBD:Hid (bad=true):=hbd
      clear r3 hbd
      go_quiet ((go_at_call 83; exact Calls.quiet_of_same (HI.out _ _ _ _)))
      go_wp2_with fail
      go_meet
      exact ⟨by rw [HBD.out],_,rfl⟩
     have r3:0≤f∧f≤31:=Decidable.of_not_not r3
     have e3:decide (0≤f∧f≤31)=true:=decide_eq_true r3
     by_cases r4:4000 < t.size
     ·have r4':(4000:Int) < (t.size:Int):=by omega
      have hbd:bad=true:=HB.out.2 (fun y=>by have:=y.2.2.2; simp only at this; omega)
      have HBD:Hid (bad=true):=hbd
      clear r3 r4 hbd
      go_quiet ((go_at_call 83; exact Calls.quiet_of_same (HI.out _ _ _ _)))
      go_wp2_with fail
      go_meet
      exact ⟨by rw [HBD.out],_,rfl⟩
     have r4':decide ((4000:Int) < (t.size:Int))=false:=decide_eq_false (by omega)
     have hbd:bad=false:=Bool.eq_false_iff.2 fun y=>HB.out.1 y ⟨by simp only; rw [HL1.out]; omega,by simp only; omega,r3,by simp only; omega⟩
     have HBD:Hid (bad=false):=hbd
     clear r3 r4 hbd
     go_quiet ((go_at_call 83; exact Calls.quiet_of_same (HI.out _ _ _ _)))
     go_wp2_with fail
     go_meet
     exact ⟨by rw [HBD.out],_,rfl⟩
    obtain ⟨j,rfl⟩:∃ j,k=j+1:=⟨k - 1,by omega⟩
    have hpr:=HPR1.out j (by have:=HKA.out; omega)
    have hl1:last ms (j+1)=(ms.getD j noS).u:=last_succ _ _
    generalize hy:ms.getD j noS=y at hpr hl1
    have HL1:Hid (last ms (j+1)=y.u):=hl1
    obtain ⟨g0,_,_⟩:=hpr
    generalize y.u=pu at g0 HL1
    clear hl1 hy
    have hjn:(j:Int) < (n:Int):=by omega
    have hj0:(0:Int)≤(j:Int):=by omega
    have hkz:(0:Int) < ((j+1:Nat):Int):=by omega
    have hkz2:decide ((0:Int) < (j:Int)+1)=true:=decide_eq_true (by omega)
    have hjj2:(j:Int)+1 - 1=(j:Int):=by omega
    have hjj:((j+1:Nat):Int) - 1=(j:Int):=by omega
    by_cases r2:uu≤pu
    ·have hbd:bad=true:=HB.out.2 (fun y=>by have h1:=y.1; rw [HL1.out] at h1; simp only at h1; omega)
     have HBD:Hid (bad=true):=hbd
     clear hbd
     go_quiet ((go_at_call 83; exact Calls.quiet_of_same (HI.out _ _ _ _)))
     go_wp2_with fail
     go_meet
     exact ⟨by rw [HBD.out],_,rfl⟩
    have r2':decide (uu≤pu)=false:=decide_eq_false r2
    by_cases r3:¬ (0≤f∧f≤31)
    ·have e3:decide (0≤f∧f≤31)=false:=decide_eq_false r3
     have hbd:bad=true:=HB.out.2 (fun y=>r3 y.2.2.1)
     have HBD:Hid (bad=true):=hbd
     clear r3 hbd
     go_quiet ((go_at_call 83; exact Calls.quiet_of_same (HI.out _ _ _ _)))
     go_wp2_with fail
     go_meet
     exact ⟨by rw [HBD.out],_,rfl⟩
    have r3:0≤f∧f≤31:=Decidable.of_not_not r3
    have e3:decide (0≤f∧f≤31)=true:=decide_eq_true r3
    by_cases r4:4000 < t.size
    ·have r4':(4000:Int) < (t.size:Int):=by omega
     have hbd:bad=true:=HB.out.2 (fun y=>by have:=y.2.2.2; simp only at this; omega)
     have HBD:Hid (bad=true):=hbd
     clear r3 r4 hbd
     go_quiet ((go_at_call 83; exact Calls.quiet_of_same (HI.out _ _ _ _)))
     go_wp2_with fail
     go_meet
     exact ⟨by rw [HBD.out],_,rfl⟩
    have r4':decide ((4000:Int) < (t.size:Int))=false:=decide_eq_false (by omega)
    have hbd:bad=false:=Bool.eq_false_iff.2 fun y=>HB.out.1 y ⟨by simp only; rw [HL1.out]; omega,by simp only; omega,r3,by simp only; omega⟩
    have HBD:Hid (bad=false):=hbd
    clear r3 r4 hbd
    go_quiet ((go_at_call 83; exact Calls.quiet_of_same (HI.out _ _ _ _)))
    go_wp2_with fail
    go_meet
    exact ⟨by rw [HBD.out],_,rfl⟩
   case rest =>
    obtain ⟨rfl,q,rfl⟩:=hcut
    have hbw2:=bel_drewN hbw1 q
    clear hbw1 l2 l3 m0 m1 m2
    generalize W1.drewN q=W2 at hbw2 ⊢
    cases bad
    ·have hok:mOK nx (last ms k) ⟨uu,f,t⟩:=Classical.not_not.1 fun h=>by have:=HB.out.2 h; simp at this
     have HR:Hid (MGood ms nx (k+1)):=mgood_step HAL.out HX.out hok
     clear hok
     go_wp2
     go_roundw
     case rel=>exact ⟨k+1,by omega,by go_num,HR.out,hbw2⟩
     case measure=>simp [intOf]; omega
    ·have HZ:Hid (R=false):=HF.out (fun y=>HB.out.1 (by trivial) (HX.out ▸ (mails_of y.2.2.2.1).2 k HKA.out))
     go_wp2
     go_ret
     exact ⟨mu.ret_bool HZ.out.symm,HBB.out _ hbw2⟩
  ·have hkn:k=n:=by omega
   have hmb:mailsB ms nx=true:=mails_yes (by have:=HLM.out; omega) (fun j hj=>HAL.out j (by have:=HLM.out; omega))
   have HMB:Hid (mailsB ms nx=true):=hmb
   clear hmb HAL c2 c3 c4 Lr HAr
   have Lr:=HL0.out _ hbw
   have c3:=Lr.c3
   have c4:=Lr.c4
   clear Lr
   go_wp2
   clear c3 c4
   have HBW:Hid (Below w'.heap.size w' wr):=hbw
   clear hbw
   go_loopw [5] (fun i wq=>∃ (z:Nat),z≤p∧i=.int .i64 z∧KGood ks z∧bk.Dist ks z∧Below w'.heap.size w' wq) (fun i _=>p - (intOf i).toNat)
   case atStart=>exact ⟨0,Nat.zero_le _,rfl,fun j hj=>absurd hj (Nat.not_lt_zero _),fun i j _ hj=>absurd hj (Nat.not_lt_zero _),HBW.out⟩
   case round =>
    clear HBW hkn hlt hk
    obtain ⟨z,hz,rfl,hkg,hdi,hbq⟩:=hrel
    have HKG:Hid (KGood ks z):=hkg
    have HDI:Hid (bk.Dist ks z):=hdi
    clear hkg hdi
    have Lq:=HL0.out _ hbq
    have HAq:Hid (RowsIn wr w.heap.size (.slice a n cap) (.slice a1 p cap1) ms ks):=rows_in_below HA.out hbq (Nat.le_of_lt hsz)
    have c4:=Lq.c4
    clear Lq
    by_cases hzp:z < p
    ·have hka:z < ks.length:=by rw [← HLK.out]; exact hzp
     obtain ⟨b,off,ha,hbN,hcells⟩:∃ b off,a1=some ⟨b,off,none⟩∧b < w.heap.size∧∀ j,j < ks.length→wr.cell? ⟨b,off+j,none⟩=some (.string (ks.getD j ky.nt)):=by
      obtain ⟨a',cap',e,hh⟩:=HAq.out.2
      cases e
      rcases hh with e | ⟨b,off,e,hb,hc⟩
      ·rw [e] at hka; simp at hka
      ·exact ⟨b,off,e,hb,hc⟩
     have d0:=hcells z hka
     have HKA:Hid (z < ks.length):=hka
     have HTK:Hid (∀ W,W.heap=wr.heap→ky.TextsAt W (.slice a1 z cap1) (ks.take z)):=fun W hW=>by
      have:=texts_take HLK.out HAq.out.2 (Nat.le_of_lt hzp)
      obtain ⟨a',cp,e,hh⟩:=this
      refine ⟨a',cp,e,?_⟩
      rcases hh with hh | ⟨b,off,e2,hc⟩
      ·exact .inl hh
      ·exact .inr ⟨b,off,e2,fun j hj=>by rw [← hc j hj]; simp only [World.cell?,hW]⟩
     subst ha
     clear hcells hka
     generalize hx:ks.getD z ky.nt=x at d0
     have HX:Hid (ks.getD z ky.nt=x):=hx
     clear hx
     have hlt':(z:Int) < (p:Int):=by omega
     have hz0:(0:Int)≤(z:Int):=by omega
     have hzp':(z:Int)≤(p:Int):=by omega
     have hzc:(z:Int)≤(cap1:Int):=by omega
     have htl:(ks.take z).length≤1048576:=by rw [List.length_take]; omega
     have HH:Hid (∀ W,W.heap=wr.heap→Calls Tryz.prog 85 #[.slice (some ⟨b,off,none⟩) z cap1,.string x] W fun e w'=>e=.returned (.bool (ky.has (ks.take z) x))∧w'=W):=fun W hW=>ky.spec_has _ _ _ _ (HTK.out W hW) htl
     have HBD:Hid (ky.has (ks.take z) x=false→bk.Dist ks (z+1)):=fun h=>dist_step HKA.out HDI.out HX.out h
     have HBN:Hid (ky.has (ks.take z) x=true→bk.dist ks=false):=fun h=>dist_bad HKA.out HX.out h
     clear htl HTK
     go_upto_region 12 with fail
     by_cases r1:¬ (1≤x.size∧x.size≤200)
     ·have e1:decide ((1:Int)≤(x.size:Int)∧(x.size:Int)≤200)=false:=decide_eq_false (by omega)
      have HZ:Hid (R=false):=HF.out (fun y=>r1 (HX.out ▸ (keys_of y.2.2.2.2.2.1).2 z HKA.out))
      clear r1
      go_quiet ((first | (go_at_call 83; exact Calls.quiet_of_same (HI.out _ _ _ _)) | (go_at_call 85; exact Calls.quiet_of_same (HH.out _ rfl))))
      have hb3:=bel_drewN hbq nq
      clear c4 d0 hbq
      go_wp2
      go_ret
      exact ⟨mu.ret_bool HZ.out.symm,HBB.out _ hb3⟩
     have r1:1≤x.size∧x.size≤200:=Decidable.of_not_not r1
     have e1:decide ((1:Int)≤(x.size:Int)∧(x.size:Int)≤200)=true:=decide_eq_true (by omega)
     have HKG1:Hid (KGood ks (z+1)):=kgood_step HKG.out HX.out r1
     clear r1
     generalize hhs:ky.has (ks.take z) x=hs at HH HBD HBN
     clear hhs
     cases hs
     ·go_quiet ((first | (go_at_call 83; exact Calls.quiet_of_same (HI.out _ _ _ _)) | (go_at_call 85; exact Calls.quiet_of_same (HH.out _ rfl))))
      have hb3:=bel_drewN hbq nq
      clear c4 d0 hbq
      go_wp2
      go_roundw
      case rel=>exact ⟨z+1,by omega,by go_num,HKG1.out,HBD.out (by trivial),hb3⟩
      case measure=>simp [intOf]; omega
     ·have HZ:Hid (R=false):=HF.out (fun y=>by have h1:=HBN.out (by trivial); rw [h1] at y; simp at y)
      go_quiet ((first | (go_at_call 83; exact Calls.quiet_of_same (HI.out _ _ _ _)) | (go_at_call 85; exact Calls.quiet_of_same (HH.out _ rfl))))
      have hb3:=bel_drewN hbq nq
      clear c4 d0 hbq
      go_wp2
      go_ret
      exact ⟨mu.ret_bool HZ.out.symm,HBB.out _ hb3⟩
    ·have HZ:Hid (R=true):=HT.out ⟨by trivial,HQ1.out,⟨n1,n2⟩,HMB.out,HQ5.out,keys_yes (by have:=HLK.out; omega) (fun j hj=>HKG.out j (by have:=HLK.out; omega)),dist_yes (fun i j hij hj=>HDI.out i j hij (by have:=HLK.out; omega))⟩
     go_wp2
     go_ret
     exact ⟨mu.ret_bool HZ.out.symm,HBB.out _ hbq⟩
end Go.Proofs.YtnhcbiomkiljpaaGreatDoor.bx
