/-
  Rows of boxes are held against each other: the program's own way; its SameStore.
  The specification's SameStore.
  An engine is right: both functions.
  Regions that draw their order and append to a row of bytes: what has come up, what the row holds, what lies beside it.
-/
import Derived.Test.YtnhcbiomkiljpaaGreatDoorPkbe
import Derived.Test.YtnhcbiomkiljpaaGreatDoorPkah
import Derived.Test.YtnhcbiomkiljpaaGreatDoorPkaf
import Derived.Test.YtnhcbiomkiljpaaGreatDoorPkaa
import Derived.Test.YtnhcbiomkiljpaaGreatDoorRows
import Derived.Below
import Derived.WalkKit
import Derived.Laws.AppendOwn
import Derived.Lib.AppendStr
import Derived.Lib.UnsafeStr

namespace Go.Proofs.YtnhcbiomkiljpaaGreatDoor.sm
open Go.RowKit Go.WideShapes
open st bx
set_option linter.unusedVariables false
def SameS (xs ys:List Bx):Prop:=xs.length=ys.length∧∀ j,j < xs.length→SameB (xs.getD j noB) (ys.getD j noB)
def dSameSs (xs ys:List Bx) (k:Nat):Decidable (∀ j,j < k→SameB (xs.getD j noB) (ys.getD j noB)):=@Nat.decidableBallLT k (fun j _=>SameB (xs.getD j noB) (ys.getD j noB)) (fun j _=>dSameB _ _)
def dSameS (xs ys:List Bx):Decidable (SameS xs ys):=@instDecidableAnd _ _ _ (dSameSs xs ys xs.length)
def sameS (xs ys:List Bx):Bool:=@decide (SameS xs ys) (dSameS xs ys)
theorem sameS_no {xs ys:List Bx} (h:¬ SameS xs ys):sameS xs ys=false:=ow.df h
theorem sameS_yes {xs ys:List Bx} (h:SameS xs ys):sameS xs ys=true:=ow.dt h
theorem sameB_of {x y:Bx} (h:sameB x y=true):SameB x y:=ow.dof h
theorem sameB_yes {x y:Bx} (h:SameB x y):sameB x y=true:=ow.dt h
theorem sameB_not {x y:Bx} (h:sameB x y=false):¬ SameB x y:=fun z=>by rw [sameB_yes z] at h; cases h
set_option maxHeartbeats 4000000 in
set_option maxRecDepth 100000 in
theorem equalS_any (v u:Value) (xs ys:List Bx) (vs us:Nat→Value × Value) (w:World) (h1:BoxesAt w v xs vs) (h2:BoxesAt w u ys us) (hs:bx.Smalls xs) (hs':bx.Smalls ys) :
  Calls Tryz.prog 98 #[v,u,.func (Fn.func 99) #[] #[]] w fun e w'=>e=.returned (.bool (sameS xs ys))∧Below w.heap.size w w':=by
 have HALL:Hid (BoxesAt w v xs vs∧BoxesAt w u ys us):=⟨h1,h2⟩
 obtain ⟨⟨a,cap,rfl,hc1⟩,_⟩:=h1
 obtain ⟨⟨c,cap2,rfl,hc2⟩,_⟩:=h2
 obtain ⟨n,hn⟩:∃ n,n=xs.length:=⟨_,rfl⟩
 obtain ⟨m,hm⟩:∃ m,m=ys.length:=⟨_,rfl⟩
 have HN:Hid (n=xs.length):=hn
 have HM:Hid (m=ys.length):=hm
 have hl:n≤1048576:=by rw [hn]; exact hs.1
 have hl2:m≤1048576:=by rw [hm]; exact hs'.1
 have HS:Hid (bx.Smalls xs∧bx.Smalls ys):=⟨hs,hs'⟩
 have H1:Hid (xs=[] ∨ ∃ b off,a=some ⟨b,off,none⟩∧b < w.heap.size∧∀ j,j < xs.length→At5 w b (off+j * 5) (xs.getD j noB) (vs j)):=hc1
 have H2:Hid (ys=[] ∨ ∃ b off,c=some ⟨b,off,none⟩∧b < w.heap.size∧∀ j,j < ys.length→At5 w b (off+j * 5) (ys.getD j noB) (us j)):=hc2
 rw [← hn,← hm] at HALL
 rw [← hn,← hm]
 clear hc1 hc2 hs hs' hn hm
 by_cases hnm:¬ n=m
 ·have hnm':((n:Int) != (m:Int))=true:=by simp; omega
  have HR:Hid (sameS xs ys=false):=sameS_no (fun y=>hnm (by have:=y.1; have:=HN.out; have:=HM.out; omega))
  go_enter Tryz.func98,Tryz.ntmps98
  go_wp2
  go_ret
  exact ⟨mu.ret_bool HR.out.symm,Below.refl _ _⟩
 have hnm:n=m:=Decidable.of_not_not hnm
 subst hnm
 have hnm':((n:Int) != (n:Int))=false:=by simp
 go_enter Tryz.func98,Tryz.ntmps98
 go_wp2
 go_loopw [17] (fun i wr=>∃ k:Nat,k≤n∧i=.int .i64 k∧(∀ j,j < k→SameB (xs.getD j noB) (ys.getD j noB))∧Below w.heap.size w wr) (fun i _=>n - (intOf i).toNat)
 case atStart=>exact ⟨0,Nat.zero_le _,rfl,fun j hj=>absurd hj (Nat.not_lt_zero _),Below.refl _ _⟩
 case round =>
  obtain ⟨k,hk,rfl,hal,hbw⟩:=hrel
  have HAL:Hid (∀ j,j < k→SameB (xs.getD j noB) (ys.getD j noB)):=hal
  clear hal
  by_cases hlt:k < n
  ·have hka:k < xs.length:=by rw [← HN.out]; exact hlt
   have hkb:k < ys.length:=by rw [← HM.out]; exact hlt
   rcases H1.out with e | ⟨b,off,rfl,hbl,hcells⟩
   ·rw [e] at hka; simp at hka
   rcases H2.out with e | ⟨b2,off2,rfl,hbl2,hcells2⟩
   ·rw [e] at hkb; simp at hkb
   have ha:=(hcells k hka).keep hbw hbl
   have hb:=(hcells2 k hkb).keep hbw hbl2
   have hr1:=rows_more ((boxes_in_below HALL.out.1 hbw (Nat.le_refl _)).2 k hka) hbw.size
   have hr2:=rows_more ((boxes_in_below HALL.out.2 hbw (Nat.le_refl _)).2 k hkb) hbw.size
   have hsa:=HS.out.1.2 k hka
   have hsb:=HS.out.2.2 k hkb
   have HNE:Hid (sameB (xs.getD k noB) (ys.getD k noB)=false→sameS xs ys=false):=fun h=>sameS_no (fun y=>sameB_not h (y.2 k hka))
   have HEQ:Hid (sameB (xs.getD k noB) (ys.getD k noB)=true→∀ j,j < k+1→SameB (xs.getD j noB) (ys.getD j noB)):=fun h j hj=>by
    by_cases e:j=k
    ·rw [e]; exact sameB_of h
    ·exact HAL.out j (by omega)
   clear hcells hka hcells2 hkb
   generalize xs.getD k noB=x at ha hsa hr1 HNE HEQ
   generalize ys.getD k noB=y at hb hsb hr2 HNE HEQ
   generalize vs k=q at ha hr1
   generalize us k=r at hb hr2
   obtain ⟨q1,q2⟩:=q
   obtain ⟨r1,r2⟩:=r
   obtain ⟨c0,c1,c2,c3,c4⟩:=ha
   obtain ⟨d0,d1,d2,d3,d4⟩:=hb
   simp only at c0 c1 c2 c3 c4 d0 d1 d2 d3 d4 hr1 hr2
   have HXY:Hid (bx.Small x∧bx.Small y):=⟨hsa,hsb⟩
   have hlt':(k:Int) < (n:Int):=by omega
   have hk0:(0:Int)≤(k:Int):=by omega
   have hb2:=(bx.new_below wr 85 #[.string x.nm,.int .i64 x.vd,.int .i64 x.nx,q1,q2]).alloc (by simp) (.cells #[.string y.nm,.int .i64 y.vd,.int .i64 y.nx,r1,r2] 85)
   have hd:=bx.new_below wr 85 #[.string x.nm,.int .i64 x.vd,.int .i64 x.nx,q1,q2]
   have e0:=(hd.cell (p:=⟨b2,off2+k * 5,none⟩) (World.block_lt_of_cell? wr _ d0)).trans d0
   have e1:=(hd.cell (p:=⟨b2,off2+k * 5+1,none⟩) (World.block_lt_of_cell? wr _ d1)).trans d1
   have e2:=(hd.cell (p:=⟨b2,off2+k * 5+2,none⟩) (World.block_lt_of_cell? wr _ d2)).trans d2
   have e3:=(hd.cell (p:=⟨b2,off2+k * 5+3,none⟩) (World.block_lt_of_cell? wr _ d3)).trans d3
   have e4:=(hd.cell (p:=⟨b2,off2+k * 5+4,none⟩) (World.block_lt_of_cell? wr _ d4)).trans d4
   have HR1:Hid (RowsAt ((wr.alloc (.cells #[.string x.nm,.int .i64 x.vd,.int .i64 x.nx,q1,q2] 85)).alloc (.cells #[.string y.nm,.int .i64 y.vd,.int .i64 y.nx,r1,r2] 85)) q1 q2 x.ms x.ks):=rows_below hr1 hb2
   have HR2:Hid (RowsAt ((wr.alloc (.cells #[.string x.nm,.int .i64 x.vd,.int .i64 x.nx,q1,q2] 85)).alloc (.cells #[.string y.nm,.int .i64 y.vd,.int .i64 y.nx,r1,r2] 85)) r1 r2 y.ms y.ks):=rows_below hr2 hb2
   have hb3:=hbw.trans (hb2.mono hbw.size)
   obtain ⟨⟨a2,cap2,rfl,_⟩,⟨a3,cap3,rfl,_⟩⟩:=hr1
   obtain ⟨⟨a4,cap4,rfl,_⟩,⟨a5,cap5,rfl,_⟩⟩:=hr2
   clear hsa hsb hb2 hd hbw
   go_wp2_with fail
   refine (sameBox_any x y _ _ _ _ _ HR1.out HR2.out HXY.out.1 HXY.out.2).mono ?_
   rintro e w2 ⟨rfl,hb4⟩
   have b4:=hb3.trans (hb4.mono hb3.size)
   clear hb3 hb4 HR1 HR2 c0 c1 c2 c3 c4 d0 d1 d2 d3 d4 e0 e1 e2 e3 e4
   generalize sameB x y=sb at HNE HEQ ⊢
   cases sb
   ·have HR:Hid (sameS xs ys=false):=HNE.out (by trivial)
    go_wp2
    go_ret
    exact ⟨mu.ret_bool HR.out.symm,b4⟩
   ·have HX:Hid (∀ j,j < k+1→SameB (xs.getD j noB) (ys.getD j noB)):=HEQ.out (by trivial)
    go_wp2
    go_roundw
    case rel=>exact ⟨k+1,by omega,by go_num,HX.out,b4⟩
    case measure=>simp [intOf]; omega
  ·have HR:Hid (sameS xs ys=true):=sameS_yes ⟨by have:=HN.out; have:=HM.out; omega,fun j hj=>HAL.out j (by have:=HN.out; omega)⟩
   go_wp2
   go_ret
   exact ⟨mu.ret_bool HR.out.symm,hbw⟩
def ssa (xs ys:List Bx):Bool:=decide (xs.length≤4096∧ys.length≤4096) && sok xs && sok ys && sameS xs ys
def ssb (xs ys:List Bx):Int:=if xs.length≤4096∧ys.length≤4096 then (if sok xs=true∧sok ys=true then 0 else 1) else 2
set_option maxHeartbeats 4000000 in
set_option maxRecDepth 100000 in
theorem impl_ss (v u:Value) (xs ys:List Bx) (vs us:Nat→Value × Value) (w:World) (h1:BoxesAt w v xs vs) (h2:BoxesAt w u ys us) (hs:bx.Smalls xs) (hs':bx.Smalls ys) :
  Calls Tryz.prog 52 #[v,u] w fun e w'=>e=.returned (.tuple #[.bool (ssa xs ys),.int .i64 (ssb xs ys)])∧Below w.heap.size w w':=by
 have HA:Hid (BoxesAt w v xs vs):=h1
 have HB:Hid (BoxesAt w u ys us):=h2
 obtain ⟨⟨a,cap,rfl,_⟩,_⟩:=h1
 obtain ⟨⟨c,cap2,rfl,_⟩,_⟩:=h2
 have HS:Hid (bx.Smalls xs∧bx.Smalls ys):=⟨hs,hs'⟩
 have HL:Hid (¬ (xs.length≤4096∧ys.length≤4096)→ssa xs ys=false∧ssb xs ys=2):=fun h=>by simp [ssa,ssb,h]
 have HB1:Hid (xs.length≤4096∧ys.length≤4096→sok xs=false→ssa xs ys=false∧ssb xs ys=1):=fun h h1=>by simp [ssa,ssb,h,h1]
 have HB2:Hid (xs.length≤4096∧ys.length≤4096→sok ys=false→ssa xs ys=false∧ssb xs ys=1):=fun h h1=>by simp [ssa,ssb,h,h1]
 have HO:Hid (xs.length≤4096∧ys.length≤4096→sok xs=true→sok ys=true→ssa xs ys=sameS xs ys∧ssb xs ys=0):=fun h h1 h2=>by simp [ssa,ssb,h,h1,h2]
 have hl1:=hs.1
 have hl2:=hs'.1
 clear hs hs'
 generalize ssa xs ys=RA at HL HB1 HB2 HO ⊢
 generalize ssb xs ys=RB at HL HB1 HB2 HO ⊢
 by_cases g1:4096 < xs.length
 ·have g1':(4096:Int) < (xs.length:Int):=by omega
  obtain ⟨r0,r1⟩:=HL.out (by omega)
  have HR:Hid (RA=false∧RB=2):=⟨r0,r1⟩
  clear r0 r1
  go_enter Tryz.func52,Tryz.ntmps52
  go_wp2
  go_ret2
  exact ⟨by rw [HR.out.1,HR.out.2]; rfl,Below.refl _ _⟩
 have g1':(xs.length:Int)≤4096:=by omega
 by_cases g2:4096 < ys.length
 ·have g2':(4096:Int) < (ys.length:Int):=by omega
  obtain ⟨r0,r1⟩:=HL.out (by omega)
  have HR:Hid (RA=false∧RB=2):=⟨r0,r1⟩
  clear r0 r1
  go_enter Tryz.func52,Tryz.ntmps52
  go_wp2
  go_ret2
  exact ⟨by rw [HR.out.1,HR.out.2]; rfl,Below.refl _ _⟩
 have g2':(ys.length:Int)≤4096:=by omega
 have HLL:Hid (xs.length≤4096∧ys.length≤4096):=⟨by omega,by omega⟩
 go_enter Tryz.func52,Tryz.ntmps52
 go_wp2_with fail
 refine (impl_sok _ xs vs w HA.out HS.out.1).mono ?_
 rintro e w1 ⟨rfl,b1⟩
 have HA1:Hid (BoxesAt w1 (.slice a xs.length cap) xs vs):=boxes_below HA.out b1
 have HB1':Hid (BoxesAt w1 (.slice c ys.length cap2) ys us):=boxes_below HB.out b1
 clear HA HB
 generalize sok xs=sx at HB1 HO ⊢
 cases sx
 ·obtain ⟨r0,r1⟩:=HB1.out HLL.out (by trivial)
  have HR:Hid (RA=false∧RB=1):=⟨r0,r1⟩
  clear r0 r1
  go_wp2
  go_ret2
  exact ⟨by rw [HR.out.1,HR.out.2]; rfl,b1⟩
 go_wp2_with fail
 refine (impl_sok _ ys us w1 HB1'.out HS.out.2).mono ?_
 rintro e w2 ⟨rfl,hb2⟩
 have HA2:Hid (BoxesAt w2 (.slice a xs.length cap) xs vs):=boxes_below HA1.out hb2
 have HB2':Hid (BoxesAt w2 (.slice c ys.length cap2) ys us):=boxes_below HB1'.out hb2
 have b2:=b1.trans (hb2.mono b1.size)
 clear HA1 HB1' b1 hb2
 generalize sok ys=sy at HB2 HO ⊢
 cases sy
 ·obtain ⟨r0,r1⟩:=HB2.out HLL.out (by trivial)
  have HR:Hid (RA=false∧RB=1):=⟨r0,r1⟩
  clear r0 r1
  go_wp2
  go_ret2
  exact ⟨by rw [HR.out.1,HR.out.2]; rfl,b2⟩
 obtain ⟨r0,r1⟩:=HO.out HLL.out (by trivial) (by trivial)
 have HR:Hid (RA=sameS xs ys∧RB=0):=⟨r0,r1⟩
 clear r0 r1
 go_wp2_with fail
 refine (equalS_any _ _ xs ys vs us w2 HA2.out HB2'.out HS.out.1 HS.out.2).mono ?_
 rintro e w3 ⟨rfl,hb3⟩
 have b3:=b2.trans (hb3.mono b2.size)
 clear HA2 HB2' b2 hb3
 go_wp2
 go_ret2
 exact ⟨by rw [HR.out.1,HR.out.2]; rfl,b3⟩
end Go.Proofs.YtnhcbiomkiljpaaGreatDoor.sm

namespace Go.Proofs.YtnhcbiomkiljpaaGreatDoor.sm
open Go.RowKit Go.WideShapes
open st bx
set_option linter.unusedVariables false
set_option maxHeartbeats 8000000 in
set_option maxRecDepth 100000 in
theorem l09Same_any (v u:Value) (xs ys:List Bx) (vs us:Nat→Value × Value) (w:World) (h1:BoxesAt w v xs vs) (h2:BoxesAt w u ys us) (hs:bx.Smalls xs) (hs':bx.Smalls ys) :
  Calls Tryz.prog 81 #[v,u] w fun e w'=>e=.returned (.bool (sameS xs ys))∧Below w.heap.size w w':=by
 have HALL:Hid (BoxesAt w v xs vs∧BoxesAt w u ys us):=⟨h1,h2⟩
 obtain ⟨⟨a,cap,rfl,hc1⟩,_⟩:=h1
 obtain ⟨⟨c,cap2,rfl,hc2⟩,_⟩:=h2
 obtain ⟨n,hn⟩:∃ n,n=xs.length:=⟨_,rfl⟩
 obtain ⟨m,hm⟩:∃ m,m=ys.length:=⟨_,rfl⟩
 have HN:Hid (n=xs.length):=hn
 have HM:Hid (m=ys.length):=hm
 have hl:n≤1048576:=by rw [hn]; exact hs.1
 have hl2:m≤1048576:=by rw [hm]; exact hs'.1
 have HS:Hid (bx.Smalls xs∧bx.Smalls ys):=⟨hs,hs'⟩
 have H1:Hid (xs=[] ∨ ∃ b off,a=some ⟨b,off,none⟩∧b < w.heap.size∧∀ j,j < xs.length→At5 w b (off+j * 5) (xs.getD j noB) (vs j)):=hc1
 have H2:Hid (ys=[] ∨ ∃ b off,c=some ⟨b,off,none⟩∧b < w.heap.size∧∀ j,j < ys.length→At5 w b (off+j * 5) (ys.getD j noB) (us j)):=hc2
 rw [← hn,← hm] at HALL
 rw [← hn,← hm]
 clear hc1 hc2 hs hs' hn hm
 by_cases hnm:¬ n=m
 ·have hnm':((n:Int) != (m:Int))=true:=by simp; omega
  have HR:Hid (sameS xs ys=false):=sameS_no (fun y=>hnm (by have:=y.1; have:=HN.out; have:=HM.out; omega))
  go_enter Tryz.func81,Tryz.ntmps81
  go_wp2
  go_ret
  exact ⟨mu.ret_bool HR.out.symm,Below.refl _ _⟩
 have hnm:n=m:=Decidable.of_not_not hnm
 subst hnm
 have hnm':((n:Int) != (n:Int))=false:=by simp
 go_enter Tryz.func81,Tryz.ntmps81
 go_wp2
 go_loopw [5] (fun i wr=>∃ k:Nat,k≤n∧i=.int .i64 k∧(∀ j,j < k→SameB (xs.getD j noB) (ys.getD j noB))∧Below w.heap.size w wr) (fun i _=>n - (intOf i).toNat)
 case atStart=>exact ⟨0,Nat.zero_le _,rfl,fun j hj=>absurd hj (Nat.not_lt_zero _),Below.refl _ _⟩
 case round =>
  obtain ⟨k,hk,rfl,hal,hbw⟩:=hrel
  have HAL:Hid (∀ j,j < k→SameB (xs.getD j noB) (ys.getD j noB)):=hal
  clear hal
  by_cases hlt:k < n
  ·have hka:k < xs.length:=by rw [← HN.out]; exact hlt
   have hkb:k < ys.length:=by rw [← HM.out]; exact hlt
   rcases H1.out with e | ⟨b,off,rfl,hbl,hcells⟩
   ·rw [e] at hka; simp at hka
   rcases H2.out with e | ⟨b2,off2,rfl,hbl2,hcells2⟩
   ·rw [e] at hkb; simp at hkb
   have ha:=(hcells k hka).keep hbw hbl
   have hb:=(hcells2 k hkb).keep hbw hbl2
   have hr1:=rows_more ((boxes_in_below HALL.out.1 hbw (Nat.le_refl _)).2 k hka) hbw.size
   have hr2:=rows_more ((boxes_in_below HALL.out.2 hbw (Nat.le_refl _)).2 k hkb) hbw.size
   have hsa:=HS.out.1.2 k hka
   have hsb:=HS.out.2.2 k hkb
   have HNE:Hid (¬ SameB (xs.getD k noB) (ys.getD k noB)→sameS xs ys=false):=fun h=>sameS_no (fun y=>h (y.2 k hka))
   have HEQ:Hid (SameB (xs.getD k noB) (ys.getD k noB)→∀ j,j < k+1→SameB (xs.getD j noB) (ys.getD j noB)):=fun h j hj=>by
    by_cases e:j=k
    ·rw [e]; exact h
    ·exact HAL.out j (by omega)
   clear hcells hka hcells2 hkb
   generalize xs.getD k noB=x at ha hsa hr1 HNE HEQ
   generalize ys.getD k noB=y at hb hsb hr2 HNE HEQ
   generalize vs k=q at ha hr1
   generalize us k=r at hb hr2
   obtain ⟨q1,q2⟩:=q
   obtain ⟨r1,r2⟩:=r
   obtain ⟨c0,c1,c2,c3,c4⟩:=ha
   obtain ⟨d0,d1,d2,d3,d4⟩:=hb
   simp only at c0 c1 c2 c3 c4 d0 d1 d2 d3 d4 hr1 hr2
   have HXY:Hid (bx.Small x∧bx.Small y):=⟨hsa,hsb⟩
   have hlt':(k:Int) < (n:Int):=by omega
   have hk0:(0:Int)≤(k:Int):=by omega
   have hd:=bx.new_below wr 85 #[.string x.nm,.int .i64 x.vd,.int .i64 x.nx,q1,q2]
   have hb2:=hd.alloc (by simp) (.cells #[.string y.nm,.int .i64 y.vd,.int .i64 y.nx,r1,r2] 85)
   have e0:=(hd.cell (p:=⟨b2,off2+k * 5,none⟩) (World.block_lt_of_cell? wr _ d0)).trans d0
   have e1:=(hd.cell (p:=⟨b2,off2+k * 5+1,none⟩) (World.block_lt_of_cell? wr _ d1)).trans d1
   have e2:=(hd.cell (p:=⟨b2,off2+k * 5+2,none⟩) (World.block_lt_of_cell? wr _ d2)).trans d2
   have e3:=(hd.cell (p:=⟨b2,off2+k * 5+3,none⟩) (World.block_lt_of_cell? wr _ d3)).trans d3
   have e4:=(hd.cell (p:=⟨b2,off2+k * 5+4,none⟩) (World.block_lt_of_cell? wr _ d4)).trans d4
   have L0:=(lies_new wr 85 x q1 q2).keep (bx.new_below _ 85 #[.string y.nm,.int .i64 y.vd,.int .i64 y.nx,r1,r2])
   have M0:=lies_new (wr.alloc (.cells #[.string x.nm,.int .i64 x.vd,.int .i64 x.nx,q1,q2] 85)) 85 y r1 r2
   rw [show (wr.alloc (.cells #[.string x.nm,.int .i64 x.vd,.int .i64 x.nx,q1,q2] 85)).heap.size=wr.heap.size+1 by simp] at M0
   have HR1:=rows_below hr1 hb2
   have HR2:=rows_below hr2 hb2
   have hb3:=hbw.trans (hb2.mono hbw.size)
   obtain ⟨⟨a2,cap2,rfl,_⟩,⟨a3,cap3,rfl,_⟩⟩:=hr1
   obtain ⟨⟨a4,cap4,rfl,_⟩,⟨a5,cap5,rfl,_⟩⟩:=hr2
   clear hsa hsb hb2 hd hbw
   obtain ⟨nm,vd,nx,ms,ks⟩:=x
   obtain ⟨nm',vd',nx',ms',ks'⟩:=y
   simp only at c0 c1 c2 c3 c4 d0 d1 d2 d3 d4 e0 e1 e2 e3 e4 L0 M0 HR1 HR2 HXY HNE HEQ hb3
   have hm1:ms.length≤1048576:=HXY.out.1.2.2.1.1
   have hm2:ms'.length≤1048576:=HXY.out.2.2.2.1.1
   have hk1:ks.length≤1048576:=HXY.out.1.2.2.2.1
   have hk2:ks'.length≤1048576:=HXY.out.2.2.2.2.1
   by_cases q0:¬ nm=nm'
   ·have q0':(nm.toList == nm'.toList)=false:=ky.ne_list q0
    have HZ:Hid (sameS xs ys=false):=HNE.out fun z=>q0 z.1
    clear q0
    go_wp2
    go_ret
    exact ⟨mu.ret_bool HZ.out.symm,hb3⟩
   have q0:nm=nm':=Classical.not_not.1 q0
   have q0':(nm.toList == nm'.toList)=true:=by rw [q0]; simp
   have HQ0:Hid (nm=nm'):=q0
   clear q0
   by_cases q1:¬ vd=vd'
   ·have q1':(vd != vd')=true:=by simp [q1]
    have HZ:Hid (sameS xs ys=false):=HNE.out fun z=>q1 z.2.1
    clear q1
    go_wp2
    go_ret
    exact ⟨mu.ret_bool HZ.out.symm,hb3⟩
   have q1:vd=vd':=Decidable.of_not_not q1
   have q1':(vd != vd')=false:=by simp [q1]
   have HQ1:Hid (vd=vd'):=q1
   clear q1
   by_cases q2:¬ nx=nx'
   ·have q2':(nx != nx')=true:=by simp [q2]
    have HZ:Hid (sameS xs ys=false):=HNE.out fun z=>q2 z.2.2.1
    clear q2
    go_wp2
    go_ret
    exact ⟨mu.ret_bool HZ.out.symm,hb3⟩
   have q2:nx=nx':=Decidable.of_not_not q2
   have q2':(nx != nx')=false:=by simp [q2]
   have HQ2:Hid (nx=nx'):=q2
   clear q2
   by_cases q3:¬ ms.length=ms'.length
   ·have q3':((ms.length:Int) != (ms'.length:Int))=true:=by simp; omega
    have HZ:Hid (sameS xs ys=false):=HNE.out fun z=>q3 z.2.2.2.1.1
    go_wp2
    go_ret
    exact ⟨mu.ret_bool HZ.out.symm,hb3⟩
   have q3:ms.length=ms'.length:=Decidable.of_not_not q3
   have q3':((ms.length:Int) != (ms'.length:Int))=false:=by simp; omega
   have HQ3:Hid (ms.length=ms'.length):=q3
   clear q3
   by_cases q4:¬ ks.length=ks'.length
   ·have q4':((ks.length:Int) != (ks'.length:Int))=true:=by simp; omega
    have HZ:Hid (sameS xs ys=false):=HNE.out fun z=>q4 z.2.2.2.2.1
    go_wp2
    go_ret
    exact ⟨mu.ret_bool HZ.out.symm,hb3⟩
   have q4:ks.length=ks'.length:=Decidable.of_not_not q4
   have q4':((ks.length:Int) != (ks'.length:Int))=false:=by simp; omega
   have HQ4:Hid (ks.length=ks'.length):=q4
   clear q4
   go_wp2
   clear c0 c1 c2 c3 c4 d0 d1 d2 d3 d4 e0 e1 e2 e3 e4 q0' q1' q2' q3' q4'
   generalize (wr.alloc _).alloc _=W1 at L0 M0 HR1 HR2 hb3 ⊢
   generalize wr.heap.size=B at L0 M0 ⊢
   have HL0:Hid (∀ wq,Below W1.heap.size W1 wq→Lies wq B 85 ⟨nm,vd,nx,ms,ks⟩ (.slice a2 ms.length cap2) (.slice a3 ks.length cap3)):=fun wq h=>L0.keep h
   have HM0:Hid (∀ wq,Below W1.heap.size W1 wq→Lies wq (B+1) 85 ⟨nm',vd',nx',ms',ks'⟩ (.slice a4 ms'.length cap4) (.slice a5 ks'.length cap5)):=fun wq h=>M0.keep h
   have HR1:Hid (RowsAt W1 (.slice a2 ms.length cap2) (.slice a3 ks.length cap3) ms ks):=HR1
   have HR2:Hid (RowsAt W1 (.slice a4 ms'.length cap4) (.slice a5 ks'.length cap5) ms' ks'):=HR2
   have HB3:Hid (∀ wq,Below W1.heap.size W1 wq→Below w.heap.size w wq):=fun wq h=>hb3.trans (h.mono hb3.size)
   clear L0 M0 hb3
   go_loopw [8] (fun i wq=>∃ z:Nat,z≤ms.length∧i=.int .i64 z∧(∀ j,j < z→ms.getD j noS=ms'.getD j noS)∧Below W1.heap.size W1 wq) (fun i _=>ms.length - (intOf i).toNat)
   case atStart=>exact ⟨0,Nat.zero_le _,rfl,fun j hj=>absurd hj (Nat.not_lt_zero _),Below.refl _ _⟩
   case round =>
    obtain ⟨z,hz,rfl,hzl,hbq⟩:=hrel
    have HZL:Hid (∀ j,j < z→ms.getD j noS=ms'.getD j noS):=hzl
    clear hzl
    have c3:=(HL0.out _ hbq).c3
    have d3:=(HM0.out _ hbq).c3
    have c4:=(HL0.out _ hbq).c4
    by_cases hzn:z < ms.length
    ·have hzn2:z < ms'.length:=by have:=HQ3.out; omega
     obtain ⟨b,off,ha,hat⟩:∃ b off,a2=some ⟨b,off,none⟩∧At3 wr b (off+z * 3) (ms.getD z noS):=by
      obtain ⟨a',cap',e,hh⟩:=(rows_below HR1.out hbq).1
      cases e
      rcases hh with e | ⟨b,off,e,hb,hc⟩
      ·rw [e] at hzn; simp at hzn
      ·exact ⟨b,off,e,hc z hzn⟩
     obtain ⟨b',off',ha',hat'⟩:∃ b off,a4=some ⟨b,off,none⟩∧At3 wr b (off+z * 3) (ms'.getD z noS):=by
      obtain ⟨a',cap',e,hh⟩:=(rows_below HR2.out hbq).1
      cases e
      rcases hh with e | ⟨b,off,e,hb,hc⟩
      ·rw [e] at hzn2; simp at hzn2
      ·exact ⟨b,off,e,hc z hzn2⟩
     have hsa:=HXY.out.1.2.2.1.2 z hzn
     have hsb:=HXY.out.2.2.2.1.2 z hzn2
     have HN2:Hid (¬ ms.getD z noS=ms'.getD z noS→sameS xs ys=false):=fun h=>HNE.out fun y=>h (y.2.2.2.1.2 z hzn)
     have HE2:Hid (ms.getD z noS=ms'.getD z noS→∀ j,j < z+1→ms.getD j noS=ms'.getD j noS):=fun h j hj=>by
      by_cases e:j=z
      ·rw [e]; exact h
      ·exact HZL.out j (by omega)
     subst ha ha'
     simp only at hsa hsb
     generalize ms.getD z noS=x at hat hsa HN2 HE2
     generalize ms'.getD z noS=y at hat' hsb HN2 HE2
     have hrun:=fun W=>ne_run x y hsa hsb W
     have hgd:=guard_run
     obtain ⟨g0,g1,g2⟩:=hat
     obtain ⟨f0,f1,f2⟩:=hat'
     clear hsa hsb
     have hz1:(z:Int) < (ms.length:Int):=by omega
     have hz2:(z:Int) < (ms'.length:Int):=by omega
     have hz0:(0:Int)≤(z:Int):=by omega
     by_cases hxy:x=y
     ·have HX:Hid (∀ j,j < z+1→ms.getD j noS=ms'.getD j noS):=HE2.out hxy
      rw [eqS_yes hxy] at hrun
      simp only [Bool.not_true] at hrun
      clear hxy HN2 HE2
      go_wp2_with fail
      go_quiet (fail)
      have b3:=bel_drewN hbq nq
      clear c3 d3 c4 g0 g1 g2 f0 f1 f2 hrun hbq
      go_wp2
      go_roundw
      case rel=>exact ⟨z+1,by omega,by go_num,HX.out,b3⟩
      case measure=>simp [intOf]; omega
     ·have HR:Hid (sameS xs ys=false):=HN2.out hxy
      rw [eqS_no hxy] at hrun
      simp only [Bool.not_false] at hrun
      clear hxy HN2 HE2
      go_wp2_with fail
      go_quiet (fail)
      have b3:=bel_drewN hbq nq
      clear c3 d3 c4 g0 g1 g2 f0 f1 f2 hrun hbq
      go_wp2
      go_ret
      exact ⟨mu.ret_bool HR.out.symm,HB3.out _ b3⟩
    have HMM:Hid (SameM ms ms'):=⟨HQ3.out,fun j hj=>HZL.out j (by omega)⟩
    have HBQ:Hid (Below W1.heap.size W1 wr):=hbq
    clear HZL hbq
    go_wp2
    clear c3 d3 c4
    go_loopw [9] (fun i wq=>∃ z:Nat,z≤ks.length∧i=.int .i64 z∧(∀ j,j < z→ks.getD j ky.nt=ks'.getD j ky.nt)∧Below W1.heap.size W1 wq) (fun i _=>ks.length - (intOf i).toNat)
    case atStart=>exact ⟨0,Nat.zero_le _,rfl,fun j hj=>absurd hj (Nat.not_lt_zero _),HBQ.out⟩
    case round =>
     clear HBQ
     obtain ⟨z,hz,rfl,hzl,hbq⟩:=hrel
     have HZL:Hid (∀ j,j < z→ks.getD j ky.nt=ks'.getD j ky.nt):=hzl
     clear hzl
     have c4:=(HL0.out _ hbq).c4
     have d4:=(HM0.out _ hbq).c4
     by_cases hzn:z < ks.length
     ·have hzn2:z < ks'.length:=by have:=HQ4.out; omega
      obtain ⟨b,off,ha,g0⟩:∃ b off,a3=some ⟨b,off,none⟩∧wr.cell? ⟨b,off+z,none⟩=some (.string (ks.getD z ky.nt)):=by
       obtain ⟨a',cap',e,hh⟩:=(rows_below HR1.out hbq).2
       cases e
       rcases hh with e | ⟨b,off,e,hb,hc⟩
       ·rw [e] at hzn; simp at hzn
       ·exact ⟨b,off,e,hc z hzn⟩
      obtain ⟨b',off',ha',f0⟩:∃ b off,a5=some ⟨b,off,none⟩∧wr.cell? ⟨b,off+z,none⟩=some (.string (ks'.getD z ky.nt)):=by
       obtain ⟨a',cap',e,hh⟩:=(rows_below HR2.out hbq).2
       cases e
       rcases hh with e | ⟨b,off,e,hb,hc⟩
       ·rw [e] at hzn2; simp at hzn2
       ·exact ⟨b,off,e,hc z hzn2⟩
      have HN2:Hid (¬ ks.getD z ky.nt=ks'.getD z ky.nt→sameS xs ys=false):=fun h=>HNE.out fun y=>h (y.2.2.2.2.2 z hzn)
      have HE2:Hid (ks.getD z ky.nt=ks'.getD z ky.nt→∀ j,j < z+1→ks.getD j ky.nt=ks'.getD j ky.nt):=fun h j hj=>by
       by_cases e:j=z
       ·rw [e]; exact h
       ·exact HZL.out j (by omega)
      subst ha ha'
      generalize ks.getD z ky.nt=x at g0 HN2 HE2
      generalize ks'.getD z ky.nt=y at f0 HN2 HE2
      have hz1:(z:Int) < (ks.length:Int):=by omega
      have hz2:(z:Int) < (ks'.length:Int):=by omega
      have hz0:(0:Int)≤(z:Int):=by omega
      by_cases hxy:x=y
      ·have HX:Hid (∀ j,j < z+1→ks.getD j ky.nt=ks'.getD j ky.nt):=HE2.out hxy
       have hx':(x.toList == y.toList)=true:=by rw [hxy]; simp
       clear hxy HN2 HE2
       go_wp2_with fail
       go_quiet (fail)
       have b3:=bel_drewN hbq nq
       clear c4 d4 g0 f0 hbq
       go_wp2
       go_roundw
       case rel=>exact ⟨z+1,by omega,by go_num,HX.out,b3⟩
       case measure=>simp [intOf]; omega
      ·have HR:Hid (sameS xs ys=false):=HN2.out hxy
       have hx':(x.toList == y.toList)=false:=ky.ne_list hxy
       clear hxy HN2 HE2
       go_wp2_with fail
       go_quiet (fail)
       have b3:=bel_drewN hbq nq
       clear c4 d4 g0 f0 hbq
       go_wp2
       go_ret
       exact ⟨mu.ret_bool HR.out.symm,HB3.out _ b3⟩
     have HX:Hid (∀ j,j < k+1→SameB (xs.getD j noB) (ys.getD j noB)):=HEQ.out ⟨HQ0.out,HQ1.out,HQ2.out,HMM.out,HQ4.out,fun j hj=>HZL.out j (by simp only at hj; omega)⟩
     have b3:=HB3.out _ hbq
     go_wp2
     go_roundw
     case rel=>exact ⟨k+1,by omega,by go_num,HX.out,b3⟩
     case measure=>simp [intOf]; omega
  ·have HR:Hid (sameS xs ys=true):=sameS_yes ⟨by have:=HN.out; have:=HM.out; omega,fun j hj=>HAL.out j (by have:=HN.out; omega)⟩
   go_wp2
   go_ret
   exact ⟨mu.ret_bool HR.out.symm,hbw⟩
end Go.Proofs.YtnhcbiomkiljpaaGreatDoor.sm

namespace Go.Proofs.YtnhcbiomkiljpaaGreatDoor.eg
open Go.RowKit
open bx bl
open lg (LV recs recR scan next next_ok Errs)
set_option linter.unusedVariables false
theorem scan_zero (t:ByteArray):∀ f p acc,p≤t.size→t.size - p < f→(scan t f p acc).2.2=0→(scan t f p acc).2.1=t.size
 | 0,p,acc,hp,hf,_=>by omega
 | f+1,p,acc,hp,hf,hc=>by
  rw [scan] at hc ⊢
  by_cases h1:t.size≤p
  ·rw [if_pos h1]; show p=t.size; omega
  ·rw [if_neg h1] at hc ⊢
   by_cases h2:(next t p).1=0
   ·rw [if_pos h2] at hc ⊢
    have hk:=next_ok h2
    exact scan_zero t f _ _ (by omega) (by omega) hc
   ·rw [if_neg h2] at hc
    exact absurd hc h2
theorem recs_zero {t:ByteArray} (h:(recs t).2.2=0):(recs t).2.1=t.size:=scan_zero t _ _ _ (Nat.zero_le _) (by omega) h
def Cn (r:Int) (d:ByteArray) (s:Int) (bs:List Bx):Prop:=lg.ok r d.size s=true∧s=((d.size:Nat):Int)∧(recs d).2.2=0∧∃ zs,rp.Rp (recs d).1 [] (zs,true)∧sok bs=true∧sm.sameS zs bs=true
def Ek (r:Int) (d:ByteArray) (s:Int) (bs:List Bx) (o:Bool):Prop:=o=true ↔ Cn r d s bs
def Er (r:Int) (d:ByteArray) (s:Int) (bs:List Bx) (e:Ending):Prop:=∃ o,e=.returned (.bool o)∧Ek r d s bs o
theorem ek_no {r:Int} {d:ByteArray} {s:Int} {bs:List Bx} (h:¬ Cn r d s bs):Ek r d s bs false:=⟨fun e=>absurd e (by decide),fun e=>absurd e h⟩
set_option maxHeartbeats 4000000 in
set_option maxRecDepth 100000 in
theorem implEk_any (r:Int) (d:ByteArray) (s:Int) (v:Value) (bs:List Bx) (vs:Nat→Value × Value) (w:World) (c b:Addr) (ca cb:Array Value) (ta tb:TypeId) (hr:lg.In r) (hd:d.size≤1048576) (hs:lg.In s) (hE:Errs w c b ca cb ta tb) (hB:BoxesAt w v bs vs) (hsm:Smalls bs) :
  Calls Tryz.prog 27 #[EV r d s v] w fun e w'=>Er r d s bs e∧Below w.heap.size w w':=by
 have HBS:Hid (BoxesAt w v bs vs∧Smalls bs):=⟨hB,hsm⟩
 obtain ⟨⟨a,cap,rfl,_⟩,_⟩:=hB
 have L0:=liesE_new w 35 r d s (.slice a bs.length cap)
 have b0:=new_below w 35 #[.int .i64 r,.string d,.int .i64 s,.slice a bs.length cap]
 have HRC:Hid (∀ W,Below w.heap.size w W→Calls Tryz.prog 50 #[LV r d s] W fun e w'=>(∃ v,e=.returned (.tuple #[v,.int .i64 (recR r d s).2.1,.int .i64 (recR r d s).2.2])∧ky.OwnT w' W.heap.size v (recR r d s).1)∧Below W.heap.size W w'):=fun W hW=>lg.impl_recs r d s W c b ca cb ta tb hr hd hs (hE.keep hW)
 have c0:=L0.c0
 have c1:=L0.c1
 have c2:=L0.c2
 have HSM:Hid (∀ x ∈ (recR r d s).1,x.size≤20000):=rp.recR_small r d s
 have HLN:Hid ((recR r d s).1.length≤1048576):=Nat.le_trans (lg.recR_len r d s) hd
 have HOK:Hid (lg.ok r d.size s=false→recR r d s=([],0,1)):=fun h=>by unfold recR; rw [h]; rfl
 have HYE:Hid (lg.ok r d.size s=true→recR r d s=recs d):=fun h=>by unfold recR; rw [if_pos h]
 have hbl:=hsm.1
 clear hE hr hs hsm
 unfold EV
 unfold LV at HRC
 go_enter Tryz.func27,Tryz.ntmps27
 go_wp2_with fail
 generalize w.alloc _=w0 at L0 b0 c0 c1 c2 ⊢
 refine (HRC.out w0 b0).mono ?_
 rintro e w1 ⟨⟨v',rfl,hO⟩,hb1⟩
 have L1:=L0.keep hb1
 have HB1:Hid (Below w.heap.size w w1):=b0.trans (hb1.mono b0.size)
 have hTX:=ky.own_texts hO
 clear HRC c0 c1 c2 hb1 b0 hO L0
 have c2:=L1.c2
 have c3:=L1.c3
 have HL1:Hid (LiesE w1 w.heap.size 35 r d s (.slice a bs.length cap)):=L1
 clear L1
 cases hk:lg.ok r d.size s with
 | false =>
  rw [HOK.out hk] at hTX ⊢
  obtain ⟨va,vc,rfl,_⟩:=hTX
  have HR:Hid (Ek r d s bs false):=ek_no fun h=>by have:=h.1; rw [hk] at this; cases this
  clear hk
  simp only
  go_wp2
  go_ret
  exact ⟨⟨false,rfl,HR.out⟩,HB1.out⟩
 | true =>
  have hRe:=HYE.out hk
  have HSM':=HSM.out
  have HLN':=HLN.out
  rw [hRe] at HSM' HLN' hTX ⊢
  have HRP:=rp.replayed_any v' (recs d).1 w1 hTX HLN' HSM'
  have HZ:Hid ((recs d).2.2=0→(recs d).2.1=d.size):=recs_zero
  have HCN:Hid (Cn r d s bs ↔ s=((d.size:Nat):Int)∧(recs d).2.2=0∧∃ zs,rp.Rp (recs d).1 [] (zs,true)∧sok bs=true∧sm.sameS zs bs=true):=⟨fun h=>h.2,fun h=>⟨hk,h⟩⟩
  clear hk hRe HSM' HSM HLN HOK HYE
  obtain ⟨va,vc,rfl,_⟩:=hTX
  generalize (recs d).2.2=cd at HZ HCN ⊢
  generalize (recs d).2.1=sz at HZ ⊢
  generalize (recs d).1=ts at HRP HLN' HCN ⊢
  have HRP':Hid (Calls Tryz.prog 51 #[.slice va ts.length vc] w1 fun e w'=>(∃ L ys us b,e=.returned (.tuple #[L,.bool b])∧rp.Rp ts [] (ys,b)∧OwnL w' w1.heap.size L ys us∧Smalls ys∧sok ys=true)∧Below w1.heap.size w1 w'):=HRP
  clear HRP
  by_cases hc0:cd=0
  rotate_left
  ·have h0:((cd:Int) != 0)=true:=by rw [bne_iff_ne]; omega
   have HR:Hid (Ek r d s bs false):=ek_no fun h=>hc0 (HCN.out.1 h).2.1
   clear hc0 HCN HZ HRP'
   go_wp2
   go_ret
   exact ⟨⟨false,rfl,HR.out⟩,HB1.out⟩
  have hsz:=HZ.out hc0
  subst hc0 hsz
  by_cases hS:s=((d.size:Nat):Int)
  rotate_left
  ·have h0:((s:Int) != ((d.size:Nat):Int))=true:=by rw [bne_iff_ne]; exact hS
   have HR:Hid (Ek r d s bs false):=ek_no fun h=>hS (HCN.out.1 h).1
   clear hS HCN HZ HRP'
   go_wp2
   go_ret
   exact ⟨⟨false,rfl,HR.out⟩,HB1.out⟩
  have h0:((s:Int) != ((d.size:Nat):Int))=false:=by rw [bne_eq_false_iff_eq]; exact hS
  have HC2:Hid (Cn r d s bs ↔ ∃ zs,rp.Rp ts [] (zs,true)∧sok bs=true∧sm.sameS zs bs=true):=⟨fun h=>(HCN.out.1 h).2.2,fun h=>HCN.out.2 ⟨hS,rfl,h⟩⟩
  clear hS HCN HZ
  go_wp2_with fail
  refine HRP'.out.mono ?_
  rintro e w2 ⟨⟨L,ys,us,bo,rfl,hR,hOL,hsy,hso⟩,hb2⟩
  obtain ⟨La,Ln,Lc,rfl⟩:=slice_fine (own_fine hOL.1)
  have HO2:Hid (BoxesAt w2 (.slice La Ln Lc) ys us∧Smalls ys):=⟨ownL_boxes hOL,hsy⟩
  have HB2:Hid (Below w.heap.size w w2):=HB1.out.trans (hb2.mono HB1.out.size)
  have d3:=(HL1.out.keep hb2).c3
  have HSA:Hid (sm.ssa ys bs=true ↔ sok bs=true∧sm.sameS ys bs=true):=by
   have hy:=hso
   show (decide (ys.length≤4096∧bs.length≤4096) && sok ys && sok bs && sm.sameS ys bs)=true ↔ _
   rw [hy]
   constructor
   ·intro h
    simp only [Bool.and_eq_true] at h
    exact ⟨h.1.2,h.2⟩
   ·rintro ⟨h1,h2⟩
    have l1:=(sok_of hy).1
    have l2:=(sok_of h1).1
    rw [h1,h2,decide_eq_true (by omega:ys.length≤4096∧bs.length≤4096)]
    rfl
  have HRR:Hid (rp.Rp ts [] (ys,bo)):=hR
  clear HRP' hOL hsy hb2 hR hso c2 c3
  go_wp2_with fail
  refine (sm.impl_ss _ _ ys bs us vs w2 HO2.out.1 (boxes_below HBS.out.1 HB2.out) HO2.out.2 HBS.out.2).mono ?_
  rintro e w3 ⟨rfl,hb3⟩
  have HB3:Hid (Below w.heap.size w w3):=HB2.out.trans (hb3.mono HB2.out.size)
  generalize sm.ssa ys bs=A at HSA ⊢
  generalize sm.ssb ys bs=B
  clear hb3 d3
  cases bo with
  | false =>
   have HR:Hid (Ek r d s bs false):=ek_no fun h=>by
    obtain ⟨zs,hz,_⟩:=HC2.out.1 h
    have:=rp.rp_one rp.sok_nil HRR.out hz
    cases this
   go_wp2
   go_ret
   exact ⟨⟨false,rfl,HR.out⟩,HB3.out⟩
  | true =>
   have HR:Hid (Ek r d s bs A):=by
    refine ⟨fun h=>HC2.out.2 ⟨ys,HRR.out,HSA.out.1 h⟩,fun h=>?_⟩
    obtain ⟨zs,hz,h1⟩:=HC2.out.1 h
    have:=rp.rp_one rp.sok_nil HRR.out hz
    cases this
    exact HSA.out.2 h1
   go_wp2
   go_ret
   exact ⟨⟨A,rfl,HR.out⟩,HB3.out⟩
set_option maxHeartbeats 4000000 in
set_option maxRecDepth 100000 in
theorem specEk_any (r:Int) (d:ByteArray) (s:Int) (v:Value) (bs:List Bx) (vs:Nat→Value × Value) (w:World) (hr:lg.In r) (hd:d.size≤1048576) (hs:lg.In s) (hB:BoxesAt w v bs vs) (hsm:Smalls bs) (hcv:∀ a n c,v=.slice a n c→n≤c) (hcu:∀ j,j < bs.length→∀ a n c,(vs j).2=.slice a n c→n≤c) :
  Calls Tryz.prog 41 #[EV r d s v] w fun e w'=>Er r d s bs e∧Below w.heap.size w w':=by
 have HBS:Hid (BoxesAt w v bs vs∧Smalls bs∧(∀ a n c,v=.slice a n c→n≤c)∧∀ j,j < bs.length→∀ a n c,(vs j).2=.slice a n c→n≤c):=⟨hB,hsm,hcv,hcu⟩
 obtain ⟨⟨a,cap,rfl,_⟩,_⟩:=hB
 have L0:=liesE_new w 35 r d s (.slice a bs.length cap)
 have b0:=new_below w 35 #[.int .i64 r,.string d,.int .i64 s,.slice a bs.length cap]
 have HOK:Hid (∀ W,Calls Tryz.prog 77 #[LV r d s] W fun e w'=>e=.returned (.bool (lg.ok r d.size s))∧Below W.heap.size W w'):=fun W=>lg.spec_ok r d s W hr (Nat.le_trans hd (by unfold maxLen; omega)) hs
 have c0:=L0.c0
 have c1:=L0.c1
 have c2:=L0.c2
 have hbl:=hsm.1
 clear hr hs hsm hcv hcu
 unfold EV
 unfold LV at HOK
 go_enter Tryz.func41,Tryz.ntmps41
 go_wp2_with fail
 generalize w.alloc _=w0 at L0 b0 c0 c1 c2 ⊢
 refine (HOK.out w0).mono ?_
 rintro e w1 ⟨rfl,hb1⟩
 have HB1:Hid (Below w.heap.size w w1):=b0.trans (hb1.mono b0.size)
 have HL1:Hid (LiesE w1 w.heap.size 35 r d s (.slice a bs.length cap)):=L0.keep hb1
 clear HOK c0 c1 c2 b0 hb1 L0
 have c1:=HL1.out.c1
 have c2:=HL1.out.c2
 have c3:=HL1.out.c3
 cases hk:lg.ok r d.size s with
 | false =>
  have HR:Hid (Ek r d s bs false):=ek_no fun h=>by have:=h.1; rw [hk] at this; cases this
  clear hk
  go_wp2
  go_ret
  exact ⟨⟨false,rfl,HR.out⟩,HB1.out⟩
 | true =>
  by_cases hS:s=((d.size:Nat):Int)
  rotate_left
  ·have h0:((s:Int) != ((d.size:Nat):Int))=true:=by rw [bne_iff_ne]; exact hS
   have HR:Hid (Ek r d s bs false):=ek_no fun h=>hS h.2.1
   clear hS hk
   go_wp2
   go_ret
   exact ⟨⟨false,rfl,HR.out⟩,HB1.out⟩
  have h0:((s:Int) != ((d.size:Nat):Int))=false:=by rw [bne_eq_false_iff_eq]; exact hS
  have HKS:Hid (lg.ok r d.size s=true∧s=((d.size:Nat):Int)):=⟨hk,hS⟩
  clear hk hS
  go_wp2_with fail
  refine (spec_sok _ bs vs w1 (boxes_below HBS.out.1 HB1.out) HBS.out.2.1 HBS.out.2.2.1 HBS.out.2.2.2).mono ?_
  rintro e w2 ⟨rfl,hb2⟩
  have HB2:Hid (Below w.heap.size w w2):=HB1.out.trans (hb2.mono HB1.out.size)
  have HL2:Hid (LiesE w2 w.heap.size 35 r d s (.slice a bs.length cap)):=HL1.out.keep hb2
  clear c1 c2 c3 hb2 HL1
  have c1:=HL2.out.c1
  cases hso:sok bs with
  | false =>
   have HR:Hid (Ek r d s bs false):=ek_no fun h=>by
    obtain ⟨zs,_,h1,_⟩:=h.2.2.2
    rw [hso] at h1
    cases h1
   clear hso
   go_wp2
   go_ret
   exact ⟨⟨false,rfl,HR.out⟩,HB2.out⟩
  | true =>
   have HSO:Hid (sok bs=true):=hso
   clear hso
   go_wp2_with fail
   refine (lg.l08Records_any d w2 hd).mono ?_
   rintro e w3 ⟨⟨v',rfl,hOT⟩,hb3⟩
   have hTX:=ky.own_texts hOT
   obtain ⟨va,vc,rfl,_⟩:=hTX
   have HB3:Hid (Below w.heap.size w w3):=HB2.out.trans (hb3.mono HB2.out.size)
   have HL3:Hid (LiesE w3 w.heap.size 35 r d s (.slice a bs.length cap)):=HL2.out.keep hb3
   have HZ:Hid ((recs d).2.2=0→(recs d).2.1=d.size):=recs_zero
   have HCD:Hid (Cn r d s bs→(recs d).2.2=0):=fun h=>h.2.2.1
   have HRR:Hid ((recs d).2.2=0→∀ ys n cc,rp.Rr d ys n cc→(cc=0∧(Cn r d s bs ↔ sm.sameS ys bs=true)) ∨ (cc ≠ 0∧¬ Cn r d s bs)):=fun hc ys n cc h=>by
    obtain ⟨zs,b,hR,h⟩:=h
    rcases h with ⟨rfl,_,_,rfl⟩ | ⟨_,h8,_⟩ | ⟨rfl,_,rfl,_,rfl⟩
    ·refine .inr ⟨by decide,fun hn=>?_⟩
     obtain ⟨zs',hz,_⟩:=hn.2.2.2
     cases rp.rp_one rp.sok_nil hR hz
    ·rw [hc] at h8; cases h8
    ·refine .inl ⟨rfl,fun hn=>?_,fun h=>⟨HKS.out.1,HKS.out.2,hc,_,hR,HSO.out,h⟩⟩
     obtain ⟨zs',hz,_,h1⟩:=hn.2.2.2
     cases rp.rp_one rp.sok_nil hR hz
     exact h1
   generalize (recs d).2.2=cd at HZ HCD HRR ⊢
   generalize (recs d).2.1=sz at HZ ⊢
   generalize (recs d).1.length=tl
   clear hOT hb3 c1 HL2
   have c1:=HL3.out.c1
   by_cases hc0:cd=0
   rotate_left
   ·have h0:((cd:Int) != 0)=true:=by rw [bne_iff_ne]; omega
    have HR:Hid (Ek r d s bs false):=ek_no fun h=>hc0 (HCD.out h)
    clear hc0 HZ HCD HRR
    go_wp2
    go_ret
    exact ⟨⟨false,rfl,HR.out⟩,HB3.out⟩
   have hsz:=HZ.out hc0
   have HR2:Hid (∀ ys n cc,rp.Rr d ys n cc→(cc=0∧(Cn r d s bs ↔ sm.sameS ys bs=true)) ∨ (cc ≠ 0∧¬ Cn r d s bs)):=HRR.out hc0
   clear HZ HCD HRR
   subst hc0 hsz
   go_wp2_with fail
   refine (rp.specRp_any d w3 hd).mono ?_
   rintro e w4 ⟨⟨L,ys,us,n,cc,rfl,hR,hLB,hF,hsy,hsoy⟩,hb4⟩
   have HY:Hid (BoxesAt w4 L ys us∧Smalls ys):=⟨hLB,hsy⟩
   obtain ⟨⟨La,Lc,rfl,_⟩,_⟩:=hLB
   have HB4:Hid (Below w.heap.size w w4):=HB3.out.trans (hb4.mono HB3.out.size)
   have c3:=(HL3.out.keep hb4).c3
   have hyl:=hsy.1
   have hX:=HR2.out _ _ _ hR
   clear hF hsy hsoy hb4 hR HR2 c1
   rcases hX with ⟨rfl,hX⟩ | ⟨hn0,hX⟩
   ·have HX:Hid (Cn r d s bs ↔ sm.sameS ys bs=true):=hX
    clear hX
    go_wp2_with fail
    refine (sm.l09Same_any _ _ ys bs us vs w4 HY.out.1 (boxes_below HBS.out.1 HB4.out) HY.out.2 HBS.out.2.1).mono ?_
    rintro e w5 ⟨rfl,hb5⟩
    have HB5:Hid (Below w.heap.size w w5):=HB4.out.trans (hb5.mono HB4.out.size)
    have HR:Hid (Ek r d s bs (sm.sameS ys bs)):=HX.out.symm
    generalize sm.sameS ys bs=A at HR ⊢
    clear hb5 c3
    go_wp2
    go_ret
    exact ⟨⟨A,rfl,HR.out⟩,HB5.out⟩
   ·have h0:((cc:Int) == 0)=false:=by rw [beq_eq_false_iff_ne]; exact hn0
    have HR:Hid (Ek r d s bs false):=ek_no hX
    clear hX hn0
    go_wp2
    go_ret
    exact ⟨⟨false,rfl,HR.out⟩,HB4.out⟩
end Go.Proofs.YtnhcbiomkiljpaaGreatDoor.eg

namespace Go.Proofs.YtnhcbiomkiljpaaGreatDoor.ra
open Go.RowKit
set_option linter.unusedVariables false
def Own (x:World) (B:Nat) (v:Value) (l:List UInt8):Prop:=x.ownsRow B 5 1 v l.length (Lib.byteCells l)
theorem own_form {x:World} {B:Nat} {v:Value} {l:List UInt8} (h:Own x B v l):∃ a n c,v=.slice a n c:=by
 rcases h.2 with ⟨rfl,_⟩ | ⟨g,cap,cur,rfl,_⟩
 ·exact ⟨_,_,_,rfl⟩
 ·exact ⟨_,_,_,rfl⟩
theorem own_len {x:World} {B:Nat} {v:Value} {l:List UInt8} (h:Own x B v l):∃ a c,v=.slice a l.length c:=by
 rcases h.2 with ⟨rfl,h0⟩ | ⟨g,cap,cur,rfl,_⟩
 ·exact ⟨none,0,by rw [h0]⟩
 ·exact ⟨_,_,rfl⟩
def Src (Bc:Nat) (x:World) (v:Value) (s:List UInt8):Prop:=∃ g c,v=.slice (some ⟨g,0,none⟩) s.length c∧Bc≤g∧g < x.heap.size∧∀ j u,(Lib.byteCells s)[j]? = some u→x.cell? ⟨g,j,none⟩=some u
structure Q2 where
 V:Nat→Option Value
 K:World→Prop
 B1:Nat
 Bc:Nat
 v0:Value
 l0:List UInt8
 s1:List UInt8
 s2:List UInt8
 a1:Nat
 a2:Nat
 c1:Nat
 c2:Nat
def J2 (q:Q2) (D:Nat→Prop) (f:Nat→Value) (x:World):Prop :=
 (∀ j,D j→∀ y,q.V j=some y→f j=y)∧q.K x∧q.Bc≤x.heap.size∧(¬ D q.a1→Own x q.B1 q.v0 q.l0)∧(D q.a1→¬ D q.a2→Own x q.B1 (f q.a1) (q.l0 ++ q.s1))∧(D q.a2→Own x q.B1 (f q.a2) (q.l0 ++ q.s1 ++ q.s2)) ∧
 (D q.c1→¬ D q.a1→Src q.Bc x (f q.c1) q.s1)∧(D q.c2→¬ D q.a2→Src q.Bc x (f q.c2) q.s2)
structure Q2.Good (q:Q2):Prop where
 below:∀ x x',q.K x→Below x.heap.size x x'→q.K x'
 row:∀ x x' v l,q.K x→Own x q.B1 v l→x.grownBy x' v.ownBlock→q.K x'
 far:∀ k,q.v0.ownBlock=some k→k < q.Bc
 n12:q.a1 ≠ q.a2
 n13:q.a1 ≠ q.c1
 n14:q.a1 ≠ q.c2
 n23:q.a2 ≠ q.c1
 n24:q.a2 ≠ q.c2
 n34:q.c1 ≠ q.c2
theorem vals {V:Nat→Option Value} {D:Nat→Prop} {f:Nat→Value} {i:Nat} {y:Value} (h:∀ j,D j→∀ z,V j=some z→f j=z) (hy:∀ z,V i=some z→y=z):∀ j,(j=i ∨ D j)→∀ z,V j=some z→rs.upd f i y j=z:=by
 intro j hj z hz
 by_cases e:j=i
 ·subst e
  rw [rs.upd_same]
  exact hy z hz
 ·rw [rs.upd_other f i y e]
  exact h j (hj.resolve_left e) z hz
theorem Src.keep {Bc:Nat} {x x':World} {v:Value} {s:List UInt8} (h:Src Bc x v s) (hb:Below x.heap.size x x'):Src Bc x' v s:=by
 obtain ⟨g,c,e,h1,h2,h3⟩:=h
 exact ⟨g,c,e,h1,Nat.lt_of_lt_of_le h2 hb.size,fun j u hu=>(hb.cell (p:=⟨g,j,none⟩) h2).trans (h3 j u hu)⟩
section
variable {q:Q2} {D:Nat→Prop} {f:Nat→Value} {x x':World} {i:Nat}
theorem J2.pure (y:Value) (h:J2 q D f x) (hy:∀ z,q.V i=some z→y=z) (h1:q.a1 ≠ i) (h2:q.a2 ≠ i) (h3:q.c1 ≠ i) (h4:q.c2 ≠ i):J2 q (fun j=>j=i ∨ D j) (rs.upd f i y) x:=by
 obtain ⟨hv,hk,hb,ha,hb1,hb2,hc1,hc2⟩:=h
 refine ⟨vals hv hy,hk,hb,fun n=>ha (fun d=>n (.inr d)),fun d n=>?_,fun d=>?_,fun d n=>?_,fun d n=>?_⟩
 ·rw [rs.upd_other f i y h1]; exact hb1 (d.resolve_left h1) (fun d=>n (.inr d))
 ·rw [rs.upd_other f i y h2]; exact hb2 (d.resolve_left h2)
 ·rw [rs.upd_other f i y h3]; exact hc1 (d.resolve_left h3) (fun d=>n (.inr d))
 ·rw [rs.upd_other f i y h4]; exact hc2 (d.resolve_left h4) (fun d=>n (.inr d))
theorem J2.grow (h:J2 q D f x) (hq:q.Good) (hbx:Below x.heap.size x x'):J2 q D f x':=by
 obtain ⟨hv,hk,hb,ha,hb1,hb2,hc1,hc2⟩:=h
 exact ⟨hv,hq.below x x' hk hbx,Nat.le_trans hb hbx.size,fun n=>ow.own_below (ha n) hbx,fun d n=>ow.own_below (hb1 d n) hbx,fun d=>ow.own_below (hb2 d) hbx,fun d n=>(hc1 d n).keep hbx,fun d n=>(hc2 d n).keep hbx⟩
theorem src_of {B n:Nat} {v:Value} {s:List UInt8} {cs:List Value} (h:x'.ownsRow B 5 1 v n cs) (hn:n=s.length) (hcs:cs=Lib.byteCells s) (h0:0 < s.length):Src B x' v s:=by
 subst hn hcs
 rcases h.2 with ⟨_,hz⟩ | ⟨g,cap,cur,rfl,hB,hb,_⟩
 ·omega
 ·refine ⟨g,cap,rfl,hB,(Array.getElem?_eq_some_iff.1 hb).1,fun j u hu=>?_⟩
  have hj:j < s.length:=by
   have:=(List.getElem?_eq_some_iff.1 hu).1
   simpa [Lib.byteCells] using this
  rw [h.cellAt j (by omega),hu]
theorem Src.low {B Bc:Nat} {v:Value} {s:List UInt8} (h:Src B x v s) (hB:Bc≤B):Src Bc x v s:=by
 obtain ⟨g,c,e,h1,h2⟩:=h
 exact ⟨g,c,e,Nat.le_trans hB h1,h2⟩
theorem J2.call1 (y:Value) (h:J2 q D f x) (hq:q.Good) (hbx:Below x.heap.size x x') (hs:Src x.heap.size x' y q.s1) (hV:q.V q.c1=none):J2 q (fun j=>j=q.c1 ∨ D j) (rs.upd f q.c1 y) x':=by
 have hb0:=h.2.2.1
 obtain ⟨hv,hk,hb,ha,hb1,hb2,hc1,hc2⟩:=h.grow hq hbx
 refine ⟨vals hv (fun z hz=>by rw [hV] at hz; cases hz),hk,hb,fun n=>ha (fun d=>n (.inr d)),fun d n=>?_,fun d=>?_,fun d n=>?_,fun d n=>?_⟩
 ·rw [rs.upd_other f _ y hq.n13]; exact hb1 (d.resolve_left hq.n13) (fun d=>n (.inr d))
 ·rw [rs.upd_other f _ y hq.n23]; exact hb2 (d.resolve_left hq.n23)
 ·rw [rs.upd_same]; exact hs.low hb0
 ·rw [rs.upd_other f _ y hq.n34.symm]; exact hc2 (d.resolve_left hq.n34.symm) (fun d=>n (.inr d))
theorem J2.call2 (y:Value) (h:J2 q D f x) (hq:q.Good) (hbx:Below x.heap.size x x') (hs:Src x.heap.size x' y q.s2) (hV:q.V q.c2=none):J2 q (fun j=>j=q.c2 ∨ D j) (rs.upd f q.c2 y) x':=by
 have hb0:=h.2.2.1
 obtain ⟨hv,hk,hb,ha,hb1,hb2,hc1,hc2⟩:=h.grow hq hbx
 refine ⟨vals hv (fun z hz=>by rw [hV] at hz; cases hz),hk,hb,fun n=>ha (fun d=>n (.inr d)),fun d n=>?_,fun d=>?_,fun d n=>?_,fun d n=>?_⟩
 ·rw [rs.upd_other f _ y hq.n14]; exact hb1 (d.resolve_left hq.n14) (fun d=>n (.inr d))
 ·rw [rs.upd_other f _ y hq.n24]; exact hb2 (d.resolve_left hq.n24)
 ·rw [rs.upd_other f _ y hq.n34]; exact hc1 (d.resolve_left hq.n34) (fun d=>n (.inr d))
 ·rw [rs.upd_same]; exact hs.low hb0
theorem J2.app1 (y:Value) (h:J2 q D f x) (hq:q.Good) (hn:¬ D q.a1) (hn2:¬ D q.a2) (hg:x.grownBy x' q.v0.ownBlock) (ho:Own x' q.B1 y (q.l0 ++ q.s1)) (hV:q.V q.a1=none):J2 q (fun j=>j=q.a1 ∨ D j) (rs.upd f q.a1 y) x':=by
 obtain ⟨hv,hk,hb,ha,hb1,hb2,hc1,hc2⟩:=h
 refine ⟨vals hv (fun z hz=>by rw [hV] at hz; cases hz),hq.row x x' _ _ hk (ha hn) hg,Nat.le_trans hb hg.size,fun n=>absurd (.inl rfl) n,fun d n=>?_,fun d=>absurd (d.resolve_left hq.n12.symm) hn2,fun d n=>absurd (.inl rfl) n,fun d n=>?_⟩
 ·rw [rs.upd_same]; exact ho
 ·rw [rs.upd_other f _ y hq.n14.symm]
  obtain ⟨g,c,e,h1,h2,h3⟩:=hc2 (d.resolve_left hq.n14.symm) (fun d=>n (.inr d))
  refine ⟨g,c,e,h1,Nat.lt_of_lt_of_le h2 hg.size,fun j u hu=>?_⟩
  have hne:some g ≠ q.v0.ownBlock:=fun e=>by have:=hq.far g e.symm; omega
  rw [← h3 j u hu]
  simp only [World.cell?,hg.block g h2 hne]
theorem J2.app2 (y:Value) (h:J2 q D f x) (hq:q.Good) (d1:D q.a1) (hn2:¬ D q.a2) (hg:x.grownBy x' (f q.a1).ownBlock) (ho:Own x' q.B1 y (q.l0 ++ q.s1 ++ q.s2)) (hV:q.V q.a2=none):J2 q (fun j=>j=q.a2 ∨ D j) (rs.upd f q.a2 y) x':=by
 obtain ⟨hv,hk,hb,ha,hb1,hb2,hc1,hc2⟩:=h
 refine ⟨vals hv (fun z hz=>by rw [hV] at hz; cases hz),hq.row x x' _ _ hk (hb1 d1 hn2) hg,Nat.le_trans hb hg.size,fun n=>absurd (.inr d1) n,fun d n=>absurd (.inl rfl) n,fun d=>?_,fun d n=>absurd (.inr d1) n,fun d n=>absurd (.inl rfl) n⟩
 rw [rs.upd_same]; exact ho
end
structure Q1 where
 V:Nat→Option Value
 K:World→Prop
 B1:Nat
 v0:Value
 l0:List UInt8
 s1:List UInt8
 a1:Nat
def J1 (q:Q1) (D:Nat→Prop) (f:Nat→Value) (x:World):Prop :=
 (∀ j,D j→∀ y,q.V j=some y→f j=y)∧q.K x∧q.B1≤x.heap.size∧(¬ D q.a1→Own x q.B1 q.v0 q.l0)∧(D q.a1→Own x q.B1 (f q.a1) (q.l0 ++ q.s1))
structure Q1.Good (q:Q1):Prop where
 below:∀ x x',q.K x→Below x.heap.size x x'→q.K x'
 row:∀ x x' v l,q.K x→Own x q.B1 v l→x.grownBy x' v.ownBlock→q.K x'
section
variable {q:Q1} {D:Nat→Prop} {f:Nat→Value} {x x':World} {i:Nat}
theorem J1.step (y:Value) (h:J1 q D f x) (hq:q.Good) (hy:∀ z,q.V i=some z→y=z) (h1:q.a1 ≠ i) (hbx:Below x.heap.size x x'):J1 q (fun j=>j=i ∨ D j) (rs.upd f i y) x':=by
 obtain ⟨hv,hk,hb,ha,hb1⟩:=h
 refine ⟨vals hv hy,hq.below x x' hk hbx,Nat.le_trans hb hbx.size,fun n=>ow.own_below (ha (fun d=>n (.inr d))) hbx,fun d=>?_⟩
 rw [rs.upd_other f i y h1]; exact ow.own_below (hb1 (d.resolve_left h1)) hbx
theorem J1.app (y:Value) (h:J1 q D f x) (hq:q.Good) (hn:¬ D q.a1) (hg:x.grownBy x' q.v0.ownBlock) (ho:Own x' q.B1 y (q.l0 ++ q.s1)) (hV:q.V q.a1=none):J1 q (fun j=>j=q.a1 ∨ D j) (rs.upd f q.a1 y) x':=by
 obtain ⟨hv,hk,hb,ha,hb1⟩:=h
 refine ⟨vals hv (fun z hz=>by rw [hV] at hz; cases hz),hq.row x x' _ _ hk (ha hn) hg,Nat.le_trans hb hg.size,fun n=>absurd (.inl rfl) n,fun _=>?_⟩
 rw [rs.upd_same]; exact ho
end
section
variable {P:Program} {w:World}
theorem wp_append_str {o:Oper} {a:Act} {K:Act→World→Prop} {Q:Exit→Act→World→Prop} (sl x:Operand) (t u:TypeId)
  (ho:o.op=.call { callee:=.builtin .append,args:=#[sl,x],argTypes:=#[t,u] })
  (base:Nat) (e:TypeId) (i:TypeInfo) (ht:P.underlying t=some (.slice e)) (hu:P.underlying u=some .string) (hi:P.info? e=some i) (hz:i.zero=some (.int .u8 0))
  (hsize:i.size=1) (hby:i.bytes=1)
  (v:Value) (n:Nat) (xs:List Value) (hs:a.eval sl=v) (hown:w.ownsRow base e 1 v n xs) (s:ByteArray) (hx:a.eval x=.string s)
  (h63:n+s.size≤maxLen) (hbytes:n+s.size≤140737488355328) (hbase:base≤w.heap.size)
  (h:∀ v' w',w'.ownsRow base e 1 v' (n+s.size) (xs ++ Lib.strCells s)→w.grownBy w' v.ownBlock→K (a.put o.dst v') w'):o.wp P a w K Q:=by
 obtain ⟨v',w',hr,h2,h3,h4⟩:=Lib.run_append_own_string (P:=P) w base t u o.type e i ht hu hi hz hsize hby v n xs hown s h63 hbytes hbase
 unfold Oper.wp execOp
 simp only [ho,resolve,invoke,builtin,Sem.run_bind,Sem.run_pure,Result.andThen_ok,List.map_toArray,List.map_cons,List.map_nil,hs,hx,hr]
 exact h v' w' h2 h3
end
theorem cells_app (l s:List UInt8):Lib.byteCells (l ++ s)=Lib.byteCells l ++ Lib.byteCells s:=by simp [Lib.byteCells]
theorem own_app {x:World} {B:Nat} {v:Value} {l:List UInt8} {n:Nat} {cs:List Value} (s:List UInt8) (h:x.ownsRow B 5 1 v (l.length+n) (Lib.byteCells l ++ cs)) (hn:n=s.length) (hcs:cs=Lib.byteCells s):Own x B v (l ++ s):=by
 subst hn hcs
 unfold Own
 rw [List.length_append,cells_app]
 exact h
theorem add0 (g j:Nat):(⟨g,0,none⟩:Addr).add j=⟨g,j,none⟩:=by simp [Addr.add]; omega
theorem one_cells (s:List UInt8):∀ u ∈ Lib.byteCells s,u.oneCell'=true:=by
 intro u hu
 simp [Lib.byteCells] at hu
 obtain ⟨b,_,rfl⟩:=hu
 rfl
theorem infoB8:(Tryz.prog.info? 5).map (fun i=>(i.zero,i.size,i.bytes))=some (some (.int .u8 0),1,1):=by kernel_rfl
section
variable {q:Q2} {D:Nat→Prop} {f:Nat→Value} {x:World} {o:Oper} {a:Act} {K:Act→World→Prop} {Q:Exit→Act→World→Prop}
theorem app1_src (s y:Operand) (ho:o.op=.call { callee:=.builtin .append,args:=#[s,y],argTypes:=#[77,77] }) (h:J2 q D f x) (hq:q.Good) (hn:¬ D q.a1) (hn2:¬ D q.a2) (dc:D q.c1) (hs:a.eval s=q.v0) (hy:a.eval y=f q.c1) (hV:q.V q.a1=none) (hB:q.B1≤q.Bc) (hl:q.l0.length+q.s1.length≤1048576)
  (hK:∀ v' w',J2 q (fun j=>j=q.a1 ∨ D j) (rs.upd f q.a1 v') w'→K (a.put o.dst v') w'):o.wp Tryz.prog a x K Q:=by
 obtain ⟨i0,hi,hz0,hz1,hz2⟩:=info_parts infoB8
 obtain ⟨g,c,e,h1,h2,h3⟩:=h.2.2.2.2.2.2.1 dc hn
 refine wp_append_own x s y 77 ho q.B1 5 i0 _ 1 1 Tryz.underlying77 hi hz0 hz1 hz2 rfl (by decide) q.v0 q.l0.length (Lib.byteCells q.l0) hs (h.2.2.2.1 hn) ⟨g,0,none⟩ q.s1.length c (Lib.byteCells q.s1) (hy.trans e) (by simp [Lib.byteCells]) (fun j u hu=>by rw [add0]; exact h3 j u hu) (one_cells _) (by unfold maxLen; omega) (by omega) (Nat.le_trans hB h.2.2.1) ?_
 intro v' w' hown hg _
 exact hK v' w' (h.app1 v' hq hn hn2 hg (own_app _ hown rfl rfl) hV)
theorem app1_str (s y:Operand) (b:ByteArray) (ho:o.op=.call { callee:=.builtin .append,args:=#[s,y],argTypes:=#[77,9] }) (h:J2 q D f x) (hq:q.Good) (hn:¬ D q.a1) (hn2:¬ D q.a2) (hs:a.eval s=q.v0) (hy:a.eval y=.string b) (hb:q.s1=b.data.toList) (hV:q.V q.a1=none) (hB:q.B1≤q.Bc) (hl:q.l0.length+b.size≤1048576)
  (hK:∀ v' w',J2 q (fun j=>j=q.a1 ∨ D j) (rs.upd f q.a1 v') w'→K (a.put o.dst v') w'):o.wp Tryz.prog a x K Q:=by
 obtain ⟨i0,hi,hz0,hz1,hz2⟩:=info_parts infoB8
 refine wp_append_str s y 77 9 ho q.B1 5 i0 Tryz.underlying77 Tryz.underlying9 hi hz0 hz1 hz2 q.v0 q.l0.length (Lib.byteCells q.l0) hs (h.2.2.2.1 hn) b hy (by unfold maxLen; omega) (by omega) (Nat.le_trans hB h.2.2.1) ?_
 intro v' w' hown hg
 exact hK v' w' (h.app1 v' hq hn hn2 hg (own_app _ hown (by rw [hb]; rfl) (by rw [hb]; rfl)) hV)
theorem app2_src (s y:Operand) (ho:o.op=.call { callee:=.builtin .append,args:=#[s,y],argTypes:=#[77,77] }) (h:J2 q D f x) (hq:q.Good) (d1:D q.a1) (hn2:¬ D q.a2) (dc:D q.c2) (hs:a.eval s=f q.a1) (hy:a.eval y=f q.c2) (hV:q.V q.a2=none) (hB:q.B1≤q.Bc) (hl:q.l0.length+q.s1.length+q.s2.length≤1048576)
  (hK:∀ v' w',J2 q (fun j=>j=q.a2 ∨ D j) (rs.upd f q.a2 v') w'→K (a.put o.dst v') w'):o.wp Tryz.prog a x K Q:=by
 obtain ⟨i0,hi,hz0,hz1,hz2⟩:=info_parts infoB8
 obtain ⟨g,c,e,h1,h2,h3⟩:=h.2.2.2.2.2.2.2 dc hn2
 refine wp_append_own x s y 77 ho q.B1 5 i0 _ 1 1 Tryz.underlying77 hi hz0 hz1 hz2 rfl (by decide) (f q.a1) (q.l0 ++ q.s1).length (Lib.byteCells (q.l0 ++ q.s1)) hs (h.2.2.2.2.1 d1 hn2) ⟨g,0,none⟩ q.s2.length c (Lib.byteCells q.s2) (hy.trans e) (by simp [Lib.byteCells]) (fun j u hu=>by rw [add0]; exact h3 j u hu) (one_cells _) (by rw [List.length_append]; unfold maxLen; omega) (by rw [List.length_append]; omega) (Nat.le_trans hB h.2.2.1) ?_
 intro v' w' hown hg _
 exact hK v' w' (h.app2 v' hq d1 hn2 hg (own_app _ hown rfl rfl) hV)
theorem app2_str (s y:Operand) (b:ByteArray) (ho:o.op=.call { callee:=.builtin .append,args:=#[s,y],argTypes:=#[77,9] }) (h:J2 q D f x) (hq:q.Good) (d1:D q.a1) (hn2:¬ D q.a2) (hs:a.eval s=f q.a1) (hy:a.eval y=.string b) (hb:q.s2=b.data.toList) (hV:q.V q.a2=none) (hB:q.B1≤q.Bc) (hl:q.l0.length+q.s1.length+b.size≤1048576)
  (hK:∀ v' w',J2 q (fun j=>j=q.a2 ∨ D j) (rs.upd f q.a2 v') w'→K (a.put o.dst v') w'):o.wp Tryz.prog a x K Q:=by
 obtain ⟨i0,hi,hz0,hz1,hz2⟩:=info_parts infoB8
 refine wp_append_str s y 77 9 ho q.B1 5 i0 Tryz.underlying77 Tryz.underlying9 hi hz0 hz1 hz2 (f q.a1) (q.l0 ++ q.s1).length (Lib.byteCells (q.l0 ++ q.s1)) hs (h.2.2.2.2.1 d1 hn2) b hy (by rw [List.length_append]; unfold maxLen; omega) (by rw [List.length_append]; omega) (Nat.le_trans hB h.2.2.1) ?_
 intro v' w' hown hg
 exact hK v' w' (h.app2 v' hq d1 hn2 hg (own_app _ hown (by rw [hb]; rfl) (by rw [hb]; rfl)) hV)
end
theorem app_str {q:Q1} {D:Nat→Prop} {f:Nat→Value} {x:World} {o:Oper} {a:Act} {K:Act→World→Prop} {Q:Exit→Act→World→Prop} (s y:Operand) (b:ByteArray) (ho:o.op=.call { callee:=.builtin .append,args:=#[s,y],argTypes:=#[77,9] }) (h:J1 q D f x) (hq:q.Good) (hn:¬ D q.a1) (hs:a.eval s=q.v0) (hy:a.eval y=.string b) (hb:q.s1=b.data.toList) (hV:q.V q.a1=none) (hl:q.l0.length+b.size≤1048576)
  (hK:∀ v' w',J1 q (fun j=>j=q.a1 ∨ D j) (rs.upd f q.a1 v') w'→K (a.put o.dst v') w'):o.wp Tryz.prog a x K Q:=by
 obtain ⟨i0,hi,hz0,hz1,hz2⟩:=info_parts infoB8
 refine wp_append_str s y 77 9 ho q.B1 5 i0 Tryz.underlying77 Tryz.underlying9 hi hz0 hz1 hz2 q.v0 q.l0.length (Lib.byteCells q.l0) hs (h.2.2.2.1 hn) b hy (by unfold maxLen; omega) (by omega) h.2.2.1 ?_
 intro v' w' hown hg
 exact hK v' w' (h.app v' hq hn hg (own_app _ hown (by rw [hb]; rfl) (by rw [hb]; rfl)) hV)
def Tie (z a:Nat) (v:Value) (D:Nat→Prop) (f:Nat→Value):Prop:=(D z→f z=f a)∧(¬ D z→f z=v)
theorem tie_other {z a i:Nat} {v:Value} {D:Nat→Prop} {f:Nat→Value} {y:Value} (h:Tie z a v D f) (hz:z ≠ i) (ha:a ≠ i):Tie z a v (fun j=>j=i ∨ D j) (rs.upd f i y):=by
 refine ⟨fun d=>?_,fun n=>?_⟩
 ·rw [rs.upd_other f i y hz,rs.upd_other f i y ha]
  exact h.1 (d.resolve_left hz)
 ·rw [rs.upd_other f i y hz]
  exact h.2 (fun d=>n (.inr d))
theorem tie_none {z a i:Nat} {v:Value} {D:Nat→Prop} {f:Nat→Value} {y:Value} (h:Tie z a v D f) (hn:¬ D z) (hz:z ≠ i):Tie z a v (fun j=>j=i ∨ D j) (rs.upd f i y):=by
 refine ⟨fun d=>absurd (d.resolve_left hz) hn,fun n=>?_⟩
 rw [rs.upd_other f i y hz]
 exact h.2 hn
theorem tie_self {z a:Nat} {v:Value} {D:Nat→Prop} {f:Nat→Value} (hza:a ≠ z):Tie z a v (fun j=>j=z ∨ D j) (rs.upd f z (f a)):=by
 refine ⟨fun _=>?_,fun n=>absurd (.inl rfl) n⟩
 rw [rs.upd_same,rs.upd_other f z _ hza]
end Go.Proofs.YtnhcbiomkiljpaaGreatDoor.ra
