/-
  Two boxes are held against each other, and rows of boxes: the program's own way.
  Rows of boxes are held against each other: the program's own way; its SameStore.
  The specification's SameStore.
-/
import Derived.Test.YtnhcbiomkiljpaaGreatDoorPkbj
import Derived.Test.YtnhcbiomkiljpaaGreatDoorPkad
import Derived.Test.YtnhcbiomkiljpaaGreatDoorPkaj
import Derived.Test.YtnhcbiomkiljpaaGreatDoorPkak
namespace Go.Proofs.YtnhcbiomkiljpaaGreatDoor.sm
open Go.RowKit Go.WideShapes
open st
set_option linter.unusedVariables false
def SameT (ms ms':List ByteArray):Prop:=ms.length=ms'.length∧∀ j,j < ms.length→ms.getD j ky.nt=ms'.getD j ky.nt
def dSameTs (ms ms':List ByteArray) (k:Nat):Decidable (∀ j,j < k→ms.getD j ky.nt=ms'.getD j ky.nt):=@Nat.decidableBallLT k (fun j _=>ms.getD j ky.nt=ms'.getD j ky.nt) (fun j _=>ow.decB _ _)
def dSameT (ms ms':List ByteArray):Decidable (SameT ms ms'):=@instDecidableAnd _ _ _ (dSameTs ms ms' ms.length)
def sameT (ms ms':List ByteArray):Bool:=@decide (SameT ms ms') (dSameT ms ms')
theorem sameT_no {ms ms':List ByteArray} (h:¬ SameT ms ms'):sameT ms ms'=false:=ow.df h
theorem sameT_yes {ms ms':List ByteArray} (h:SameT ms ms'):sameT ms ms'=true:=ow.dt h
set_option maxHeartbeats 2000000 in
set_option maxRecDepth 100000 in
theorem equalT_any (N M:Nat) (v u:Value) (ms ms':List ByteArray) (w:World) (h1:tx.TextsIn w N v ms) (h2:tx.TextsIn w M u ms') (hs:tx.Smalls ms) (hs':tx.Smalls ms') :
  Calls Tryz.prog 128 #[v,u] w fun e w'=>e=.returned (.bool (sameT ms ms'))∧Below w.heap.size w w':=by
 obtain ⟨a,cap,rfl,h1⟩:=h1
 obtain ⟨c,cap2,rfl,h2⟩:=h2
 obtain ⟨n,hn⟩:∃ n,n=ms.length:=⟨_,rfl⟩
 obtain ⟨m,hm⟩:∃ m,m=ms'.length:=⟨_,rfl⟩
 have HN:Hid (n=ms.length):=hn
 have HM:Hid (m=ms'.length):=hm
 have hl:n≤1048576:=by rw [hn]; exact hs.1
 have hl2:m≤1048576:=by rw [hm]; exact hs'.1
 have HS:Hid (tx.Smalls ms∧tx.Smalls ms'):=⟨hs,hs'⟩
 have H1:Hid (ms=[] ∨ ∃ b off,a=some ⟨b,off,none⟩∧b < N∧∀ j,j < ms.length→w.cell? ⟨b,off+j,none⟩=some (.string (ms.getD j ky.nt))):=h1
 have H2:Hid (ms'=[] ∨ ∃ b off,c=some ⟨b,off,none⟩∧b < M∧∀ j,j < ms'.length→w.cell? ⟨b,off+j,none⟩=some (.string (ms'.getD j ky.nt))):=h2
 rw [← hn,← hm]
 clear h1 h2 hs hs' hn hm
 by_cases hnm:¬ n=m
 ·have hnm':((n:Int) != (m:Int))=true:=by simp; omega
  have HR:Hid (sameT ms ms'=false):=sameT_no (fun y=>hnm (by have:=y.1; have:=HN.out; have:=HM.out; omega))
  go_enter Tryz.func128,Tryz.ntmps128
  go_wp2
  go_ret
  exact ⟨mu.ret_bool HR.out.symm,Below.refl _ _⟩
 have hnm:n=m:=Decidable.of_not_not hnm
 subst hnm
 have hnm':((n:Int) != (n:Int))=false:=by simp
 go_enter Tryz.func128,Tryz.ntmps128
 go_wp2
 go_loopw [13] (fun i wr=>∃ k:Nat,k≤n∧i=.int .i64 k∧(∀ j,j < k→ms.getD j ky.nt=ms'.getD j ky.nt)∧Below w.heap.size w wr) (fun i _=>n - (intOf i).toNat)
 case atStart=>exact ⟨0,Nat.zero_le _,rfl,fun j hj=>absurd hj (Nat.not_lt_zero _),Below.refl _ _⟩
 case round =>
  obtain ⟨k,hk,rfl,hal,hbw⟩:=hrel
  have HAL:Hid (∀ j,j < k→ms.getD j ky.nt=ms'.getD j ky.nt):=hal
  clear hal
  by_cases hlt:k < n
  ·have hka:k < ms.length:=by rw [← HN.out]; exact hlt
   have hkb:k < ms'.length:=by rw [← HM.out]; exact hlt
   rcases H1.out with e | ⟨b,off,rfl,hbN,hcells⟩
   ·rw [e] at hka; simp at hka
   rcases H2.out with e | ⟨b2,off2,rfl,hbM,hcells2⟩
   ·rw [e] at hkb; simp at hkb
   have c0:=(hbw.cell (p:=⟨b,off+k,none⟩) (World.block_lt_of_cell? w _ (hcells k hka))).trans (hcells k hka)
   have d0:=(hbw.cell (p:=⟨b2,off2+k,none⟩) (World.block_lt_of_cell? w _ (hcells2 k hkb))).trans (hcells2 k hkb)
   have HNE:Hid (¬ ms.getD k ky.nt=ms'.getD k ky.nt→sameT ms ms'=false):=fun h=>sameT_no (fun y=>h (y.2 k hka))
   have HEQ:Hid (ms.getD k ky.nt=ms'.getD k ky.nt→∀ j,j < k+1→ms.getD j ky.nt=ms'.getD j ky.nt):=fun h j hj=>by
    by_cases e:j=k
    ·rw [e]; exact h
    ·exact HAL.out j (by omega)
   clear hcells hka hcells2 hkb
   generalize ms.getD k ky.nt=x at c0 HNE HEQ
   generalize ms'.getD k ky.nt=y at d0 HNE HEQ
   have hlt':(k:Int) < (n:Int):=by omega
   have hk0:(0:Int)≤(k:Int):=by omega
   by_cases hxy:x=y
   ·have HX:Hid (∀ j,j < k+1→ms.getD j ky.nt=ms'.getD j ky.nt):=HEQ.out hxy
    have hx':(x.toList == y.toList)=true:=by rw [hxy]; simp
    clear hxy HNE HEQ
    go_wp2_with fail
    go_quiet (fail)
    have b3:=bel_drewN hbw nq
    clear c0 d0 hbw
    go_wp2
    go_roundw
    case rel=>exact ⟨k+1,by omega,by go_num,HX.out,b3⟩
    case measure=>simp [intOf]; omega
   ·have HR:Hid (sameT ms ms'=false):=HNE.out hxy
    have hx':(x.toList == y.toList)=false:=ky.ne_list hxy
    clear hxy HNE HEQ
    go_wp2_with fail
    go_quiet (fail)
    have b3:=bel_drewN hbw nq
    clear c0 d0 hbw
    go_wp2
    go_ret
    exact ⟨mu.ret_bool HR.out.symm,b3⟩
  ·have HR:Hid (sameT ms ms'=true):=sameT_yes ⟨by have:=HN.out; have:=HM.out; omega,fun j hj=>HAL.out j (by have:=HN.out; omega)⟩
   go_wp2
   go_ret
   exact ⟨mu.ret_bool HR.out.symm,hbw⟩
open bx
def SameB (x y:Bx):Prop:=x.nm=y.nm∧x.vd=y.vd∧x.nx=y.nx∧SameM x.ms y.ms∧SameT x.ks y.ks
def dSameB (x y:Bx):Decidable (SameB x y):=@instDecidableAnd _ _ (ow.decB _ _) (@instDecidableAnd _ _ _ (@instDecidableAnd _ _ _ (@instDecidableAnd _ _ (dSameM x.ms y.ms) (dSameT x.ks y.ks))))
def sameB (x y:Bx):Bool:=@decide (SameB x y) (dSameB x y)
theorem sameB_no {x y:Bx} (h:¬ SameB x y):sameB x y=false:=ow.df h
theorem sameB_is {x y:Bx} (h1:x.nm=y.nm) (h2:x.vd=y.vd) (h3:x.nx=y.nx) (h4:sameM x.ms y.ms=true):sameB x y=sameT x.ks y.ks:=by
 have h4':SameM x.ms y.ms:=ow.dof h4
 rw [Bool.eq_iff_iff]
 constructor
 ·intro h
  have h':SameB x y:=ow.dof h
  exact sameT_yes h'.2.2.2.2
 ·intro h
  have h':SameT x.ks y.ks:=ow.dof h
  exact ow.dt ⟨h1,h2,h3,h4',h'⟩
theorem sameM_of {ms ms':List St} (h:sameM ms ms'=false):¬ SameM ms ms':=fun y=>by rw [sameM_yes y] at h; cases h
set_option maxHeartbeats 4000000 in
set_option maxRecDepth 100000 in
theorem sameBox_any (x y:Bx) (v u v' u':Value) (w:World) (h1:RowsAt w v u x.ms x.ks) (h2:RowsAt w v' u' y.ms y.ks) (hx:bx.Small x) (hy:bx.Small y) :
  Calls Tryz.prog 99 #[BV x v u,BV y v' u'] w fun e w'=>e=.returned (.bool (sameB x y))∧Below w.heap.size w w':=by
 have hbw:=(bx.new_below w 85 #[.string x.nm,.int .i64 x.vd,.int .i64 x.nx,v,u]).alloc (by simp) (.cells #[.string y.nm,.int .i64 y.vd,.int .i64 y.nx,v',u'] 85)
 have L0:=(lies_new w 85 x v u).keep (bx.new_below _ 85 #[.string y.nm,.int .i64 y.vd,.int .i64 y.nx,v',u'])
 have M0:=lies_new (w.alloc (.cells #[.string x.nm,.int .i64 x.vd,.int .i64 x.nx,v,u] 85)) 85 y v' u'
 have HA:=rows_below h1 hbw
 have HB:=rows_below h2 hbw
 obtain ⟨⟨a,cap,rfl,_⟩,⟨a1,cap1,rfl,_⟩⟩:=h1
 obtain ⟨⟨a',cap',rfl,_⟩,⟨a1',cap1',rfl,_⟩⟩:=h2
 have HX:Hid (bx.Small x∧bx.Small y):=⟨hx,hy⟩
 have HF:Hid (¬ (x.nm=y.nm∧x.vd=y.vd∧x.nx=y.nx∧SameM x.ms y.ms)→sameB x y=false):=fun h=>sameB_no fun z=>h ⟨z.1,z.2.1,z.2.2.1,z.2.2.2.1⟩
 have HT:Hid (x.nm=y.nm→x.vd=y.vd→x.nx=y.nx→sameM x.ms y.ms=true→sameB x y=sameT x.ks y.ks):=sameB_is
 obtain ⟨nm,vd,nx,ms,ks⟩:=x
 obtain ⟨nm',vd',nx',ms',ks'⟩:=y
 unfold BV
 simp only at hbw L0 M0 HA HB HX HF HT ⊢
 clear hx hy
 rw [show (w.alloc (.cells #[.string nm,.int .i64 vd,.int .i64 nx,.slice a ms.length cap,.slice a1 ks.length cap1] 85)).heap.size=w.heap.size+1 by simp] at M0
 generalize sameB ⟨nm,vd,nx,ms,ks⟩ ⟨nm',vd',nx',ms',ks'⟩=R at HF HT ⊢
 by_cases q0:¬ nm=nm'
 ·have q0':(nm.toList == nm'.toList)=false:=ky.ne_list q0
  have HZ:Hid (R=false):=HF.out fun z=>q0 z.1
  clear q0
  go_enter Tryz.func99,Tryz.ntmps99
  go_wp2
  go_ret
  exact ⟨mu.ret_bool HZ.out.symm,hbw⟩
 have q0:nm=nm':=Classical.not_not.1 q0
 have q0':(nm.toList == nm'.toList)=true:=by rw [q0]; simp
 have HQ0:Hid (nm=nm'):=q0
 clear q0
 by_cases q1:¬ vd=vd'
 ·have q1':(vd == vd')=false:=by simp [q1]
  have HZ:Hid (R=false):=HF.out fun z=>q1 z.2.1
  clear q1
  go_enter Tryz.func99,Tryz.ntmps99
  go_wp2
  go_ret
  exact ⟨mu.ret_bool HZ.out.symm,hbw⟩
 have q1:vd=vd':=Decidable.of_not_not q1
 have q1':(vd == vd')=true:=by simp [q1]
 have HQ1:Hid (vd=vd'):=q1
 clear q1
 by_cases q2:¬ nx=nx'
 ·have q2':(nx == nx')=false:=by simp [q2]
  have HZ:Hid (R=false):=HF.out fun z=>q2 z.2.2.1
  clear q2
  go_enter Tryz.func99,Tryz.ntmps99
  go_wp2
  go_ret
  exact ⟨mu.ret_bool HZ.out.symm,hbw⟩
 have q2:nx=nx':=Decidable.of_not_not q2
 have q2':(nx == nx')=true:=by simp [q2]
 have HQ2:Hid (nx=nx'):=q2
 clear q2
 go_enter Tryz.func99,Tryz.ntmps99
 go_wp2_with fail
 generalize World.alloc _ _=w0 at hbw L0 M0 HA HB ⊢
 have HA:Hid (RowsAt w0 (.slice a ms.length cap) (.slice a1 ks.length cap1) ms ks):=HA
 have HB:Hid (RowsAt w0 (.slice a' ms'.length cap') (.slice a1' ks'.length cap1') ms' ks'):=HB
 refine (equalM_any _ _ _ _ ms ms' _ HA.out.1 HB.out.1 HX.out.1.2.2.1 HX.out.2.2.2.1).mono ?_
 rintro e w2 ⟨rfl,hb2⟩
 have HA2:Hid (RowsAt w2 (.slice a ms.length cap) (.slice a1 ks.length cap1) ms ks):=rows_below HA.out hb2
 have HB2:Hid (RowsAt w2 (.slice a' ms'.length cap') (.slice a1' ks'.length cap1') ms' ks'):=rows_below HB.out hb2
 have c4:=(L0.keep hb2).c4
 have d4:=(M0.keep hb2).c4
 have b3:=hbw.trans (hb2.mono hbw.size)
 clear hbw hb2 HA HB L0 M0
 have HSM:Hid (sameM ms ms'=false→¬ SameM ms ms'):=sameM_of
 generalize sameM ms ms'=sm at HT HSM ⊢
 cases sm
 ·have HZ:Hid (R=false):=HF.out fun z=>HSM.out (by trivial) z.2.2.2
  go_wp2
  go_ret
  exact ⟨mu.ret_bool HZ.out.symm,b3⟩
 have HZ:Hid (R=sameT ks ks'):=HT.out HQ0.out HQ1.out HQ2.out (by trivial)
 go_wp2_with fail
 refine (equalT_any _ _ _ _ ks ks' _ HA2.out.2 HB2.out.2 HX.out.1.2.2.2 HX.out.2.2.2.2).mono ?_
 rintro e w3 ⟨rfl,hb3⟩
 have b4:=b3.trans (hb3.mono b3.size)
 clear b3 hb3 HA2 HB2 c4 d4
 generalize sameT ks ks'=st at HZ ⊢
 cases st
 ·go_wp2
  go_ret
  exact ⟨mu.ret_bool HZ.out.symm,b4⟩
 ·go_wp2
  go_ret
  exact ⟨mu.ret_bool HZ.out.symm,b4⟩
end Go.Proofs.YtnhcbiomkiljpaaGreatDoor.sm
namespace Go.Proofs.YtnhcbiomkiljpaaGreatDoor.sm
open Go.RowKit Go.WideShapes
open st bx
set_option linter.unusedVariables false
def SameS (xs ys:List Bx):Prop:=xs.length=ys.length∧∀ j,j < xs.length→SameB (xs.getD j noB) (ys.getD j noB)
def dSameSs (xs ys:List Bx) (k:Nat):Decidable (∀ j,j < k→SameB (xs.getD j noB) (ys.getD j noB)):=@Nat.decidableBallLT k (fun j _=>SameB (xs.getD j noB) (ys.getD j noB)) (fun j _=>dSameB _ _)
def dSameS (xs ys:List Bx):Decidable (SameS xs ys):=@instDecidableAnd _ _ _ (dSameSs xs ys xs.length)
def sameS (xs ys:List Bx):Bool:=@decide (SameS xs ys) (dSameS xs ys)
theorem sameS_no {xs ys:List Bx} (h:¬ SameS xs ys):sameS xs ys=false:=ow.df h
theorem sameS_yes {xs ys:List Bx} (h:SameS xs ys):sameS xs ys=true:=ow.dt h
theorem sameB_of {x y:Bx} (h:sameB x y=true):SameB x y:=ow.dof h
theorem sameB_yes {x y:Bx} (h:SameB x y):sameB x y=true:=ow.dt h
theorem sameB_not {x y:Bx} (h:sameB x y=false):¬ SameB x y:=fun z=>by rw [sameB_yes z] at h; cases h
set_option maxHeartbeats 4000000 in
set_option maxRecDepth 100000 in
theorem equalS_any (v u:Value) (xs ys:List Bx) (vs us:Nat→Value × Value) (w:World) (h1:BoxesAt w v xs vs) (h2:BoxesAt w u ys us) (hs:bx.Smalls xs) (hs':bx.Smalls ys) :
  Calls Tryz.prog 98 #[v,u,.func (Fn.func 99) #[] #[]] w fun e w'=>e=.returned (.bool (sameS xs ys))∧Below w.heap.size w w':=by
 have HALL:Hid (BoxesAt w v xs vs∧BoxesAt w u ys us):=⟨h1,h2⟩
 obtain ⟨⟨a,cap,rfl,hc1⟩,_⟩:=h1
 obtain ⟨⟨c,cap2,rfl,hc2⟩,_⟩:=h2
 obtain ⟨n,hn⟩:∃ n,n=xs.length:=⟨_,rfl⟩
 obtain ⟨m,hm⟩:∃ m,m=ys.length:=⟨_,rfl⟩
 have HN:Hid (n=xs.length):=hn
 have HM:Hid (m=ys.length):=hm
 have hl:n≤1048576:=by rw [hn]; exact hs.1
 have hl2:m≤1048576:=by rw [hm]; exact hs'.1
 have HS:Hid (bx.Smalls xs∧bx.Smalls ys):=⟨hs,hs'⟩
 have H1:Hid (xs=[] ∨ ∃ b off,a=some ⟨b,off,none⟩∧b < w.heap.size∧∀ j,j < xs.length→At5 w b (off+j * 5) (xs.getD j noB) (vs j)):=hc1
 have H2:Hid (ys=[] ∨ ∃ b off,c=some ⟨b,off,none⟩∧b < w.heap.size∧∀ j,j < ys.length→At5 w b (off+j * 5) (ys.getD j noB) (us j)):=hc2
 rw [← hn,← hm] at HALL
 rw [← hn,← hm]
 clear hc1 hc2 hs hs' hn hm
 by_cases hnm:¬ n=m
 ·have hnm':((n:Int) != (m:Int))=true:=by simp; omega
  have HR:Hid (sameS xs ys=false):=sameS_no (fun y=>hnm (by have:=y.1; have:=HN.out; have:=HM.out; omega))
  go_enter Tryz.func98,Tryz.ntmps98
  go_wp2
  go_ret
  exact ⟨mu.ret_bool HR.out.symm,Below.refl _ _⟩
 have hnm:n=m:=Decidable.of_not_not hnm
 subst hnm
 have hnm':((n:Int) != (n:Int))=false:=by simp
 go_enter Tryz.func98,Tryz.ntmps98
 go_wp2
 go_loopw [17] (fun i wr=>∃ k:Nat,k≤n∧i=.int .i64 k∧(∀ j,j < k→SameB (xs.getD j noB) (ys.getD j noB))∧Below w.heap.size w wr) (fun i _=>n - (intOf i).toNat)
 case atStart=>exact ⟨0,Nat.zero_le _,rfl,fun j hj=>absurd hj (Nat.not_lt_zero _),Below.refl _ _⟩
 case round =>
  obtain ⟨k,hk,rfl,hal,hbw⟩:=hrel
  have HAL:Hid (∀ j,j < k→SameB (xs.getD j noB) (ys.getD j noB)):=hal
  clear hal
  by_cases hlt:k < n
  ·have hka:k < xs.length:=by rw [← HN.out]; exact hlt
   have hkb:k < ys.length:=by rw [← HM.out]; exact hlt
   rcases H1.out with e | ⟨b,off,rfl,hbl,hcells⟩
   ·rw [e] at hka; simp at hka
   rcases H2.out with e | ⟨b2,off2,rfl,hbl2,hcells2⟩
   ·rw [e] at hkb; simp at hkb
   have ha:=(hcells k hka).keep hbw hbl
   have hb:=(hcells2 k hkb).keep hbw hbl2
   have hr1:=rows_more ((boxes_in_below HALL.out.1 hbw (Nat.le_refl _)).2 k hka) hbw.size
   have hr2:=rows_more ((boxes_in_below HALL.out.2 hbw (Nat.le_refl _)).2 k hkb) hbw.size
   have hsa:=HS.out.1.2 k hka
   have hsb:=HS.out.2.2 k hkb
   have HNE:Hid (sameB (xs.getD k noB) (ys.getD k noB)=false→sameS xs ys=false):=fun h=>sameS_no (fun y=>sameB_not h (y.2 k hka))
   have HEQ:Hid (sameB (xs.getD k noB) (ys.getD k noB)=true→∀ j,j < k+1→SameB (xs.getD j noB) (ys.getD j noB)):=fun h j hj=>by
    by_cases e:j=k
    ·rw [e]; exact sameB_of h
    ·exact HAL.out j (by omega)
   clear hcells hka hcells2 hkb
   generalize xs.getD k noB=x at ha hsa hr1 HNE HEQ
   generalize ys.getD k noB=y at hb hsb hr2 HNE HEQ
   generalize vs k=q at ha hr1
   generalize us k=r at hb hr2
   obtain ⟨q1,q2⟩:=q
   obtain ⟨r1,r2⟩:=r
   obtain ⟨c0,c1,c2,c3,c4⟩:=ha
   obtain ⟨d0,d1,d2,d3,d4⟩:=hb
   simp only at c0 c1 c2 c3 c4 d0 d1 d2 d3 d4 hr1 hr2
   have HXY:Hid (bx.Small x∧bx.Small y):=⟨hsa,hsb⟩
   have hlt':(k:Int) < (n:Int):=by omega
   have hk0:(0:Int)≤(k:Int):=by omega
   have hb2:=(bx.new_below wr 85 #[.string x.nm,.int .i64 x.vd,.int .i64 x.nx,q1,q2]).alloc (by simp) (.cells #[.string y.nm,.int .i64 y.vd,.int .i64 y.nx,r1,r2] 85)
   have hd:=bx.new_below wr 85 #[.string x.nm,.int .i64 x.vd,.int .i64 x.nx,q1,q2]
   have e0:=(hd.cell (p:=⟨b2,off2+k * 5,none⟩) (World.block_lt_of_cell? wr _ d0)).trans d0
   have e1:=(hd.cell (p:=⟨b2,off2+k * 5+1,none⟩) (World.block_lt_of_cell? wr _ d1)).trans d1
   have e2:=(hd.cell (p:=⟨b2,off2+k * 5+2,none⟩) (World.block_lt_of_cell? wr _ d2)).trans d2
   have e3:=(hd.cell (p:=⟨b2,off2+k * 5+3,none⟩) (World.block_lt_of_cell? wr _ d3)).trans d3
   have e4:=(hd.cell (p:=⟨b2,off2+k * 5+4,none⟩) (World.block_lt_of_cell? wr _ d4)).trans d4
   have HR1:Hid (RowsAt ((wr.alloc (.cells #[.string x.nm,.int .i64 x.vd,.int .i64 x.nx,q1,q2] 85)).alloc (.cells #[.string y.nm,.int .i64 y.vd,.int .i64 y.nx,r1,r2] 85)) q1 q2 x.ms x.ks):=rows_below hr1 hb2
   have HR2:Hid (RowsAt ((wr.alloc (.cells #[.string x.nm,.int .i64 x.vd,.int .i64 x.nx,q1,q2] 85)).alloc (.cells #[.string y.nm,.int .i64 y.vd,.int .i64 y.nx,r1,r2] 85)) r1 r2 y.ms y.ks):=rows_below hr2 hb2
   have hb3:=hbw.trans (hb2.mono hbw.size)
   obtain ⟨⟨a2,cap2,rfl,_⟩,⟨a3,cap3,rfl,_⟩⟩:=hr1
   obtain ⟨⟨a4,cap4,rfl,_⟩,⟨a5,cap5,rfl,_⟩⟩:=hr2
   clear hsa hsb hb2 hd hbw
   go_wp2_with fail
   refine (sameBox_any x y _ _ _ _ _ HR1.out HR2.out HXY.out.1 HXY.out.2).mono ?_
   rintro e w2 ⟨rfl,hb4⟩
   have b4:=hb3.trans (hb4.mono hb3.size)
   clear hb3 hb4 HR1 HR2 c0 c1 c2 c3 c4 d0 d1 d2 d3 d4 e0 e1 e2 e3 e4
   generalize sameB x y=sb at HNE HEQ ⊢
   cases sb
   ·have HR:Hid (sameS xs ys=false):=HNE.out (by trivial)
    go_wp2
    go_ret
    exact ⟨mu.ret_bool HR.out.symm,b4⟩
   ·have HX:Hid (∀ j,j < k+1→SameB (xs.getD j noB) (ys.getD j noB)):=HEQ.out (by trivial)
    go_wp2
    go_roundw
    case rel=>exact ⟨k+1,by omega,by go_num,HX.out,b4⟩
    case measure=>simp [intOf]; omega
  ·have HR:Hid (sameS xs ys=true):=sameS_yes ⟨by have:=HN.out; have:=HM.out; omega,fun j hj=>HAL.out j (by have:=HN.out; omega)⟩
   go_wp2
   go_ret
   exact ⟨mu.ret_bool HR.out.symm,hbw⟩
def ssa (xs ys:List Bx):Bool:=decide (xs.length≤4096∧ys.length≤4096) && sok xs && sok ys && sameS xs ys
def ssb (xs ys:List Bx):Int:=if xs.length≤4096∧ys.length≤4096 then (if sok xs=true∧sok ys=true then 0 else 1) else 2
set_option maxHeartbeats 4000000 in
set_option maxRecDepth 100000 in
theorem impl_ss (v u:Value) (xs ys:List Bx) (vs us:Nat→Value × Value) (w:World) (h1:BoxesAt w v xs vs) (h2:BoxesAt w u ys us) (hs:bx.Smalls xs) (hs':bx.Smalls ys) :
  Calls Tryz.prog 52 #[v,u] w fun e w'=>e=.returned (.tuple #[.bool (ssa xs ys),.int .i64 (ssb xs ys)])∧Below w.heap.size w w':=by
 have HA:Hid (BoxesAt w v xs vs):=h1
 have HB:Hid (BoxesAt w u ys us):=h2
 obtain ⟨⟨a,cap,rfl,_⟩,_⟩:=h1
 obtain ⟨⟨c,cap2,rfl,_⟩,_⟩:=h2
 have HS:Hid (bx.Smalls xs∧bx.Smalls ys):=⟨hs,hs'⟩
 have HL:Hid (¬ (xs.length≤4096∧ys.length≤4096)→ssa xs ys=false∧ssb xs ys=2):=fun h=>by simp [ssa,ssb,h]
 have HB1:Hid (xs.length≤4096∧ys.length≤4096→sok xs=false→ssa xs ys=false∧ssb xs ys=1):=fun h h1=>by simp [ssa,ssb,h,h1]
 have HB2:Hid (xs.length≤4096∧ys.length≤4096→sok ys=false→ssa xs ys=false∧ssb xs ys=1):=fun h h1=>by simp [ssa,ssb,h,h1]
 have HO:Hid (xs.length≤4096∧ys.length≤4096→sok xs=true→sok ys=true→ssa xs ys=sameS xs ys∧ssb xs ys=0):=fun h h1 h2=>by simp [ssa,ssb,h,h1,h2]
 have hl1:=hs.1
 have hl2:=hs'.1
 clear hs hs'
 generalize ssa xs ys=RA at HL HB1 HB2 HO ⊢
 generalize ssb xs ys=RB at HL HB1 HB2 HO ⊢
 by_cases g1:4096 < xs.length
 ·have g1':(4096:Int) < (xs.length:Int):=by omega
  obtain ⟨r0,r1⟩:=HL.out (by omega)
  have HR:Hid (RA=false∧RB=2):=⟨r0,r1⟩
  clear r0 r1
  go_enter Tryz.func52,Tryz.ntmps52
  go_wp2
  go_ret2
  exact ⟨by rw [HR.out.1,HR.out.2]; rfl,Below.refl _ _⟩
 have g1':(xs.length:Int)≤4096:=by omega
 by_cases g2:4096 < ys.length
 ·have g2':(4096:Int) < (ys.length:Int):=by omega
  obtain ⟨r0,r1⟩:=HL.out (by omega)
  have HR:Hid (RA=false∧RB=2):=⟨r0,r1⟩
  clear r0 r1
  go_enter Tryz.func52,Tryz.ntmps52
  go_wp2
  go_ret2
  exact ⟨by rw [HR.out.1,HR.out.2]; rfl,Below.refl _ _⟩
 have g2':(ys.length:Int)≤4096:=by omega
 have HLL:Hid (xs.length≤4096∧ys.length≤4096):=⟨by omega,by omega⟩
 go_enter Tryz.func52,Tryz.ntmps52
 go_wp2_with fail
 refine (impl_sok _ xs vs w HA.out HS.out.1).mono ?_
 rintro e w1 ⟨rfl,b1⟩
 have HA1:Hid (BoxesAt w1 (.slice a xs.length cap) xs vs):=boxes_below HA.out b1
 have HB1':Hid (BoxesAt w1 (.slice c ys.length cap2) ys us):=boxes_below HB.out b1
 clear HA HB
 generalize sok xs=sx at HB1 HO ⊢
 cases sx
 ·obtain ⟨r0,r1⟩:=HB1.out HLL.out (by trivial)
  have HR:Hid (RA=false∧RB=1):=⟨r0,r1⟩
  clear r0 r1
  go_wp2
  go_ret2
  exact ⟨by rw [HR.out.1,HR.out.2]; rfl,b1⟩
 go_wp2_with fail
 refine (impl_sok _ ys us w1 HB1'.out HS.out.2).mono ?_
 rintro e w2 ⟨rfl,hb2⟩
 have HA2:Hid (BoxesAt w2 (.slice a xs.length cap) xs vs):=boxes_below HA1.out hb2
 have HB2':Hid (BoxesAt w2 (.slice c ys.length cap2) ys us):=boxes_below HB1'.out hb2
 have b2:=b1.trans (hb2.mono b1.size)
 clear HA1 HB1' b1 hb2
 generalize sok ys=sy at HB2 HO ⊢
 cases sy
 ·obtain ⟨r0,r1⟩:=HB2.out HLL.out (by trivial)
  have HR:Hid (RA=false∧RB=1):=⟨r0,r1⟩
  clear r0 r1
  go_wp2
  go_ret2
  exact ⟨by rw [HR.out.1,HR.out.2]; rfl,b2⟩
 obtain ⟨r0,r1⟩:=HO.out HLL.out (by trivial) (by trivial)
 have HR:Hid (RA=sameS xs ys∧RB=0):=⟨r0,r1⟩
 clear r0 r1
 go_wp2_with fail
 refine (equalS_any _ _ xs ys vs us w2 HA2.out HB2'.out HS.out.1 HS.out.2).mono ?_
 rintro e w3 ⟨rfl,hb3⟩
 have b3:=b2.trans (hb3.mono b2.size)
 clear HA2 HB2' b2 hb3
 go_wp2
 go_ret2
 exact ⟨by rw [HR.out.1,HR.out.2]; rfl,b3⟩
end Go.Proofs.YtnhcbiomkiljpaaGreatDoor.sm
namespace Go.Proofs.YtnhcbiomkiljpaaGreatDoor.sm
open Go.RowKit Go.WideShapes
open st bx
set_option linter.unusedVariables false
set_option maxHeartbeats 8000000 in
set_option maxRecDepth 100000 in
theorem l09Same_any (v u:Value) (xs ys:List Bx) (vs us:Nat→Value × Value) (w:World) (h1:BoxesAt w v xs vs) (h2:BoxesAt w u ys us) (hs:bx.Smalls xs) (hs':bx.Smalls ys) :
  Calls Tryz.prog 81 #[v,u] w fun e w'=>e=.returned (.bool (sameS xs ys))∧Below w.heap.size w w':=by
 have HALL:Hid (BoxesAt w v xs vs∧BoxesAt w u ys us):=⟨h1,h2⟩
 obtain ⟨⟨a,cap,rfl,hc1⟩,_⟩:=h1
 obtain ⟨⟨c,cap2,rfl,hc2⟩,_⟩:=h2
 obtain ⟨n,hn⟩:∃ n,n=xs.length:=⟨_,rfl⟩
 obtain ⟨m,hm⟩:∃ m,m=ys.length:=⟨_,rfl⟩
 have HN:Hid (n=xs.length):=hn
 have HM:Hid (m=ys.length):=hm
 have hl:n≤1048576:=by rw [hn]; exact hs.1
 have hl2:m≤1048576:=by rw [hm]; exact hs'.1
 have HS:Hid (bx.Smalls xs∧bx.Smalls ys):=⟨hs,hs'⟩
 have H1:Hid (xs=[] ∨ ∃ b off,a=some ⟨b,off,none⟩∧b < w.heap.size∧∀ j,j < xs.length→At5 w b (off+j * 5) (xs.getD j noB) (vs j)):=hc1
 have H2:Hid (ys=[] ∨ ∃ b off,c=some ⟨b,off,none⟩∧b < w.heap.size∧∀ j,j < ys.length→At5 w b (off+j * 5) (ys.getD j noB) (us j)):=hc2
 rw [← hn,← hm] at HALL
 rw [← hn,← hm]
 clear hc1 hc2 hs hs' hn hm
 by_cases hnm:¬ n=m
 ·have hnm':((n:Int) != (m:Int))=true:=by simp; omega
  have HR:Hid (sameS xs ys=false):=sameS_no (fun y=>hnm (by have:=y.1; have:=HN.out; have:=HM.out; omega))
  go_enter Tryz.func81,Tryz.ntmps81
  go_wp2
  go_ret
  exact ⟨mu.ret_bool HR.out.symm,Below.refl _ _⟩
 have hnm:n=m:=Decidable.of_not_not hnm
 subst hnm
 have hnm':((n:Int) != (n:Int))=false:=by simp
 go_enter Tryz.func81,Tryz.ntmps81
 go_wp2
 go_loopw [5] (fun i wr=>∃ k:Nat,k≤n∧i=.int .i64 k∧(∀ j,j < k→SameB (xs.getD j noB) (ys.getD j noB))∧Below w.heap.size w wr) (fun i _=>n - (intOf i).toNat)
 case atStart=>exact ⟨0,Nat.zero_le _,rfl,fun j hj=>absurd hj (Nat.not_lt_zero _),Below.refl _ _⟩
 case round =>
  obtain ⟨k,hk,rfl,hal,hbw⟩:=hrel
  have HAL:Hid (∀ j,j < k→SameB (xs.getD j noB) (ys.getD j noB)):=hal
  clear hal
  by_cases hlt:k < n
  ·have hka:k < xs.length:=by rw [← HN.out]; exact hlt
   have hkb:k < ys.length:=by rw [← HM.out]; exact hlt
   rcases H1.out with e | ⟨b,off,rfl,hbl,hcells⟩
   ·rw [e] at hka; simp at hka
   rcases H2.out with e | ⟨b2,off2,rfl,hbl2,hcells2⟩
   ·rw [e] at hkb; simp at hkb
   have ha:=(hcells k hka).keep hbw hbl
   have hb:=(hcells2 k hkb).keep hbw hbl2
   have hr1:=rows_more ((boxes_in_below HALL.out.1 hbw (Nat.le_refl _)).2 k hka) hbw.size
   have hr2:=rows_more ((boxes_in_below HALL.out.2 hbw (Nat.le_refl _)).2 k hkb) hbw.size
   have hsa:=HS.out.1.2 k hka
   have hsb:=HS.out.2.2 k hkb
   have HNE:Hid (¬ SameB (xs.getD k noB) (ys.getD k noB)→sameS xs ys=false):=fun h=>sameS_no (fun y=>h (y.2 k hka))
   have HEQ:Hid (SameB (xs.getD k noB) (ys.getD k noB)→∀ j,j < k+1→SameB (xs.getD j noB) (ys.getD j noB)):=fun h j hj=>by
    by_cases e:j=k
    ·rw [e]; exact h
    ·exact HAL.out j (by omega)
   clear hcells hka hcells2 hkb
   generalize xs.getD k noB=x at ha hsa hr1 HNE HEQ
   generalize ys.getD k noB=y at hb hsb hr2 HNE HEQ
   generalize vs k=q at ha hr1
   generalize us k=r at hb hr2
   obtain ⟨q1,q2⟩:=q
   obtain ⟨r1,r2⟩:=r
   obtain ⟨c0,c1,c2,c3,c4⟩:=ha
   obtain ⟨d0,d1,d2,d3,d4⟩:=hb
   simp only at c0 c1 c2 c3 c4 d0 d1 d2 d3 d4 hr1 hr2
   have HXY:Hid (bx.Small x∧bx.Small y):=⟨hsa,hsb⟩
   have hlt':(k:Int) < (n:Int):=by omega
   have hk0:(0:Int)≤(k:Int):=by omega
   have hd:=bx.new_below wr 85 #[.string x.nm,.int .i64 x.vd,.int .i64 x.nx,q1,q2]
   have hb2:=hd.alloc (by simp) (.cells #[.string y.nm,.int .i64 y.vd,.int .i64 y.nx,r1,r2] 85)
   have e0:=(hd.cell (p:=⟨b2,off2+k * 5,none⟩) (World.block_lt_of_cell? wr _ d0)).trans d0
   have e1:=(hd.cell (p:=⟨b2,off2+k * 5+1,none⟩) (World.block_lt_of_cell? wr _ d1)).trans d1
   have e2:=(hd.cell (p:=⟨b2,off2+k * 5+2,none⟩) (World.block_lt_of_cell? wr _ d2)).trans d2
   have e3:=(hd.cell (p:=⟨b2,off2+k * 5+3,none⟩) (World.block_lt_of_cell? wr _ d3)).trans d3
   have e4:=(hd.cell (p:=⟨b2,off2+k * 5+4,none⟩) (World.block_lt_of_cell? wr _ d4)).trans d4
   have L0:=(lies_new wr 85 x q1 q2).keep (bx.new_below _ 85 #[.string y.nm,.int .i64 y.vd,.int .i64 y.nx,r1,r2])
   have M0:=lies_new (wr.alloc (.cells #[.string x.nm,.int .i64 x.vd,.int .i64 x.nx,q1,q2] 85)) 85 y r1 r2
   rw [show (wr.alloc (.cells #[.string x.nm,.int .i64 x.vd,.int .i64 x.nx,q1,q2] 85)).heap.size=wr.heap.size+1 by simp] at M0
   have HR1:=rows_below hr1 hb2
   have HR2:=rows_below hr2 hb2
   have hb3:=hbw.trans (hb2.mono hbw.size)
   obtain ⟨⟨a2,cap2,rfl,_⟩,⟨a3,cap3,rfl,_⟩⟩:=hr1
   obtain ⟨⟨a4,cap4,rfl,_⟩,⟨a5,cap5,rfl,_⟩⟩:=hr2
   clear hsa hsb hb2 hd hbw
   obtain ⟨nm,vd,nx,ms,ks⟩:=x
   obtain ⟨nm',vd',nx',ms',ks'⟩:=y
   simp only at c0 c1 c2 c3 c4 d0 d1 d2 d3 d4 e0 e1 e2 e3 e4 L0 M0 HR1 HR2 HXY HNE HEQ hb3
   have hm1:ms.length≤1048576:=HXY.out.1.2.2.1.1
   have hm2:ms'.length≤1048576:=HXY.out.2.2.2.1.1
   have hk1:ks.length≤1048576:=HXY.out.1.2.2.2.1
   have hk2:ks'.length≤1048576:=HXY.out.2.2.2.2.1
   by_cases q0:¬ nm=nm'
   ·have q0':(nm.toList == nm'.toList)=false:=ky.ne_list q0
    have HZ:Hid (sameS xs ys=false):=HNE.out fun z=>q0 z.1
    clear q0
    go_wp2
    go_ret
    exact ⟨mu.ret_bool HZ.out.symm,hb3⟩
   have q0:nm=nm':=Classical.not_not.1 q0
   have q0':(nm.toList == nm'.toList)=true:=by rw [q0]; simp
   have HQ0:Hid (nm=nm'):=q0
   clear q0
   by_cases q1:¬ vd=vd'
   ·have q1':(vd != vd')=true:=by simp [q1]
    have HZ:Hid (sameS xs ys=false):=HNE.out fun z=>q1 z.2.1
    clear q1
    go_wp2
    go_ret
    exact ⟨mu.ret_bool HZ.out.symm,hb3⟩
   have q1:vd=vd':=Decidable.of_not_not q1
   have q1':(vd != vd')=false:=by simp [q1]
   have HQ1:Hid (vd=vd'):=q1
   clear q1
   by_cases q2:¬ nx=nx'
   ·have q2':(nx != nx')=true:=by simp [q2]
    have HZ:Hid (sameS xs ys=false):=HNE.out fun z=>q2 z.2.2.1
    clear q2
    go_wp2
    go_ret
    exact ⟨mu.ret_bool HZ.out.symm,hb3⟩
   have q2:nx=nx':=Decidable.of_not_not q2
   have q2':(nx != nx')=false:=by simp [q2]
   have HQ2:Hid (nx=nx'):=q2
   clear q2
   by_cases q3:¬ ms.length=ms'.length
   ·have q3':((ms.length:Int) != (ms'.length:Int))=true:=by simp; omega
    have HZ:Hid (sameS xs ys=false):=HNE.out fun z=>q3 z.2.2.2.1.1
    go_wp2
    go_ret
    exact ⟨mu.ret_bool HZ.out.symm,hb3⟩
   have q3:ms.length=ms'.length:=Decidable.of_not_not q3
   have q3':((ms.length:Int) != (ms'.length:Int))=false:=by simp; omega
   have HQ3:Hid (ms.length=ms'.length):=q3
   clear q3
   by_cases q4:¬ ks.length=ks'.length
   ·have q4':((ks.length:Int) != (ks'.length:Int))=true:=by simp; omega
    have HZ:Hid (sameS xs ys=false):=HNE.out fun z=>q4 z.2.2.2.2.1
    go_wp2
    go_ret
    exact ⟨mu.ret_bool HZ.out.symm,hb3⟩
   have q4:ks.length=ks'.length:=Decidable.of_not_not q4
   have q4':((ks.length:Int) != (ks'.length:Int))=false:=by simp; omega
   have HQ4:Hid (ks.length=ks'.length):=q4
   clear q4
   go_wp2
   clear c0 c1 c2 c3 c4 d0 d1 d2 d3 d4 e0 e1 e2 e3 e4 q0' q1' q2' q3' q4'
   generalize (wr.alloc _).alloc _=W1 at L0 M0 HR1 HR2 hb3 ⊢
   generalize wr.heap.size=B at L0 M0 ⊢
   have HL0:Hid (∀ wq,Below W1.heap.size W1 wq→Lies wq B 85 ⟨nm,vd,nx,ms,ks⟩ (.slice a2 ms.length cap2) (.slice a3 ks.length cap3)):=fun wq h=>L0.keep h
   have HM0:Hid (∀ wq,Below W1.heap.size W1 wq→Lies wq (B+1) 85 ⟨nm',vd',nx',ms',ks'⟩ (.slice a4 ms'.length cap4) (.slice a5 ks'.length cap5)):=fun wq h=>M0.keep h
   have HR1:Hid (RowsAt W1 (.slice a2 ms.length cap2) (.slice a3 ks.length cap3) ms ks):=HR1
   have HR2:Hid (RowsAt W1 (.slice a4 ms'.length cap4) (.slice a5 ks'.length cap5) ms' ks'):=HR2
   have HB3:Hid (∀ wq,Below W1.heap.size W1 wq→Below w.heap.size w wq):=fun wq h=>hb3.trans (h.mono hb3.size)
   clear L0 M0 hb3
   go_loopw [8] (fun i wq=>∃ z:Nat,z≤ms.length∧i=.int .i64 z∧(∀ j,j < z→ms.getD j noS=ms'.getD j noS)∧Below W1.heap.size W1 wq) (fun i _=>ms.length - (intOf i).toNat)
   case atStart=>exact ⟨0,Nat.zero_le _,rfl,fun j hj=>absurd hj (Nat.not_lt_zero _),Below.refl _ _⟩
   case round =>
    obtain ⟨z,hz,rfl,hzl,hbq⟩:=hrel
    have HZL:Hid (∀ j,j < z→ms.getD j noS=ms'.getD j noS):=hzl
    clear hzl
    have c3:=(HL0.out _ hbq).c3
    have d3:=(HM0.out _ hbq).c3
    have c4:=(HL0.out _ hbq).c4
    by_cases hzn:z < ms.length
    ·have hzn2:z < ms'.length:=by have:=HQ3.out; omega
     obtain ⟨b,off,ha,hat⟩:∃ b off,a2=some ⟨b,off,none⟩∧At3 wr b (off+z * 3) (ms.getD z noS):=by
      obtain ⟨a',cap',e,hh⟩:=(rows_below HR1.out hbq).1
      cases e
      rcases hh with e | ⟨b,off,e,hb,hc⟩
      ·rw [e] at hzn; simp at hzn
      ·exact ⟨b,off,e,hc z hzn⟩
     obtain ⟨b',off',ha',hat'⟩:∃ b off,a4=some ⟨b,off,none⟩∧At3 wr b (off+z * 3) (ms'.getD z noS):=by
      obtain ⟨a',cap',e,hh⟩:=(rows_below HR2.out hbq).1
      cases e
      rcases hh with e | ⟨b,off,e,hb,hc⟩
      ·rw [e] at hzn2; simp at hzn2
      ·exact ⟨b,off,e,hc z hzn2⟩
     have hsa:=HXY.out.1.2.2.1.2 z hzn
     have hsb:=HXY.out.2.2.2.1.2 z hzn2
     have HN2:Hid (¬ ms.getD z noS=ms'.getD z noS→sameS xs ys=false):=fun h=>HNE.out fun y=>h (y.2.2.2.1.2 z hzn)
     have HE2:Hid (ms.getD z noS=ms'.getD z noS→∀ j,j < z+1→ms.getD j noS=ms'.getD j noS):=fun h j hj=>by
      by_cases e:j=z
      ·rw [e]; exact h
      ·exact HZL.out j (by omega)
     subst ha ha'
     simp only at hsa hsb
     generalize ms.getD z noS=x at hat hsa HN2 HE2
     generalize ms'.getD z noS=y at hat' hsb HN2 HE2
     have hrun:=fun W=>ne_run x y hsa hsb W
     have hgd:=guard_run
     obtain ⟨g0,g1,g2⟩:=hat
     obtain ⟨f0,f1,f2⟩:=hat'
     clear hsa hsb
     have hz1:(z:Int) < (ms.length:Int):=by omega
     have hz2:(z:Int) < (ms'.length:Int):=by omega
     have hz0:(0:Int)≤(z:Int):=by omega
     by_cases hxy:x=y
     ·have HX:Hid (∀ j,j < z+1→ms.getD j noS=ms'.getD j noS):=HE2.out hxy
      rw [eqS_yes hxy] at hrun
      simp only [Bool.not_true] at hrun
      clear hxy HN2 HE2
      go_wp2_with fail
      go_quiet (fail)
      have b3:=bel_drewN hbq nq
      clear c3 d3 c4 g0 g1 g2 f0 f1 f2 hrun hbq
      go_wp2
      go_roundw
      case rel=>exact ⟨z+1,by omega,by go_num,HX.out,b3⟩
      case measure=>simp [intOf]; omega
     ·have HR:Hid (sameS xs ys=false):=HN2.out hxy
      rw [eqS_no hxy] at hrun
      simp only [Bool.not_false] at hrun
      clear hxy HN2 HE2
      go_wp2_with fail
      go_quiet (fail)
      have b3:=bel_drewN hbq nq
      clear c3 d3 c4 g0 g1 g2 f0 f1 f2 hrun hbq
      go_wp2
      go_ret
      exact ⟨mu.ret_bool HR.out.symm,HB3.out _ b3⟩
    have HMM:Hid (SameM ms ms'):=⟨HQ3.out,fun j hj=>HZL.out j (by omega)⟩
    have HBQ:Hid (Below W1.heap.size W1 wr):=hbq
    clear HZL hbq
    go_wp2
    clear c3 d3 c4
    go_loopw [9] (fun i wq=>∃ z:Nat,z≤ks.length∧i=.int .i64 z∧(∀ j,j < z→ks.getD j ky.nt=ks'.getD j ky.nt)∧Below W1.heap.size W1 wq) (fun i _=>ks.length - (intOf i).toNat)
    case atStart=>exact ⟨0,Nat.zero_le _,rfl,fun j hj=>absurd hj (Nat.not_lt_zero _),HBQ.out⟩
    case round =>
     clear HBQ
     obtain ⟨z,hz,rfl,hzl,hbq⟩:=hrel
     have HZL:Hid (∀ j,j < z→ks.getD j ky.nt=ks'.getD j ky.nt):=hzl
     clear hzl
     have c4:=(HL0.out _ hbq).c4
     have d4:=(HM0.out _ hbq).c4
     by_cases hzn:z < ks.length
     ·have hzn2:z < ks'.length:=by have:=HQ4.out; omega
      obtain ⟨b,off,ha,g0⟩:∃ b off,a3=some ⟨b,off,none⟩∧wr.cell? ⟨b,off+z,none⟩=some (.string (ks.getD z ky.nt)):=by
       obtain ⟨a',cap',e,hh⟩:=(rows_below HR1.out hbq).2
       cases e
       rcases hh with e | ⟨b,off,e,hb,hc⟩
       ·rw [e] at hzn; simp at hzn
       ·exact ⟨b,off,e,hc z hzn⟩
      obtain ⟨b',off',ha',f0⟩:∃ b off,a5=some ⟨b,off,none⟩∧wr.cell? ⟨b,off+z,none⟩=some (.string (ks'.getD z ky.nt)):=by
       obtain ⟨a',cap',e,hh⟩:=(rows_below HR2.out hbq).2
       cases e
       rcases hh with e | ⟨b,off,e,hb,hc⟩
       ·rw [e] at hzn2; simp at hzn2
       ·exact ⟨b,off,e,hc z hzn2⟩
      have HN2:Hid (¬ ks.getD z ky.nt=ks'.getD z ky.nt→sameS xs ys=false):=fun h=>HNE.out fun y=>h (y.2.2.2.2.2 z hzn)
      have HE2:Hid (ks.getD z ky.nt=ks'.getD z ky.nt→∀ j,j < z+1→ks.getD j ky.nt=ks'.getD j ky.nt):=fun h j hj=>by
       by_cases e:j=z
       ·rw [e]; exact h
       ·exact HZL.out j (by omega)
      subst ha ha'
      generalize ks.getD z ky.nt=x at g0 HN2 HE2
      generalize ks'.getD z ky.nt=y at f0 HN2 HE2
      have hz1:(z:Int) < (ks.length:Int):=by omega
      have hz2:(z:Int) < (ks'.length:Int):=by omega
      have hz0:(0:Int)≤(z:Int):=by omega
      by_cases hxy:x=y
      ·have HX:Hid (∀ j,j < z+1→ks.getD j ky.nt=ks'.getD j ky.nt):=HE2.out hxy
       have hx':(x.toList == y.toList)=true:=by rw [hxy]; simp
       clear hxy HN2 HE2
       go_wp2_with fail
       go_quiet (fail)
       have b3:=bel_drewN hbq nq
       clear c4 d4 g0 f0 hbq
       go_wp2
       go_roundw
       case rel=>exact ⟨z+1,by omega,by go_num,HX.out,b3⟩
       case measure=>simp [intOf]; omega
      ·have HR:Hid (sameS xs ys=false):=HN2.out hxy
       have hx':(x.toList == y.toList)=false:=ky.ne_list hxy
       clear hxy HN2 HE2
       go_wp2_with fail
       go_quiet (fail)
       have b3:=bel_drewN hbq nq
       clear c4 d4 g0 f0 hbq
       go_wp2
       go_ret
       exact ⟨mu.ret_bool HR.out.symm,HB3.out _ b3⟩
     have HX:Hid (∀ j,j < k+1→SameB (xs.getD j noB) (ys.getD j noB)):=HEQ.out ⟨HQ0.out,HQ1.out,HQ2.out,HMM.out,HQ4.out,fun j hj=>HZL.out j (by simp only at hj; omega)⟩
     have b3:=HB3.out _ hbq
     go_wp2
     go_roundw
     case rel=>exact ⟨k+1,by omega,by go_num,HX.out,b3⟩
     case measure=>simp [intOf]; omega
  ·have HR:Hid (sameS xs ys=true):=sameS_yes ⟨by have:=HN.out; have:=HM.out; omega,fun j hj=>HAL.out j (by have:=HN.out; omega)⟩
   go_wp2
   go_ret
   exact ⟨mu.ret_bool HR.out.symm,hbw⟩
end Go.Proofs.YtnhcbiomkiljpaaGreatDoor.sm
