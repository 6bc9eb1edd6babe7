/-
  The specification's test of boxes.
  The specification's test of boxes, as a code.
  A box, copied by the specification; both BoxAt functions.
  A list of boxes, marked by the law's own function, as to its shape; a box, marked and held against its marks.
-/
import Derived.Test.YtnhcbiomkiljpaaGreatDoorPkaj
import Derived.Test.YtnhcbiomkiljpaaGreatDoorPkai
import Derived.Test.YtnhcbiomkiljpaaGreatDoorPkaf
namespace Go.Proofs.YtnhcbiomkiljpaaGreatDoor.bx
open Go.RowKit
open st gr
set_option linter.unusedVariables false
theorem plc_one {xs:List Bx} {s:ByteArray} {r r':Int} (h:Plc xs s r) (h':Plc xs s r'):r=r':=by
 rcases h with ⟨k,rfl,hk,hn,hf⟩ | ⟨rfl,hno⟩
 ·rcases h' with ⟨j,rfl,hj,hn',hf'⟩ | ⟨rfl,hno⟩
  ·by_cases e:k=j
   ·rw [e]
   ·by_cases e2:k < j
    ·exact absurd hn (hf' k e2)
    ·exact absurd hn' (hf j (by omega))
  ·exact absurd hn (hno k hk)
 ·rcases h' with ⟨j,rfl,hj,hn',hf'⟩ | ⟨rfl,_⟩
  ·exact absurd hn' (hno j hj)
  ·rfl
theorem plc_ex (xs:List Bx) (s:ByteArray):∃ r,Plc xs s r:=by
 by_cases h:∃ k,k < xs.length∧(xs.getD k noB).nm=s
 ·let p:Nat→Prop:=fun k=>k < xs.length∧(xs.getD k noB).nm=s
  have hex:∀ m,(∃ k,k≤m∧p k)→∃ k,p k∧∀ j,j < k→¬ p j:=by
   intro m
   induction m with
   | zero=>rintro ⟨k,hk,hp⟩; exact ⟨k,hp,fun j hj=>by omega⟩
   | succ m ih =>
    rintro ⟨k,hk,hp⟩
    by_cases hm:∃ j,j≤m∧p j
    ·exact ih hm
    ·refine ⟨k,hp,fun j hj hpj=>hm ⟨j,by omega,hpj⟩⟩
  obtain ⟨k0,h0⟩:=h
  obtain ⟨k,⟨h1,h2⟩,h3⟩:=hex k0 ⟨k0,Nat.le_refl _,h0⟩
  exact ⟨k,.inl ⟨k,rfl,h1,h2,fun j hj e=>h3 j hj ⟨by omega,e⟩⟩⟩
 ·exact ⟨-1,.inr ⟨rfl,fun j hj e=>h ⟨j,hj,e⟩⟩⟩
set_option maxHeartbeats 2000000 in
set_option maxRecDepth 100000 in
theorem find_any (N:Nat) (v:Value) (xs:List Bx) (vs:Nat→Value × Value) (s:ByteArray) (w:World) (h:CellsIn w N v xs vs) (hn:xs.length≤1048576) {r:Int} (hr:Plc xs s r) :
  Calls Tryz.prog 84 #[v,.string s] w fun e w'=>e=.returned (.int .i64 r)∧w'=w:=by
 obtain ⟨a,cap,rfl,hc⟩:=h
 obtain ⟨n,hn'⟩:∃ n,n=xs.length:=⟨_,rfl⟩
 have HN:Hid (n=xs.length):=hn'
 have HH:Hid (xs=[] ∨ ∃ b off,a=some ⟨b,off,none⟩∧b < N∧∀ j,j < xs.length→At5 w b (off+j * 5) (xs.getD j noB) (vs j)):=hc
 have HR:Hid (∀ r',Plc xs s r'→r'=r):=fun r' h=>plc_one h hr
 rw [← hn'] at hn ⊢
 clear hc hn' hr
 go_enter Tryz.func84,Tryz.ntmps84
 go_wp2
 go_loopw [5] (fun i wr=>∃ k:Nat,k≤n∧i=.int .i64 k∧(∀ j,j < k→(xs.getD j noB).nm ≠ s)∧wr=w) (fun i _=>n - (intOf i).toNat)
 case atStart=>exact ⟨0,Nat.zero_le _,rfl,fun j hj=>absurd hj (Nat.not_lt_zero _),rfl⟩
 case round =>
  obtain ⟨k,hk,rfl,hno,rfl⟩:=hrel
  have HNO:Hid (∀ j,j < k→(xs.getD j noB).nm ≠ s):=hno
  clear hno
  by_cases hlt:k < n
  ·have hka:k < xs.length:=by rw [← HN.out]; exact hlt
   rcases HH.out with e | ⟨b,off,rfl,hbl,hcells⟩
   ·rw [e] at hka; simp at hka
   have hat:=hcells k hka
   have HKA:Hid (k < xs.length):=hka
   clear hcells hka
   generalize hx:xs.getD k noB=x at hat
   have HX:Hid (xs.getD k noB=x):=hx
   clear hx
   obtain ⟨c0,_⟩:=hat
   obtain ⟨nm,vd,nx,ms,ks⟩:=x
   simp only at c0
   have hlt':(k:Int) < (n:Int):=by omega
   by_cases he:nm=s
   ·have he':(nm.toList == s.toList)=true:=by rw [he]; simp
    have hrk:(k:Int)=r:=HR.out k (.inl ⟨k,rfl,HKA.out,by rw [HX.out]; exact he,HNO.out⟩)
    have HRK:Hid ((k:Int)=r):=hrk
    clear he hrk
    go_wp2
    go_ret
    exact ⟨by rw [← HRK.out]; rfl,rfl⟩
   ·have he':(nm.toList == s.toList)=false:=ky.ne_list he
    have HE:Hid (∀ j,j < k+1→(xs.getD j noB).nm ≠ s):=fun j hj=>by
     by_cases e:j=k
     ·rw [e,HX.out]; exact he
     ·exact HNO.out j (by omega)
    clear he
    go_wp2
    go_roundw
    case rel=>exact ⟨k+1,by omega,by go_num,HE.out,by trivial⟩
    case measure=>simp [intOf]; omega
  ·have hrk:(-1:Int)=r:=HR.out (-1) (.inr ⟨rfl,fun j hj=>HNO.out j (by have:=HN.out; omega)⟩)
   have HRK:Hid ((-1:Int)=r):=hrk
   clear hrk
   go_wp2
   go_ret
   exact ⟨by rw [← HRK.out]; rfl,rfl⟩
theorem getD_take {xs:List Bx} {k j:Nat} (hj:j < k):(xs.take k).getD j noB=xs.getD j noB:=by
 simp [List.getD_eq_getElem?_getD,hj]
theorem cells_take {w:World} {N n k cap:Nat} {a:Option Addr} {xs:List Bx} {vs:Nat→Value × Value} (hn:n=xs.length) (h:CellsIn w N (.slice a n cap) xs vs) (hk:k≤n):CellsIn w N (.slice a k cap) (xs.take k) vs:=by
 subst hn
 obtain ⟨a',cap',e,h⟩:=h
 cases e
 refine ⟨a,cap,by rw [List.length_take]; congr 1; omega,?_⟩
 rcases h with h | ⟨b,off,rfl,hb,h⟩
 ·exact .inl (by rw [h]; simp)
 ·refine .inr ⟨b,off,rfl,hb,fun j hj=>?_⟩
  rw [List.length_take] at hj
  rw [getD_take (by omega)]
  exact h j (by omega)
set_option maxHeartbeats 8000000 in
set_option maxRecDepth 100000 in
theorem spec_sok (v:Value) (xs:List Bx) (vs:Nat→Value × Value) (w:World) (h:BoxesAt w v xs vs) (hs:Smalls xs) (hcv:∀ a n c,v=.slice a n c→n≤c) (hcu:∀ j,j < xs.length→∀ a n c,(vs j).2=.slice a n c→n≤c) :
  Calls Tryz.prog 78 #[v] w fun e w'=>e=.returned (.bool (sok xs))∧Below w.heap.size w w':=by
 have HALL:Hid (BoxesIn w w.heap.size v xs vs):=h
 obtain ⟨⟨a,cap,rfl,hc⟩,_⟩:=h
 obtain ⟨n,hn⟩:∃ n,n=xs.length:=⟨_,rfl⟩
 have HN:Hid (n=xs.length):=hn
 have HH:Hid (xs=[] ∨ ∃ b off,a=some ⟨b,off,none⟩∧b < w.heap.size∧∀ j,j < xs.length→At5 w b (off+j * 5) (xs.getD j noB) (vs j)):=hc
 have HS:Hid (Smalls xs):=hs
 have HCU:Hid (∀ j,j < xs.length→∀ a n c,(vs j).2=.slice a n c→n≤c):=hcu
 have hl:n≤1048576:=by rw [hn]; exact hs.1
 have hcap:n≤cap:=by rw [hn]; exact hcv _ _ _ rfl
 rw [← hn] at HALL ⊢
 clear hc hs hn hcv hcu
 by_cases g1:4096 < n
 ·have g1':(4096:Int) < (n:Int):=by omega
  have HR:Hid (sok xs=false):=sok_no (by have:=HN.out; omega)
  go_enter Tryz.func78,Tryz.ntmps78
  go_wp2
  go_ret
  exact ⟨mu.ret_bool HR.out.symm,Below.refl _ _⟩
 have g1':(n:Int)≤4096:=by omega
 by_cases g0:4 < n
 ·have g0':(4:Int) < (n:Int):=by omega
  have HR:Hid (sok xs=false):=sok_no (by have:=HN.out; omega)
  go_enter Tryz.func78,Tryz.ntmps78
  go_wp2
  go_ret
  exact ⟨mu.ret_bool HR.out.symm,Below.refl _ _⟩
 have g0':(n:Int)≤4:=by omega
 go_enter Tryz.func78,Tryz.ntmps78
 go_wp2
 go_loopw [3] (fun i wr=>∃ (k:Nat),k≤n∧i=.int .i64 k∧SOK xs k∧Below w.heap.size w wr) (fun i _=>n - (intOf i).toNat)
 case atStart=>exact ⟨0,Nat.zero_le _,rfl,fun j hj=>absurd hj (Nat.not_lt_zero _),Below.refl _ _⟩
 case round =>
  obtain ⟨k,hk,rfl,hal,hbw⟩:=hrel
  have HAL:Hid (SOK xs k):=hal
  clear hal
  by_cases hlt:k < n
  ·have hka:k < xs.length:=by rw [← HN.out]; exact hlt
   rcases HH.out with e | ⟨b,off,rfl,hbl,hcells⟩
   ·rw [e] at hka; simp at hka
   have hat:=(hcells k hka).keep hbw hbl
   have hrw:=rows_more ((boxes_in_below HALL.out hbw (Nat.le_refl _)).2 k hka) hbw.size
   have HAR:Hid (BoxesIn wr w.heap.size (.slice (some ⟨b,off,none⟩) n cap) xs vs):=boxes_in_below HALL.out hbw (Nat.le_refl _)
   have hcuk:=HCU.out k hka
   have hsk:=HS.out.2 k hka
   have HKA:Hid (k < xs.length):=hka
   clear hcells hka
   generalize hx:xs.getD k noB=x at hat hsk hrw
   have HX:Hid (xs.getD k noB=x):=hx
   generalize vs k=q at hat hrw hcuk
   clear hx
   obtain ⟨q1,q2⟩:=q
   obtain ⟨c0,c1,c2,c3,c4⟩:=hat
   simp only at c0 c1 c2 c3 c4 hrw hcuk
   have hlt':(k:Int) < (n:Int):=by omega
   have hk0:(0:Int)≤(k:Int):=by omega
   have hkc:(k:Int)≤(cap:Int):=by omega
   have hkn:(k:Int)≤(n:Int):=by omega
   have HB:Hid (∀ y:Ext wr,Calls Tryz.prog 117 #[.agg #[.string x.nm,.int .i64 x.vd,.int .i64 x.nx,q1,q2]] (gw y) fun e w'=>e=.returned (.bool (bok x))∧Below (gw y).heap.size (gw y) w'):=fun y=>spec_bok x q1 q2 (gw y) (rows_below hrw (gw_below y)) hsk hcuk
   obtain ⟨⟨a2,cap2,rfl,_⟩,⟨a3,cap3,rfl,_⟩⟩:=hrw
   have hin:In x.vd:=hsk.1.1
   obtain ⟨nm,vd,nx,ms,ks⟩:=x
   simp only at c0 c1 c2 c3 c4 HB hin
   obtain ⟨r,hr⟩:=plc_ex (xs.take k) nm
   have HF:Hid (∀ y:Ext wr,Calls Tryz.prog 84 #[.slice (some ⟨b,off,none⟩) k cap,.string nm] (gw y) fun e w'=>e=.returned (.int .i64 r)∧Below (gw y).heap.size (gw y) w'):=fun y =>
    (find_any w.heap.size _ (xs.take k) vs nm (gw y) (cells_take HN.out (boxes_in_below HAR.out (gw_below y) hbw.size).1 (by omega)) (by rw [List.length_take]; omega) hr).mono fun e w' ⟨he,hw⟩=>⟨he,by rw [hw]; exact Below.refl _ _⟩
   have HPL:Hid (Plc (xs.take k) nm r):=hr
   clear hsk hcuk HAR hr
   have HR0:Hid (bok ⟨nm,vd,nx,ms,ks⟩=false→sok xs=false):=fun h=>sok_no (fun y=>by have:=(y.2 k HKA.out).1; rw [HX.out,h] at this; cases this)
   have HR1:Hid (vd ≠ (k:Int)+1→sok xs=false):=fun h=>sok_no (fun y=>h (by have:=(y.2 k HKA.out).2.1; rw [HX.out] at this; exact this))
   have HR2:Hid (0≤r→sok xs=false):=fun h=>sok_no (fun y=>by
    rcases HPL.out with ⟨j,rfl,hj,hjn,_⟩ | ⟨rfl,_⟩
    ·rw [List.length_take] at hj
     rw [getD_take (by omega)] at hjn
     exact (y.2 k HKA.out).2.2 j (by omega) (by rw [HX.out]; exact hjn)
    ·omega)
   have HR3:Hid (r < 0→vd=(k:Int)+1→bok ⟨nm,vd,nx,ms,ks⟩=true→SOK xs (k+1)):=fun h1 h2 h3=>sok_step HAL.out HX.out h3 h2 (fun j hj=>by
    rcases HPL.out with ⟨i,rfl,_⟩ | ⟨_,hno⟩
    ·omega
    ·have:=hno j (by rw [List.length_take]; have:=HKA.out; omega)
     rwa [getD_take hj] at this)
   generalize bok ⟨nm,vd,nx,ms,ks⟩=R at HB HR0 HR3
   clear HPL
   go_wp2_with fail
   have ne:=ext_some wr
   have c0:=fun y:Ext wr=>gw_cell y c0
   have c1:=fun y:Ext wr=>gw_cell y c1
   have c2:=fun y:Ext wr=>gw_cell y c2
   have c3:=fun y:Ext wr=>gw_cell y c3
   have c4:=fun y:Ext wr=>gw_cell y c4
   cases R
   ·have HZ:Hid (sok xs=false):=HR0.out (by trivial)
    refine region_lit (by kernel_rfl) (by kernel_rfl) ?_
    repeat (go_big_quiet_step ((first | (go_at_call 117; exact grow_of (HB.out _)) | (go_at_call 84; exact grow_of (HF.out _)))))
    refine wpQuiet_nil ?_
    rintro W' ⟨y,rfl⟩
    have b3:=hbw.trans ((gw_below y).mono hbw.size)
    generalize gw y=W' at b3 ⊢
    clear c0 c1 c2 c3 c4 hbw HB HF
    go_wp2
    go_ret
    exact ⟨mu.ret_bool HZ.out.symm,b3⟩
   by_cases r1:¬ vd=(k:Int)+1
   ·have r1':(vd != (k:Int)+1)=true:=by simp [r1]
    have HZ:Hid (sok xs=false):=HR1.out r1
    clear r1
    refine region_lit (by kernel_rfl) (by kernel_rfl) ?_
    repeat (go_big_quiet_step ((first | (go_at_call 117; exact grow_of (HB.out _)) | (go_at_call 84; exact grow_of (HF.out _)))))
    refine wpQuiet_nil ?_
    rintro W' ⟨y,rfl⟩
    have b3:=hbw.trans ((gw_below y).mono hbw.size)
    generalize gw y=W' at b3 ⊢
    clear c0 c1 c2 c3 c4 hbw HB HF
    go_wp2
    go_ret
    exact ⟨mu.ret_bool HZ.out.symm,b3⟩
   have r1:vd=(k:Int)+1:=Decidable.of_not_not r1
   have r1':(vd != (k:Int)+1)=false:=by simp [r1]
   have HV1:Hid (vd=(k:Int)+1):=r1
   clear r1
   by_cases r2:0≤r
   ·have HZ:Hid (sok xs=false):=HR2.out r2
    refine region_lit (by kernel_rfl) (by kernel_rfl) ?_
    repeat (go_big_quiet_step ((first | (go_at_call 117; exact grow_of (HB.out _)) | (go_at_call 84; exact grow_of (HF.out _)))))
    refine wpQuiet_nil ?_
    rintro W' ⟨y,rfl⟩
    have b3:=hbw.trans ((gw_below y).mono hbw.size)
    generalize gw y=W' at b3 ⊢
    clear c0 c1 c2 c3 c4 hbw HB HF
    go_wp2
    go_ret
    exact ⟨mu.ret_bool HZ.out.symm,b3⟩
   ·have r2':r < 0:=by omega
    have HZ:Hid (SOK xs (k+1)):=HR3.out r2' HV1.out (by trivial)
    refine region_lit (by kernel_rfl) (by kernel_rfl) ?_
    repeat (go_big_quiet_step ((first | (go_at_call 117; exact grow_of (HB.out _)) | (go_at_call 84; exact grow_of (HF.out _)))))
    refine wpQuiet_nil ?_
    rintro W' ⟨y,rfl⟩
    have b3:=hbw.trans ((gw_below y).mono hbw.size)
    generalize gw y=W' at b3 ⊢
    clear c0 c1 c2 c3 c4 hbw HB HF
    go_wp2
    go_roundw
    case rel=>exact ⟨k+1,by omega,by go_num,HZ.out,b3⟩
    case measure=>simp [intOf]; omega
  ·have HR:Hid (sok xs=true):=sok_yes (by have:=HN.out; omega) (fun j hj=>HAL.out j (by have:=HN.out; omega))
   go_wp2
   go_ret
   exact ⟨mu.ret_bool HR.out.symm,hbw⟩
end Go.Proofs.YtnhcbiomkiljpaaGreatDoor.bx
namespace Go.Proofs.YtnhcbiomkiljpaaGreatDoor.sm
open Go.RowKit Go.WideShapes
open st bx
set_option linter.unusedVariables false
end Go.Proofs.YtnhcbiomkiljpaaGreatDoor.sm
namespace Go.Proofs.YtnhcbiomkiljpaaGreatDoor.bx
open Go.RowKit Go.Deep
open st
set_option linter.unusedVariables false
theorem rowkinds {x:World} {b1 b2 e1 e2 s1 s2 n1 n2:Nat} {v u:Value} {xs ys:List Value} (h:x.ownsRow b1 e1 s1 v n1 xs) (h2:x.ownsRow b2 e2 s2 u n2 ys) (hne:e1 ≠ e2):v.ownBlock=none ∨ v.ownBlock ≠ u.ownBlock:=by
 rcases h.2 with ⟨rfl,_⟩ | ⟨g,cap,cur,rfl,_,hb,_⟩
 ·exact .inl rfl
 ·right
  intro hk
  rcases h2.2 with ⟨rfl,_⟩ | ⟨g',cap',cur',rfl,_,hb',_⟩
  ·simp [Value.ownBlock] at hk
  ·have e:g=g':=by simpa [Value.ownBlock] using hk
   subst e
   rw [hb] at hb'
   simp at hb'
   exact hne hb'.2
theorem lies_row {x x':World} {G:Nat} {m:Bx} {v1 u1:Value} {b e s n:Nat} {v:Value} {xs:List Value} (h:Lies x G 85 m v1 u1) (ho:x.ownsRow b e s v n xs) (hg:x.grownBy x' v.ownBlock) (hne:e ≠ 85):Lies x' G 85 m v1 u1 :=
 (hg.block G h.lt (fun e=>row_box ho h hne e.symm)).trans h
set_option maxHeartbeats 4000000 in
set_option maxRecDepth 100000 in
theorem l09Box_any (y:Bx) (v u:Value) (N:Nat) (w:World) (h:RowsIn w N v u y.ms y.ks) (hN:N≤w.heap.size) (hv:Fine v) (hu:Fine u) (hm:y.ms.length≤1048576) (hk:y.ks.length≤1048576) :
  Calls Tryz.prog 90 #[BV y v u] w fun e w'=>(∃ v' u',e=.returned (BV y v' u')∧OwnM w' w.heap.size v' y.ms∧OwnK w' w.heap.size u' y.ks)∧Below w.heap.size w w':=by
 obtain ⟨i0,hi,hz0,hz1,hz2⟩:=info_parts infoS
 obtain ⟨j0,hj,hy0,hy1,hy2⟩:=info_parts infoT
 have L0:=(lies_new w 85 y v u).keep (new_below _ 85 #[.string ⟨#[]⟩,.int .i64 0,.int .i64 0,.slice none 0 0,.slice none 0 0])
 have R0:Lies ((w.alloc (.cells #[.string y.nm,.int .i64 y.vd,.int .i64 y.nx,v,u] 85)).alloc (.cells #[.string ⟨#[]⟩,.int .i64 0,.int .i64 0,.slice none 0 0,.slice none 0 0] 85)) (w.alloc (.cells #[.string y.nm,.int .i64 y.vd,.int .i64 y.nx,v,u] 85)).heap.size 85 B0 (.slice none 0 0) (.slice none 0 0):=lies_new (w.alloc (.cells #[.string y.nm,.int .i64 y.vd,.int .i64 y.nx,v,u] 85)) 85 B0 (.slice none 0 0) (.slice none 0 0)
 have b0:Below w.heap.size w ((w.alloc (.cells #[.string y.nm,.int .i64 y.vd,.int .i64 y.nx,v,u] 85)).alloc (.cells #[.string ⟨#[]⟩,.int .i64 0,.int .i64 0,.slice none 0 0,.slice none 0 0] 85)):=(new_below w _ _).trans ((new_below _ _ _).mono (by simp))
 have s0:((w.alloc (.cells #[.string y.nm,.int .i64 y.vd,.int .i64 y.nx,v,u] 85)).alloc (.cells #[.string ⟨#[]⟩,.int .i64 0,.int .i64 0,.slice none 0 0,.slice none 0 0] 85)).heap.size=w.heap.size+2:=by simp
 rw [show (w.alloc (.cells #[.string y.nm,.int .i64 y.vd,.int .i64 y.nx,v,u] 85)).heap.size=w.heap.size+1 by simp] at R0
 have HR:Hid (∀ W,Below w.heap.size w W→RowsIn W N v u y.ms y.ks):=fun W hW=>rows_in_below h hW hN
 have HFV:Hid (Fine v∧Fine u):=⟨hv,hu⟩
 have HF2:Hid (∃ a n c a' n' c',v=.slice a n c∧u=.slice a' n' c'):=by
  obtain ⟨⟨a,cap,e1,_⟩,⟨a1,cap1,e2,_⟩⟩:=h
  exact ⟨_,_,_,_,_,_,e1,e2⟩
 clear hv hu h
 unfold BV
 go_enter Tryz.func90,Tryz.ntmps90
 go_upto_region 1 with fail
 generalize World.alloc _ _=W0 at L0 R0 b0 s0 ⊢
 have HZ0:Hid (W0.heap.size=w.heap.size+2):=s0
 clear s0
 have c3:=L0.c3
 have f3:=L0.f 3
 have kE:=new_below W0 122 #[]
 have HRW:Hid (RowsIn (W0.alloc (.cells #[] 122)) N v u y.ms y.ks):=HR.out _ (b0.trans (kE.mono b0.size))
 have HO:Hid ((W0.alloc (.cells #[] 122)).ownsRow (w.heap.size+2) 122 3 (.slice (some ⟨W0.heap.size,0,none⟩) 0 0) 0 []):=World.ownsRow_made W0 #[] 0 (Nat.le_of_eq HZ0.out.symm) (Nat.zero_le _) rfl
 have LE:=L0.keep kE
 have RE:=R0.keep kE
 have bE:=b0.trans (kE.mono b0.size)
 have hszE:w.heap.size+2≤(W0.alloc (.cells #[] 122)).heap.size:=by have:=HZ0.out; simp; omega
 have c3':=LE.c3
 go_upto_region 2 with (at_builtin; refine wpList_append_any rfl _ _ 83 rfl (w.heap.size+2) 122 i0 _ 3 32 Tryz.underlying83 hi hz0 hz1 hz2 rfl (by decide) _ _ _ rfl HO.out v y.ms.length (mc y.ms) rfl (mails_src HRW.out.1 HFV.out.1) (mc_one y.ms) (by unfold maxLen; omega) (by omega) hszE ?_; intro v1 w1 hown1 hg1; have HE1:Hid (OwnM w1 (w.heap.size+2) v1 y.ms∧Lies w1 w.heap.size 85 y v u∧Lies w1 (w.heap.size+1) 85 B0 (.slice none 0 0) (.slice none 0 0)∧Below w.heap.size w w1∧w.heap.size+2≤w1.heap.size):=⟨by simpa [OwnM] using hown1,lies_row LE HO.out hg1 (by decide),lies_row RE HO.out hg1 (by decide),bE.grown hg1 (Nat.le_trans (by omega) hszE) (fun k hk=>Nat.le_trans (by omega) (HO.out.lt k hk).1),Nat.le_trans hszE hg1.size⟩; have k3:=HE1.out.2.1.c3; have k3f:=HE1.out.2.1.f 3; obtain ⟨va,vc,rfl,_⟩:=slice_of HE1.out.1)
 have HK:Hid (Lies (w1.setCell ⟨w.heap.size,3,none⟩ (.slice va y.ms.length vc)) w.heap.size 85 y (.slice va y.ms.length vc) u∧Lies (w1.setCell ⟨w.heap.size,3,none⟩ (.slice va y.ms.length vc)) (w.heap.size+1) 85 B0 (.slice none 0 0) (.slice none 0 0)∧OwnM (w1.setCell ⟨w.heap.size,3,none⟩ (.slice va y.ms.length vc)) (w.heap.size+2) (.slice va y.ms.length vc) y.ms∧Below w.heap.size w (w1.setCell ⟨w.heap.size,3,none⟩ (.slice va y.ms.length vc))∧w.heap.size+2≤(w1.setCell ⟨w.heap.size,3,none⟩ (.slice va y.ms.length vc)).heap.size) :=
  ⟨HE1.out.2.1.put3 _,HE1.out.2.2.1.other (by omega),own_var HE1.out.1 HE1.out.2.1 (by decide),HE1.out.2.2.2.1.setCell (p:=⟨w.heap.size,3,none⟩) (Nat.le_refl _) _,by simp; exact HE1.out.2.2.2.2⟩
 clear HE1 hg1 hown1 L0 R0 b0 HZ0 c3 f3 kE HRW HO LE RE bE hszE c3' k3 k3f
 generalize w1.setCell _ _=W2 at HK ⊢
 have c4:=HK.out.1.c4
 have kE:=new_below W2 9 #[]
 have bE:=HK.out.2.2.2.1.trans (kE.mono HK.out.2.2.2.1.size)
 have HRW:Hid (RowsIn (W2.alloc (.cells #[] 9)) N v u y.ms y.ks):=HR.out _ bE
 have HO:Hid ((W2.alloc (.cells #[] 9)).ownsRow (w.heap.size+2) 9 1 (.slice (some ⟨W2.heap.size,0,none⟩) 0 0) 0 []):=World.ownsRow_made W2 #[] 0 HK.out.2.2.2.2 (Nat.zero_le _) rfl
 have LE:=HK.out.1.keep kE
 have RE:=HK.out.2.1.keep kE
 have OE:OwnM (W2.alloc (.cells #[] 9)) (w.heap.size+2) (.slice va y.ms.length vc) y.ms:=ow.own_below HK.out.2.2.1 kE
 have hszE:w.heap.size+2≤(W2.alloc (.cells #[] 9)).heap.size:=by have:=HK.out.2.2.2.2; simp; omega
 have c4':=LE.c4
 go_upto_region 3 with (at_builtin; refine wpList_append_any rfl _ _ 69 rfl (w.heap.size+2) 9 j0 _ 1 16 Tryz.underlying69 hj hy0 hy1 hy2 rfl (by decide) _ _ _ rfl HO.out u y.ks.length (y.ks.map Value.string) rfl (texts_src HRW.out.2 HFV.out.2) (str_one y.ks) (by unfold maxLen; omega) (by omega) hszE ?_; intro u1 w3 hown3 hg3; have HE3:Hid (OwnK w3 (w.heap.size+2) u1 y.ks∧Lies w3 w.heap.size 85 y (.slice va y.ms.length vc) u∧Lies w3 (w.heap.size+1) 85 B0 (.slice none 0 0) (.slice none 0 0)∧OwnM w3 (w.heap.size+2) (.slice va y.ms.length vc) y.ms∧Below w.heap.size w w3):=⟨by simpa [OwnK] using hown3,lies_row LE HO.out hg3 (by decide),lies_row RE HO.out hg3 (by decide),OE.kept hg3 (rowkinds OE HO.out (by decide)),bE.grown hg3 (Nat.le_trans (by omega) hszE) (fun k hk=>Nat.le_trans (by omega) (HO.out.lt k hk).1)⟩; have k4:=HE3.out.2.1.c4; have k4f:=HE3.out.2.1.f 4; obtain ⟨ua,uc,rfl,_⟩:=slice_of HE3.out.1)
 have L:=HE3.out.2.1.put4 (.slice ua y.ks.length uc)
 have R:Lies (w3.setCell ⟨w.heap.size,4,none⟩ (.slice ua y.ks.length uc)) (w.heap.size+1) 85 B0 (.slice none 0 0) (.slice none 0 0):=HE3.out.2.2.1.other (by omega)
 have OM:OwnM (w3.setCell ⟨w.heap.size,4,none⟩ (.slice ua y.ks.length uc)) (w.heap.size+2) (.slice va y.ms.length vc) y.ms:=own_var HE3.out.2.2.2.1 HE3.out.2.1 (by decide)
 have OK:OwnK (w3.setCell ⟨w.heap.size,4,none⟩ (.slice ua y.ks.length uc)) (w.heap.size+2) (.slice ua y.ks.length uc) y.ks:=own_var HE3.out.1 HE3.out.2.1 (by decide)
 have b3:=HE3.out.2.2.2.2.setCell (p:=⟨w.heap.size,4,none⟩) (Nat.le_refl _) (.slice ua y.ks.length uc)
 clear HE3 hown3 hg3 kE bE HRW HO LE RE OE hszE c4' k4 k4f HK c4
 generalize w3.setCell _ _=W4 at L R OM OK b3 ⊢
 have c0:=L.c0
 have c1:=L.c1
 have c2:=L.c2
 have c3:=L.c3
 have c4:=L.c4
 have r0:=R.c0
 have r1:=R.c1
 have r2:=R.c2
 have r3:=R.c3
 have r4:=R.c4
 have fr:=R.f
 have HE:Hid (Lies (put5w W4 (w.heap.size+1) (.string y.nm) (.int .i64 y.vd) (.int .i64 y.nx) (.slice va y.ms.length vc) (.slice ua y.ks.length uc)) (w.heap.size+1) 85 y (.slice va y.ms.length vc) (.slice ua y.ks.length uc)∧Below w.heap.size w (put5w W4 (w.heap.size+1) (.string y.nm) (.int .i64 y.vd) (.int .i64 y.nx) (.slice va y.ms.length vc) (.slice ua y.ks.length uc))∧OwnM (put5w W4 (w.heap.size+1) (.string y.nm) (.int .i64 y.vd) (.int .i64 y.nx) (.slice va y.ms.length vc) (.slice ua y.ks.length uc)) w.heap.size (.slice va y.ms.length vc) y.ms∧OwnK (put5w W4 (w.heap.size+1) (.string y.nm) (.int .i64 y.vd) (.int .i64 y.nx) (.slice va y.ms.length vc) (.slice ua y.ks.length uc)) w.heap.size (.slice ua y.ks.length uc) y.ks) :=
  ⟨put5w_lies R,put5w_below b3 (by omega),own_low (own_grown OM (put5w_grown _ _ _ _ _ _ _) (row_box OM R (by decide))) (by omega),own_low (own_grown OK (put5w_grown _ _ _ _ _ _ _) (row_box OK R (by decide))) (by omega)⟩
 clear L R OM OK b3
 go_wp2
 change bodyPost _ _ _ _ _ (put5w W4 (w.heap.size+1) (.string y.nm) (.int .i64 y.vd) (.int .i64 y.nx) (.slice va y.ms.length vc) (.slice ua y.ks.length uc))
 generalize put5w _ _ _ _ _ _ _=W9 at HE ⊢
 have d0:=HE.out.1.c0
 have d1:=HE.out.1.c1
 have d2:=HE.out.1.c2
 have d3:=HE.out.1.c3
 have d4:=HE.out.1.c4
 exact bodyPost_ret (v:=.agg #[.string y.nm,.int .i64 y.vd,.int .i64 y.nx,.slice va y.ms.length vc,.slice ua y.ks.length uc]) (by simp [results,Tryz.results90,go_sem,d0,d1,d2,d3,d4]) rfl ⟨⟨_,_,rfl,HE.out.2.2.1,HE.out.2.2.2⟩,HE.out.2.1⟩
theorem plc_nat {xs:List Bx} {s:ByteArray} {r:Int} (h:Plc xs s r):r=-1 ∨ ∃ k:Nat,r=k∧k < xs.length:=by
 rcases h with ⟨k,rfl,hk,_⟩ | ⟨rfl,_⟩
 ·exact .inr ⟨k,rfl,hk⟩
 ·exact .inl rfl
def Fines (xs:List Bx) (vs:Nat→Value × Value):Prop:=∀ j,j < xs.length→Fine (vs j).1∧Fine (vs j).2
end Go.Proofs.YtnhcbiomkiljpaaGreatDoor.bx
namespace Go.Proofs.YtnhcbiomkiljpaaGreatDoor.mx
open Go.RowKit
open gr mk st bx mm
open ky (TextsAt OwnT own_texts)
set_option linter.unusedVariables false
theorem mine_below {w w':World} {A:Nat} {xs:List Bx} {vs:Nat→Value × Value} (h:Mine w A xs vs) (hb:Below w.heap.size w w'):Mine w' A xs vs:=by
 obtain ⟨⟨cs,h1,h2⟩,h3⟩:=h
 exact ⟨⟨cs,ow.own_below h1 hb,h2⟩,rws_below h3 hb⟩
def Ahead (A B:Nat) (xs:List Bx) (vs:Nat→Value × Value):Prop:=A < B∧∀ j,j < xs.length→(∀ b,(vs j).1.ownBlock=some b→b < B)∧(∀ b,(vs j).2.ownBlock=some b→b < B)
theorem mine_ahead {w:World} {A:Nat} {xs:List Bx} {vs:Nat→Value × Value} (h:Mine w A xs vs):Ahead A w.heap.size xs vs:=by
 obtain ⟨⟨cs,h1,h2⟩,h3⟩:=h
 refine ⟨own_lt h1 A rfl,fun j hj=>?_⟩
 obtain ⟨g,g',e,_,_,⟨c1,o1⟩,⟨c2,o2⟩⟩:=h3 j hj
 rw [e]
 exact ⟨fun b hb=>own_lt o1 b hb,fun b hb=>own_lt o2 b hb⟩
def Kept (cs:List Value) (n:Nat) (vs:Nat→Value × Value):Prop:=∀ j,j < n→cs[j * 5+3]? = some (vs j).1∧cs[j * 5+4]? = some (vs j).2
theorem kept_set {cs:List Value} {n j:Nat} {vs:Nat→Value × Value} (h:Kept cs n vs) (a b c:Value):Kept (((cs.set (j * 5) a).set (j * 5+1) b).set (j * 5+2) c) n vs:=fun i hi=>by
 obtain ⟨h3,h4⟩:=h i hi
 refine ⟨?_,?_⟩
 ·rw [List.getElem?_set_ne (by omega),List.getElem?_set_ne (by omega),List.getElem?_set_ne (by omega),h3]
 ·rw [List.getElem?_set_ne (by omega),List.getElem?_set_ne (by omega),List.getElem?_set_ne (by omega),h4]
set_option maxHeartbeats 4000000 in
set_option maxRecDepth 100000 in
theorem markBoxS_any (A B:Nat) (xs:List Bx) (vs:Nat→Value × Value) (w:World) (h:Mine w A xs vs) (ha:Ahead A B xs vs) (hs:bx.Smalls xs) :
  Calls Tryz.prog 33 #[.slice (some ⟨A,0,none⟩) xs.length xs.length,.int .i64 1] w fun e w'=>(∃ z:Int,(0 < z∧z≤10000000000000)∧e=.returned (.int .i64 z))∧Mk A B w w':=by
 obtain ⟨n,hn⟩:∃ n,n=xs.length:=⟨_,rfl⟩
 have HR:Hid (Rws w A xs vs n):=by rw [hn]; exact h.2
 have HA:Hid (Ahead A B xs vs):=ha
 have HS:Hid (bx.Smalls xs):=hs
 have HN:Hid (n=xs.length):=hn
 have hl:n≤1048576:=by rw [hn]; exact hs.1
 obtain ⟨⟨cs0,ho,hk0⟩,_⟩:=h
 rw [← hn] at ho hk0 ⊢
 have HO:Hid (w.ownsRow A 85 5 (.slice (some ⟨A,0,none⟩) n n) n cs0∧Kept cs0 n vs):=⟨ho,hk0⟩
 have hAB:=ha.1
 clear ho hk0 hs ha hn
 go_enter Tryz.func33,Tryz.ntmps33
 go_wp2
 go_loopw [1,5] (fun z i wr=>∃ (j:Nat) (K:Int) (cs:List Value),j≤n∧z=.int .i64 K∧i=.int .i64 j∧0 < K∧K≤1+5000000 * (j:Int)∧wr.ownsRow A 85 5 (.slice (some ⟨A,0,none⟩) n n) n cs∧Kept cs n vs∧Mk A B w wr) (fun _ i _=>n - (intOf i).toNat)
 case atStart=>exact ⟨0,1,cs0,Nat.zero_le _,rfl,rfl,by omega,by omega,HO.out.1,HO.out.2,Mk.refl _ _ _⟩
 case round =>
  clear HO
  obtain ⟨j,K,cs,hj,rfl,rfl,hK0,hK1,hown,hkp,hmk⟩:=hrel
  by_cases hlt:j < n
  ·have hlt':(j:Int) < (n:Int):=by omega
   have hj0:(0:Int)≤(j:Int):=by omega
   have hlen:cs.length=n * 5:=hown.1
   have HL:Hid (cs.length=n * 5):=hlen
   clear hlen
   obtain ⟨g,g',evs,hg,hg',r1,r2⟩:=HR.out j hlt
   have HR1:Hid (∃ cs,wr.ownsRow A 122 3 (.slice (some ⟨g,0,none⟩) (xs.getD j noB).ms.length (xs.getD j noB).ms.length) (xs.getD j noB).ms.length cs):=own_like hmk r1
   have HR2:Hid (∃ cs,wr.ownsRow A 9 1 (.slice (some ⟨g',0,none⟩) (xs.getD j noB).ks.length (xs.getD j noB).ks.length) (xs.getD j noB).ks.length cs):=own_like hmk r2
   have hgB:g < B:=(HA.out.2 j (by rw [← HN.out]; exact hlt)).1 g (by rw [evs]; rfl)
   have hgB':g' < B:=(HA.out.2 j (by rw [← HN.out]; exact hlt)).2 g' (by rw [evs]; rfl)
   have hsk:=HS.out.2 j (by rw [← HN.out]; exact hlt)
   have hml:(xs.getD j noB).ms.length≤1048576:=hsk.2.2.1.1
   have hkl:(xs.getD j noB).ks.length≤1048576:=hsk.2.2.2.1
   obtain ⟨e3,e4⟩:=hkp j hlt
   rw [evs] at e3 e4
   simp only at e3 e4
   clear r1 r2 evs hsk
   generalize (xs.getD j noB).ms.length=m1 at *
   generalize (xs.getD j noB).ks.length=m2 at *
   have HE:Hid (cs[j * 5+3]? = some (.slice (some ⟨g,0,none⟩) m1 m1)∧cs[j * 5+4]? = some (.slice (some ⟨g',0,none⟩) m2 m2)):=⟨e3,e4⟩
   have HKP:Hid (Kept cs n vs):=hkp
   have HMK:Hid (Mk A B w wr):=hmk
   clear e3 e4 hkp hmk
   go_wp2_with fail
   refine (mark_some K _ (by omega) (by omega)).mono ?_
   rintro e w1 ⟨⟨s,rfl⟩,hb⟩
   have o1:=ow.own_below hown hb
   have HO1:Hid (w1.ownsRow A 85 5 (.slice (some ⟨A,0,none⟩) n n) n cs):=o1
   have HMK1:Hid (Mk A B w w1):=HMK.out.trans (mk_below hb)
   have HR1:Hid (∃ cs,w1.ownsRow A 122 3 (.slice (some ⟨g,0,none⟩) m1 m1) m1 cs):=own_like (mk_below (A:=A) (B:=B) hb) HR1.out
   have HR2:Hid (∃ cs,w1.ownsRow A 9 1 (.slice (some ⟨g',0,none⟩) m2 m2) m2 cs):=own_like (mk_below (A:=A) (B:=B) hb) HR2.out
   have q0:=o1.cellAt (j * 5) (by omega)
   have q1:=o1.cellAt (j * 5+1) (by omega)
   have q2:=o1.cellAt (j * 5+2) (by omega)
   have q3:=o1.cellAt (j * 5+3) (by omega)
   rw [List.getElem?_eq_getElem (by rw [HL.out]; omega)] at q0 q1 q2
   rw [HE.out.1] at q3
   have f0:=o1.frozenAt (j * 5)
   have f1:=o1.frozenAt (j * 5+1)
   have f2:=o1.frozenAt (j * 5+2)
   generalize cs[j * 5]'(by rw [HL.out]; omega)=u0 at q0
   generalize cs[j * 5+1]'(by rw [HL.out]; omega)=u1 at q1
   generalize cs[j * 5+2]'(by rw [HL.out]; omega)=u2 at q2
   clear o1 hown hb HMK
   go_wp2_with fail
   have HX:Hid ((((w1.setCell ⟨A,j * 5,none⟩ (.string s)).setCell ⟨A,j * 5+1,none⟩ (.int .i64 (K+1))).setCell ⟨A,j * 5+2,none⟩ (.int .i64 (K+1+1))).ownsRow A 85 5 (.slice (some ⟨A,0,none⟩) n n) n (((cs.set (j * 5) (.string s)).set (j * 5+1) (.int .i64 (K+1))).set (j * 5+2) (.int .i64 (K+1+1)))∧w1.grownBy (((w1.setCell ⟨A,j * 5,none⟩ (.string s)).setCell ⟨A,j * 5+1,none⟩ (.int .i64 (K+1))).setCell ⟨A,j * 5+2,none⟩ (.int .i64 (K+1+1))) (some A)):=⟨(((HO1.out.stored _ _).1.stored _ _).1.stored _ _).1,ow.grown_trans (ow.grown_trans (grown_set _ _ _ _) (grown_set _ _ _ _)) (grown_set _ _ _ _)⟩
   clear q0 q1 q2 q3 f0 f1 f2
   generalize hX:World.setCell _ _ _=X at HX ⊢
   clear hX
   have HKP1:Hid (Kept (((cs.set (j * 5) (.string s)).set (j * 5+1) (.int .i64 (K+1))).set (j * 5+2) (.int .i64 (K+1+1))) n vs):=kept_set HKP.out _ _ _
   have HE1:Hid ((((cs.set (j * 5) (.string s)).set (j * 5+1) (.int .i64 (K+1))).set (j * 5+2) (.int .i64 (K+1+1)))[j * 5+4]? = some (.slice (some ⟨g',0,none⟩) m2 m2)):=by rw [List.getElem?_set_ne (by omega),List.getElem?_set_ne (by omega),List.getElem?_set_ne (by omega)]; exact HE.out.2
   generalize (((cs.set (j * 5) (Value.string s)).set (j * 5+1) (.int .i64 (K+1))).set (j * 5+2) (.int .i64 (K+1+1)))=cs1 at HX HKP1 HE1
   have hm1:Mk A B w1 X:=mk_grown HX.out.2 HO1.out HX.out.1 (Nat.le_refl _) hAB
   have HMK2:Hid (Mk A B w X):=HMK1.out.trans hm1
   obtain ⟨y1,HY1⟩:=own_like hm1 HR1.out
   have HR2:Hid (∃ cs,X.ownsRow A 9 1 (.slice (some ⟨g',0,none⟩) m2 m2) m2 cs):=own_like hm1 HR2.out
   clear hm1 HMK1 HO1 HE HKP HR1
   refine (markM_some A m1 g m1 y1 (K+1+1+1) X HY1 hml (by omega) (by omega)).mono ?_
   rintro e w2 ⟨rfl,⟨y2,HY2⟩,hgr⟩
   have hAlt:A < X.heap.size:=own_lt HX.out.1 A rfl
   have hm2:Mk A B X w2:=mk_grown hgr HY1 HY2 (by omega) hgB
   have o2:=mu.own_block HX.out.1 (hgr.block A hAlt (by intro e; cases e; omega))
   have HO2:Hid (w2.ownsRow A 85 5 (.slice (some ⟨A,0,none⟩) n n) n cs1):=o2
   have HMK3:Hid (Mk A B w w2):=HMK2.out.trans hm2
   obtain ⟨z1,HZ1⟩:=own_like hm2 HR2.out
   have q4:=o2.cellAt (j * 5+4) (by omega)
   rw [HE1.out] at q4
   clear hm2 HMK2 hgr HY1 HY2 HX HR2 o2 hAlt
   have hmI:(m1:Int)≤1048576:=by omega
   have hmI0:(0:Int)≤(m1:Int):=by omega
   have hkI:(m2:Int)≤1048576:=by omega
   have hkI0:(0:Int)≤(m2:Int):=by omega
   go_wp2_with fail
   refine (markT_some A m2 g' m2 z1 (K+1+1+1+3 * (m1:Int)) w2 HZ1 hkl (by omega) (by omega)).mono ?_
   rintro e w3 ⟨rfl,⟨z2,HZ2⟩,hgr⟩
   have hAlt:A < w2.heap.size:=own_lt HO2.out A rfl
   have hm3:Mk A B w2 w3:=mk_grown hgr HZ1 HZ2 (by omega) hgB'
   have HO3:Hid (w3.ownsRow A 85 5 (.slice (some ⟨A,0,none⟩) n n) n cs1):=mu.own_block HO2.out (hgr.block A hAlt (by intro e; cases e; omega))
   have HMK4:Hid (Mk A B w w3):=HMK3.out.trans hm3
   clear hm3 HMK3 hgr HZ1 HZ2 HO2 hAlt q4
   go_wp2
   go_roundw
   case rel=>exact ⟨j+1,K+1+1+1+3 * (m1:Int)+(m2:Int),cs1,by omega,rfl,by go_num,by omega,by omega,HO3.out,HKP1.out,HMK4.out⟩
   case measure=>simp [intOf]; omega
  ·have HMK:Hid (Mk A B w wr):=hmk
   clear hmk hkp hown
   go_wp2
   go_ret
   exact ⟨⟨_,⟨hK0,by omega⟩,rfl⟩,HMK.out⟩
theorem row_other {w w':World} {b e s n:Nat} {v u:Value} {xs:List Value} (h:w.ownsRow b e s v n xs) (hg:w.grownBy w' u.ownBlock) (hd:v.ownBlock=none ∨ v.ownBlock ≠ u.ownBlock):w'.ownsRow b e s v n xs:=by
 rcases h.2 with ⟨rfl,hz⟩ | ⟨g,cap,cur,rfl,hB,hh,r⟩
 ·exact ⟨h.1,.inl ⟨rfl,hz⟩⟩
 ·refine mu.own_block h (hg.block g (Array.getElem?_eq_some_iff.1 hh).1 ?_)
  rcases hd with e | e
  ·cases e
  ·exact e
end Go.Proofs.YtnhcbiomkiljpaaGreatDoor.mx
