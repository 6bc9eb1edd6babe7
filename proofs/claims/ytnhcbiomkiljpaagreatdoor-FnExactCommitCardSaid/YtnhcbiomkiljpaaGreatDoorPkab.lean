/-
  Stored mails as rows: measured, copied and compared by the law's own functions; as an argument, opened.
  Texts as rows: measured and copied by the law's own functions; as an argument, opened.
  A box as an argument: opened; measured, copied and compared by the law's own functions.
-/
import Derived.Test.YtnhcbiomkiljpaaGreatDoorPkaa
import Derived.Test.YtnhcbiomkiljpaaGreatDoorRows
import Derived.WalkKit
import Derived.WalkLawsBesides
import Derived.ProofKit
import Derived.OpenShut
import Derived.ChangeOld
import Derived.Below
import Derived.BigRegion
import Derived.Laws.OwnMore
import Derived.Lib.SmallJoins
import Derived.Deep.Fields
import Derived.Deep.Slices
namespace Go.Proofs.YtnhcbiomkiljpaaGreatDoor.st
open Go.ChangeShapes Go.WideShapes Go.ChangeAt Go.RowKit Go.Joins Go.Deep
open gr
set_option linter.unusedVariables false
structure St where
 u:Int
 f:Int
 t:ByteArray
def noS:St:=⟨0,0,⟨#[]⟩⟩
def In (z:Int):Prop:=-9223372036854775808≤z∧z≤9223372036854775807
theorem in_of_wf {z:Int} (h:(Lit.int .i64 z).wf=true):In z:=by
 have h1:IntKind.i64.min=-9223372036854775808:=rfl
 have h2:IntKind.i64.max=9223372036854775807:=rfl
 simp [Lit.wf,h1,h2] at h
 exact ⟨by omega,by omega⟩
def Held (e:St):Prop:=In e.u∧In e.f∧e.t.size≤maxLen
def Small (e:St):Prop:=In e.u∧In e.f∧e.t.size≤1048576
def At3 (w:World) (b o:Nat) (e:St):Prop :=
 w.cell? ⟨b,o,none⟩=some (.int .i64 e.u)∧w.cell? ⟨b,o+1,none⟩=some (.int .i64 e.f)∧w.cell? ⟨b,o+2,none⟩=some (.string e.t)
theorem At3.lt {w:World} {b o:Nat} {e:St} (h:At3 w b o e):b < w.heap.size:=World.block_lt_of_cell? w _ h.1
theorem At3.keep {w w':World} {n b o:Nat} {e:St} (h:At3 w b o e) (hb:Below n w w') (hn:b < n):At3 w' b o e:=by
 obtain ⟨h0,h1,h2⟩:=h
 exact ⟨(hb.cell (p:=⟨b,o,none⟩) hn).trans h0,(hb.cell (p:=⟨b,o+1,none⟩) hn).trans h1,(hb.cell (p:=⟨b,o+2,none⟩) hn).trans h2⟩
def MailsIn (w:World) (n:Nat) (v:Value) (es:List St):Prop :=
 ∃ a cap,v=.slice a es.length cap∧(es=[] ∨ ∃ b off,a=some ⟨b,off,none⟩∧b < n∧∀ j,j < es.length→At3 w b (off+j * 3) (es.getD j noS))
theorem mails_below {w w':World} {n k:Nat} {v:Value} {es:List St} (h:MailsIn w n v es) (hb:Below k w w') (hk:n≤k):MailsIn w' n v es:=by
 obtain ⟨a,cap,rfl,h⟩:=h
 refine ⟨a,cap,rfl,?_⟩
 rcases h with h | ⟨b,off,rfl,hb',h⟩
 ·exact .inl h
 ·exact .inr ⟨b,off,rfl,hb',fun j hj=>(h j hj).keep hb (by omega)⟩
theorem mails_more {w:World} {n k:Nat} {v:Value} {es:List St} (h:MailsIn w n v es) (hk:n≤k):MailsIn w k v es:=by
 obtain ⟨a,cap,rfl,h⟩:=h
 refine ⟨a,cap,rfl,?_⟩
 rcases h with h | ⟨b,off,rfl,hb',h⟩
 ·exact .inl h
 ·exact .inr ⟨b,off,rfl,by omega,h⟩
def Smalls (es:List St):Prop:=es.length≤1048576∧∀ j,j < es.length→Small (es.getD j noS)
def SmallsTo (es:List St) (k:Nat):Prop:=es.length≤1048576∧∀ j,j < k→Small (es.getD j noS)
set_option maxHeartbeats 1000000 in
theorem szStored_any (e:St) (left:Int) (w:World) (h0:0≤left) (h1:left≤1048576) (hh:Held e) :
  Calls Tryz.prog 116 #[.agg #[.int .i64 e.u,.int .i64 e.f,.string e.t],.int .i64 left] w fun r w'=>(∃ z:Int,r=.returned (.int .i64 z)∧z≤left∧-1≤z∧(0≤z→Small e))∧Below w.heap.size w w':=by
 obtain ⟨u,f,t⟩:=e
 obtain ⟨s0,s1,s2⟩:=hh
 have HI:Hid (In u∧In f):=⟨s0,s1⟩
 unfold maxLen at s2
 simp only at s2 ⊢
 clear s0 s1
 have hbw:Below w.heap.size w (w.alloc (.cells #[.int .i64 u,.int .i64 f,.string t] 149)):=(Below.refl _ _).alloc (Nat.le_refl _) _
 by_cases g0:left - (t.size:Int) < 0
 ·go_enter Tryz.func116,Tryz.ntmps116
  go_wp2
  go_ret
  exact ⟨⟨-1,rfl,by omega,by omega,by omega⟩,hbw⟩
 ·go_enter Tryz.func116,Tryz.ntmps116
  go_wp2
  go_ret
  exact ⟨⟨_,rfl,by omega,by omega,fun _=>⟨HI.out.1,HI.out.2,by show t.size≤_; omega⟩⟩,hbw⟩
set_option maxHeartbeats 1000000 in
theorem szStoredS_any (N:Nat) (v:Value) (es:List St) (left:Int) (w:World) (h:MailsIn w N v es) (hN:N≤w.heap.size) (h0:0≤left) (h1:left≤1048576) (hl:es.length≤maxLen) (hs:∀ j,j < es.length→Held (es.getD j noS)) :
  Calls Tryz.prog 75 #[v,.int .i64 left] w fun e w'=>(∃ z:Int,e=.returned (.int .i64 z)∧z≤left∧-1≤z∧(0≤z→Smalls es))∧Below w.heap.size w w':=by
 obtain ⟨a,cap,rfl,h⟩:=h
 obtain ⟨n,hn⟩:∃ n,n=es.length:=⟨_,rfl⟩
 have HN:Hid (n=es.length):=hn
 have HH:Hid (es=[] ∨ ∃ b off,a=some ⟨b,off,none⟩∧b < N∧∀ j,j < es.length→At3 w b (off+j * 3) (es.getD j noS)):=h
 have HS:Hid (∀ j,j < es.length→Held (es.getD j noS)):=hs
 rw [← hn] at hl ⊢
 clear h hs hn
 unfold maxLen at hl
 by_cases g0:left - (n:Int) < 0
 ·go_enter Tryz.func75,Tryz.ntmps75
  go_wp2
  go_ret
  exact ⟨⟨-1,rfl,by omega,by omega,by omega⟩,Below.refl _ _⟩
 go_enter Tryz.func75,Tryz.ntmps75
 go_wp2
 go_loopw [1,5] (fun z i wr=>∃ (k:Nat) (y:Int),k≤n∧0≤y∧y≤left∧z=.int .i64 y∧i=.int .i64 k∧SmallsTo es k∧Below w.heap.size w wr) (fun _ i _=>n - (intOf i).toNat)
 case atStart=>exact ⟨0,left - (n:Int),Nat.zero_le _,by omega,by omega,rfl,rfl,⟨by rw [← HN.out]; omega,fun j hj=>absurd hj (Nat.not_lt_zero _)⟩,Below.refl _ _⟩
 case round =>
  obtain ⟨k,y,hk,hy0,hy1,rfl,rfl,hsm,hbw⟩:=hrel
  have HSM:Hid (SmallsTo es k):=hsm
  clear hsm
  by_cases hlt:k < n
  ·have hka:k < es.length:=by rw [← HN.out]; exact hlt
   rcases HH.out with e | ⟨b,off,rfl,_,hcells⟩
   ·rw [e] at hka; simp at hka
   have hat:=(hcells k hka).keep hbw (hcells k hka).lt
   have hhd:=HS.out k hka
   clear hcells hka
   generalize hx:es.getD k noS=x at hat hhd
   have HX:Hid (es.getD k noS=x):=hx
   obtain ⟨c0,c1,c2⟩:=hat
   clear hx
   have HE:Hid (∀ w,Calls Tryz.prog 116 #[.agg #[.int .i64 x.u,.int .i64 x.f,.string x.t],.int .i64 y] w fun r w'=>(∃ z:Int,r=.returned (.int .i64 z)∧z≤y∧-1≤z∧(0≤z→Small x))∧Below w.heap.size w w'):=fun w=>szStored_any x y w hy0 (by omega) hhd
   clear hhd
   go_wp2_with fail
   refine (HE.out _).mono ?_
   rintro e w2 ⟨⟨z,rfl,hz0,hz1,hz2⟩,hb2⟩
   have HZ:Hid (0≤z→Small x):=hz2
   clear hz2 HE c0 c1 c2
   by_cases hz:z < 0
   ·go_wp2
    go_ret
    exact ⟨⟨-1,rfl,by omega,by omega,by omega⟩,hbw.trans (hb2.mono hbw.size)⟩
   ·go_wp2
    go_roundw
    case rel=>exact ⟨k+1,z,by omega,by omega,by omega,rfl,by go_num,⟨HSM.out.1,fun j hj=>by by_cases hjk:j=k; subst hjk; rw [HX.out]; exact HZ.out (by omega); exact HSM.out.2 j (by omega)⟩,hbw.trans (hb2.mono hbw.size)⟩
    case measure=>simp [intOf]; omega
  ·go_wp2
   go_ret
   exact ⟨⟨y,rfl,by omega,by omega,fun _=>⟨HSM.out.1,fun j hj=>HSM.out.2 j (by have:=HN.out; omega)⟩⟩,hbw⟩
theorem infoS:(Tryz.prog.info? 122).map (fun i=>(i.zero,i.size,i.bytes))=some (some (.agg #[.int .i64 0,.int .i64 0,.string ⟨#[]⟩]),3,32):=by kernel_rfl
def put3 (xs:List Value) (o:Nat) (e:St):List Value:=((xs.set o (.int .i64 e.u)).set (o+1) (.int .i64 e.f)).set (o+2) (.string e.t)
theorem put_len (xs:List Value) (o:Nat) (e:St):(put3 xs o e).length=xs.length:=by simp [put3]
theorem put_other {xs:List Value} {o j:Nat} {e:St} (h:j < o ∨ o+2 < j):(put3 xs o e)[j]? = xs[j]?:=by
 unfold put3
 rw [List.getElem?_set_ne (by omega),List.getElem?_set_ne (by omega),List.getElem?_set_ne (by omega)]
def In3 (xs:List Value) (o:Nat) (e:St):Prop:=xs[o]? = some (.int .i64 e.u)∧xs[o+1]? = some (.int .i64 e.f)∧xs[o+2]? = some (.string e.t)
theorem put_same {xs:List Value} {o:Nat} {e:St} (h:o+2 < xs.length):In3 (put3 xs o e) o e:=by
 unfold put3 In3
 refine ⟨?_,?_,?_⟩
 ·rw [List.getElem?_set_ne (by omega),List.getElem?_set_ne (by omega),List.getElem?_set_self (by omega)]
 ·rw [List.getElem?_set_ne (by omega),List.getElem?_set_self (by simp; omega)]
 ·rw [List.getElem?_set_self (by simp; omega)]
theorem in_other {xs:List Value} {o p:Nat} {e x:St} (h:In3 xs p x) (hp:p+2 < o ∨ o+2 < p):In3 (put3 xs o e) p x:=by
 obtain ⟨h0,h1,h2⟩:=h
 refine ⟨?_,?_,?_⟩ <;> (rw [put_other (by omega)]; assumption)
def Lay (es:List St) (k:Nat) (xs:List Value):Prop:=∀ j,j < k→In3 xs (j * 3) (es.getD j noS)
theorem lay_step {es:List St} {k:Nat} {xs:List Value} (h:Lay es k xs) (hl:k * 3+2 < xs.length) {x:St} (hx:es.getD k noS=x):Lay es (k+1) (put3 xs (k * 3) x):=by
 intro j hj
 by_cases e:j=k
 ·subst e
  rw [hx]
  exact put_same hl
 ·exact in_other (h j (by omega)) (by omega)
theorem mails_lay {w:World} {base e g n cap N:Nat} {es:List St} {xs:List Value} (hn:n=es.length) (h:w.ownsRow base e 3 (.slice (some ⟨g,0,none⟩) n cap) n xs) (hl:Lay es n xs) (hg:g < N):MailsIn w N (.slice (some ⟨g,0,none⟩) n cap) es:=by
 subst hn
 refine ⟨_,cap,rfl,.inr ⟨g,0,rfl,hg,fun j hj=>?_⟩⟩
 obtain ⟨h0,h1,h2⟩:=hl j hj
 refine ⟨?_,?_,?_⟩
 ·rw [Nat.zero_add,h.cellAt _ (by omega),h0]
 ·rw [Nat.zero_add,h.cellAt _ (by omega),h1]
 ·rw [Nat.zero_add,h.cellAt _ (by omega),h2]
set_option maxHeartbeats 1000000 in
set_option maxRecDepth 100000 in
theorem toStored_any (e:St) (w:World):Calls Tryz.prog 122 #[.agg #[.int .i64 e.u,.int .i64 e.f,.string e.t]] w fun r w'=>r=.returned (.agg #[.int .i64 e.u,.int .i64 e.f,.string e.t])∧Below w.heap.size w w':=by
 obtain ⟨u,f,t⟩:=e
 simp only
 go_enter Tryz.func122,Tryz.ntmps122
 go_wp2
 refine bodyPost_ret (v:=.agg #[.int .i64 u,.int .i64 f,.string t]) (by simp [results,Tryz.results122,go_sem]) rfl ⟨rfl,?_⟩
 exact (((Below.refl _ w).alloc (Nat.le_refl _) _).alloc (by simp) _).alloc (by simp; omega) _
set_option maxHeartbeats 1000000 in
set_option maxRecDepth 100000 in
theorem eqStored_any (x:St) (w:World):Calls Tryz.prog 129 #[.agg #[.int .i64 x.u,.int .i64 x.f,.string x.t],.agg #[.int .i64 x.u,.int .i64 x.f,.string x.t]] w fun e w'=>e=.returned (.bool true)∧Below w.heap.size w w':=by
 obtain ⟨u,f,t⟩:=x
 simp only
 have uu:((u:Int) != u)=false:=by simp
 have ff:((f:Int) != f)=false:=by simp
 go_enter Tryz.func129,Tryz.ntmps129
 go_wp2
 go_ret
 exact ⟨rfl,((Below.refl _ w).alloc (Nat.le_refl _) _).alloc (by simp) _⟩
set_option maxHeartbeats 2000000 in
set_option maxRecDepth 100000 in
theorem eqStoredS_any (N M:Nat) (v u:Value) (es:List St) (w:World) (h1:MailsIn w N v es) (h2:MailsIn w M u es) (hn:es.length≤1048576) :
  Calls Tryz.prog 104 #[v,u] w fun e w'=>e=.returned (.bool true)∧Below w.heap.size w w':=by
 obtain ⟨a,cap,rfl,h1⟩:=h1
 obtain ⟨c,cap2,rfl,h2⟩:=h2
 obtain ⟨n,hn'⟩:∃ n,n=es.length:=⟨_,rfl⟩
 have HN:Hid (n=es.length):=hn'
 have H1:Hid (es=[] ∨ ∃ b off,a=some ⟨b,off,none⟩∧b < N∧∀ j,j < es.length→At3 w b (off+j * 3) (es.getD j noS)):=h1
 have H2:Hid (es=[] ∨ ∃ b off,c=some ⟨b,off,none⟩∧b < M∧∀ j,j < es.length→At3 w b (off+j * 3) (es.getD j noS)):=h2
 rw [← hn'] at hn ⊢
 clear h1 h2 hn'
 have hnn:((n:Int) != (n:Int))=false:=by simp
 go_enter Tryz.func104,Tryz.ntmps104
 go_wp2
 go_loopw [5] (fun i wr=>∃ k:Nat,k≤n∧i=.int .i64 k∧Below w.heap.size w wr) (fun i _=>n - (intOf i).toNat)
 case atStart=>exact ⟨0,Nat.zero_le _,rfl,Below.refl _ _⟩
 case round =>
  obtain ⟨k,hk,rfl,hbw⟩:=hrel
  by_cases hlt:k < n
  ·have hka:k < es.length:=by rw [← HN.out]; exact hlt
   rcases H1.out with e | ⟨b,off,rfl,_,hcells⟩
   ·rw [e] at hka; simp at hka
   rcases H2.out with e | ⟨b2,off2,rfl,_,hcells2⟩
   ·rw [e] at hka; simp at hka
   have ha:=(hcells k hka).keep hbw (hcells k hka).lt
   have hb:=(hcells2 k hka).keep hbw (hcells2 k hka).lt
   clear hcells hka hcells2
   generalize es.getD k noS=x at ha hb
   obtain ⟨c0,c1,c2⟩:=ha
   obtain ⟨d0,d1,d2⟩:=hb
   have hlt':(k:Int) < (n:Int):=by omega
   have hk0:(0:Int)≤(k:Int):=by omega
   go_wp2_with fail
   have ne:=ext_some wr
   have c0:=fun x:Ext wr=>gw_cell x c0
   have c1:=fun x:Ext wr=>gw_cell x c1
   have c2:=fun x:Ext wr=>gw_cell x c2
   have d0:=fun x:Ext wr=>gw_cell x d0
   have d1:=fun x:Ext wr=>gw_cell x d1
   have d2:=fun x:Ext wr=>gw_cell x d2
   refine region_lit (by kernel_rfl) (by kernel_rfl) ?_
   repeat (go_big_quiet_step ((go_at_call 129; exact grow_of (eqStored_any _ _))))
   refine wpQuiet_nil ?_
   rintro W' ⟨y,rfl⟩
   have b3:=hbw.trans ((gw_below y).mono hbw.size)
   generalize gw y=W' at b3 ⊢
   clear c0 c1 c2 d0 d1 d2 hbw
   go_wp2
   go_roundw
   case rel=>exact ⟨k+1,by omega,by go_num,b3⟩
   case measure=>simp [intOf]; omega
  ·go_wp2
   go_ret
   exact ⟨rfl,hbw⟩
section
variable {H:Type} {enc:TypeId × Value→H} {w:World} {base:Nat} {spare:Nat→Bool} {held:Bool}
theorem trod_cells {T:TypeId} {fs:Array Field} {fuel:Nat} {cs:List Value} {x:DataW H × List MemPlace} (hs:Tryz.prog.underlying T=some (.struct fs)) (hone:oneCellFields Tryz.prog fs=true) (hc:Tryz.prog.cellsOf T=fs.size) (h:DataW.trod enc Tryz.prog w base spare held fuel T cs=some x) :
  cs.length=fs.size∧∃ n,∀ (j:Nat) (f:Field) (c:Value),fs[j]? = some f→cs[j]? = some c→∃ y,DataW.trod enc Tryz.prog w base spare held n f.type [c]=some y:=by
 obtain ⟨xs,n,_,hx,hcl,hlen,hf⟩:=DataW.trod_struct hs h
 rw [hc] at hcl
 refine ⟨hcl,n,fun j f c hfj hcj=>?_⟩
 have hh:=hf j f hfj
 obtain ⟨o,k⟩:=hone_of hone j f hfj
 rw [o,k] at hh
 have hj:j < xs.length:=by
  rw [hlen]
  exact (Array.getElem?_eq_some_iff.1 hfj).1
 have ht:(cs.drop j).take 1=[c]:=by
  obtain ⟨hj2,e⟩:=List.getElem?_eq_some_iff.1 hcj
  rw [List.drop_eq_getElem_cons hj2,e]
  rfl
 rw [ht,List.getElem?_eq_getElem hj] at hh
 exact ⟨_,hh⟩
theorem three_list {α:Type} {l:List α} (h:l.length=3):∃ a b c,l=[a,b,c]:=by
 match l,h with
 | [a,b,c],_=>exact ⟨a,b,c,rfl⟩
theorem cellsS:Tryz.prog.cellsOf 149=3:=by kernel_rfl
set_option maxRecDepth 100000 in
theorem trod_stored {fuel:Nat} {cs:List Value} {x:DataW H × List MemPlace} (h:DataW.trod enc Tryz.prog w base spare held fuel 149 cs=some x):∃ e:St,cs=[.int .i64 e.u,.int .i64 e.f,.string e.t]∧Held e:=by
 obtain ⟨hl,n,hall⟩:=trod_cells Tryz.underlying149 (by kernel_rfl) (by kernel_rfl) h
 obtain ⟨c0,c1,c2,rfl⟩:=three_list hl
 obtain ⟨y0,t0⟩:=hall 0 _ _ rfl rfl
 obtain ⟨y1,t1⟩:=hall 1 _ _ rfl rfl
 obtain ⟨y2,t2⟩:=hall 2 _ _ rfl rfl
 obtain ⟨z0,e0,_,f0⟩:=DataW.trod_int Tryz.underlying3 t0
 obtain ⟨z1,e1,_,f1⟩:=DataW.trod_int Tryz.underlying3 t1
 obtain ⟨s2,e2,_,f2⟩:=DataW.trod_string Tryz.underlying9 t2
 simp only [List.cons.injEq,and_true] at e0 e1 e2
 subst e0 e1 e2
 exact ⟨⟨z0,z1,s2⟩,rfl,in_of_wf f0,in_of_wf f1,f2⟩
theorem open_mails {fuel:Nat} {v:Value} {x:DataW H × List MemPlace} (h:DataW.trod enc Tryz.prog w base spare held fuel 68 [v]=some x) :
  ∃ es:List St,MailsIn w w.heap.size v es∧es.length≤maxLen∧∀ j,j < es.length→Held (es.getD j noS):=by
 have inh:Nonempty St:=⟨noS⟩
 rcases open_slice Tryz.underlying68 h with ⟨hc,_⟩ | ⟨a,len,cap,m,n,D,Pl,hc,_,hl,hm,hmm,_,hall⟩
 ·cases hc
  exact ⟨[],⟨none,0,rfl,.inl rfl⟩,Nat.zero_le _,fun j hj=>absurd hj (Nat.not_lt_zero _)⟩
 ·cases hc
  have hml:len≤m:=by rw [hmm]; split <;> omega
  have each:∀ i,∃ e:St,i < len→Held e∧∀ k,k < 3→w.cell? (a.add (i * 3+k))=([.int .i64 e.u,.int .i64 e.f,.string e.t]:List Value)[k]?:=by
   intro i
   by_cases hi:i < len
   ·obtain ⟨cs',h1,h2⟩:=hall i (by omega)
    obtain ⟨e,rfl,hh⟩:=trod_stored h2
    rw [cellsS] at h1
    obtain ⟨_,hlen,hcell⟩:=World.cells?_some h1
    refine ⟨e,fun _=>⟨hh,fun k hk=>?_⟩⟩
    have:=hcell k hk
    rw [add_add] at this
    rw [this]
   ·exact ⟨noS,fun h=>absurd h hi⟩
  obtain ⟨q,hq⟩:=Classical.axiomOfChoice each
  have hget:∀ j,j < len→((List.range len).map q).getD j noS=q j:=by
   intro j hj
   simp [List.getD_eq_getElem?_getD,hj]
  refine ⟨(List.range len).map q,⟨some a,cap,by simp,?_⟩,by simp; omega,?_⟩
  ·by_cases h0:len=0
   ·left; simp [h0]
   ·right
    have c0:=(hq 0 (by omega)).2 0 (by omega)
    obtain ⟨b,off,spot⟩:=a
    have c0':=c0.trans (show ([.int .i64 (q 0).u,.int .i64 (q 0).f,.string (q 0).t]:List Value)[0]? = some (.int .i64 (q 0).u) from rfl)
    have hspot:spot=none:=by simpa [Addr.add] using World.cell?_spot c0'
    subst hspot
    have hblt:b < w.heap.size:=by simpa [Addr.add] using World.block_lt_of_cell? w _ c0'
    refine ⟨b,off,rfl,hblt,fun j hj=>?_⟩
    have hj':j < len:=by simpa using hj
    have hc:=(hq j hj').2
    have hadd:∀ k:Nat,((⟨b,off,none⟩:Addr).add (j * 3+k))=⟨b,off+j * 3+k,none⟩:=fun k=>by simp [Addr.add,Nat.add_assoc]
    rw [hget j hj']
    have g0:=hc 0 (by omega)
    have g1:=hc 1 (by omega)
    have g2:=hc 2 (by omega)
    rw [hadd] at g0 g1 g2
    exact ⟨g0,g1,g2⟩
  ·intro j hj
   have hj':j < len:=by simpa using hj
   rw [hget j hj']
   exact (hq j hj').1
end
end Go.Proofs.YtnhcbiomkiljpaaGreatDoor.st
namespace Go.Proofs.YtnhcbiomkiljpaaGreatDoor.tx
open Go.ChangeShapes Go.WideShapes Go.ChangeAt Go.RowKit Go.Joins Go.Deep
open ky
set_option linter.unusedVariables false
def TextsIn (w:World) (n:Nat) (v:Value) (ks:List ByteArray):Prop :=
 ∃ a cap,v=.slice a ks.length cap∧(ks=[] ∨ ∃ b off,a=some ⟨b,off,none⟩∧b < n∧∀ j,j < ks.length→w.cell? ⟨b,off+j,none⟩=some (.string (ks.getD j nt)))
theorem texts_at {w:World} {n:Nat} {v:Value} {ks:List ByteArray} (h:TextsIn w n v ks):TextsAt w v ks:=by
 obtain ⟨a,cap,rfl,h⟩:=h
 refine ⟨a,cap,rfl,?_⟩
 rcases h with h | ⟨b,off,rfl,hb',h⟩
 ·exact .inl h
 ·exact .inr ⟨b,off,rfl,h⟩
theorem texts_below {w w':World} {n k:Nat} {v:Value} {ks:List ByteArray} (h:TextsIn w n v ks) (hb:Below k w w') (hk:n≤k):TextsIn w' n v ks:=by
 obtain ⟨a,cap,rfl,h⟩:=h
 refine ⟨a,cap,rfl,?_⟩
 rcases h with h | ⟨b,off,rfl,hb',h⟩
 ·exact .inl h
 ·exact .inr ⟨b,off,rfl,hb',fun j hj=>(hb.cell (p:=⟨b,off+j,none⟩) (Nat.lt_of_lt_of_le hb' hk)).trans (h j hj)⟩
theorem texts_more {w:World} {n k:Nat} {v:Value} {ks:List ByteArray} (h:TextsIn w n v ks) (hk:n≤k):TextsIn w k v ks:=by
 obtain ⟨a,cap,rfl,h⟩:=h
 refine ⟨a,cap,rfl,?_⟩
 rcases h with h | ⟨b,off,rfl,hb',h⟩
 ·exact .inl h
 ·exact .inr ⟨b,off,rfl,by omega,h⟩
def Smalls (ks:List ByteArray):Prop:=ks.length≤1048576∧∀ j,j < ks.length→(ks.getD j nt).size≤1048576
def SmallsTo (ks:List ByteArray) (k:Nat):Prop:=ks.length≤1048576∧∀ j,j < k→(ks.getD j nt).size≤1048576
set_option maxHeartbeats 1000000 in
theorem szTexts_any (N:Nat) (v:Value) (ks:List ByteArray) (left:Int) (w:World) (h:TextsIn w N v ks) (h0:0≤left) (h1:left≤1048576) (hl:ks.length≤maxLen) (hs:∀ j,j < ks.length→(ks.getD j nt).size≤maxLen) :
  Calls Tryz.prog 76 #[v,.int .i64 left] w fun e w'=>(∃ z:Int,e=.returned (.int .i64 z)∧z≤left∧-1≤z∧(0≤z→Smalls ks))∧w'=w:=by
 obtain ⟨a,cap,rfl,h⟩:=h
 obtain ⟨n,hn⟩:∃ n,n=ks.length:=⟨_,rfl⟩
 have HN:Hid (n=ks.length):=hn
 have HH:Hid (ks=[] ∨ ∃ b off,a=some ⟨b,off,none⟩∧b < N∧∀ j,j < ks.length→w.cell? ⟨b,off+j,none⟩=some (.string (ks.getD j nt))):=h
 have HS:Hid (∀ j,j < ks.length→(ks.getD j nt).size≤maxLen):=hs
 rw [← hn] at hl ⊢
 clear h hs hn
 unfold maxLen at hl
 by_cases g0:left - (n:Int) < 0
 ·go_enter Tryz.func76,Tryz.ntmps76
  go_wp2
  go_ret
  exact ⟨⟨-1,rfl,by omega,by omega,by omega⟩,rfl⟩
 go_enter Tryz.func76,Tryz.ntmps76
 go_wp2
 go_loopw [1,5] (fun z i wr=>∃ (k:Nat) (y:Int),k≤n∧0≤y∧y≤left∧z=.int .i64 y∧i=.int .i64 k∧SmallsTo ks k∧wr=w) (fun _ i _=>n - (intOf i).toNat)
 case atStart=>exact ⟨0,left - (n:Int),Nat.zero_le _,by omega,by omega,rfl,rfl,⟨by rw [← HN.out]; omega,fun j hj=>absurd hj (Nat.not_lt_zero _)⟩,rfl⟩
 case round =>
  obtain ⟨k,y,hk,hy0,hy1,rfl,rfl,hsm,rfl⟩:=hrel
  have HSM:Hid (SmallsTo ks k):=hsm
  clear hsm
  by_cases hlt:k < n
  ·have hka:k < ks.length:=by rw [← HN.out]; exact hlt
   rcases HH.out with e | ⟨b,off,rfl,_,hcells⟩
   ·rw [e] at hka; simp at hka
   have c0:=hcells k hka
   have hhd:=HS.out k hka
   clear hcells hka
   generalize hx:ks.getD k nt=x at c0 hhd
   have HX:Hid (ks.getD k nt=x):=hx
   clear hx
   have hhd':x.size≤9223372036854775807:=hhd
   by_cases hz:y - (x.size:Int) < 0
   ·go_wp2
    go_ret
    exact ⟨⟨-1,rfl,by omega,by omega,by omega⟩,rfl⟩
   ·go_wp2
    go_roundw
    case rel=>exact ⟨k+1,y - (x.size:Int),by omega,by omega,by omega,by go_num,by go_num,⟨HSM.out.1,fun j hj=>by by_cases hjk:j=k; subst hjk; rw [HX.out]; omega; exact HSM.out.2 j (by omega)⟩,by trivial⟩
    case measure=>simp [intOf]; omega
  ·go_wp2
   go_ret
   exact ⟨⟨y,rfl,by omega,by omega,fun _=>⟨HSM.out.1,fun j hj=>HSM.out.2 j (by have:=HN.out; omega)⟩⟩,rfl⟩
theorem infoT:(Tryz.prog.info? 9).map (fun i=>(i.zero,i.size,i.bytes))=some (some (.string ⟨#[]⟩),1,16):=by kernel_rfl
def Lay (ks:List ByteArray) (k:Nat) (xs:List Value):Prop:=∀ j,j < k→xs[j]? = some (.string (ks.getD j nt))
theorem lay_step {ks:List ByteArray} {k:Nat} {xs:List Value} (h:Lay ks k xs) (hl:k < xs.length) {x:ByteArray} (hx:ks.getD k nt=x):Lay ks (k+1) (xs.set k (.string x)):=by
 intro j hj
 by_cases e:j=k
 ·subst e
  rw [hx,List.getElem?_set_self (by omega)]
 ·rw [List.getElem?_set_ne (by omega)]
  exact h j (by omega)
theorem texts_lay {w:World} {base e g n cap N:Nat} {ks:List ByteArray} {xs:List Value} (hn:n=ks.length) (h:w.ownsRow base e 1 (.slice (some ⟨g,0,none⟩) n cap) n xs) (hl:Lay ks n xs) (hg:g < N):TextsIn w N (.slice (some ⟨g,0,none⟩) n cap) ks:=by
 subst hn
 refine ⟨_,cap,rfl,.inr ⟨g,0,rfl,hg,fun j hj=>?_⟩⟩
 rw [Nat.zero_add,h.cellAt _ (by omega),hl j hj]
section
variable {H:Type} {enc:TypeId × Value→H} {w:World} {base:Nat} {spare:Nat→Bool} {held:Bool}
theorem cellsT:Tryz.prog.cellsOf 9=1:=by kernel_rfl
theorem open_texts {fuel:Nat} {v:Value} {x:DataW H × List MemPlace} (h:DataW.trod enc Tryz.prog w base spare held fuel 69 [v]=some x) :
  ∃ ks:List ByteArray,TextsIn w w.heap.size v ks∧ks.length≤maxLen∧∀ j,j < ks.length→(ks.getD j nt).size≤maxLen:=by
 rcases open_slice Tryz.underlying69 h with ⟨hc,_⟩ | ⟨a,len,cap,m,n,D,Pl,hc,_,hl,hm,hmm,_,hall⟩
 ·cases hc
  exact ⟨[],⟨none,0,rfl,.inl rfl⟩,Nat.zero_le _,fun j hj=>absurd hj (Nat.not_lt_zero _)⟩
 ·cases hc
  have hml:len≤m:=by rw [hmm]; split <;> omega
  have each:∀ i,∃ e:ByteArray,i < len→e.size≤maxLen∧w.cell? (a.add i)=some (.string e):=by
   intro i
   by_cases hi:i < len
   ·obtain ⟨cs',h1,h2⟩:=hall i (by omega)
    obtain ⟨e,rfl,_,hh⟩:=DataW.trod_string Tryz.underlying9 h2
    rw [cellsT] at h1
    obtain ⟨_,hlen,hcell⟩:=World.cells?_some h1
    refine ⟨e,fun _=>⟨hh,?_⟩⟩
    have:=hcell 0 (by omega)
    rw [add_add,Nat.mul_one,Nat.add_zero] at this
    rw [this]
    rfl
   ·exact ⟨nt,fun h=>absurd h hi⟩
  obtain ⟨q,hq⟩:=Classical.axiomOfChoice each
  have hget:∀ j,j < len→((List.range len).map q).getD j nt=q j:=by
   intro j hj
   simp [List.getD_eq_getElem?_getD,hj]
  refine ⟨(List.range len).map q,⟨some a,cap,by simp,?_⟩,by simp; omega,?_⟩
  ·by_cases h0:len=0
   ·left; simp [h0]
   ·right
    have c0:=(hq 0 (by omega)).2
    obtain ⟨b,off,spot⟩:=a
    have hspot:spot=none:=by simpa [Addr.add] using World.cell?_spot c0
    subst hspot
    have hblt:b < w.heap.size:=by simpa [Addr.add] using World.block_lt_of_cell? w _ c0
    refine ⟨b,off,rfl,hblt,fun j hj=>?_⟩
    have hj':j < len:=by simpa using hj
    have hc:=(hq j hj').2
    rw [hget j hj']
    have hadd:(⟨b,off,none⟩:Addr).add j=⟨b,off+j,none⟩:=by simp only [Addr.add]; split <;> simp_all
    rw [hadd] at hc
    exact hc
  ·intro j hj
   have hj':j < len:=by simpa using hj
   rw [hget j hj']
   exact (hq j hj').1
end
end Go.Proofs.YtnhcbiomkiljpaaGreatDoor.tx
namespace Go.Proofs.YtnhcbiomkiljpaaGreatDoor.bx
open Go.ChangeShapes Go.WideShapes Go.ChangeAt Go.RowKit Go.Deep Go.Joins
open st
set_option linter.unusedVariables false
structure Bx where
 nm:ByteArray
 vd:Int
 nx:Int
 ms:List St
 ks:List ByteArray
def BV (x:Bx) (v u:Value):Value:=.agg #[.string x.nm,.int .i64 x.vd,.int .i64 x.nx,v,u]
def Ins (x:Bx):Prop:=In x.vd∧In x.nx
def Small (x:Bx):Prop:=Ins x∧x.nm.size≤1048576∧st.Smalls x.ms∧tx.Smalls x.ks
def Held (x:Bx):Prop:=Ins x∧x.nm.size≤maxLen∧(x.ms.length≤maxLen∧∀ j,j < x.ms.length→st.Held (x.ms.getD j noS))∧x.ks.length≤maxLen∧∀ j,j < x.ks.length→(x.ks.getD j ky.nt).size≤maxLen
def RowsIn (w:World) (n:Nat) (v u:Value) (ms:List St) (ks:List ByteArray):Prop:=MailsIn w n v ms∧tx.TextsIn w n u ks
theorem rows_in_below {w w':World} {n k:Nat} {v u:Value} {ms:List St} {ks:List ByteArray} (h:RowsIn w n v u ms ks) (hb:Below k w w') (hk:n≤k):RowsIn w' n v u ms ks:=⟨mails_below h.1 hb hk,tx.texts_below h.2 hb hk⟩
theorem rows_more {w:World} {n k:Nat} {v u:Value} {ms:List St} {ks:List ByteArray} (h:RowsIn w n v u ms ks) (hk:n≤k):RowsIn w k v u ms ks:=⟨mails_more h.1 hk,tx.texts_more h.2 hk⟩
def RowsAt (w:World) (v u:Value) (ms:List St) (ks:List ByteArray):Prop:=RowsIn w w.heap.size v u ms ks
theorem rows_below {w w':World} {v u:Value} {ms:List St} {ks:List ByteArray} (h:RowsAt w v u ms ks) (hb:Below w.heap.size w w'):RowsAt w' v u ms ks:=rows_more (rows_in_below h hb (Nat.le_refl _)) hb.size
theorem five_list {α:Type} {l:List α} (h:l.length=5):∃ a b c d e,l=[a,b,c,d,e]:=by
 match l,h with
 | [a,b,c,d,e],_=>exact ⟨a,b,c,d,e,rfl⟩
section
variable {H:Type} {enc:TypeId × Value→H} {w:World} {base:Nat} {spare:Nat→Bool} {held:Bool}
set_option maxRecDepth 100000 in
theorem trod_box {fuel:Nat} {cs:List Value} {x:DataW H × List MemPlace} (h:DataW.trod enc Tryz.prog w base spare held fuel 71 cs=some x) :
  ∃ (x:Bx) (v u:Value),cs=[.string x.nm,.int .i64 x.vd,.int .i64 x.nx,v,u]∧RowsAt w v u x.ms x.ks∧Held x:=by
 obtain ⟨hl,n,hall⟩:=trod_cells Tryz.underlying71 (by kernel_rfl) (by kernel_rfl) h
 obtain ⟨c0,c1,c2,c3,c4,rfl⟩:=five_list hl
 obtain ⟨y0,t0⟩:=hall 0 _ _ rfl rfl
 obtain ⟨y1,t1⟩:=hall 1 _ _ rfl rfl
 obtain ⟨y2,t2⟩:=hall 2 _ _ rfl rfl
 obtain ⟨y3,t3⟩:=hall 3 _ _ rfl rfl
 obtain ⟨y4,t4⟩:=hall 4 _ _ rfl rfl
 obtain ⟨s0,e0,_,f0⟩:=DataW.trod_string Tryz.underlying9 t0
 obtain ⟨z1,e1,_,f1⟩:=DataW.trod_int Tryz.underlying3 t1
 obtain ⟨z2,e2,_,f2⟩:=DataW.trod_int Tryz.underlying3 t2
 obtain ⟨ms,hat,hpl,hps⟩:=open_mails t3
 obtain ⟨ks,hat2,hpl2,hps2⟩:=tx.open_texts t4
 simp only [List.cons.injEq,and_true] at e0 e1 e2
 subst e0 e1 e2
 exact ⟨⟨s0,z1,z2,ms,ks⟩,c3,c4,rfl,⟨hat,hat2⟩,⟨in_of_wf f1,in_of_wf f2⟩,f0,⟨hpl,hps⟩,hpl2,hps2⟩
end
def Lies (w:World) (b:Nat) (T:TypeId) (x:Bx) (v u:Value):Prop:=w.heap[b]? = some (.cells #[.string x.nm,.int .i64 x.vd,.int .i64 x.nx,v,u] T (0,0))
section
variable {w w':World} {b:Nat} {T:TypeId} {x:Bx} {v u:Value}
theorem Lies.c0 (h:Lies w b T x v u):w.cell? ⟨b,0,none⟩=some (.string x.nm):=by rw [cell_of_row w _ _ _ _ _ h]; rfl
theorem Lies.c1 (h:Lies w b T x v u):w.cell? ⟨b,0+1,none⟩=some (.int .i64 x.vd):=by rw [cell_of_row w _ _ _ _ _ h]; rfl
theorem Lies.c2 (h:Lies w b T x v u):w.cell? ⟨b,0+2,none⟩=some (.int .i64 x.nx):=by rw [cell_of_row w _ _ _ _ _ h]; rfl
theorem Lies.c3 (h:Lies w b T x v u):w.cell? ⟨b,0+3,none⟩=some v:=by rw [cell_of_row w _ _ _ _ _ h]; rfl
theorem Lies.c4 (h:Lies w b T x v u):w.cell? ⟨b,0+4,none⟩=some u:=by rw [cell_of_row w _ _ _ _ _ h]; rfl
theorem Lies.lt (h:Lies w b T x v u):b < w.heap.size:=World.block_lt_of_cell? w _ h.c0
theorem Lies.keep (h:Lies w b T x v u) (hb:Below w.heap.size w w'):Lies w' b T x v u:=(hb.block b h.lt).trans h
theorem lies_new (w:World) (T:TypeId) (x:Bx) (v u:Value):Lies (w.alloc (.cells #[.string x.nm,.int .i64 x.vd,.int .i64 x.nx,v,u] T)) w.heap.size T x v u:=by show (w.heap.push _)[w.heap.size]? = _; simp
theorem new_below (w:World) (T:TypeId) (cs:Array Value):Below w.heap.size w (w.alloc (.cells cs T)):=(Below.refl _ _).alloc (Nat.le_refl _) _
end
set_option maxHeartbeats 1000000 in
set_option maxRecDepth 100000 in
theorem szBox_any (x:Bx) (v u:Value) (left:Int) (w:World) (h:RowsAt w v u x.ms x.ks) (h0:0≤left) (h1:left≤1048576) (hh:Held x) :
  Calls Tryz.prog 39 #[BV x v u,.int .i64 left] w fun e w'=>(∃ z:Int,e=.returned (.int .i64 z)∧z≤left∧-1≤z∧(0≤z→Small x))∧Below w.heap.size w w':=by
 have L0:=lies_new w 71 x v u
 have hbw:=new_below w 71 #[.string x.nm,.int .i64 x.vd,.int .i64 x.nx,v,u]
 have H2:Hid (RowsAt (w.alloc (.cells #[.string x.nm,.int .i64 x.vd,.int .i64 x.nx,v,u] 71)) v u x.ms x.ks):=rows_below h hbw
 obtain ⟨⟨a,cap,rfl,_⟩,⟨a1,cap1,rfl,_⟩⟩:=h
 obtain ⟨nm,vd,nx,ms,ks⟩:=x
 obtain ⟨hi,hb,hl,hl2⟩:=hh
 unfold BV
 simp only at L0 hbw H2 hb hl hl2 ⊢
 have hb':nm.size≤9223372036854775807:=hb
 have HL:Hid (ms.length≤maxLen∧∀ j,j < ms.length→st.Held (ms.getD j noS)):=hl
 have HL2:Hid (ks.length≤maxLen∧∀ j,j < ks.length→(ks.getD j ky.nt).size≤maxLen):=hl2
 have HI:Hid (Ins ⟨nm,vd,nx,ms,ks⟩):=hi
 clear hl hl2 hi
 by_cases g0:left - (nm.size:Int) < 0
 ·go_enter Tryz.func39,Tryz.ntmps39
  go_wp2
  go_ret
  exact ⟨⟨-1,rfl,by omega,by omega,by omega⟩,hbw⟩
 go_enter Tryz.func39,Tryz.ntmps39
 go_wp2_with fail
 generalize w.alloc _=w0 at L0 hbw H2 ⊢
 refine (szStoredS_any _ _ ms _ _ H2.out.1 (Nat.le_refl _) (by omega) (by omega) HL.out.1 HL.out.2).mono ?_
 rintro e w2 ⟨⟨z,rfl,hz0,hz1,hz2⟩,hb2⟩
 have HZ:Hid (0≤z→st.Smalls ms):=hz2
 have L2:=L0.keep hb2
 have H3:Hid (RowsAt w2 (.slice a ms.length cap) (.slice a1 ks.length cap1) ms ks):=rows_below H2.out hb2
 have hb3:=hbw.trans (hb2.mono hbw.size)
 clear hz2 H2 HL hbw hb2 L0
 have c4:=L2.c4
 clear L2
 by_cases hz:z < 0
 ·go_wp2
  go_ret
  exact ⟨⟨-1,rfl,by omega,by omega,by omega⟩,hb3⟩
 go_wp2_with fail
 refine (tx.szTexts_any _ _ ks _ _ H3.out.2 (by omega) (by omega) HL2.out.1 HL2.out.2).mono ?_
 rintro e w3 ⟨⟨y,rfl,hy0,hy1,hy2⟩,rfl⟩
 have HY:Hid (0≤y→tx.Smalls ks):=hy2
 clear hy2 H3 HL2
 by_cases hy:y < 0
 ·go_wp2
  go_ret
  exact ⟨⟨-1,rfl,by omega,by omega,by omega⟩,hb3⟩
 ·go_wp2
  go_ret
  exact ⟨⟨_,rfl,by omega,by omega,fun _=>⟨HI.out,by show nm.size≤_; omega,HZ.out (by omega),HY.out (by omega)⟩⟩,hb3⟩
set_option maxHeartbeats 1000000 in
set_option maxRecDepth 100000 in
theorem eqBox_any (x:Bx) (v u v' u':Value) (w:World) (h1:RowsAt w v u x.ms x.ks) (h2:RowsAt w v' u' x.ms x.ks) (hn:x.ms.length≤1048576∧x.ks.length≤1048576) :
  Calls Tryz.prog 58 #[BV x v u,BV x v' u'] w fun e w'=>e=.returned (.bool true)∧Below w.heap.size w w':=by
 have hbw:=(new_below w 85 #[.string x.nm,.int .i64 x.vd,.int .i64 x.nx,v,u]).alloc (by simp) (.cells #[.string x.nm,.int .i64 x.vd,.int .i64 x.nx,v',u'] 85)
 have L0:=(lies_new w 85 x v u).keep (new_below _ 85 #[.string x.nm,.int .i64 x.vd,.int .i64 x.nx,v',u'])
 have M0:=lies_new (w.alloc (.cells #[.string x.nm,.int .i64 x.vd,.int .i64 x.nx,v,u] 85)) 85 x v' u'
 have HA:=rows_below h1 hbw
 have HB:=rows_below h2 hbw
 obtain ⟨⟨a,cap,rfl,_⟩,⟨a1,cap1,rfl,_⟩⟩:=h1
 obtain ⟨⟨a',cap',rfl,_⟩,⟨a1',cap1',rfl,_⟩⟩:=h2
 obtain ⟨nm,vd,nx,ms,ks⟩:=x
 unfold BV
 simp only at hbw L0 M0 HA HB hn ⊢
 rw [show (w.alloc (.cells #[.string nm,.int .i64 vd,.int .i64 nx,.slice a ms.length cap,.slice a1 ks.length cap1] 85)).heap.size=w.heap.size+1 by simp] at M0
 have k1:((vd:Int) != vd)=false:=by simp
 have k2:((nx:Int) != nx)=false:=by simp
 go_enter Tryz.func58,Tryz.ntmps58
 go_wp2_with fail
 generalize World.alloc _ _=w0 at hbw L0 M0 HA HB ⊢
 have HA:Hid (RowsAt w0 (.slice a ms.length cap) (.slice a1 ks.length cap1) ms ks):=HA
 have HB:Hid (RowsAt w0 (.slice a' ms.length cap') (.slice a1' ks.length cap1') ms ks):=HB
 refine (eqStoredS_any _ _ _ _ ms _ HA.out.1 HB.out.1 hn.1).mono ?_
 rintro e w2 ⟨rfl,hb2⟩
 have HA2:Hid (RowsAt w2 (.slice a ms.length cap) (.slice a1 ks.length cap1) ms ks):=rows_below HA.out hb2
 have HB2:Hid (RowsAt w2 (.slice a' ms.length cap') (.slice a1' ks.length cap1') ms ks):=rows_below HB.out hb2
 have c4:=(L0.keep hb2).c4
 have d4:=(M0.keep hb2).c4
 have b3:=hbw.trans (hb2.mono hbw.size)
 clear hbw hb2 HA HB L0 M0
 go_wp2_with fail
 refine (ky.eqTexts_any _ _ ks _ (tx.texts_at HA2.out.2) (tx.texts_at HB2.out.2) hn.2).mono ?_
 rintro e w3 ⟨rfl,hb3⟩
 have b4:=b3.trans (hb3.mono b3.size)
 clear b3 hb3 HA2 HB2 c4 d4
 go_wp2
 go_ret
 exact ⟨rfl,b4⟩
end Go.Proofs.YtnhcbiomkiljpaaGreatDoor.bx
