/-
  A book of keys: cleared, filled with a box's keys, counted.
  Contracts of the functions on names: a letter, a digit, a word, and both NameOK functions answer whether a text is a name, and leave the world as it was.
  Both MutationOK functions answer whether a mutation is right.
  The program's own test of a box: its mails, its keys, the whole.
  The library's contracts (laid from the shelf) at this program.
-/
import Derived.Test.YtnhcbiomkiljpaaGreatDoorPkac
import Derived.Maps.Own
import Derived.Maps.OwnOps
import Derived.Maps.OwnSet
import Derived.Maps.Views
import Derived.Test.YtnhcbiomkiljpaaGreatDoorRows
import Derived.WalkKit
import Derived.WalkLawsBesides
import Derived.Test.YtnhcbiomkiljpaaGreatDoorPkae
import Derived.Shelf.Small.Wraps
import Derived.Shelf.LaysM
import Derived.Shelf.Strconv.Clone
import Derived.Ground.Names2Prog
import Derived.Shelf.Slices.Clone
import Derived.Shelf.Slices.SearchI
import Derived.Ground.SlgnProg
import Derived.Shelf.SlicesE.Clone
import Derived.Test.YtnhcbiomkiljpaaGreatDoorProg
namespace Go.Proofs.YtnhcbiomkiljpaaGreatDoor.bk
open Go.RowKit Go.Maps Go.ChangeMaps Go.WideMaps
open ky tx
set_option linter.unusedVariables false
theorem law:Keyed Tryz.prog 9:=string_keyed Tryz.underlying9
abbrev Own (w:World) (B n:Nat) (D:DataW Unit):Prop:=w.ownsMap Tryz.prog 9 (plainElem Tryz.prog 3) B n D
theorem own_keep {w w':World} {B n k:Nat} {D:DataW Unit} (h:Own w B n D) (hb:Below k w w') (hk:B < k):Own w' B n D:=by
 obtain ⟨es,clock,hb',F,hs,hD⟩:=h
 exact ⟨es,clock,(hb.block B hk).trans hb',F,hs,hD⟩
theorem clear_own {w:World} {B n:Nat} {D:DataW Unit} (h:Own w B n D) (ty:TypeId) :
  ∃ w',(Builtin.clear_ #[165] ty #[.map (some B)]).run Tryz.prog w=.ok (.tuple #[]) w'∧Own w' B 0 (.map [])∧w.mapTurned w' B:=by
 obtain ⟨es,clock,hb,F,hs,rfl⟩:=h
 refine ⟨setBlock w B (.map #[] clock),?_,⟨#[],clock,heap_setBlock_same hb _,⟨by simp,MapKept.stamped_empty clock,by simp⟩,Nat.le_refl _,rfl⟩,⟨es,clock,#[],clock,hb,rfl⟩⟩
 simp [Builtin.clear_,run_underlying Tryz.underlying165,MapKept.run_getObj_map hb,MapKept.run_setObj_map _ hb,Result.andThen,setBlock]
theorem wpList_clear_own {w:World} {ops:Array Oper} {rest:List Oper} {o:Oper} {a:Act} {Q:Exit→Act→World→Prop}
  (hg:o.guard=none) (m:Operand) (hop:o.op=Op.call { callee:=Callee.builtin Builtin.clear,args:=#[m],argTypes:=#[165] }) (B n:Nat) (D:DataW Unit)
  (hm:a.eval m=.map (some B)) (hown:Own w B n D)
  (hK:∀ w',Own w' B 0 (.map [])→w.mapTurned w' B→wpList Tryz.prog ops Q rest (a.put o.dst (.tuple #[])) w') :
  wpList Tryz.prog ops Q (o :: rest) a w:=by
 refine wpList_plain hg fun K' hK'=>?_
 obtain ⟨w',hrun,r1,r2⟩:=clear_own hown o.type
 unfold Oper.wp
 simp [execOp,hop,resolve,invoke,builtin,hm,hrun,Result.andThen]
 exact hK' _ _ (hK w' r1 r2)
def Dist (ks:List ByteArray) (k:Nat):Prop:=∀ i j,i < j→j < k→ks.getD i nt ≠ ks.getD j nt
def dDist (ks:List ByteArray) (k:Nat):Decidable (Dist ks k) :=
 @decidable_of_iff _ (∀ j,j < k→∀ i,i < j→(ks.getD i nt).data ≠ (ks.getD j nt).data) ⟨fun h i j hij hj e=>h j hj i hij (by rw [e]),fun h j hj i hij e=>h i j hij hj (ByteArray.ext e)⟩ inferInstance
def dist (ks:List ByteArray):Bool:=@decide (Dist ks ks.length) (dDist ks ks.length)
def lit (s:ByteArray):Lit:=.string s.data.toList
theorem lit_inj {a b:ByteArray} (h:lit a=lit b):a=b:=by
 unfold lit at h
 injection h with h
 exact WideShapes.bytes_inj h
def Inv (D:DataW Unit) (ks:List ByteArray) (k:Nat):Prop :=
 (∀ s,Maps.has D (lit s)=true ↔ ∃ j,j < k∧ks.getD j nt=s)∧Maps.size D≤k∧(Maps.size D=k ↔ Dist ks k)
theorem inv_start (ks:List ByteArray):Inv (.map []) ks 0:=by
 refine ⟨fun s=>⟨fun h=>by simp [Maps.has] at h,fun ⟨j,h,_⟩=>absurd h (Nat.not_lt_zero _)⟩,by simp [Maps.size],⟨fun _ i j _ h=>absurd h (Nat.not_lt_zero _),fun _=>by simp [Maps.size]⟩⟩
theorem inv_step {D:DataW Unit} {ks:List ByteArray} {k:Nat} (hD:Tidy D) (h:Inv D ks k) {s:ByteArray} (hs:ks.getD k nt=s) (d:DataW Unit):Inv (D.put (lit s) d) ks (k+1):=by
 obtain ⟨h1,h2,h3⟩:=h
 have hkl:WideAt.IsKeyLit (lit s):=by unfold lit; simp [WideAt.IsKeyLit]
 have hsz:=size_put (k:=lit s) hD d
 refine ⟨fun t=>?_,?_,?_⟩
 ·by_cases e:t=s
  ·subst e
   rw [has_put_same hD.isMap hkl]
   simp
   exact ⟨k,by omega,hs⟩
  ·rw [has_put_other (fun x=>e (lit_inj x)),h1]
   constructor
   ·rintro ⟨j,hj,ej⟩
    exact ⟨j,by omega,ej⟩
   ·rintro ⟨j,hj,ej⟩
    by_cases ejk:j=k
    ·subst ejk
     exact absurd (ej.symm.trans hs) e
    ·exact ⟨j,by omega,ej⟩
 ·rw [hsz]
  split <;> omega
 ·rw [hsz]
  by_cases hh:Maps.has D (lit s)=true
  ·rw [if_pos hh]
   obtain ⟨j,hj,ej⟩:=(h1 s).1 hh
   constructor
   ·intro x; omega
   ·intro x
    exact absurd (ej.trans hs.symm) (x j k hj (by omega))
  ·rw [if_neg hh]
   constructor
   ·intro x i j hij hj
    by_cases ejk:j=k
    ·subst ejk
     intro y
     exact hh ((h1 s).2 ⟨i,hij,y.trans hs⟩)
    ·exact h3.1 (by omega) i j hij (by omega)
   ·intro x
    have:=h3.2 (fun i j hij hj=>x i j hij (by omega))
    omega
theorem dist_eq {D:DataW Unit} {ks:List ByteArray} {k:Nat} (hk:k=ks.length) (h:Inv D ks k):((Maps.size D:Int) == (k:Int))=dist ks:=by
 subst hk
 unfold dist
 by_cases e:Maps.size D=ks.length
 ·rw [ow.dt (h.2.2.1 e)]
  simp [e]
 ·rw [ow.df (fun x=>e (h.2.2.2 x))]
  simp
  omega
set_option maxHeartbeats 2000000 in
set_option maxRecDepth 100000 in
theorem learn_any (B n0 N:Nat) (D0:DataW Unit) (v:Value) (ks:List ByteArray) (w:World) (hown:Own w B n0 D0) (h:TextsIn w N v ks) (hN:N≤B) (hs:Smalls ks) :
  Calls Tryz.prog 150 #[.map (some B),v] w fun e w'=>e=.returned (.bool (dist ks))∧(∃ n D,Own w' B n D∧Inv D ks ks.length)∧Below B w w':=by
 obtain ⟨a,cap,rfl,h⟩:=h
 obtain ⟨n,hn⟩:∃ n,n=ks.length:=⟨_,rfl⟩
 have HN:Hid (n=ks.length):=hn
 have HH:Hid (ks=[] ∨ ∃ b off,a=some ⟨b,off,none⟩∧b < N∧∀ j,j < ks.length→w.cell? ⟨b,off+j,none⟩=some (.string (ks.getD j nt))):=h
 have HS:Hid (Smalls ks):=hs
 have hl:n≤1048576:=by rw [hn]; exact hs.1
 rw [← hn]
 clear h hs hn
 go_enter Tryz.func150,Tryz.ntmps150
 go_wp2_with (refine wpList_clear_own rfl _ rfl B n0 D0 rfl hown ?_; intro w1 hown1 hturn1)
 have hb1:Below B w w1:=(Below.refl _ _).grown hturn1.grown (Nat.le_of_lt hown.lt) (fun j hj=>by cases hj; exact Nat.le_refl _)
 clear hturn1 hown
 go_loopw [10] (fun i wr=>∃ (k:Nat) (D:DataW Unit),k≤n∧i=.int .i64 k∧Own wr B k D∧Inv D ks k∧Below B w wr) (fun i _=>n - (intOf i).toNat)
 case atStart=>exact ⟨0,_,Nat.zero_le _,rfl,hown1,inv_start ks,hb1⟩
 case round =>
  clear hown1 hb1
  obtain ⟨k,D,hk,rfl,hown,hinv,hbw⟩:=hrel
  have HI:Hid (Inv D ks k):=hinv
  clear hinv
  by_cases hlt:k < n
  ·have hka:k < ks.length:=by rw [← HN.out]; exact hlt
   rcases HH.out with e | ⟨b,off,rfl,hbN,hcells⟩
   ·rw [e] at hka; simp at hka
   have c0:=(hbw.cell (p:=⟨b,off+k,none⟩) (Nat.lt_of_lt_of_le hbN hN)).trans (hcells k hka)
   have hsz:=HS.out.2 k hka
   clear hcells hka
   generalize hx:ks.getD k nt=x at c0 hsz
   have HX:Hid (ks.getD k nt=x):=hx
   clear hx
   have hkey:keyOf Tryz.prog 9 (.string x)=some (lit x):=keyOf_string_mk Tryz.underlying9 (by unfold maxLen; omega)
   have HO:Hid (Own wr B k D):=hown
   have htd:=hown.tidy law
   have HT:Hid (Tidy D):=htd
   have HWS:Hid (B≤wr.heap.size):=Nat.le_of_lt hown.lt
   clear htd hown
   have hlt':(k:Int) < (n:Int):=by omega
   go_wp2_with (at_mapUpdate; refine wpList_mapUpdate_own _ rfl _ _ _ 165 rfl 9 3 law Tryz.underlying165 _ B k _ rfl HO.out (by unfold maxLen; omega) _ _ _ rfl rfl hkey _ [] (plainElem_int Tryz.underlying3 (WalkArith.wf_i64 (by omega))) ?_; intro w2 hown2 hgrow2)
   have hbw2:Below B w w2:=hbw.grown hgrow2 HWS.out (fun j hj=>by cases hj; exact Nat.le_refl _)
   clear hgrow2 c0
   go_wp2
   go_roundw
   case rel=>exact ⟨k+1,_,by omega,by go_num,hown2,inv_step HT.out HI.out HX.out _,hbw2⟩
   case measure=>simp [intOf]; omega
  ·have hkn:k=n:=by omega
   subst hkn
   have HD:Hid (((Maps.size D:Int) == (k:Int))=dist ks):=dist_eq HN.out HI.out
   have HF:Hid (∃ n D,Own wr B n D∧Inv D ks k):=⟨k,D,hown,HI.out⟩
   go_wp2_with (at_len; refine wpList_len_own _ rfl _ 165 rfl 9 3 Tryz.underlying165 _ B k D rfl hown ?_)
   go_wp2
   go_ret
   exact ⟨by rw [← HD.out]; first | rfl | (congr 2; rw [Bool.eq_iff_iff]; simp),HF.out,hbw⟩
end Go.Proofs.YtnhcbiomkiljpaaGreatDoor.bk
namespace Go.Proofs.YtnhcbiomkiljpaaGreatDoor.nm
open Go.RowKit
set_option linter.unusedVariables false
def letB (c:Int):Bool:=decide (97≤c∧c≤122 ∨ 65≤c∧c≤90 ∨ c=95)
def digB (c:Int):Bool:=decide (48≤c∧c≤57)
theorem ret_bool {a b:Bool} (h:a=b):Ending.returned (.bool a)=.returned (.bool b):=by rw [h]
set_option maxHeartbeats 400000 in
theorem begins_any (c:Int) (w:World):Calls Tryz.prog 100 #[.int .u8 c] w fun e w'=>e=.returned (.bool (letB c))∧w'=w:=by
 go_enter Tryz.func100,Tryz.ntmps100
 go_wp2
 all_goals (go_ret; exact ⟨ret_bool (by rw [Bool.eq_iff_iff]; simp [letB]; omega),rfl⟩)
set_option maxHeartbeats 400000 in
theorem letter_any (c:Int) (w:World):Calls Tryz.prog 142 #[.int .u8 c] w fun e w'=>e=.returned (.bool (letB c))∧w'=w:=by
 go_enter Tryz.func142,Tryz.ntmps142
 go_wp2
 all_goals (go_ret; exact ⟨ret_bool (by rw [Bool.eq_iff_iff]; simp [letB]; omega),rfl⟩)
set_option maxHeartbeats 400000 in
theorem isDigit_any (c:Int) (w:World):Calls Tryz.prog 101 #[.int .u8 c] w fun e w'=>e=.returned (.bool (digB c))∧w'=w:=by
 go_enter Tryz.func101,Tryz.ntmps101
 go_wp2
 all_goals (go_ret; exact ⟨ret_bool (by simp [digB]; omega),rfl⟩)
set_option maxHeartbeats 400000 in
theorem digit_any (c:Int) (w:World):Calls Tryz.prog 143 #[.int .u8 c] w fun e w'=>e=.returned (.bool (digB c))∧w'=w:=by
 go_enter Tryz.func143,Tryz.ntmps143
 go_wp2
 all_goals (go_ret; exact ⟨ret_bool (by simp [digB]; omega),rfl⟩)
def good (s:ByteArray) (j:Nat):Prop:=∃ h:j < s.size,letB ((s[j]'h).toNat:Int)=true ∨ (0 < j∧digB ((s[j]'h).toNat:Int)=true)
def IsName (s:ByteArray):Prop:=1≤s.size∧s.size≤40∧∀ j,j < s.size→good s j
def NameRet (s:ByteArray) (e:Ending):Prop:=∃ b:Bool,e=.returned (.bool b)∧(b=true ↔ IsName s)
theorem not_name {s:ByteArray} {k:Nat} (h:k < s.size) (hl:¬ letB ((s[k]'h).toNat:Int)=true) (hd:k=0 ∨ digB ((s[k]'h).toNat:Int)=false):NameRet s (.returned (.bool false)):=by
 refine ⟨false,rfl,?_⟩
 constructor
 ·intro x; cases x
 ·rintro ⟨_,_,hg⟩
  obtain ⟨h',hx⟩:=hg k h
  rcases hx with hx | ⟨hp,hx⟩
  ·exact absurd hx hl
  ·rcases hd with rfl | hd
   ·omega
   ·rw [hd] at hx; cases hx
theorem no_size {s:ByteArray} (h:s.size=0 ∨ 40 < s.size):NameRet s (.returned (.bool false)) :=
 ⟨false,rfl,⟨fun x=>(by cases x),fun x=>(by have h1:=x.1; have h2:=x.2.1; omega)⟩⟩
theorem yes_name {s:ByteArray} (h1:1≤s.size) (h2:s.size≤40) (hg:∀ j,j < s.size→good s j):NameRet s (.returned (.bool true)) :=
 ⟨true,rfl,⟨fun _=>⟨h1,h2,hg⟩,fun _=>rfl⟩⟩
theorem step {s:ByteArray} {k:Nat} (hg:∀ j,j < k→good s j) (h:k < s.size) (hx:letB ((s[k]'h).toNat:Int)=true ∨ (0 < k∧digB ((s[k]'h).toNat:Int)=true)):∀ j,j < k+1→good s j:=by
 intro j hj
 by_cases e:j=k
 ·subst e; exact ⟨h,hx⟩
 ·exact hg j (by omega)
theorem ret_ex {s:ByteArray} {e:Ending} (h:NameRet s e):∃ b:Bool,e=.returned (.bool b):=⟨h.choose,h.choose_spec.1⟩
set_option maxHeartbeats 1000000 in
theorem implName_any (s:ByteArray) (w:World) (hs:s.size≤1048576) :
  Calls Tryz.prog 53 #[.string s] w fun e w'=>NameRet s e∧w'=w:=by
 by_cases h0:s.size=0
 ·have b0:((s.size:Int) == 0)=true:=beq_iff_eq.2 (by omega)
  go_enter Tryz.func53,Tryz.ntmps53
  go_wp2
  go_ret
  exact ⟨no_size (.inl h0),rfl⟩
 have b0:((s.size:Int) == 0)=false:=beq_eq_false_iff_ne.2 (by omega)
 by_cases h4:40 < s.size
 ·have h4':(40:Int) < (s.size:Int):=by omega
  go_enter Tryz.func53,Tryz.ntmps53
  go_wp2
  go_ret
  exact ⟨no_size (.inr h4),rfl⟩
 have h4':(s.size:Int)≤40:=by omega
 go_enter Tryz.func53,Tryz.ntmps53
 go_wp2
 go_loop [14] (fun i=>∃ k:Nat,k≤s.size∧i=.int .i64 k∧∀ j,j < k→good s j) (fun i=>s.size - (intOf i).toNat)
 case atStart=>exact ⟨0,Nat.zero_le _,rfl,fun j hj=>absurd hj (Nat.not_lt_zero _)⟩
 case round =>
  obtain ⟨k,hk,rfl,hg⟩:=hrel
  have HG:Hid (∀ j,j < k→good s j):=hg
  clear hg
  by_cases hlt:k < s.size
  ·go_wp2_with (first | (go_at_call 100; refine (begins_any _ _).mono ?_; rintro e w' ⟨rfl,rfl⟩) | (go_at_call 101; refine (isDigit_any _ _).mono ?_; rintro e w' ⟨rfl,rfl⟩))
   ·go_round
    case rel=>exact ⟨k+1,by omega,by go_num,step HG.out hlt (.inl ‹_›)⟩
    case measure=>simp [intOf]; omega
   ·go_ret
    exact ⟨not_name hlt ‹_› (.inl ‹_›),rfl⟩
   ·go_ret
    exact ⟨not_name hlt ‹_› (by rename_i h; simp at h; omega),rfl⟩
   ·go_round
    case rel=>exact ⟨k+1,by omega,by go_num,step HG.out hlt (.inr ⟨by omega,by rename_i h; simpa using h.2⟩)⟩
    case measure=>simp [intOf]; omega
  ·go_wp2
   go_ret
   exact ⟨yes_name (by omega) (by omega) (fun j hj=>HG.out j (by omega)),rfl⟩
set_option maxHeartbeats 1000000 in
theorem word_any (s:ByteArray) (w:World) (hs:s.size≤1048576) :
  Calls Tryz.prog 120 #[.string s] w fun e w'=>NameRet s e∧w'=w:=by
 by_cases h0:s.size=0
 ·have b0:(s.size:Int) < 1:=by omega
  go_enter Tryz.func120,Tryz.ntmps120
  go_wp2
  go_ret
  exact ⟨no_size (.inl h0),rfl⟩
 have b0:(1:Int)≤(s.size:Int):=by omega
 by_cases h4:40 < s.size
 ·have h4':(40:Int) < (s.size:Int):=by omega
  go_enter Tryz.func120,Tryz.ntmps120
  go_wp2
  go_ret
  exact ⟨no_size (.inr h4),rfl⟩
 have h4':(s.size:Int)≤40:=by omega
 have hp:0 < s.size:=by omega
 by_cases hl0:letB ((s[0]'hp).toNat:Int)=true
 case neg =>
  go_enter Tryz.func120,Tryz.ntmps120
  go_wp2_with (go_at_call 142; refine (letter_any _ _).mono ?_; rintro e w' ⟨rfl,rfl⟩)
  go_ret
  exact ⟨not_name hp hl0 (.inl rfl),rfl⟩
 have HL:Hid (letB ((s[0]'hp).toNat:Int)=true):=hl0
 go_enter Tryz.func120,Tryz.ntmps120
 go_wp2_with (go_at_call 142; refine (letter_any _ _).mono ?_; rintro e w' ⟨rfl,rfl⟩)
 go_loop [3] (fun i=>∃ k:Nat,1≤k∧k≤s.size∧i=.int .i64 k∧∀ j,j < k→good s j) (fun i=>s.size - (intOf i).toNat)
 case atStart=>exact ⟨1,Nat.le_refl _,hp,rfl,step (k:=0) (fun j hj=>absurd hj (Nat.not_lt_zero _)) hp (.inl HL.out)⟩
 case round =>
  obtain ⟨k,hk1,hk,rfl,hg⟩:=hrel
  have HG:Hid (∀ j,j < k→good s j):=hg
  clear hg
  by_cases hlt:k < s.size
  ·go_wp2_with (first | (go_at_call 142; refine (letter_any _ _).mono ?_; rintro e w' ⟨rfl,rfl⟩) | (go_at_call 143; refine (digit_any _ _).mono ?_; rintro e w' ⟨rfl,rfl⟩))
   ·go_round
    case rel=>exact ⟨k+1,by omega,by omega,by go_num,step HG.out hlt (.inl ‹_›)⟩
    case measure=>simp [intOf]; omega
   ·go_ret
    exact ⟨not_name hlt ‹_› (by rename_i h; simp at h; exact .inr h),rfl⟩
   ·go_round
    case rel=>exact ⟨k+1,by omega,by omega,by go_num,step HG.out hlt (.inr ⟨by omega,by rename_i h; simpa using h⟩)⟩
    case measure=>simp [intOf]; omega
  ·go_wp2
   go_ret
   exact ⟨yes_name (by omega) (by omega) (fun j hj=>HG.out j (by omega)),rfl⟩
theorem specName_any (s:ByteArray) (w:World) (hs:s.size≤1048576) :
  Calls Tryz.prog 82 #[.string s] w fun e w'=>NameRet s e∧w'=w:=by
 go_enter Tryz.func82,Tryz.ntmps82
 go_wp2_with fail
 refine (word_any s _ hs).mono ?_
 rintro e w' ⟨hn,rfl⟩
 obtain ⟨b,rfl⟩:=ret_ex hn
 go_wp2
 go_ret
 exact ⟨hn,rfl⟩
end Go.Proofs.YtnhcbiomkiljpaaGreatDoor.nm
namespace Go.Proofs.YtnhcbiomkiljpaaGreatDoor.mu
open Go.RowKit
open it
set_option linter.unusedVariables false
def dGood (s:ByteArray) (j:Nat):Decidable (nm.good s j) :=
 if h:j < s.size then decidable_of_iff (nm.letB ((s[j]'h).toNat:Int)=true ∨ (0 < j∧nm.digB ((s[j]'h).toNat:Int)=true)) ⟨fun x=>⟨h,x⟩,fun ⟨_,x⟩=>x⟩ else isFalse (fun ⟨h',_⟩=>h h')
def dAllGood (s:ByteArray):Decidable (∀ j,j < s.size→nm.good s j):=@Nat.decidableBallLT s.size (fun j _=>nm.good s j) (fun j _=>dGood s j)
def dName (s:ByteArray):Decidable (nm.IsName s):=@instDecidableAnd _ _ _ (@instDecidableAnd _ _ _ (dAllGood s))
def nmB (s:ByteArray):Bool:=@decide (nm.IsName s) (dName s)
theorem nm_of {s:ByteArray} {e:Ending} (h:nm.NameRet s e):e=.returned (.bool (nmB s)):=by
 obtain ⟨b,rfl,h⟩:=h
 have:b=nmB s:=by
  unfold nmB
  cases b
  ·exact (ow.df (fun x=>by have:=h.2 x; cases this)).symm
  ·exact (ow.dt (h.1 rfl)).symm
 rw [this]
theorem impl_name (s:ByteArray) (w:World) (hs:s.size≤1048576):Calls Tryz.prog 53 #[.string s] w fun e w'=>e=.returned (.bool (nmB s))∧w'=w :=
 (nm.implName_any s w hs).mono fun e w' ⟨h,h2⟩=>⟨nm_of h,h2⟩
theorem spec_name (s:ByteArray) (w:World) (hs:s.size≤1048576):Calls Tryz.prog 82 #[.string s] w fun e w'=>e=.returned (.bool (nmB s))∧w'=w :=
 (nm.specName_any s w hs).mono fun e w' ⟨h,h2⟩=>⟨nm_of h,h2⟩
def kOK (n:Nat):Bool:=decide (1≤n∧n≤200)
def fOK (f:Int):Bool:=decide (0≤f∧f≤31)
def iOK (p:Pr):Bool:=decide ((1≤p.1.size∧p.1.size≤200)∧p.2.size≤4000)
def AllTo (ps:List Pr) (k:Nat):Prop:=∀ j,j < k→iOK (ps.getD j no)=true
def dAll (ps:List Pr) (k:Nat):Decidable (AllTo ps k):=inferInstanceAs (Decidable (∀ j,j < k→iOK (ps.getD j no)=true))
def itsOK (ps:List Pr):Bool:=@decide (ps.length≤20∧AllTo ps ps.length) (@instDecidableAnd _ _ _ (dAll ps ps.length))
theorem its_no {ps:List Pr} (h:¬ (ps.length≤20∧AllTo ps ps.length)):itsOK ps=false:=ow.df h
theorem its_yes {ps:List Pr} (h:ps.length≤20) (h2:AllTo ps ps.length):itsOK ps=true:=ow.dt ⟨h,h2⟩
theorem its_of {ps:List Pr} (h:itsOK ps=true):ps.length≤20∧AllTo ps ps.length:=ow.dof h
theorem all_step {ps:List Pr} {k:Nat} (h:AllTo ps k) {a b:ByteArray} (ha:(ps.getD k no).1=a) (hb:(ps.getD k no).2=b) (hi:iOK (a,b)=true):AllTo ps (k+1):=by
 intro j hj
 by_cases e:j=k
 ·subst e
  have:ps.getD j no=(a,b):=by rw [← ha,← hb]
  rw [this]
  exact hi
 ·exact h j (by omega)
theorem all_bad {ps:List Pr} {k:Nat} (hk:k < ps.length) {a b:ByteArray} (ha:(ps.getD k no).1=a) (hb:(ps.getD k no).2=b) (hi:iOK (a,b)=false):itsOK ps=false:=by
 refine its_no fun x=>?_
 have h:=x.2 k hk
 have:ps.getD k no=(a,b):=by rw [← ha,← hb]
 rw [this,hi] at h
 cases h
def kindOK (k u m f:Int) (n:Nat):Bool:=decide ((k=1 ∨ k=4)∧u=0∧m=0∧f=0∧n=0 ∨ k=2∧u=0∧m=0∧f=0∧0 < n ∨ k=3∧n=0∧1≤u∧u≤1000∧1≤m∧m≤3∧0≤f∧f≤31)
def mok (x:Mu):Bool:=nmB x.b && itsOK x.ps && kindOK x.k x.u x.m x.f x.ps.length
theorem ret_bool {a b:Bool} (h:a=b):Ending.returned (.bool a)=.returned (.bool b):=by rw [h]
theorem mok_name {x:Mu} (h:nmB x.b=false):mok x=false:=by simp [mok,h]
theorem mok_its {x:Mu} (h:itsOK x.ps=false):mok x=false:=by simp [mok,h]
theorem mok_kind {x:Mu} (h:nmB x.b=true) (h2:itsOK x.ps=true):mok x=kindOK x.k x.u x.m x.f x.ps.length:=by simp [mok,h,h2]
theorem isKey_any (s:ByteArray) (w:World):Calls Tryz.prog 102 #[.string s] w fun e w'=>e=.returned (.bool (kOK s.size))∧w'=w:=by
 go_enter Tryz.func102,Tryz.ntmps102
 go_wp2
 all_goals (go_ret; exact ⟨ret_bool (by rw [Bool.eq_iff_iff]; simp [kOK]; omega),rfl⟩)
theorem areFlags_any (f:Int) (w:World):Calls Tryz.prog 56 #[.int .i64 f] w fun e w'=>e=.returned (.bool (fOK f))∧w'=w:=by
 go_enter Tryz.func56,Tryz.ntmps56
 go_wp2
 all_goals (go_ret; exact ⟨ret_bool (by rw [Bool.eq_iff_iff]; simp [fOK]; omega),rfl⟩)
theorem in_any (n a b:Int) (w:World):Calls Tryz.prog 83 #[.int .i64 n,.int .i64 a,.int .i64 b] w fun e w'=>e=.returned (.bool (decide (a≤n∧n≤b)))∧w'=w:=by
 go_enter Tryz.func83,Tryz.ntmps83
 go_wp2
 all_goals (go_ret; exact ⟨ret_bool (by rw [Bool.eq_iff_iff]; simp; try omega),rfl⟩)
set_option maxHeartbeats 1000000 in
theorem areItems_any (v:Value) (ps:List Pr) (w:World) (h:AttrsAt w v ps) (hs:it.Small ps) :
  Calls Tryz.prog 54 #[v] w fun e w'=>e=.returned (.bool (itsOK ps))∧Below w.heap.size w w':=by
 obtain ⟨a,cap,rfl,h⟩:=h
 obtain ⟨n,hn⟩:∃ n,n=ps.length:=⟨_,rfl⟩
 have HN:Hid (n=ps.length):=hn
 have HH:Hid (ps=[] ∨ ∃ b off,a=some ⟨b,off,none⟩∧∀ j,j < ps.length→w.cell? ⟨b,off+j * 2,none⟩=some (.string (ps.getD j no).1)∧w.cell? ⟨b,off+j * 2+1,none⟩=some (.string (ps.getD j no).2)):=h
 have HS:Hid (it.Small ps):=hs
 have hl:n≤1048576:=by rw [hn]; exact hs.1
 rw [← hn]
 clear h hs hn
 by_cases g0:20 < n
 ·have g0':(20:Int) < (n:Int):=by omega
  rw [its_no (by have:=HN.out; omega)]
  go_enter Tryz.func54,Tryz.ntmps54
  go_wp2
  go_ret
  exact ⟨rfl,Below.refl _ _⟩
 have g0':(n:Int)≤20:=by omega
 go_enter Tryz.func54,Tryz.ntmps54
 go_wp2
 go_loopw [10] (fun i wr=>∃ (k:Nat),k≤n∧i=.int .i64 k∧AllTo ps k∧Below w.heap.size w wr) (fun i _=>n - (intOf i).toNat)
 case atStart=>exact ⟨0,Nat.zero_le _,rfl,fun j hj=>absurd hj (Nat.not_lt_zero _),Below.refl _ _⟩
 case round =>
  obtain ⟨k,hk,rfl,hal,hbw⟩:=hrel
  have HAL:Hid (AllTo ps k):=hal
  clear hal
  by_cases hlt:k < n
  ·have hka:k < ps.length:=by rw [← HN.out]; exact hlt
   rcases HH.out with e | ⟨b,off,rfl,hcells⟩
   ·rw [e] at hka; simp at hka
   obtain ⟨v0,v1⟩:=hcells k hka
   obtain ⟨s0,s1⟩:=HS.out.2 k hka
   have hblt:b < w.heap.size:=World.block_lt_of_cell? w _ v0
   have c0:=(hbw.cell (p:=⟨b,off+k * 2,none⟩) hblt).trans v0
   have c1:=(hbw.cell (p:=⟨b,off+k * 2+1,none⟩) hblt).trans v1
   clear hcells v0 v1
   generalize hn1:(ps.getD k no).1=nm at c0 s0
   generalize hv1:(ps.getD k no).2=vl at c1 s1
   have HN1:Hid ((ps.getD k no).1=nm):=hn1
   have HV1:Hid ((ps.getD k no).2=vl):=hv1
   have HKA:Hid (k < ps.length):=hka
   clear hn1 hv1 hka
   have hlt':(k:Int) < (n:Int):=by omega
   have hb2:Below w.heap.size w (wr.alloc (.cells #[.string nm,.string vl] 87)):=hbw.alloc hbw.size _
   by_cases q0:1≤nm.size∧nm.size≤200
   ·have e0:kOK nm.size=true:=decide_eq_true q0
    by_cases q1:vl.size≤4000
    ·have q1':(vl.size:Int)≤4000:=by omega
     go_wp2_with (go_at_call 102; refine (isKey_any _ _).mono ?_; rintro e w' ⟨rfl,rfl⟩; rw [e0])
     go_roundw
     case rel=>exact ⟨k+1,by omega,by go_num,all_step HAL.out HN1.out HV1.out (decide_eq_true ⟨q0,q1⟩),hb2⟩
     case measure=>simp [intOf]; omega
    ·have q1':(4000:Int) < (vl.size:Int):=by omega
     have HR:Hid (itsOK ps=false):=all_bad HKA.out HN1.out HV1.out (decide_eq_false fun x=>q1 x.2)
     go_wp2_with (go_at_call 102; refine (isKey_any _ _).mono ?_; rintro e w' ⟨rfl,rfl⟩; rw [e0])
     go_ret
     exact ⟨ret_bool HR.out.symm,hb2⟩
   ·have e0:kOK nm.size=false:=decide_eq_false q0
    have HR:Hid (itsOK ps=false):=all_bad HKA.out HN1.out HV1.out (decide_eq_false fun x=>q0 x.1)
    go_wp2_with (go_at_call 102; refine (isKey_any _ _).mono ?_; rintro e w' ⟨rfl,rfl⟩; rw [e0])
    go_ret
    exact ⟨ret_bool HR.out.symm,hb2⟩
  ·have HR:Hid (itsOK ps=true):=its_yes (by have:=HN.out; omega) (fun j hj=>HAL.out j (by have:=HN.out; omega))
   go_wp2
   go_ret
   exact ⟨ret_bool HR.out.symm,hbw⟩
end Go.Proofs.YtnhcbiomkiljpaaGreatDoor.mu
namespace Go.Proofs.YtnhcbiomkiljpaaGreatDoor.bx
open Go.RowKit
open st
set_option linter.unusedVariables false
def mOK (nx prev:Int) (e:St):Prop:=prev < e.u∧e.u < nx∧(0≤e.f∧e.f≤31)∧e.t.size≤4000
def last (ms:List St) (k:Nat):Int:=if k=0 then 0 else (ms.getD (k - 1) noS).u
def MGood (ms:List St) (nx:Int) (k:Nat):Prop:=∀ j,j < k→mOK nx (last ms j) (ms.getD j noS)
theorem last_succ (ms:List St) (k:Nat):last ms (k+1)=(ms.getD k noS).u:=by simp [last]
theorem last_pos {ms:List St} {nx:Int}:∀ {k:Nat},MGood ms nx k→0≤last ms k
 | 0,_=>by simp [last]
 | k+1,h=>by
  rw [last_succ]
  have h1:=last_pos (k:=k) (fun j hj=>h j (by omega))
  have h2:=(h k (by omega)).1
  omega
theorem mgood_step {ms:List St} {nx:Int} {k:Nat} (h:MGood ms nx k) {x:St} (hx:ms.getD k noS=x) (hm:mOK nx (last ms k) x):MGood ms nx (k+1):=by
 intro j hj
 by_cases e:j=k
 ·subst e; rw [hx]; exact hm
 ·exact h j (by omega)
def dMail (ms:List St) (nx:Int) (k:Nat):Decidable (MGood ms nx k):=inferInstanceAs (Decidable (∀ j,j < k→last ms j < (ms.getD j noS).u∧(ms.getD j noS).u < nx∧(0≤(ms.getD j noS).f∧(ms.getD j noS).f≤31)∧(ms.getD j noS).t.size≤4000))
def mailsB (ms:List St) (nx:Int):Bool:=@decide (ms.length≤30∧MGood ms nx ms.length) (@instDecidableAnd _ _ _ (dMail ms nx ms.length))
theorem mails_no {ms:List St} {nx:Int} (h:¬ (ms.length≤30∧MGood ms nx ms.length)):mailsB ms nx=false:=ow.df h
theorem mails_yes {ms:List St} {nx:Int} (h:ms.length≤30) (h2:MGood ms nx ms.length):mailsB ms nx=true:=ow.dt ⟨h,h2⟩
theorem mails_of {ms:List St} {nx:Int} (h:mailsB ms nx=true):ms.length≤30∧MGood ms nx ms.length:=ow.dof h
theorem mails_bad {ms:List St} {nx:Int} {k:Nat} (hk:k < ms.length) {x:St} (hx:ms.getD k noS=x) (hm:¬ mOK nx (last ms k) x):mailsB ms nx=false:=mails_no fun h=>hm (hx ▸ h.2 k hk)
def KGood (ks:List ByteArray) (k:Nat):Prop:=∀ j,j < k→1≤(ks.getD j ky.nt).size∧(ks.getD j ky.nt).size≤200
def dKeys (ks:List ByteArray) (k:Nat):Decidable (KGood ks k):=inferInstanceAs (Decidable (∀ j,j < k→1≤(ks.getD j ky.nt).size∧(ks.getD j ky.nt).size≤200))
def keysB (ks:List ByteArray):Bool:=@decide (ks.length≤60∧KGood ks ks.length) (@instDecidableAnd _ _ _ (dKeys ks ks.length))
theorem keys_no {ks:List ByteArray} (h:¬ (ks.length≤60∧KGood ks ks.length)):keysB ks=false:=ow.df h
theorem keys_yes {ks:List ByteArray} (h:ks.length≤60) (h2:KGood ks ks.length):keysB ks=true:=ow.dt ⟨h,h2⟩
theorem keys_of {ks:List ByteArray} (h:keysB ks=true):ks.length≤60∧KGood ks ks.length:=ow.dof h
theorem kgood_step {ks:List ByteArray} {k:Nat} (h:KGood ks k) {x:ByteArray} (hx:ks.getD k ky.nt=x) (hm:1≤x.size∧x.size≤200):KGood ks (k+1):=by
 intro j hj
 by_cases e:j=k
 ·subst e; rw [hx]; exact hm
 ·exact h j (by omega)
def bok (x:Bx):Bool:=mu.nmB x.nm && decide (1≤x.vd∧x.vd≤1000000) && decide (1≤x.nx∧x.nx≤1001) && mailsB x.ms x.nx && decide ((x.ks.length:Int)=x.nx - 1) && keysB x.ks && bk.dist x.ks
set_option maxHeartbeats 2000000 in
set_option maxRecDepth 100000 in
theorem areMails_any (N:Nat) (v:Value) (ms:List St) (nx:Int) (w:World) (h:MailsIn w N v ms) (hN:N≤w.heap.size) (hs:st.Smalls ms) (hnx:In nx) :
  Calls Tryz.prog 148 #[v,.int .i64 nx] w fun e w'=>e=.returned (.bool (mailsB ms nx))∧Below w.heap.size w w':=by
 obtain ⟨a,cap,rfl,h⟩:=h
 obtain ⟨n,hn⟩:∃ n,n=ms.length:=⟨_,rfl⟩
 have HN:Hid (n=ms.length):=hn
 have HH:Hid (ms=[] ∨ ∃ b off,a=some ⟨b,off,none⟩∧b < N∧∀ j,j < ms.length→At3 w b (off+j * 3) (ms.getD j noS)):=h
 have HS:Hid (st.Smalls ms):=hs
 have hl:n≤1048576:=by rw [hn]; exact hs.1
 rw [← hn]
 clear h hs hn hnx
 have HF:Hid (∀ f w,Calls Tryz.prog 56 #[.int .i64 f] w fun e w'=>e=.returned (.bool (mu.fOK f))∧w'=w):=fun f w=>mu.areFlags_any f w
 by_cases g0:30 < n
 ·have g0':(30:Int) < (n:Int):=by omega
  rw [mails_no (by have:=HN.out; omega)]
  go_enter Tryz.func148,Tryz.ntmps148
  go_wp2
  go_ret
  exact ⟨rfl,Below.refl _ _⟩
 have g0':(n:Int)≤30:=by omega
 go_enter Tryz.func148,Tryz.ntmps148
 go_wp2
 go_loopw [5,13] (fun l i wr=>∃ (k:Nat),k≤n∧l=.int .i64 (last ms k)∧i=.int .i64 k∧MGood ms nx k∧Below w.heap.size w wr) (fun _ i _=>n - (intOf i).toNat)
 case atStart=>exact ⟨0,Nat.zero_le _,rfl,rfl,fun j hj=>absurd hj (Nat.not_lt_zero _),Below.refl _ _⟩
 case round =>
  obtain ⟨k,hk,rfl,rfl,hal,hbw⟩:=hrel
  have HAL:Hid (MGood ms nx k):=hal
  clear hal
  obtain ⟨l,hl⟩:∃ l,l=last ms k:=⟨_,rfl⟩
  have HLL:Hid (l=last ms k):=hl
  rw [← hl]
  clear hl
  by_cases hlt:k < n
  ·have hka:k < ms.length:=by rw [← HN.out]; exact hlt
   rcases HH.out with e | ⟨b,off,rfl,_,hcells⟩
   ·rw [e] at hka; simp at hka
   have hat:=(hcells k hka).keep hbw (hcells k hka).lt
   have HKA:Hid (k < ms.length):=hka
   clear hcells hka
   generalize hx:ms.getD k noS=x at hat
   have HX:Hid (ms.getD k noS=x):=hx
   clear hx
   obtain ⟨u,f,t⟩:=x
   obtain ⟨c0,c1,c2⟩:=hat
   simp only at c0 c1 c2
   have hlt':(k:Int) < (n:Int):=by omega
   have hb2:Below w.heap.size w (wr.alloc (.cells #[.int .i64 u,.int .i64 f,.string t] 122)):=hbw.alloc hbw.size _
   have HB:Hid (¬ mOK nx l ⟨u,f,t⟩→mailsB ms nx=false):=fun h=>mails_bad HKA.out HX.out (by rw [← HLL.out]; exact h)
   have HG:Hid (mOK nx l ⟨u,f,t⟩→MGood ms nx (k+1)):=fun h=>mgood_step HAL.out HX.out (by rw [← HLL.out]; exact h)
   have hls:last ms (k+1)=u:=by rw [last_succ,HX.out]
   have HLS:Hid (last ms (k+1)=u):=hls
   clear hls
   clear HAL HX HKA HLL
   by_cases q0:u≤l
   ·have HR:Hid (mailsB ms nx=false):=HB.out (fun x=>by have:=x.1; simp only at this; omega)
    go_wp2
    go_ret
    exact ⟨mu.ret_bool HR.out.symm,hb2⟩
   have q0':l < u:=by omega
   by_cases q1:nx≤u
   ·have HR:Hid (mailsB ms nx=false):=HB.out (fun x=>by have:=x.2.1; simp only at this; omega)
    go_wp2
    go_ret
    exact ⟨mu.ret_bool HR.out.symm,hb2⟩
   have q1':u < nx:=by omega
   by_cases q2:0≤f∧f≤31
   ·have e2:mu.fOK f=true:=decide_eq_true q2
    by_cases q3:t.size≤4000
    ·have q3':(t.size:Int)≤4000:=by omega
     have HR:Hid (MGood ms nx (k+1)):=HG.out ⟨q0',q1',q2,q3⟩
     go_wp2_with (go_at_call 56; refine (HF.out _ _).mono ?_; rintro e w' ⟨rfl,rfl⟩; rw [e2])
     go_roundw
     case rel=>exact ⟨k+1,by omega,by rw [HLS.out],by go_num,HR.out,hb2⟩
     case measure=>simp [intOf]; omega
    ·have q3':(4000:Int) < (t.size:Int):=by omega
     have HR:Hid (mailsB ms nx=false):=HB.out (fun x=>q3 x.2.2.2)
     go_wp2_with (go_at_call 56; refine (HF.out _ _).mono ?_; rintro e w' ⟨rfl,rfl⟩; rw [e2])
     go_ret
     exact ⟨mu.ret_bool HR.out.symm,hb2⟩
   ·have e2:mu.fOK f=false:=decide_eq_false q2
    have HR:Hid (mailsB ms nx=false):=HB.out (fun x=>q2 x.2.2.1)
    go_wp2_with (go_at_call 56; refine (HF.out _ _).mono ?_; rintro e w' ⟨rfl,rfl⟩; rw [e2])
    go_ret
    exact ⟨mu.ret_bool HR.out.symm,hb2⟩
  ·have HR:Hid (mailsB ms nx=true):=mails_yes (by have:=HN.out; omega) (fun j hj=>HAL.out j (by have:=HN.out; omega))
   go_wp2
   go_ret
   exact ⟨mu.ret_bool HR.out.symm,hbw⟩
set_option maxHeartbeats 2000000 in
set_option maxRecDepth 100000 in
theorem areKeys_any (N:Nat) (v:Value) (ks:List ByteArray) (w:World) (h:tx.TextsIn w N v ks) (hs:tx.Smalls ks) :
  Calls Tryz.prog 149 #[v] w fun e w'=>e=.returned (.bool (keysB ks))∧w'=w:=by
 obtain ⟨a,cap,rfl,h⟩:=h
 obtain ⟨n,hn⟩:∃ n,n=ks.length:=⟨_,rfl⟩
 have HN:Hid (n=ks.length):=hn
 have HH:Hid (ks=[] ∨ ∃ b off,a=some ⟨b,off,none⟩∧b < N∧∀ j,j < ks.length→w.cell? ⟨b,off+j,none⟩=some (.string (ks.getD j ky.nt))):=h
 have hl:n≤1048576:=by rw [hn]; exact hs.1
 rw [← hn]
 clear h hs hn
 have HF:Hid (∀ s w,Calls Tryz.prog 102 #[.string s] w fun e w'=>e=.returned (.bool (mu.kOK s.size))∧w'=w):=fun f w=>mu.isKey_any f w
 by_cases g0:60 < n
 ·have g0':(60:Int) < (n:Int):=by omega
  rw [keys_no (by have:=HN.out; omega)]
  go_enter Tryz.func149,Tryz.ntmps149
  go_wp2
  go_ret
  exact ⟨rfl,rfl⟩
 have g0':(n:Int)≤60:=by omega
 go_enter Tryz.func149,Tryz.ntmps149
 go_wp2
 go_loopw [10] (fun i wr=>∃ (k:Nat),k≤n∧i=.int .i64 k∧KGood ks k∧wr=w) (fun i _=>n - (intOf i).toNat)
 case atStart=>exact ⟨0,Nat.zero_le _,rfl,fun j hj=>absurd hj (Nat.not_lt_zero _),rfl⟩
 case round =>
  obtain ⟨k,hk,rfl,hal,rfl⟩:=hrel
  have HAL:Hid (KGood ks k):=hal
  clear hal
  by_cases hlt:k < n
  ·have hka:k < ks.length:=by rw [← HN.out]; exact hlt
   rcases HH.out with e | ⟨b,off,rfl,_,hcells⟩
   ·rw [e] at hka; simp at hka
   have c0:=hcells k hka
   have HKA:Hid (k < ks.length):=hka
   clear hcells hka
   generalize hx:ks.getD k ky.nt=x at c0
   have HX:Hid (ks.getD k ky.nt=x):=hx
   clear hx
   have hlt':(k:Int) < (n:Int):=by omega
   by_cases q:1≤x.size∧x.size≤200
   ·have e2:mu.kOK x.size=true:=decide_eq_true q
    have HR:Hid (KGood ks (k+1)):=kgood_step HAL.out HX.out q
    clear q
    go_wp2_with (go_at_call 102; refine (HF.out _ _).mono ?_; rintro e w' ⟨rfl,rfl⟩; rw [e2])
    go_roundw
    case rel=>exact ⟨k+1,by omega,by go_num,HR.out,by trivial⟩
    case measure=>simp [intOf]; omega
   ·have e2:mu.kOK x.size=false:=decide_eq_false q
    have HR:Hid (keysB ks=false):=keys_no (fun y=>q (HX.out ▸ y.2 k HKA.out))
    clear q
    go_wp2_with (go_at_call 102; refine (HF.out _ _).mono ?_; rintro e w' ⟨rfl,rfl⟩; rw [e2])
    go_ret
    exact ⟨mu.ret_bool HR.out.symm,rfl⟩
  ·have HR:Hid (keysB ks=true):=keys_yes (by have:=HN.out; omega) (fun j hj=>HAL.out j (by have:=HN.out; omega))
   go_wp2
   go_ret
   exact ⟨mu.ret_bool HR.out.symm,rfl⟩
end Go.Proofs.YtnhcbiomkiljpaaGreatDoor.bx
namespace Go.Proofs
open Go.Shelf
def Tryz.laysM316_ren:Go.Shelf.Ren:=⟨fun | 316=>145 | n=>n,fun | 9=>9 | 3=>3 | 4=>4 | 37=>77 | 0=>0 | 127=>200 | 5=>5 | n=>n,fun | n=>n⟩
theorem Tryz.laysM316:Go.Proofs.LaysM.n316 Tryz.prog Tryz.laysM316_ren:={
 mixed:=by kernel_rfl
 f316:=Tryz.func145.trans (congrArg some (by kernel_rfl))
 t0:=Tryz.underlying0
 a0:=Tryz.isAgg0
 z0:=Tryz.sizeOf0
 v0:=Tryz.zeroValue0
 t3:=Tryz.underlying3
 a3:=Tryz.isAgg3
 z3:=Tryz.sizeOf3
 v3:=Tryz.zeroValue3
 t4:=Tryz.underlying4
 a4:=Tryz.isAgg4
 z4:=Tryz.sizeOf4
 v4:=Tryz.zeroValue4
 t9:=Tryz.underlying9
 a9:=Tryz.isAgg9
 z9:=Tryz.sizeOf9
 v9:=Tryz.zeroValue9
 t37:=Tryz.underlying77
 a37:=Tryz.isAgg77
 z37:=Tryz.sizeOf77
 v37:=Tryz.zeroValue77
 t127:=Tryz.underlying200
 a127:=Tryz.isAgg200
 z127:=Tryz.sizeOf200
 v127:=Tryz.zeroValue200
 t5:=Tryz.underlying5
 a5:=Tryz.isAgg5
 z5:=Tryz.sizeOf5
 v5:=Tryz.zeroValue5
 i0:=by kernel_rfl
 i3:=by kernel_rfl
 i4:=by kernel_rfl
 i5:=by kernel_rfl
 i9:=by kernel_rfl
 i37:=by kernel_rfl
 i127:=by kernel_rfl }
open Go.RowKit in
theorem Tryz.stringslite_Clone (s:ByteArray) (w:World) (hlim:s.size≤281474976710656) :
  Calls Tryz.prog 145 #[.string s] w fun e w'=>e=.returned (.string s)∧Below w.heap.size w w':=Any.stringslite_Clone Tryz.laysM316 s w hlim
end Go.Proofs
