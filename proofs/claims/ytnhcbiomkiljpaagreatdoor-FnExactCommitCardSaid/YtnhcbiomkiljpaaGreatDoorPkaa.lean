/-
  Plain facts on rows that a call owns: beside an iterator over a string, behind an append, and turned into a text.
  The laws' own marks: the text of a number; rows of texts, and of entries, marked, and held against the marks.
  Rows of texts: whether a text is among them, of the program's library and of the specification; their comparison by the law's own function.
  Regions that draw their order, whose own operations only read and whose callees make new memory alone: one walk in the order of the text.
  Rows of texts, and of entries, marked by the law's own functions, and held against the marks.
-/
import Derived.WalkKit
import Derived.WalkLawsBesides
import Derived.Lib.OthersKept
import Derived.Laws.Cover4
import Derived.Laws.IdiomStrings
import Derived.Laws.BytesArg
import Derived.Lib.AppendStr
import Derived.Test.YtnhcbiomkiljpaaGreatDoorRows
import Derived.Below
import Derived.BigRegion
import Derived.WideShapes
import Derived.Deep.QuietTactic
import Derived.BigQuiet
import Derived.Lib.Strings
namespace Go.Proofs.YtnhcbiomkiljpaaGreatDoor.ow
open Go.RowKit
set_option linter.unusedVariables false
theorem dt {p:Prop} {d:Decidable p} (h:p):@decide p d=true:=decide_eq_true h
theorem df {p:Prop} {d:Decidable p} (h:¬ p):@decide p d=false:=decide_eq_false h
theorem dof {p:Prop} {d:Decidable p} (h:@decide p d=true):p:=of_decide_eq_true h
def decB (a b:ByteArray):Decidable (a=b):=decidable_of_iff (a.data=b.data) ⟨fun h=>ByteArray.ext h,fun h=>by rw [h]⟩
section
variable {w w' W:World} {base e size n k p:Nat} {v:Value} {xs:List Value} {s:ByteArray}
theorem own_not_iter (h:w.ownsRow base e size v n xs) (hk:w.heap[k]? = some (.stringIter s p)):some k ≠ v.ownBlock:=by
 rcases h.2 with ⟨rfl,_⟩ | ⟨g,cap,cur,rfl,_,c,_⟩
 ·exact fun x=>by cases x
 ·intro x
  have:k=g:=by simpa [Value.ownBlock] using x
  subst this
  rw [hk] at c
  cases c
theorem own_lt (h:w.ownsRow base e size v n xs):∀ j,v.ownBlock=some j→base≤j:=by
 intro j hj
 rcases h.2 with ⟨rfl,_⟩ | ⟨g,cap,cur,rfl,b,c,_⟩
 ·cases hj
 ·have:g=j:=by simpa [Value.ownBlock] using hj
  omega
theorem own_base {base':Nat} (h:w.ownsRow base e size v n xs) (hb:base'≤base):w.ownsRow base' e size v n xs:=by
 obtain ⟨h1,h2⟩:=h
 refine ⟨h1,?_⟩
 rcases h2 with h2 | ⟨g,cap,cur,a,b,c⟩
 ·exact .inl h2
 ·exact .inr ⟨g,cap,cur,a,Nat.le_trans hb b,c⟩
theorem own_below (h:w.ownsRow base e size v n xs) (hb:Below w.heap.size w w'):w'.ownsRow base e size v n xs:=by
 obtain ⟨h1,h2⟩:=h
 refine ⟨h1,?_⟩
 rcases h2 with h2 | ⟨g,cap,cur,a,b,c,d⟩
 ·exact .inl h2
 ·have hlt:g < w.heap.size:=(Array.getElem?_eq_some_iff.1 c).1
  exact .inr ⟨g,cap,cur,a,b,(hb.block g hlt).trans c,d⟩
theorem apart {w2:World} {e2 size2 n2:Nat} {v2:Value} {xs2:List Value} (h:w.ownsRow base e size v n xs) (h2:w2.ownsRow w.heap.size e2 size2 v2 n2 xs2):v.ownBlock=none ∨ v.ownBlock ≠ v2.ownBlock:=by
 rcases h.2 with ⟨rfl,_⟩ | ⟨g,cap,cur,rfl,b,c,d⟩
 ·exact .inl rfl
 ·right
  intro e
  have hlt:g < w.heap.size:=(Array.getElem?_eq_some_iff.1 c).1
  have:=own_lt h2 g e.symm
  omega
theorem after (h:w.ownsRow base e size v n xs) (hk:w.heap[k]? = some (.stringIter s p)) (hb:Below base W w) (hB:base≤w.heap.size) (o:Obj) (hg:(w.alloc o).grownBy w' v.ownBlock) :
  w'.heap[k]? = some (.stringIter s p)∧Below base W w':=by
 have hlt:k < w.heap.size:=(Array.getElem?_eq_some_iff.1 hk).1
 refine ⟨?_,Below.grown (hb.alloc hB _) hg (by simp; omega) (own_lt h)⟩
 rw [hg.block k (by simp; omega) (own_not_iter h hk),Below.heap_alloc _ _ _ hlt]
 exact hk
theorem own_empty (w:World) (t:TypeId):(w.alloc (.cells #[] t)).ownsRow w.heap.size t 1 (.slice (some ⟨w.heap.size,0,none⟩) 0 0) 0 []:=by
 have h1:(w.alloc (.cells #[] t)).heap[w.heap.size]? = some (.cells #[] t):=by
  show (w.heap.push (.cells #[] t))[w.heap.size]? = _
  simp
 exact ⟨rfl,.inr ⟨_,0,#[],rfl,Nat.le_refl _,h1,Nat.le_refl _,Nat.zero_le _,rfl,rfl⟩⟩
theorem cells_new (w:World) (c:List Value) (t:TypeId):∀ j u,c[j]? = some u→(w.alloc (.cells c.toArray t)).cell? ((⟨w.heap.size,0,none⟩:Addr).add j)=some u:=by
 intro j u hj
 have h1:(w.alloc (.cells c.toArray t)).heap[w.heap.size]? = some (.cells c.toArray t):=by
  show (w.heap.push (.cells c.toArray t))[w.heap.size]? = _
  simp
 rw [show ((⟨w.heap.size,0,none⟩:Addr).add j)=⟨w.heap.size,j,none⟩ from by simp [Addr.add]; omega]
 rw [cell_of_row _ _ j _ t _ h1]
 simpa using hj
theorem add_at (g j:Nat):(⟨g,0,none⟩:Addr).add j=⟨g,j,none⟩:=by simp [Addr.add]; omega
theorem cell_new (w:World) (c:List Value) (t:TypeId) (j:Nat) (u:Value) (h:c[j]? = some u):(w.alloc (.cells c.toArray t)).cell? ⟨w.heap.size,j,none⟩=some u:=by
 rw [← add_at]
 exact cells_new w c t j u h
end
section
variable {P:Program} {w:World} {base n:Nat} {src dst e:TypeId} {v:Value}
theorem conv_bytes (l:List UInt8) (h:w.ownsRow base e 1 v n (l.map fun b=>Value.int .u8 (b.toNat:Int)))
  (hs:P.underlying src=some (.slice e)) (he:P.underlying e=some (.int .u8)) (hd:P.underlying dst=some .string) :
  (convert src dst v).run P w=.ok (.string ⟨l.toArray⟩) w:=by
 have hl:l.length=n:=by have:=h.1; simpa using this
 rcases h.2 with ⟨rfl,h0⟩ | ⟨g,cap,cur,rfl,_⟩
 ·have:l=[]:=List.eq_nil_of_length_eq_zero (by omega)
  subst this
  rw [run_convert_bytes_string w src dst e _ _ _ hs he hd]
  rfl
 ·subst hl
  refine run_convert_bytes_back w src dst e ⟨g,0,none⟩ cap l hs he hd (fun j hj=>?_)
  rw [show ((⟨g,0,none⟩:Addr).add j)=⟨g,j,none⟩ from by simp [Addr.add]; omega,h.cellAt j (by omega)]
  simp [hj]
theorem slice_str (t:TypeId) (s:ByteArray) (k k':IntKind) (p q:Nat) (h:P.underlying t=some .string) (i j:Int) (hi:i=p) (hj:j=q) (h1:p≤q) (h2:q≤s.size) (wx:World) :
  (Instr.slice t (.string s) (some (.int k i)) (some (.int k' j)) none).run P wx=.ok (.string (s.extract p q)) wx:=by
 subst hi hj
 rw [run_slice_string (P:=P) (w:=wx) t s k k' _ _ h (by omega) (by omega) (by omega)]
 rfl
end
def Reads (k:IntKind) (w:World) (v:Value) (zs:List Int):Prop :=
 ∃ (a:Option Addr) (cap:Nat),v=.slice a zs.length cap∧(zs=[] ∨ ∃ b off,a=some ⟨b,off,none⟩∧∀ j,j < zs.length→w.cell? ⟨b,off+j,none⟩=some (.int k (zs.getD j 0)))
theorem reads_keep {k:IntKind} {w w':World} {v:Value} {zs:List Int} (h:Reads k w v zs) (hc:∀ a u,w.cell? a=some u→w'.cell? a=some u):Reads k w' v zs:=by
 obtain ⟨a,cap,rfl,h⟩:=h
 refine ⟨a,cap,rfl,?_⟩
 rcases h with h | ⟨b,off,rfl,h⟩
 ·exact .inl h
 ·exact .inr ⟨b,off,rfl,fun j hj=>hc _ _ (h j hj)⟩
theorem grown_trans {a b c:World} {row:Option Nat} (h:a.grownBy b row) (k:b.grownBy c row):a.grownBy c row :=
 ⟨k.os.trans h.os,k.tape.trans h.tape,k.output.trans h.output,Nat.le_trans h.size k.size,fun i hi hr=>(k.block i (Nat.lt_of_lt_of_le hi h.size) hr).trans (h.block i hi hr)⟩
theorem grown_refl (a:World) (row:Option Nat):a.grownBy a row:=⟨rfl,rfl,rfl,Nat.le_refl _,fun _ _ _=>rfl⟩
theorem grown_below {w w1:World} {row:Option Nat} (h:Below w.heap.size w w1):w.grownBy w1 row:=⟨h.os,h.tape,h.output,h.size,fun k hk _=>h.block k hk⟩
end Go.Proofs.YtnhcbiomkiljpaaGreatDoor.ow
namespace Go.Proofs.YtnhcbiomkiljpaaGreatDoor.mk
open Go.RowKit
set_option linter.unusedVariables false
theorem conv_part {P:Program} {w:World} {src dst e:TypeId} {g cap:Nat} (l:List UInt8) (hs:P.underlying src=some (.slice e)) (he:P.underlying e=some (.int .u8)) (hd:P.underlying dst=some .string)
  (hc:∀ j,j < l.length→w.cell? ⟨g,j,none⟩=some (.int .u8 ((l.getD j 0).toNat:Int))):(convert src dst (.slice (some ⟨g,0,none⟩) l.length cap)).run P w=.ok (.string ⟨l.toArray⟩) w:=by
 refine run_convert_bytes_back w src dst e ⟨g,0,none⟩ cap l hs he hd (fun j hj=>?_)
 rw [show ((⟨g,0,none⟩:Addr).add j)=⟨g,j,none⟩ from by simp [Addr.add]; omega,hc j hj]
 simp [List.getD_eq_getElem?_getD,hj]
def ch (k:Int):UInt8:=UInt8.ofNat (48+(k % 10).toNat)
def dgs:Nat→Int→ByteArray→ByteArray
 | 0,_,o=>o
 | f+1,k,o=>if k≤0 then o else dgs f (k / 10) (⟨#[ch k]⟩ ++ o)
def mt (k:Int):ByteArray:=⟨#[109]⟩ ++ dgs 30 k ⟨#[]⟩
theorem dgs_end {f:Nat} {k:Int} {o:ByteArray} (h:k≤0):dgs f k o=o:=by
 cases f with
 | zero=>rfl
 | succ f=>simp [dgs,h]
theorem dgs_step {f:Nat} {k:Int} {o:ByteArray} (h:0 < k):dgs (f+1) k o=dgs f (k / 10) (⟨#[ch k]⟩ ++ o):=by
 rw [dgs,if_neg (by omega)]
theorem ch_num (k:Int) (h:0≤k):((ch k).toNat:Int)=48+k % 10:=by
 unfold ch
 rw [UInt8.toNat_ofNat']
 omega
theorem fuel_pos {f:Nat} {k:Int} (h:0 < k) (hf:k < 2 ^ f):∃ g,f=g+1:=by
 cases f with
 | zero=>simp at hf; omega
 | succ g=>exact ⟨g,rfl⟩
theorem fuel_next {g:Nat} {k:Int} (h:0 < k) (hf:k < 2 ^ (g+1)):k / 10 < 2 ^ g:=by
 rw [Int.pow_succ] at hf
 generalize (2:Int) ^ g=x at hf ⊢
 omega
theorem one_cell (w:World) (c:UInt8):∀ i,i < [c].length→(w.alloc (.cells #[.int .u8 (c.toNat:Int)] 5)).cell? ⟨w.heap.size,i,none⟩=some (.int .u8 (([c].getD i 0).toNat:Int)):=by
 intro i hi
 have:i=0:=by simpa using hi
 subst this
 exact ow.cell_new w [.int .u8 (c.toNat:Int)] 5 0 _ rfl
set_option maxHeartbeats 1000000 in
set_option maxRecDepth 100000 in
theorem mark_any (k:Int) (w:World) (h0:0 < k) (h1:k≤100000000) :
  Calls Tryz.prog 60 #[.int .i64 k] w fun e w'=>e=.returned (.string (mt k))∧Below w.heap.size w w':=by
 go_enter Tryz.func60,Tryz.ntmps60
 go_wp2
 go_loopw [0,3] (fun i o wr=>∃ (f:Nat) (j:Int) (s:ByteArray),i=.int .i64 j∧o=.string s∧0≤j∧j≤100000000∧j < 2 ^ f∧s.size+f≤30∧dgs f j s=dgs 30 k ⟨#[]⟩∧Below w.heap.size w wr) (fun i _ _=>(intOf i).toNat)
 case atStart=>exact ⟨30,k,⟨#[]⟩,rfl,rfl,by omega,h1,by omega,by show 0+30≤30; omega,rfl,Below.refl _ _⟩
 case round =>
  obtain ⟨f,j,s,rfl,rfl,hj0,hj1,hf,hsz,hd,hbw⟩:=hrel
  by_cases hj:0 < j
  ·obtain ⟨g,rfl⟩:=fuel_pos hj hf
   have hf2:=fuel_next hj hf
   have HF:Hid (j / 10 < 2 ^ g):=hf2
   have HD:Hid (dgs g (j / 10) (⟨#[ch j]⟩ ++ s)=dgs 30 k ⟨#[]⟩):=(dgs_step hj).symm.trans hd
   have hmod:j.tmod 10=j % 10:=by rw [Int.tmod_eq_emod_of_nonneg hj0]
   have hdiv:j.tdiv 10=j / 10:=by rw [Int.tdiv_eq_ediv_of_nonneg hj0]
   have hw:IntKind.u8.wrap (48+j % 10)=((ch j).toNat:Int):=by
    rw [ch_num j hj0]
    have h256:(2:Int) ^ IntKind.u8.bits=256:=rfl
    unfold IntKind.wrap
    simp only [h256,show IntKind.u8.signed=false from rfl,Bool.false_and,Bool.false_eq_true,if_false]
    omega
   have hcv:=conv_part (P:=Tryz.prog) (w:=wr.alloc (.cells #[.int .u8 ((ch j).toNat:Int)] 5)) (g:=wr.heap.size) (cap:=1) [ch j] Tryz.underlying77 Tryz.underlying5 Tryz.underlying9 (one_cell wr (ch j))
   rw [List.length_singleton] at hcv
   clear hf hf2 hd
   have hm0:0≤j % 10:=by omega
   have hm1:j % 10 < 10:=by omega
   go_wp2
   go_roundw
   case rel=>exact ⟨g,j / 10,⟨#[ch j]⟩ ++ s,rfl,rfl,by omega,by omega,HF.out,by rw [ByteArray.size_append]; show 1+s.size+g≤30; omega,HD.out,hbw.alloc hbw.size _⟩
   case measure=>simp [intOf]; omega
  ·have HD:Hid (s=dgs 30 k ⟨#[]⟩):=(dgs_end (by omega)).symm.trans hd
   clear hd hf
   go_wp2
   go_ret
   exact ⟨by rw [mt,← HD.out]; rfl,hbw⟩
end Go.Proofs.YtnhcbiomkiljpaaGreatDoor.mk
namespace Go.Proofs.YtnhcbiomkiljpaaGreatDoor.ky
open Go.RowKit
set_option linter.unusedVariables false
def nt:ByteArray:=⟨#[]⟩
def TextsAt (w:World) (v:Value) (ks:List ByteArray):Prop :=
 ∃ a cap,v=.slice a ks.length cap∧(ks=[] ∨ ∃ b off,a=some ⟨b,off,none⟩∧∀ j,j < ks.length→w.cell? ⟨b,off+j,none⟩=some (.string (ks.getD j nt)))
theorem texts_below {w w':World} {v:Value} {ks:List ByteArray} (h:TextsAt w v ks) (hb:Below w.heap.size w w'):TextsAt w' v ks:=by
 obtain ⟨a,cap,rfl,h⟩:=h
 refine ⟨a,cap,rfl,?_⟩
 rcases h with h | ⟨b,off,rfl,h⟩
 ·exact .inl h
 ·exact .inr ⟨b,off,rfl,fun j hj=>(hb.cell (p:=⟨b,off+j,none⟩) (World.block_lt_of_cell? w _ (h j hj))).trans (h j hj)⟩
def OwnT (w:World) (base:Nat) (v:Value) (ks:List ByteArray):Prop:=w.ownsRow base 9 1 v ks.length (ks.map Value.string)
theorem own_texts {w:World} {base:Nat} {v:Value} {ks:List ByteArray} (h:OwnT w base v ks):TextsAt w v ks:=by
 rcases h.2 with ⟨rfl,h0⟩ | ⟨g,cap,cur,rfl,_⟩
 ·obtain rfl:=List.eq_nil_of_length_eq_zero h0
  exact ⟨none,0,rfl,.inl rfl⟩
 ·refine ⟨_,cap,rfl,.inr ⟨g,0,rfl,fun j hj=>?_⟩⟩
  rw [Nat.zero_add,h.cellAt j (by omega)]
  simp [List.getD_eq_getElem?_getD,hj]
theorem ne_list {a b:ByteArray} (h:a ≠ b):(a.toList == b.toList)=false:=beq_eq_false_iff_ne.2 fun e=>h (WideShapes.bytes_inj (by rw [← Lib.toList_data,← Lib.toList_data]; exact e))
theorem get_in {ks:List ByteArray} {j:Nat} (h:j < ks.length):ks.getD j nt ∈ ks:=by rw [List.getD_eq_getElem?_getD,List.getElem?_eq_getElem h]; exact List.getElem_mem h
theorem not_in {ks:List ByteArray} {s:ByteArray} (h:∀ j,j < ks.length→ks.getD j nt ≠ s):s ∉ ks:=by
 intro hm
 obtain ⟨j,hj,e⟩:=List.mem_iff_getElem.1 hm
 apply h j hj
 rw [List.getD_eq_getElem?_getD,List.getElem?_eq_getElem hj]
 exact e
def has (ks:List ByteArray) (s:ByteArray):Bool:=decide (s.data ∈ ks.map fun k=>k.data)
theorem has_of {ks:List ByteArray} {s:ByteArray} (h:has ks s=true):s ∈ ks:=by
 obtain ⟨x,hx,e⟩:=List.mem_map.1 (of_decide_eq_true h)
 exact ByteArray.ext e ▸ hx
theorem has_yes {ks:List ByteArray} {s:ByteArray} (h:s ∈ ks):has ks s=true:=decide_eq_true (List.mem_map.2 ⟨s,h,rfl⟩)
theorem has_no {ks:List ByteArray} {s:ByteArray} (h:s ∉ ks):has ks s=false:=by
 cases e:has ks s
 ·rfl
 ·exact absurd (has_of e) h
set_option maxHeartbeats 1000000 in
set_option maxRecDepth 100000 in
theorem spec_has (v:Value) (ks:List ByteArray) (s:ByteArray) (w:World) (h:TextsAt w v ks) (hn:ks.length≤1048576) :
  Calls Tryz.prog 85 #[v,.string s] w fun e w'=>e=.returned (.bool (has ks s))∧w'=w:=by
 obtain ⟨a,cap,rfl,hh⟩:=h
 obtain ⟨m,hm⟩:∃ m,m=ks.length:=⟨_,rfl⟩
 have HN:Hid (m=ks.length):=hm
 have HH:Hid (ks=[] ∨ ∃ b off,a=some ⟨b,off,none⟩∧∀ j,j < ks.length→w.cell? ⟨b,off+j,none⟩=some (.string (ks.getD j nt))):=hh
 rw [← hm] at hn ⊢
 clear hh hm
 go_enter Tryz.func85,Tryz.ntmps85
 go_wp2
 go_loop [5] (fun i=>∃ j:Nat,j≤m∧i=.int .i64 j∧∀ x,x < j→ks.getD x nt ≠ s) (fun i=>m - (intOf i).toNat)
 case atStart=>exact ⟨0,Nat.zero_le _,rfl,fun j hj=>absurd hj (Nat.not_lt_zero _)⟩
 case round =>
  obtain ⟨j,hj,rfl,hg⟩:=hrel
  have HG:Hid (∀ x,x < j→ks.getD x nt ≠ s):=hg
  clear hg
  by_cases hlt:j < m
  ·have hka:j < ks.length:=by rw [← HN.out]; exact hlt
   rcases HH.out with e | ⟨b,off,rfl,hcells⟩
   ·rw [e] at hka; simp at hka
   have c0:=hcells j hka
   have HM:Hid (ks.getD j nt ∈ ks):=get_in hka
   clear hcells hka
   generalize hx:ks.getD j nt=x at c0 HM
   have HX:Hid (ks.getD j nt=x):=hx
   clear hx
   by_cases hs:x=s
   ·have hs':(x.toList == s.toList)=true:=by rw [hs]; simp
    have HR:Hid (has ks s=true):=has_yes (hs ▸ HM.out)
    clear hs
    go_wp2
    go_ret
    exact ⟨by rw [HR.out]; rfl,rfl⟩
   ·have hs':(x.toList == s.toList)=false:=ne_list hs
    have HS:Hid (x ≠ s):=hs
    clear hs
    go_wp2
    go_round
    case rel=>exact ⟨j+1,by omega,by go_num,fun y hy=>by by_cases hyj:y=j; subst hyj; rw [HX.out]; exact HS.out; exact HG.out y (by omega)⟩
    case measure=>simp [intOf]; omega
  ·have HR:Hid (has ks s=false):=has_no (not_in fun y hy=>HG.out y (by have:=HN.out; omega))
   go_wp2
   go_ret
   exact ⟨by rw [HR.out]; rfl,rfl⟩
set_option maxHeartbeats 1000000 in
set_option maxRecDepth 100000 in
theorem eqTexts_any (v u:Value) (ks:List ByteArray) (w:World) (h1:TextsAt w v ks) (h2:TextsAt w u ks) (hn:ks.length≤1048576) :
  Calls Tryz.prog 105 #[v,u] w fun e w'=>e=.returned (.bool true)∧Below w.heap.size w w':=by
 obtain ⟨a,cap,rfl,h1⟩:=h1
 obtain ⟨c,cap2,rfl,h2⟩:=h2
 obtain ⟨n,hn'⟩:∃ n,n=ks.length:=⟨_,rfl⟩
 have HN:Hid (n=ks.length):=hn'
 have H1:Hid (ks=[] ∨ ∃ b off,a=some ⟨b,off,none⟩∧∀ j,j < ks.length→w.cell? ⟨b,off+j,none⟩=some (.string (ks.getD j nt))):=h1
 have H2:Hid (ks=[] ∨ ∃ b off,c=some ⟨b,off,none⟩∧∀ j,j < ks.length→w.cell? ⟨b,off+j,none⟩=some (.string (ks.getD j nt))):=h2
 rw [← hn'] at hn ⊢
 clear h1 h2 hn'
 have hnn:((n:Int) != (n:Int))=false:=by simp
 go_enter Tryz.func105,Tryz.ntmps105
 go_wp2
 go_loopw [5] (fun i wr=>∃ k:Nat,k≤n∧i=.int .i64 k∧Below w.heap.size w wr) (fun i _=>n - (intOf i).toNat)
 case atStart=>exact ⟨0,Nat.zero_le _,rfl,Below.refl _ _⟩
 case round =>
  obtain ⟨k,hk,rfl,hbw⟩:=hrel
  by_cases hlt:k < n
  ·have hka:k < ks.length:=by rw [← HN.out]; exact hlt
   rcases H1.out with e | ⟨b,off,rfl,hcells⟩
   ·rw [e] at hka; simp at hka
   rcases H2.out with e | ⟨b2,off2,rfl,hcells2⟩
   ·rw [e] at hka; simp at hka
   have v0:=hcells k hka
   have u0:=hcells2 k hka
   have c0:=(hbw.cell (p:=⟨b,off+k,none⟩) (World.block_lt_of_cell? w _ v0)).trans v0
   have d0:=(hbw.cell (p:=⟨b2,off2+k,none⟩) (World.block_lt_of_cell? w _ u0)).trans u0
   clear hcells hka hcells2 v0 u0
   generalize ks.getD k nt=x at c0 d0
   have hxx:(x.toList == x.toList)=true:=by simp
   have hlt':(k:Int) < (n:Int):=by omega
   have hk0:(0:Int)≤(k:Int):=by omega
   go_wp2
   go_quiet (fail)
   have b3:Below w.heap.size w (wr.drewN nq):=⟨hbw.os,hbw.tape,hbw.output,hbw.size,hbw.block⟩
   clear c0 d0
   go_wp2
   go_roundw
   case rel=>exact ⟨k+1,by omega,by go_num,b3⟩
   case measure=>simp [intOf]; omega
  ·go_wp2
   go_ret
   exact ⟨rfl,hbw⟩
end Go.Proofs.YtnhcbiomkiljpaaGreatDoor.ky
namespace Go.Proofs.YtnhcbiomkiljpaaGreatDoor.gr
open Go.RowKit
set_option linter.unusedVariables false
def Ext (w:World):Type:={ x:World // Below w.heap.size w x }
def gw {w:World} (x:Ext w):World:=x.1
section
variable {P:Program} {w:World}
theorem gw_below (x:Ext w):Below w.heap.size w (gw x):=x.2
theorem ext_some (w:World):Nonempty (Ext w):=⟨⟨w,Below.refl _ _⟩⟩
theorem gw_cell (x:Ext w) {p:Addr} {v:Value} (h:w.cell? p=some v):(gw x).cell? p=some v:=(x.2.cell (World.block_lt_of_cell? w _ h)).trans h
theorem region_lit {id:Nat} {Q:Exit→Act→World→Prop} {a:Act} {l:List Oper} (hm:P.follows .mixedOrders=true) (hB:Region.lexB .any l.toArray=true)
  (h:wpQuiet P l.toArray (fun w'=>∃ x:Ext w,w'=gw x) (fun a'=>∀ w',(∃ x:Ext w,w'=gw x)→Q .normal a' w') l a):(Code.region id l.toArray true).wp P Q a w :=
 wp_region_quiet (C:=fun w'=>∃ x:Ext w,w'=gw x) hm hB ⟨⟨_,(Below.refl _ w).drew⟩,rfl⟩ (by simpa using h)
theorem grow_of {f:FuncId} {args:Array Value} {x:Ext w} {v:Value} (h:Calls P f args (gw x) fun e w'=>e=.returned v∧Below (gw x).heap.size (gw x) w') :
  Calls P f args (gw x) fun e w''=>e=.returned v∧∃ y:Ext w,w''=gw y :=
 h.mono fun e w' ⟨he,hb⟩=>⟨he,⟨w',(gw_below x).trans (hb.mono (gw_below x).size)⟩,rfl⟩
end
end Go.Proofs.YtnhcbiomkiljpaaGreatDoor.gr
namespace Go.Proofs.YtnhcbiomkiljpaaGreatDoor.mk
open Go.RowKit
open ky gr
set_option linter.unusedVariables false
def marks (k:Int) (n:Nat):List ByteArray:=(List.range n).map fun (i:Nat)=>mt (k+(i:Int))
theorem marks_len (k:Int) (n:Nat):(marks k n).length=n:=by simp [marks]
theorem marks_get {k:Int} {n j:Nat} (h:j < n):(marks k n).getD j nt=mt (k+(j:Int)):=by simp [marks,List.getD_eq_getElem?_getD,h]
theorem grown_set (w:World) (g j:Nat) (u:Value):w.grownBy (w.setCell ⟨g,j,none⟩ u) (some g) :=
 ⟨rfl,rfl,rfl,by simp [World.setCell],fun i hi hr=>heap_setCell_other w ⟨g,j,none⟩ i u (fun e=>hr (by rw [e]))⟩
def Upto (k:Int) (j:Nat) (xs:List Value):Prop:=∀ i,i < j→xs[i]? = some (.string (mt (k+(i:Int))))
theorem upto_step {k:Int} {j:Nat} {xs:List Value} (h:Upto k j xs) (hl:j < xs.length):Upto k (j+1) (xs.set j (.string (mt (k+(j:Int))))):=by
 intro i hi
 by_cases e:i=j
 ·subst e; rw [List.getElem?_set_self hl]
 ·rw [List.getElem?_set_ne (by omega)]; exact h i (by omega)
theorem upto_all {k:Int} {n:Nat} {xs:List Value} (h:Upto k n xs) (hl:xs.length=n):xs=(marks k n).map Value.string:=by
 refine List.ext_getElem? fun i=>?_
 by_cases hi:i < n
 ·rw [h i hi]; simp [marks,hi]
 ·rw [List.getElem?_eq_none (by omega),List.getElem?_eq_none (by simp [marks]; omega)]
set_option maxHeartbeats 1000000 in
set_option maxRecDepth 100000 in
theorem markTexts_any (v:Value) (base:Nat) (ks:List ByteArray) (k:Int) (w:World) (h:OwnT w base v ks) (hn:ks.length≤1048576) (h0:0 < k) (h1:k≤10000000) :
  Calls Tryz.prog 62 #[v,.int .i64 k] w fun e w'=>e=.returned (.int .i64 (k+(ks.length:Int)))∧OwnT w' base v (marks k ks.length)∧w.grownBy w' v.ownBlock:=by
 unfold OwnT at h
 have hxl:=h.1
 have HO:Hid (w.ownsRow base 9 1 v ks.length (ks.map Value.string)):=h
 obtain ⟨n,hn'⟩:∃ n,n=ks.length:=⟨_,rfl⟩
 rcases h.2 with ⟨rfl,hz⟩ | ⟨g,cap,cur,rfl,_⟩
 ·have HZ:Hid (ks.length=0):=hz
  have HM:Hid (OwnT w base (.slice none 0 0) (marks k ks.length)):=by
   show w.ownsRow _ _ _ _ _ _
   rw [marks_len,hz]
   exact World.ownsRow_nil _ _ _ _
  rw [hz]
  clear h hz hn hn' hxl
  go_enter Tryz.func62,Tryz.ntmps62
  go_wp2
  go_loop [1,5] (fun z i=>z=.int .i64 k∧i=.int .i64 0) (fun _ _=>0)
  case atStart=>exact ⟨rfl,rfl⟩
  case round =>
   obtain ⟨rfl,rfl⟩:=hrel
   go_wp2
   go_ret
   refine ⟨by simp,?_,ow.grown_refl _ _⟩
   have:=HM.out
   rwa [HZ.out] at this
 have HN:Hid (n=ks.length):=hn'
 generalize hxs:ks.map Value.string=xs0 at HO hxl
 rw [← hn'] at hn HO hxl ⊢
 clear h hxs hn'
 go_enter Tryz.func62,Tryz.ntmps62
 go_wp2
 go_loopw [1,5] (fun z i wr=>∃ (j:Nat) (xs:List Value),j≤n∧z=.int .i64 (k+(j:Int))∧i=.int .i64 j∧xs.length=n∧Upto k j xs∧wr.ownsRow base 9 1 (.slice (some ⟨g,0,none⟩) n cap) n xs∧w.grownBy wr (some g)) (fun _ i _=>n - (intOf i).toNat)
 case atStart=>exact ⟨0,xs0,Nat.zero_le _,by simp,rfl,by omega,fun i hi=>absurd hi (Nat.not_lt_zero _),HO.out,ow.grown_refl _ _⟩
 case round =>
  obtain ⟨j,xs,hj,rfl,rfl,hxl,hu,hown,hgr⟩:=hrel
  have HU:Hid (Upto k j xs):=hu
  have HL:Hid (xs.length=n):=hxl
  have HG:Hid (w.grownBy wr (some g)):=hgr
  clear hu hxl hgr
  by_cases hlt:j < n
  ·have hlt':(j:Int) < (n:Int):=by omega
   have hj0:(0:Int)≤(j:Int):=by omega
   go_wp2_with fail
   refine (mark_any (k+(j:Int)) wr (by omega) (by omega)).mono ?_
   rintro e w2 ⟨rfl,hb2⟩
   have hown2:=ow.own_below hown hb2
   have HG2:Hid (w.grownBy w2 (some g)):=ow.grown_trans HG.out (ow.grown_below hb2)
   have HO2:Hid (w2.ownsRow base 9 1 (.slice (some ⟨g,0,none⟩) n cap) n xs):=hown2
   have q0:=hown2.cellAt j (by omega)
   rw [List.getElem?_eq_getElem (by rw [HL.out]; omega)] at q0
   have f0:=hown2.frozenAt j
   clear hown2 hown HG hb2
   generalize xs[j]'(by rw [HL.out]; omega)=u0 at q0
   go_wp2
   go_roundw
   case rel=>exact ⟨j+1,xs.set j (.string (mt (k+(j:Int)))),by omega,by go_num,by go_num,by rw [List.length_set]; exact HL.out,upto_step HU.out (by rw [HL.out]; omega),(HO2.out.stored _ _).1,ow.grown_trans HG2.out (grown_set _ _ _ _)⟩
   case measure=>simp [intOf]; omega
  ·obtain rfl:j=n:=by omega
   have HX:Hid (xs=(marks k j).map Value.string):=upto_all HU.out HL.out
   go_wp2
   go_ret
   refine ⟨rfl,?_,HG.out⟩
   unfold OwnT
   rw [marks_len,← HX.out]
   exact hown
set_option maxHeartbeats 1000000 in
set_option maxRecDepth 100000 in
theorem heldTexts_any (v:Value) (n:Nat) (k:Int) (w:World) (h:TextsAt w v (marks k n)) (hn:n≤1048576) (h0:0 < k) (h1:k≤10000000) :
  Calls Tryz.prog 64 #[v,.int .i64 k] w fun e w'=>e=.returned (.int .i64 (k+(n:Int)))∧Below w.heap.size w w':=by
 obtain ⟨a,cap,rfl,h1'⟩:=h
 have H1:Hid (marks k n=[] ∨ ∃ b off,a=some ⟨b,off,none⟩∧∀ j,j < (marks k n).length→w.cell? ⟨b,off+j,none⟩=some (.string ((marks k n).getD j nt))):=h1'
 rw [marks_len]
 clear h1'
 go_enter Tryz.func64,Tryz.ntmps64
 go_wp2
 go_loopw [1,5] (fun z i wr=>∃ j:Nat,j≤n∧z=.int .i64 (k+(j:Int))∧i=.int .i64 j∧Below w.heap.size w wr) (fun _ i _=>n - (intOf i).toNat)
 case atStart=>exact ⟨0,Nat.zero_le _,by simp,rfl,Below.refl _ _⟩
 case round =>
  obtain ⟨j,hj,rfl,rfl,hbw⟩:=hrel
  by_cases hlt:j < n
  ·have hka:j < (marks k n).length:=by rw [marks_len]; exact hlt
   rcases H1.out with e | ⟨b,off,rfl,hcells⟩
   ·rw [e] at hka; simp at hka
   have v0:=hcells j hka
   rw [marks_get hlt] at v0
   have c0:=(hbw.cell (p:=⟨b,off+j,none⟩) (World.block_lt_of_cell? w _ v0)).trans v0
   clear hcells hka v0
   have HM:Hid (∀ w,Calls Tryz.prog 60 #[.int .i64 (k+(j:Int))] w fun e w'=>e=.returned (.string (mt (k+(j:Int))))∧Below w.heap.size w w'):=fun w=>mark_any _ w (by omega) (by omega)
   generalize mt (k+(j:Int))=x at c0 HM
   have hxx:(x.toList == x.toList)=true:=by simp
   have hlt':(j:Int) < (n:Int):=by omega
   have hk0:(0:Int)≤(j:Int):=by omega
   go_wp2_with fail
   have ne:=ext_some wr
   have c0:=fun y:Ext wr=>gw_cell y c0
   refine region_lit (by kernel_rfl) (by kernel_rfl) ?_
   repeat (go_big_quiet_step ((go_at_call 60; exact grow_of (HM.out _))))
   refine wpQuiet_nil ?_
   rintro W' ⟨y,rfl⟩
   have b3:=hbw.trans ((gw_below y).mono hbw.size)
   generalize gw y=W' at b3 ⊢
   clear c0 hbw HM
   go_wp2
   go_roundw
   case rel=>exact ⟨j+1,by omega,by go_num,by go_num,b3⟩
   case measure=>simp [intOf]; omega
  ·obtain rfl:j=n:=by omega
   go_wp2
   go_ret
   exact ⟨rfl,hbw⟩
end Go.Proofs.YtnhcbiomkiljpaaGreatDoor.mk
