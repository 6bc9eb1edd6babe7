/-
  The flags of one mail of a box, changed in its own row: the row that it leaves.
  clear of a slice whose elements have three cells.
-/
import Derived.Test.YtnhcbiomkiljpaaGreatDoorPkal
import Derived.Deep.RegionWith
import Derived.Test.YtnhcbiomkiljpaaGreatDoorPkac
import Derived.Lib.SliceRun
namespace Go.Proofs.YtnhcbiomkiljpaaGreatDoor.bl
open Go.ChangeShapes Go.WideShapes Go.ChangeAt Go.RowKit Go.Deep Go.Joins
open st gr bx mx
set_option linter.unusedVariables false
def flg (mode was f:Int):Int:=if mode=1 then f else if mode=2 then bits .or .i64 was f else bits .andNot .i64 was f
theorem flg_set {mode was f:Int} (h:mode=1):flg mode was f=f:=by rw [flg,if_pos h]
theorem flg_add {mode was f:Int} (h:mode=2):flg mode was f=bits .or .i64 was f:=by rw [flg,if_neg (by omega),if_pos h]
theorem flg_less {mode was f:Int} (h:mode=3):flg mode was f=bits .andNot .i64 was f:=by rw [flg,if_neg (by omega),if_neg (by omega)]
theorem put5w_new {w x:World} {r:Option Nat} {G:Nat} {a b c d e:Value} (h:w.grownBy x r) (hG:w.heap.size≤G):w.grownBy (put5w x G a b c d e) r :=
 ⟨(put5w_grown x G a b c d e).os.trans h.os,(put5w_grown x G a b c d e).tape.trans h.tape,(put5w_grown x G a b c d e).output.trans h.output,Nat.le_trans h.size (put5w_grown x G a b c d e).size,fun k hk hr=>((put5w_grown x G a b c d e).block k (Nat.lt_of_lt_of_le hk h.size) (by intro e; cases e; omega)).trans (h.block k hk hr)⟩
def setF (ms:List St) (i:Nat) (f:Int):List St:=ms.set i ⟨(ms.getD i noS).u,f,(ms.getD i noS).t⟩
theorem setF_len (ms:List St) (i:Nat) (f:Int):(setF ms i f).length=ms.length:=by simp [setF]
theorem setF_at {ms:List St} {i j:Nat} {f:Int} (hi:i < ms.length):(setF ms i f).getD j noS=if j=i then ⟨(ms.getD i noS).u,f,(ms.getD i noS).t⟩ else ms.getD j noS:=by
 unfold setF
 by_cases e:j=i
 ·subst e
  rw [if_pos rfl]
  simp [List.getD_eq_getElem?_getD,hi]
 ·rw [if_neg e]
  simp only [List.getD_eq_getElem?_getD]
  rw [List.getElem?_set_ne (Ne.symm e)]
theorem mc_ext {ms:List St} {cs:List Value} (hl:cs.length=ms.length * 3) (h:∀ j,j < ms.length→In3 cs (j * 3) (ms.getD j noS)):cs=mc ms:=by
 refine List.ext_getElem? fun i=>?_
 by_cases hi:i < ms.length * 3
 ·have hq:i / 3 < ms.length:=by omega
  obtain ⟨a0,a1,a2⟩:=h (i / 3) hq
  obtain ⟨b0,b1,b2⟩:=mc_at ms (i / 3) hq
  have hr:i % 3=0 ∨ i % 3=1 ∨ i % 3=2:=by omega
  rcases hr with hr | hr | hr
  ·rw [show i=i / 3 * 3 by omega,a0,b0]
  ·rw [show i=i / 3 * 3+1 by omega,a1,b1]
  ·rw [show i=i / 3 * 3+2 by omega,a2,b2]
 ·rw [List.getElem?_eq_none (by omega),List.getElem?_eq_none (by rw [mc_len]; omega)]
theorem mc_setF {ms:List St} {i:Nat} {f:Int} (hi:i < ms.length):(mc ms).set (i * 3+1) (.int .i64 f)=mc (setF ms i f):=by
 refine mc_ext (by rw [List.length_set,mc_len,setF_len]) fun j hj=>?_
 rw [setF_len] at hj
 rw [setF_at hi]
 obtain ⟨b0,b1,b2⟩:=mc_at ms j hj
 by_cases e:j=i
 ·subst e
  rw [if_pos rfl]
  refine ⟨?_,?_,?_⟩
  ·rw [List.getElem?_set_ne (by omega)]; exact b0
  ·rw [List.getElem?_set_self (by rw [mc_len]; omega)]
  ·rw [List.getElem?_set_ne (by omega)]; exact b2
 ·rw [if_neg e]
  refine ⟨?_,?_,?_⟩
  ·rw [List.getElem?_set_ne (by omega)]; exact b0
  ·rw [List.getElem?_set_ne (by omega)]; exact b1
  ·rw [List.getElem?_set_ne (by omega)]; exact b2
theorem ownM_setF {w:World} {base g n c i:Nat} {ms:List St} (h:OwnM w base (.slice (some ⟨g,0,none⟩) n c) ms) (hi:i < ms.length) (f:Int):OwnM (w.setCell ⟨g,i * 3+1,none⟩ (.int .i64 f)) base (.slice (some ⟨g,0,none⟩) n c) (setF ms i f):=by
 have h':w.ownsRow base 122 3 (.slice (some ⟨g,0,none⟩) n c) ms.length (mc ms):=h
 obtain rfl:n=ms.length:=by
  rcases h'.2 with ⟨e,_⟩ | ⟨g',cap,cur,e,_⟩
  ·cases e
  ·cases e; rfl
 have h2:=(h'.stored (i * 3+1) (.int .i64 f)).1
 rw [mc_setF hi] at h2
 unfold OwnM
 rw [setF_len]
 exact h2
def Wf (y:Bx) (m:mu.Mu) (y':Bx) (c:Int):Prop :=
 (∃ i,i < y.ms.length∧(y.ms.getD i noS).u=m.u∧y'=⟨y.nm,y.vd,y.nx,setF y.ms i (flg m.m (y.ms.getD i noS).f m.f),y.ks⟩∧c=0) ∨ ((∀ i,i < y.ms.length→(y.ms.getD i noS).u ≠ m.u)∧y'=B0∧c=17)
end Go.Proofs.YtnhcbiomkiljpaaGreatDoor.bl
namespace Go.Proofs.YtnhcbiomkiljpaaGreatDoor.cl
open Go.RowKit
set_option linter.unusedVariables false
theorem run_clear_cells {P:Program} (w:World) (t e ty:TypeId) (z:Value) (ht:P.underlying t=some (.slice e)) (hv:∀ w,(zeroValue e).run P w=.ok z w) (b o n c:Nat) (hn:0 < n)
  (h1:∀ v ∈ (Builtin.zeroCells z.cells n).toList,v.oneCell'=true) (hc:∀ j,j < (Builtin.zeroCells z.cells n).toList.length→(w.cell? ⟨b,o+j,none⟩).isSome=true) (hf:∀ j,j < (Builtin.zeroCells z.cells n).toList.length→w.frozen? ⟨b,o+j,none⟩=false) :
  (Builtin.clear_ #[t] ty #[.slice (some ⟨b,o,none⟩) n c]).run P w=.ok (.tuple #[]) (w.setCells b o (Builtin.zeroCells z.cells n).toList):=by
 have hst:=run_storeCells_cells (P:=P) b o (Builtin.zeroCells z.cells n).toList 0 w (by simpa using hc) (by simpa using hf) h1
 simp only [Nat.add_zero] at hst
 obtain ⟨m,rfl⟩:∃ m,n=m+1:=⟨n - 1,by omega⟩
 simp [Builtin.clear_,run_underlying ht,hv,hst]
end Go.Proofs.YtnhcbiomkiljpaaGreatDoor.cl
