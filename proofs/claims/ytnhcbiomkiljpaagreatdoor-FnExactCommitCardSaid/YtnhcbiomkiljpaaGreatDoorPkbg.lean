/-
  The specification's reading of a mutation, as a whole.
-/
import Derived.Test.YtnhcbiomkiljpaaGreatDoorPkbf
import Derived.Deep.RegionWith
import Derived.Deep.DeepCutAuto
namespace Go.Proofs.YtnhcbiomkiljpaaGreatDoor.rm
open Go.RowKit Go.Deep
open it
set_option linter.unusedVariables false
theorem row_var {x:World} {base M:Nat} {v:Value} {ps:List Pr} {v0 v1 v2 v3 v4 v5:Value} (h:Rows2 x base v ps) (hB:B6 x M 41 v0 v1 v2 v3 v4 v5):v.ownBlock ≠ some M:=by
 intro hk
 rcases h.2 with ⟨rfl,_⟩ | ⟨g,cap,cur,rfl,_,hb,_⟩
 ·simp [Value.ownBlock] at hk
 ·have e:g=M:=by simpa [Value.ownBlock] using hk
  subst e
  unfold B6 at hB
  rw [hB] at hb
  simp at hb
theorem wrap64_nat {n:Nat} (h:n < 4294967296):IntKind.i64.wrap (n:Int)=(n:Int):=by
 simp only [IntKind.wrap,IntKind.bits,IntKind.signed]
 simp
 omega
structure Hd where
 k0:Nat
 k1:Nat
 k2:Nat
 k5:Nat
 b:ByteArray
def Var (w x:World) (M:Nat) (p:Hd) (v:Value) (ps:List Pr):Prop :=
 B6 x M 41 (.int .i64 p.k0) (.int .i64 p.k5) (.int .i64 p.k1) (.int .i64 p.k2) (.string p.b) v∧Zero x w.heap.size∧Rows2 x (w.heap.size+1) v ps∧Below w.heap.size w x∧w.heap.size < M
set_option maxHeartbeats 4000000 in
set_option maxRecDepth 100000 in
theorem read_few (t:ByteArray) (w:World) (g1:t.size < 7) :
  Calls Tryz.prog 119 #[.string t] w fun e w'=>(∃ x u,e=.returned (.tuple #[mu.MV x u,.bool (rok t)])∧(rok t=true→x=mtn (t,false))∧Rows2 w' w.heap.size u x.ps)∧Below w.heap.size w w':=by
 have b0:Below w.heap.size w (w.alloc (.cells #[.int .i64 0,.int .i64 0,.int .i64 0,.int .i64 0,.string ⟨#[]⟩,.slice none 0 0] 41)):=(Below.refl _ _).alloc (Nat.le_refl _) _
 have HK:Hid (rok t=false):=rok_few g1
 have g1':(t.size:Int) < 7:=by omega
 go_enter Tryz.func119,Tryz.ntmps119
 go_wp2
 exact bodyPost_ret (v:=.tuple #[.agg #[.int .i64 0,.int .i64 0,.int .i64 0,.int .i64 0,.string ⟨#[]⟩,.slice none 0 0],.bool false]) (by simp [results,Tryz.results119,go_sem]) rfl ⟨⟨noM,_,by rw [HK.out]; rfl,fun h=>(by rw [HK.out] at h; cases h),rows_nil _ _⟩,b0⟩
set_option maxHeartbeats 4000000 in
set_option maxRecDepth 100000 in
theorem read_name (t:ByteArray) (w:World) (ht:t.size≤1048576) (g1:7≤t.size) (g2:t.size < 7+(t[4]).toNat) :
  Calls Tryz.prog 119 #[.string t] w fun e w'=>(∃ x u,e=.returned (.tuple #[mu.MV x u,.bool (rok t)])∧(rok t=true→x=mtn (t,false))∧Rows2 w' w.heap.size u x.ps)∧Below w.heap.size w w':=by
 have b0:Below w.heap.size w (w.alloc (.cells #[.int .i64 0,.int .i64 0,.int .i64 0,.int .i64 0,.string ⟨#[]⟩,.slice none 0 0] 41)):=(Below.refl _ _).alloc (Nat.le_refl _) _
 have HK:Hid (rok t=false):=rok_name g1 g2
 have g1':(7:Int)≤(t.size:Int):=by omega
 have x4:(4:Nat) < t.size:=by omega
 have q4:(t[4]).toNat < 256:=(t[4]).toNat_lt
 have g2':(t.size:Int) < 7+((t[4]).toNat:Int):=by omega
 go_enter Tryz.func119,Tryz.ntmps119
 go_wp2
 exact bodyPost_ret (v:=.tuple #[.agg #[.int .i64 0,.int .i64 0,.int .i64 0,.int .i64 0,.string ⟨#[]⟩,.slice none 0 0],.bool false]) (by simp [results,Tryz.results119,go_sem]) rfl ⟨⟨noM,_,by rw [HK.out]; rfl,fun h=>(by rw [HK.out] at h; cases h),rows_nil _ _⟩,b0⟩
end Go.Proofs.YtnhcbiomkiljpaaGreatDoor.rm
