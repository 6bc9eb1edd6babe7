/-
  The specification's Commit: its parts and the whole.
-/
import Derived.Test.YtnhcbiomkiljpaaGreatDoorPkbh

namespace Go.Proofs.YtnhcbiomkiljpaaGreatDoor.eg
open Go.RowKit Go.WideShapes
open bx bl
open lg (LV RV fr app1)
set_option linter.unusedVariables false
theorem own_len {w:World} {B e s n:Nat} {v:Value} {xs:List Value} (h:w.ownsRow B e s v n xs):∃ a c,v=.slice a n c:=by
 rcases h.2 with ⟨rfl,h0⟩ | ⟨g,cap,cur,rfl,_⟩
 ·exact ⟨none,0,by rw [h0]⟩
 ·exact ⟨_,_,rfl⟩
theorem mbt_size (M:mu.Mu):(mbt M).size=(mb.mB M).length:=by simp [mbt,ByteArray.size]
def LiesM (w:World) (b:Nat) (M:mu.Mu) (iv:Value):Prop:=mu.Lies w b 41 M iv
theorem two_lie (w:World) (r:Int) (d:ByteArray) (s:Int) (v:Value) (M:mu.Mu) (iv:Value) :
  LiesE ((w.alloc (.cells #[.int .i64 r,.string d,.int .i64 s,v] 35)).alloc (.cells #[.int .i64 M.k,.int .i64 M.u,.int .i64 M.m,.int .i64 M.f,.string M.b,iv] 41)) w.heap.size 35 r d s v∧LiesM ((w.alloc (.cells #[.int .i64 r,.string d,.int .i64 s,v] 35)).alloc (.cells #[.int .i64 M.k,.int .i64 M.u,.int .i64 M.m,.int .i64 M.f,.string M.b,iv] 41)) (w.heap.size+1) M iv:=by
 refine ⟨(liesE_new w 35 r d s v).keep (new_below _ _ _),?_⟩
 have:=mu.lies_new (w.alloc (.cells #[.int .i64 r,.string d,.int .i64 s,v] 35)) 41 M iv
 rw [show (w.alloc (.cells #[.int .i64 r,.string d,.int .i64 s,v] 35)).heap.size=w.heap.size+1 by simp] at this
 exact this
theorem three_lie (w:World) (r:Int) (d:ByteArray) (s:Int) (v:Value) (M:mu.Mu) (iv:Value) :
  LiesE (((w.alloc (.cells #[.int .i64 r,.string d,.int .i64 s,v] 35)).alloc (.cells #[.int .i64 M.k,.int .i64 M.u,.int .i64 M.m,.int .i64 M.f,.string M.b,iv] 41)).alloc (.cells #[.int .i64 0,.string ⟨#[]⟩,.int .i64 0,.slice none 0 0] 35)) (w.heap.size+1+1) 35 0 ⟨#[]⟩ 0 (.slice none 0 0):=by
 have:=liesE_new ((w.alloc (.cells #[.int .i64 r,.string d,.int .i64 s,v] 35)).alloc (.cells #[.int .i64 M.k,.int .i64 M.u,.int .i64 M.m,.int .i64 M.f,.string M.b,iv] 41)) 35 0 ⟨#[]⟩ 0 (.slice none 0 0)
 rw [show ((w.alloc (.cells #[.int .i64 r,.string d,.int .i64 s,v] 35)).alloc (.cells #[.int .i64 M.k,.int .i64 M.u,.int .i64 M.m,.int .i64 M.f,.string M.b,iv] 41)).heap.size=w.heap.size+1+1 by simp] at this
 exact this
def Ak (r:Int) (d:ByteArray) (s:Int) (bs:List Bx) (M:mu.Mu) (e:Ending):Prop:=∃ k:Int,e=.returned (.int .i64 k)∧((k=0∧Cn r d s bs∧mu.mok M=true) ∨ (k=1∧¬ (Cn r d s bs∧mu.mok M=true)))
set_option maxHeartbeats 4000000 in
set_option maxRecDepth 100000 in
theorem ask_any (r:Int) (d:ByteArray) (s:Int) (v:Value) (bs:List Bx) (vs:Nat→Value × Value) (M:mu.Mu) (iv:Value) (w:World) (hr:lg.In r) (hd:d.size≤1048576) (hs:lg.In s) (hB:BoxesAt w v bs vs) (hsm:Smalls bs) (hcv:∀ a n c,v=.slice a n c→n≤c) (hcu:∀ j,j < bs.length→∀ a n c,(vs j).2=.slice a n c→n≤c) (hI:it.AttrsAt w iv M.ps) (hM:mu.Small M) :
  Calls Tryz.prog 21 #[EV r d s v,mu.MV M iv] w fun e w'=>Ak r d s bs M e∧Below w.heap.size w w':=by
 have HEN:Hid (∀ W,Below w.heap.size w W→Calls Tryz.prog 41 #[EV r d s v] W fun e w'=>Er r d s bs e∧Below W.heap.size W w'):=fun W hW=>specEk_any r d s v bs vs W hr hd hs (boxes_below hB hW) hsm hcv hcu
 have HMO:Hid (∀ W,Below w.heap.size w W→Calls Tryz.prog 42 #[mu.MV M iv] W fun e w'=>e=.returned (.bool (mu.mok M))∧Below W.heap.size W w'):=fun W hW=>mu.spec_mok M iv W (it.at_below hI hW) hM
 obtain ⟨⟨a,cap,rfl,_⟩,_⟩:=hB
 obtain ⟨ia,ic,rfl,_⟩:=hI
 clear hr hd hs hsm hcv hcu hM
 obtain ⟨k0,k1⟩:=two_lie w r d s (.slice a bs.length cap) M (.slice ia M.ps.length ic)
 have b2:Below w.heap.size w ((w.alloc (.cells #[.int .i64 r,.string d,.int .i64 s,.slice a bs.length cap] 35)).alloc (.cells #[.int .i64 M.k,.int .i64 M.u,.int .i64 M.m,.int .i64 M.f,.string M.b,.slice ia M.ps.length ic] 41)):=(new_below w _ _).alloc (by simp) _
 unfold EV mu.MV at *
 have c0:=k0.c0
 have c1:=k0.c1
 have c2:=k0.c2
 have c3:=k0.c3
 go_enter Tryz.func21,Tryz.ntmps21
 go_wp2_with fail
 generalize World.alloc _ _=W at k0 k1 b2 c0 c1 c2 c3 ⊢
 refine (HEN.out W b2).mono ?_
 rintro e w1 ⟨⟨o,rfl,hEk⟩,hb1⟩
 have b3:=b2.trans (hb1.mono b2.size)
 have m1:=k1.keep hb1
 have d0:=m1.c0
 have d1:=m1.c1
 have d2:=m1.c2
 have d3:=m1.c3
 have d4:=m1.c4
 have d5:=m1.c5
 have HE:Hid (Ek r d s bs o):=hEk
 clear c0 c1 c2 c3 k0 k1 b2 hb1 hEk m1 HEN
 cases o with
 | false =>
  have HA:Hid (Ak r d s bs M (.returned (.int .i64 1))):=⟨1,rfl,.inr ⟨rfl,fun h=>by have:=HE.out.2 h.1; cases this⟩⟩
  go_wp2
  go_ret
  exact ⟨HA.out,b3⟩
 | true =>
  go_wp2_with fail
  refine (HMO.out w1 b3).mono ?_
  rintro e w2 ⟨rfl,hb2⟩
  have b4:=b3.trans (hb2.mono b3.size)
  have HK:Hid (mu.mok M=true→Ak r d s bs M (.returned (.int .i64 0))):=fun h=>⟨0,rfl,.inl ⟨rfl,HE.out.1 rfl,h⟩⟩
  have HN:Hid (mu.mok M=false→Ak r d s bs M (.returned (.int .i64 1))):=fun h=>⟨1,rfl,.inr ⟨rfl,fun h'=>by rw [h] at h'; exact absurd h'.2 (by decide)⟩⟩
  clear b3 hb2 d0 d1 d2 d3 d4 d5 HMO HE
  cases hmo:mu.mok M with
  | false =>
   have HA:=HN.out hmo
   clear hmo HK HN
   have HA:Hid (Ak r d s bs M (.returned (.int .i64 1))):=HA
   go_wp2
   go_ret
   exact ⟨HA.out,b4⟩
  | true =>
   have HA:=HK.out hmo
   clear hmo HK HN
   have HA:Hid (Ak r d s bs M (.returned (.int .i64 0))):=HA
   go_wp2
   go_ret
   exact ⟨HA.out,b4⟩
end Go.Proofs.YtnhcbiomkiljpaaGreatDoor.eg
