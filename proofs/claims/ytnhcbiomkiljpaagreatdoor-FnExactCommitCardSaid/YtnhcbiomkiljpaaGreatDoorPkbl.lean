/-
  An engine is right: both functions.
  Regions that draw their order and append to a row of bytes: what has come up, what the row holds, what lies beside it.
  Plain facts on a mutation's bytes.
-/
import Derived.Test.YtnhcbiomkiljpaaGreatDoorPkbj
import Derived.Test.YtnhcbiomkiljpaaGreatDoorPkbk
import Derived.Test.YtnhcbiomkiljpaaGreatDoorPkah
import Derived.Test.YtnhcbiomkiljpaaGreatDoorPkaa
import Derived.Test.YtnhcbiomkiljpaaGreatDoorRows
import Derived.Below
import Derived.WalkKit
import Derived.Laws.AppendOwn
import Derived.Lib.AppendStr
import Derived.Lib.UnsafeStr
import Derived.Test.YtnhcbiomkiljpaaGreatDoorPkag
import Derived.Test.YtnhcbiomkiljpaaGreatDoorPkba
namespace Go.Proofs.YtnhcbiomkiljpaaGreatDoor.eg
open Go.RowKit
open bx bl
open lg (LV recs recR scan next next_ok Errs)
set_option linter.unusedVariables false
theorem scan_zero (t:ByteArray):∀ f p acc,p≤t.size→t.size - p < f→(scan t f p acc).2.2=0→(scan t f p acc).2.1=t.size
 | 0,p,acc,hp,hf,_=>by omega
 | f+1,p,acc,hp,hf,hc=>by
  rw [scan] at hc ⊢
  by_cases h1:t.size≤p
  ·rw [if_pos h1]; show p=t.size; omega
  ·rw [if_neg h1] at hc ⊢
   by_cases h2:(next t p).1=0
   ·rw [if_pos h2] at hc ⊢
    have hk:=next_ok h2
    exact scan_zero t f _ _ (by omega) (by omega) hc
   ·rw [if_neg h2] at hc
    exact absurd hc h2
theorem recs_zero {t:ByteArray} (h:(recs t).2.2=0):(recs t).2.1=t.size:=scan_zero t _ _ _ (Nat.zero_le _) (by omega) h
def Cn (r:Int) (d:ByteArray) (s:Int) (bs:List Bx):Prop:=lg.ok r d.size s=true∧s=((d.size:Nat):Int)∧(recs d).2.2=0∧∃ zs,rp.Rp (recs d).1 [] (zs,true)∧sok bs=true∧sm.sameS zs bs=true
def Ek (r:Int) (d:ByteArray) (s:Int) (bs:List Bx) (o:Bool):Prop:=o=true ↔ Cn r d s bs
def Er (r:Int) (d:ByteArray) (s:Int) (bs:List Bx) (e:Ending):Prop:=∃ o,e=.returned (.bool o)∧Ek r d s bs o
theorem ek_no {r:Int} {d:ByteArray} {s:Int} {bs:List Bx} (h:¬ Cn r d s bs):Ek r d s bs false:=⟨fun e=>absurd e (by decide),fun e=>absurd e h⟩
set_option maxHeartbeats 4000000 in
set_option maxRecDepth 100000 in
theorem implEk_any (r:Int) (d:ByteArray) (s:Int) (v:Value) (bs:List Bx) (vs:Nat→Value × Value) (w:World) (c b:Addr) (ca cb:Array Value) (ta tb:TypeId) (hr:lg.In r) (hd:d.size≤1048576) (hs:lg.In s) (hE:Errs w c b ca cb ta tb) (hB:BoxesAt w v bs vs) (hsm:Smalls bs) :
  Calls Tryz.prog 27 #[EV r d s v] w fun e w'=>Er r d s bs e∧Below w.heap.size w w':=by
 have HBS:Hid (BoxesAt w v bs vs∧Smalls bs):=⟨hB,hsm⟩
 obtain ⟨⟨a,cap,rfl,_⟩,_⟩:=hB
 have L0:=liesE_new w 35 r d s (.slice a bs.length cap)
 have b0:=new_below w 35 #[.int .i64 r,.string d,.int .i64 s,.slice a bs.length cap]
 have HRC:Hid (∀ W,Below w.heap.size w W→Calls Tryz.prog 50 #[LV r d s] W fun e w'=>(∃ v,e=.returned (.tuple #[v,.int .i64 (recR r d s).2.1,.int .i64 (recR r d s).2.2])∧ky.OwnT w' W.heap.size v (recR r d s).1)∧Below W.heap.size W w'):=fun W hW=>lg.impl_recs r d s W c b ca cb ta tb hr hd hs (hE.keep hW)
 have c0:=L0.c0
 have c1:=L0.c1
 have c2:=L0.c2
 have HSM:Hid (∀ x ∈ (recR r d s).1,x.size≤20000):=rp.recR_small r d s
 have HLN:Hid ((recR r d s).1.length≤1048576):=Nat.le_trans (lg.recR_len r d s) hd
 have HOK:Hid (lg.ok r d.size s=false→recR r d s=([],0,1)):=fun h=>by unfold recR; rw [h]; rfl
 have HYE:Hid (lg.ok r d.size s=true→recR r d s=recs d):=fun h=>by unfold recR; rw [if_pos h]
 have hbl:=hsm.1
 clear hE hr hs hsm
 unfold EV
 unfold LV at HRC
 go_enter Tryz.func27,Tryz.ntmps27
 go_wp2_with fail
 generalize w.alloc _=w0 at L0 b0 c0 c1 c2 ⊢
 refine (HRC.out w0 b0).mono ?_
 rintro e w1 ⟨⟨v',rfl,hO⟩,hb1⟩
 have L1:=L0.keep hb1
 have HB1:Hid (Below w.heap.size w w1):=b0.trans (hb1.mono b0.size)
 have hTX:=ky.own_texts hO
 clear HRC c0 c1 c2 hb1 b0 hO L0
 have c2:=L1.c2
 have c3:=L1.c3
 have HL1:Hid (LiesE w1 w.heap.size 35 r d s (.slice a bs.length cap)):=L1
 clear L1
 cases hk:lg.ok r d.size s with
 | false =>
  rw [HOK.out hk] at hTX ⊢
  obtain ⟨va,vc,rfl,_⟩:=hTX
  have HR:Hid (Ek r d s bs false):=ek_no fun h=>by have:=h.1; rw [hk] at this; cases this
  clear hk
  simp only
  go_wp2
  go_ret
  exact ⟨⟨false,rfl,HR.out⟩,HB1.out⟩
 | true =>
  have hRe:=HYE.out hk
  have HSM':=HSM.out
  have HLN':=HLN.out
  rw [hRe] at HSM' HLN' hTX ⊢
  have HRP:=rp.replayed_any v' (recs d).1 w1 hTX HLN' HSM'
  have HZ:Hid ((recs d).2.2=0→(recs d).2.1=d.size):=recs_zero
  have HCN:Hid (Cn r d s bs ↔ s=((d.size:Nat):Int)∧(recs d).2.2=0∧∃ zs,rp.Rp (recs d).1 [] (zs,true)∧sok bs=true∧sm.sameS zs bs=true):=⟨fun h=>h.2,fun h=>⟨hk,h⟩⟩
  clear hk hRe HSM' HSM HLN HOK HYE
  obtain ⟨va,vc,rfl,_⟩:=hTX
  generalize (recs d).2.2=cd at HZ HCN ⊢
  generalize (recs d).2.1=sz at HZ ⊢
  generalize (recs d).1=ts at HRP HLN' HCN ⊢
  have HRP':Hid (Calls Tryz.prog 51 #[.slice va ts.length vc] w1 fun e w'=>(∃ L ys us b,e=.returned (.tuple #[L,.bool b])∧rp.Rp ts [] (ys,b)∧OwnL w' w1.heap.size L ys us∧Smalls ys∧sok ys=true)∧Below w1.heap.size w1 w'):=HRP
  clear HRP
  by_cases hc0:cd=0
  rotate_left
  ·have h0:((cd:Int) != 0)=true:=by rw [bne_iff_ne]; omega
   have HR:Hid (Ek r d s bs false):=ek_no fun h=>hc0 (HCN.out.1 h).2.1
   clear hc0 HCN HZ HRP'
   go_wp2
   go_ret
   exact ⟨⟨false,rfl,HR.out⟩,HB1.out⟩
  have hsz:=HZ.out hc0
  subst hc0 hsz
  by_cases hS:s=((d.size:Nat):Int)
  rotate_left
  ·have h0:((s:Int) != ((d.size:Nat):Int))=true:=by rw [bne_iff_ne]; exact hS
   have HR:Hid (Ek r d s bs false):=ek_no fun h=>hS (HCN.out.1 h).1
   clear hS HCN HZ HRP'
   go_wp2
   go_ret
   exact ⟨⟨false,rfl,HR.out⟩,HB1.out⟩
  have h0:((s:Int) != ((d.size:Nat):Int))=false:=by rw [bne_eq_false_iff_eq]; exact hS
  have HC2:Hid (Cn r d s bs ↔ ∃ zs,rp.Rp ts [] (zs,true)∧sok bs=true∧sm.sameS zs bs=true):=⟨fun h=>(HCN.out.1 h).2.2,fun h=>HCN.out.2 ⟨hS,rfl,h⟩⟩
  clear hS HCN HZ
  go_wp2_with fail
  refine HRP'.out.mono ?_
  rintro e w2 ⟨⟨L,ys,us,bo,rfl,hR,hOL,hsy,hso⟩,hb2⟩
  obtain ⟨La,Ln,Lc,rfl⟩:=slice_fine (own_fine hOL.1)
  have HO2:Hid (BoxesAt w2 (.slice La Ln Lc) ys us∧Smalls ys):=⟨ownL_boxes hOL,hsy⟩
  have HB2:Hid (Below w.heap.size w w2):=HB1.out.trans (hb2.mono HB1.out.size)
  have d3:=(HL1.out.keep hb2).c3
  have HSA:Hid (sm.ssa ys bs=true ↔ sok bs=true∧sm.sameS ys bs=true):=by
   have hy:=hso
   show (decide (ys.length≤4096∧bs.length≤4096) && sok ys && sok bs && sm.sameS ys bs)=true ↔ _
   rw [hy]
   constructor
   ·intro h
    simp only [Bool.and_eq_true] at h
    exact ⟨h.1.2,h.2⟩
   ·rintro ⟨h1,h2⟩
    have l1:=(sok_of hy).1
    have l2:=(sok_of h1).1
    rw [h1,h2,decide_eq_true (by omega:ys.length≤4096∧bs.length≤4096)]
    rfl
  have HRR:Hid (rp.Rp ts [] (ys,bo)):=hR
  clear HRP' hOL hsy hb2 hR hso c2 c3
  go_wp2_with fail
  refine (sm.impl_ss _ _ ys bs us vs w2 HO2.out.1 (boxes_below HBS.out.1 HB2.out) HO2.out.2 HBS.out.2).mono ?_
  rintro e w3 ⟨rfl,hb3⟩
  have HB3:Hid (Below w.heap.size w w3):=HB2.out.trans (hb3.mono HB2.out.size)
  generalize sm.ssa ys bs=A at HSA ⊢
  generalize sm.ssb ys bs=B
  clear hb3 d3
  cases bo with
  | false =>
   have HR:Hid (Ek r d s bs false):=ek_no fun h=>by
    obtain ⟨zs,hz,_⟩:=HC2.out.1 h
    have:=rp.rp_one rp.sok_nil HRR.out hz
    cases this
   go_wp2
   go_ret
   exact ⟨⟨false,rfl,HR.out⟩,HB3.out⟩
  | true =>
   have HR:Hid (Ek r d s bs A):=by
    refine ⟨fun h=>HC2.out.2 ⟨ys,HRR.out,HSA.out.1 h⟩,fun h=>?_⟩
    obtain ⟨zs,hz,h1⟩:=HC2.out.1 h
    have:=rp.rp_one rp.sok_nil HRR.out hz
    cases this
    exact HSA.out.2 h1
   go_wp2
   go_ret
   exact ⟨⟨A,rfl,HR.out⟩,HB3.out⟩
set_option maxHeartbeats 4000000 in
set_option maxRecDepth 100000 in
theorem specEk_any (r:Int) (d:ByteArray) (s:Int) (v:Value) (bs:List Bx) (vs:Nat→Value × Value) (w:World) (hr:lg.In r) (hd:d.size≤1048576) (hs:lg.In s) (hB:BoxesAt w v bs vs) (hsm:Smalls bs) (hcv:∀ a n c,v=.slice a n c→n≤c) (hcu:∀ j,j < bs.length→∀ a n c,(vs j).2=.slice a n c→n≤c) :
  Calls Tryz.prog 41 #[EV r d s v] w fun e w'=>Er r d s bs e∧Below w.heap.size w w':=by
 have HBS:Hid (BoxesAt w v bs vs∧Smalls bs∧(∀ a n c,v=.slice a n c→n≤c)∧∀ j,j < bs.length→∀ a n c,(vs j).2=.slice a n c→n≤c):=⟨hB,hsm,hcv,hcu⟩
 obtain ⟨⟨a,cap,rfl,_⟩,_⟩:=hB
 have L0:=liesE_new w 35 r d s (.slice a bs.length cap)
 have b0:=new_below w 35 #[.int .i64 r,.string d,.int .i64 s,.slice a bs.length cap]
 have HOK:Hid (∀ W,Calls Tryz.prog 77 #[LV r d s] W fun e w'=>e=.returned (.bool (lg.ok r d.size s))∧Below W.heap.size W w'):=fun W=>lg.spec_ok r d s W hr (Nat.le_trans hd (by unfold maxLen; omega)) hs
 have c0:=L0.c0
 have c1:=L0.c1
 have c2:=L0.c2
 have hbl:=hsm.1
 clear hr hs hsm hcv hcu
 unfold EV
 unfold LV at HOK
 go_enter Tryz.func41,Tryz.ntmps41
 go_wp2_with fail
 generalize w.alloc _=w0 at L0 b0 c0 c1 c2 ⊢
 refine (HOK.out w0).mono ?_
 rintro e w1 ⟨rfl,hb1⟩
 have HB1:Hid (Below w.heap.size w w1):=b0.trans (hb1.mono b0.size)
 have HL1:Hid (LiesE w1 w.heap.size 35 r d s (.slice a bs.length cap)):=L0.keep hb1
 clear HOK c0 c1 c2 b0 hb1 L0
 have c1:=HL1.out.c1
 have c2:=HL1.out.c2
 have c3:=HL1.out.c3
 cases hk:lg.ok r d.size s with
 | false =>
  have HR:Hid (Ek r d s bs false):=ek_no fun h=>by have:=h.1; rw [hk] at this; cases this
  clear hk
  go_wp2
  go_ret
  exact ⟨⟨false,rfl,HR.out⟩,HB1.out⟩
 | true =>
  by_cases hS:s=((d.size:Nat):Int)
  rotate_left
  ·have h0:((s:Int) != ((d.size:Nat):Int))=true:=by rw [bne_iff_ne]; exact hS
   have HR:Hid (Ek r d s bs false):=ek_no fun h=>hS h.2.1
   clear hS hk
   go_wp2
   go_ret
   exact ⟨⟨false,rfl,HR.out⟩,HB1.out⟩
  have h0:((s:Int) != ((d.size:Nat):Int))=false:=by rw [bne_eq_false_iff_eq]; exact hS
  have HKS:Hid (lg.ok r d.size s=true∧s=((d.size:Nat):Int)):=⟨hk,hS⟩
  clear hk hS
  go_wp2_with fail
  refine (spec_sok _ bs vs w1 (boxes_below HBS.out.1 HB1.out) HBS.out.2.1 HBS.out.2.2.1 HBS.out.2.2.2).mono ?_
  rintro e w2 ⟨rfl,hb2⟩
  have HB2:Hid (Below w.heap.size w w2):=HB1.out.trans (hb2.mono HB1.out.size)
  have HL2:Hid (LiesE w2 w.heap.size 35 r d s (.slice a bs.length cap)):=HL1.out.keep hb2
  clear c1 c2 c3 hb2 HL1
  have c1:=HL2.out.c1
  cases hso:sok bs with
  | false =>
   have HR:Hid (Ek r d s bs false):=ek_no fun h=>by
    obtain ⟨zs,_,h1,_⟩:=h.2.2.2
    rw [hso] at h1
    cases h1
   clear hso
   go_wp2
   go_ret
   exact ⟨⟨false,rfl,HR.out⟩,HB2.out⟩
  | true =>
   have HSO:Hid (sok bs=true):=hso
   clear hso
   go_wp2_with fail
   refine (lg.l08Records_any d w2 hd).mono ?_
   rintro e w3 ⟨⟨v',rfl,hOT⟩,hb3⟩
   have hTX:=ky.own_texts hOT
   obtain ⟨va,vc,rfl,_⟩:=hTX
   have HB3:Hid (Below w.heap.size w w3):=HB2.out.trans (hb3.mono HB2.out.size)
   have HL3:Hid (LiesE w3 w.heap.size 35 r d s (.slice a bs.length cap)):=HL2.out.keep hb3
   have HZ:Hid ((recs d).2.2=0→(recs d).2.1=d.size):=recs_zero
   have HCD:Hid (Cn r d s bs→(recs d).2.2=0):=fun h=>h.2.2.1
   have HRR:Hid ((recs d).2.2=0→∀ ys n cc,rp.Rr d ys n cc→(cc=0∧(Cn r d s bs ↔ sm.sameS ys bs=true)) ∨ (cc ≠ 0∧¬ Cn r d s bs)):=fun hc ys n cc h=>by
    obtain ⟨zs,b,hR,h⟩:=h
    rcases h with ⟨rfl,_,_,rfl⟩ | ⟨_,h8,_⟩ | ⟨rfl,_,rfl,_,rfl⟩
    ·refine .inr ⟨by decide,fun hn=>?_⟩
     obtain ⟨zs',hz,_⟩:=hn.2.2.2
     cases rp.rp_one rp.sok_nil hR hz
    ·rw [hc] at h8; cases h8
    ·refine .inl ⟨rfl,fun hn=>?_,fun h=>⟨HKS.out.1,HKS.out.2,hc,_,hR,HSO.out,h⟩⟩
     obtain ⟨zs',hz,_,h1⟩:=hn.2.2.2
     cases rp.rp_one rp.sok_nil hR hz
     exact h1
   generalize (recs d).2.2=cd at HZ HCD HRR ⊢
   generalize (recs d).2.1=sz at HZ ⊢
   generalize (recs d).1.length=tl
   clear hOT hb3 c1 HL2
   have c1:=HL3.out.c1
   by_cases hc0:cd=0
   rotate_left
   ·have h0:((cd:Int) != 0)=true:=by rw [bne_iff_ne]; omega
    have HR:Hid (Ek r d s bs false):=ek_no fun h=>hc0 (HCD.out h)
    clear hc0 HZ HCD HRR
    go_wp2
    go_ret
    exact ⟨⟨false,rfl,HR.out⟩,HB3.out⟩
   have hsz:=HZ.out hc0
   have HR2:Hid (∀ ys n cc,rp.Rr d ys n cc→(cc=0∧(Cn r d s bs ↔ sm.sameS ys bs=true)) ∨ (cc ≠ 0∧¬ Cn r d s bs)):=HRR.out hc0
   clear HZ HCD HRR
   subst hc0 hsz
   go_wp2_with fail
   refine (rp.specRp_any d w3 hd).mono ?_
   rintro e w4 ⟨⟨L,ys,us,n,cc,rfl,hR,hLB,hF,hsy,hsoy⟩,hb4⟩
   have HY:Hid (BoxesAt w4 L ys us∧Smalls ys):=⟨hLB,hsy⟩
   obtain ⟨⟨La,Lc,rfl,_⟩,_⟩:=hLB
   have HB4:Hid (Below w.heap.size w w4):=HB3.out.trans (hb4.mono HB3.out.size)
   have c3:=(HL3.out.keep hb4).c3
   have hyl:=hsy.1
   have hX:=HR2.out _ _ _ hR
   clear hF hsy hsoy hb4 hR HR2 c1
   rcases hX with ⟨rfl,hX⟩ | ⟨hn0,hX⟩
   ·have HX:Hid (Cn r d s bs ↔ sm.sameS ys bs=true):=hX
    clear hX
    go_wp2_with fail
    refine (sm.l09Same_any _ _ ys bs us vs w4 HY.out.1 (boxes_below HBS.out.1 HB4.out) HY.out.2 HBS.out.2.1).mono ?_
    rintro e w5 ⟨rfl,hb5⟩
    have HB5:Hid (Below w.heap.size w w5):=HB4.out.trans (hb5.mono HB4.out.size)
    have HR:Hid (Ek r d s bs (sm.sameS ys bs)):=HX.out.symm
    generalize sm.sameS ys bs=A at HR ⊢
    clear hb5 c3
    go_wp2
    go_ret
    exact ⟨⟨A,rfl,HR.out⟩,HB5.out⟩
   ·have h0:((cc:Int) == 0)=false:=by rw [beq_eq_false_iff_ne]; exact hn0
    have HR:Hid (Ek r d s bs false):=ek_no hX
    clear hX hn0
    go_wp2
    go_ret
    exact ⟨⟨false,rfl,HR.out⟩,HB4.out⟩
end Go.Proofs.YtnhcbiomkiljpaaGreatDoor.eg
namespace Go.Proofs.YtnhcbiomkiljpaaGreatDoor.ra
open Go.RowKit
set_option linter.unusedVariables false
def Own (x:World) (B:Nat) (v:Value) (l:List UInt8):Prop:=x.ownsRow B 5 1 v l.length (Lib.byteCells l)
theorem own_form {x:World} {B:Nat} {v:Value} {l:List UInt8} (h:Own x B v l):∃ a n c,v=.slice a n c:=by
 rcases h.2 with ⟨rfl,_⟩ | ⟨g,cap,cur,rfl,_⟩
 ·exact ⟨_,_,_,rfl⟩
 ·exact ⟨_,_,_,rfl⟩
theorem own_len {x:World} {B:Nat} {v:Value} {l:List UInt8} (h:Own x B v l):∃ a c,v=.slice a l.length c:=by
 rcases h.2 with ⟨rfl,h0⟩ | ⟨g,cap,cur,rfl,_⟩
 ·exact ⟨none,0,by rw [h0]⟩
 ·exact ⟨_,_,rfl⟩
def Src (Bc:Nat) (x:World) (v:Value) (s:List UInt8):Prop:=∃ g c,v=.slice (some ⟨g,0,none⟩) s.length c∧Bc≤g∧g < x.heap.size∧∀ j u,(Lib.byteCells s)[j]? = some u→x.cell? ⟨g,j,none⟩=some u
structure Q2 where
 V:Nat→Option Value
 K:World→Prop
 B1:Nat
 Bc:Nat
 v0:Value
 l0:List UInt8
 s1:List UInt8
 s2:List UInt8
 a1:Nat
 a2:Nat
 c1:Nat
 c2:Nat
def J2 (q:Q2) (D:Nat→Prop) (f:Nat→Value) (x:World):Prop :=
 (∀ j,D j→∀ y,q.V j=some y→f j=y)∧q.K x∧q.Bc≤x.heap.size∧(¬ D q.a1→Own x q.B1 q.v0 q.l0)∧(D q.a1→¬ D q.a2→Own x q.B1 (f q.a1) (q.l0 ++ q.s1))∧(D q.a2→Own x q.B1 (f q.a2) (q.l0 ++ q.s1 ++ q.s2)) ∧
 (D q.c1→¬ D q.a1→Src q.Bc x (f q.c1) q.s1)∧(D q.c2→¬ D q.a2→Src q.Bc x (f q.c2) q.s2)
structure Q2.Good (q:Q2):Prop where
 below:∀ x x',q.K x→Below x.heap.size x x'→q.K x'
 row:∀ x x' v l,q.K x→Own x q.B1 v l→x.grownBy x' v.ownBlock→q.K x'
 far:∀ k,q.v0.ownBlock=some k→k < q.Bc
 n12:q.a1 ≠ q.a2
 n13:q.a1 ≠ q.c1
 n14:q.a1 ≠ q.c2
 n23:q.a2 ≠ q.c1
 n24:q.a2 ≠ q.c2
 n34:q.c1 ≠ q.c2
theorem vals {V:Nat→Option Value} {D:Nat→Prop} {f:Nat→Value} {i:Nat} {y:Value} (h:∀ j,D j→∀ z,V j=some z→f j=z) (hy:∀ z,V i=some z→y=z):∀ j,(j=i ∨ D j)→∀ z,V j=some z→rs.upd f i y j=z:=by
 intro j hj z hz
 by_cases e:j=i
 ·subst e
  rw [rs.upd_same]
  exact hy z hz
 ·rw [rs.upd_other f i y e]
  exact h j (hj.resolve_left e) z hz
theorem Src.keep {Bc:Nat} {x x':World} {v:Value} {s:List UInt8} (h:Src Bc x v s) (hb:Below x.heap.size x x'):Src Bc x' v s:=by
 obtain ⟨g,c,e,h1,h2,h3⟩:=h
 exact ⟨g,c,e,h1,Nat.lt_of_lt_of_le h2 hb.size,fun j u hu=>(hb.cell (p:=⟨g,j,none⟩) h2).trans (h3 j u hu)⟩
section
variable {q:Q2} {D:Nat→Prop} {f:Nat→Value} {x x':World} {i:Nat}
theorem J2.pure (y:Value) (h:J2 q D f x) (hy:∀ z,q.V i=some z→y=z) (h1:q.a1 ≠ i) (h2:q.a2 ≠ i) (h3:q.c1 ≠ i) (h4:q.c2 ≠ i):J2 q (fun j=>j=i ∨ D j) (rs.upd f i y) x:=by
 obtain ⟨hv,hk,hb,ha,hb1,hb2,hc1,hc2⟩:=h
 refine ⟨vals hv hy,hk,hb,fun n=>ha (fun d=>n (.inr d)),fun d n=>?_,fun d=>?_,fun d n=>?_,fun d n=>?_⟩
 ·rw [rs.upd_other f i y h1]; exact hb1 (d.resolve_left h1) (fun d=>n (.inr d))
 ·rw [rs.upd_other f i y h2]; exact hb2 (d.resolve_left h2)
 ·rw [rs.upd_other f i y h3]; exact hc1 (d.resolve_left h3) (fun d=>n (.inr d))
 ·rw [rs.upd_other f i y h4]; exact hc2 (d.resolve_left h4) (fun d=>n (.inr d))
theorem J2.grow (h:J2 q D f x) (hq:q.Good) (hbx:Below x.heap.size x x'):J2 q D f x':=by
 obtain ⟨hv,hk,hb,ha,hb1,hb2,hc1,hc2⟩:=h
 exact ⟨hv,hq.below x x' hk hbx,Nat.le_trans hb hbx.size,fun n=>ow.own_below (ha n) hbx,fun d n=>ow.own_below (hb1 d n) hbx,fun d=>ow.own_below (hb2 d) hbx,fun d n=>(hc1 d n).keep hbx,fun d n=>(hc2 d n).keep hbx⟩
theorem src_of {B n:Nat} {v:Value} {s:List UInt8} {cs:List Value} (h:x'.ownsRow B 5 1 v n cs) (hn:n=s.length) (hcs:cs=Lib.byteCells s) (h0:0 < s.length):Src B x' v s:=by
 subst hn hcs
 rcases h.2 with ⟨_,hz⟩ | ⟨g,cap,cur,rfl,hB,hb,_⟩
 ·omega
 ·refine ⟨g,cap,rfl,hB,(Array.getElem?_eq_some_iff.1 hb).1,fun j u hu=>?_⟩
  have hj:j < s.length:=by
   have:=(List.getElem?_eq_some_iff.1 hu).1
   simpa [Lib.byteCells] using this
  rw [h.cellAt j (by omega),hu]
theorem Src.low {B Bc:Nat} {v:Value} {s:List UInt8} (h:Src B x v s) (hB:Bc≤B):Src Bc x v s:=by
 obtain ⟨g,c,e,h1,h2⟩:=h
 exact ⟨g,c,e,Nat.le_trans hB h1,h2⟩
theorem J2.call1 (y:Value) (h:J2 q D f x) (hq:q.Good) (hbx:Below x.heap.size x x') (hs:Src x.heap.size x' y q.s1) (hV:q.V q.c1=none):J2 q (fun j=>j=q.c1 ∨ D j) (rs.upd f q.c1 y) x':=by
 have hb0:=h.2.2.1
 obtain ⟨hv,hk,hb,ha,hb1,hb2,hc1,hc2⟩:=h.grow hq hbx
 refine ⟨vals hv (fun z hz=>by rw [hV] at hz; cases hz),hk,hb,fun n=>ha (fun d=>n (.inr d)),fun d n=>?_,fun d=>?_,fun d n=>?_,fun d n=>?_⟩
 ·rw [rs.upd_other f _ y hq.n13]; exact hb1 (d.resolve_left hq.n13) (fun d=>n (.inr d))
 ·rw [rs.upd_other f _ y hq.n23]; exact hb2 (d.resolve_left hq.n23)
 ·rw [rs.upd_same]; exact hs.low hb0
 ·rw [rs.upd_other f _ y hq.n34.symm]; exact hc2 (d.resolve_left hq.n34.symm) (fun d=>n (.inr d))
theorem J2.call2 (y:Value) (h:J2 q D f x) (hq:q.Good) (hbx:Below x.heap.size x x') (hs:Src x.heap.size x' y q.s2) (hV:q.V q.c2=none):J2 q (fun j=>j=q.c2 ∨ D j) (rs.upd f q.c2 y) x':=by
 have hb0:=h.2.2.1
 obtain ⟨hv,hk,hb,ha,hb1,hb2,hc1,hc2⟩:=h.grow hq hbx
 refine ⟨vals hv (fun z hz=>by rw [hV] at hz; cases hz),hk,hb,fun n=>ha (fun d=>n (.inr d)),fun d n=>?_,fun d=>?_,fun d n=>?_,fun d n=>?_⟩
 ·rw [rs.upd_other f _ y hq.n14]; exact hb1 (d.resolve_left hq.n14) (fun d=>n (.inr d))
 ·rw [rs.upd_other f _ y hq.n24]; exact hb2 (d.resolve_left hq.n24)
 ·rw [rs.upd_other f _ y hq.n34]; exact hc1 (d.resolve_left hq.n34) (fun d=>n (.inr d))
 ·rw [rs.upd_same]; exact hs.low hb0
theorem J2.app1 (y:Value) (h:J2 q D f x) (hq:q.Good) (hn:¬ D q.a1) (hn2:¬ D q.a2) (hg:x.grownBy x' q.v0.ownBlock) (ho:Own x' q.B1 y (q.l0 ++ q.s1)) (hV:q.V q.a1=none):J2 q (fun j=>j=q.a1 ∨ D j) (rs.upd f q.a1 y) x':=by
 obtain ⟨hv,hk,hb,ha,hb1,hb2,hc1,hc2⟩:=h
 refine ⟨vals hv (fun z hz=>by rw [hV] at hz; cases hz),hq.row x x' _ _ hk (ha hn) hg,Nat.le_trans hb hg.size,fun n=>absurd (.inl rfl) n,fun d n=>?_,fun d=>absurd (d.resolve_left hq.n12.symm) hn2,fun d n=>absurd (.inl rfl) n,fun d n=>?_⟩
 ·rw [rs.upd_same]; exact ho
 ·rw [rs.upd_other f _ y hq.n14.symm]
  obtain ⟨g,c,e,h1,h2,h3⟩:=hc2 (d.resolve_left hq.n14.symm) (fun d=>n (.inr d))
  refine ⟨g,c,e,h1,Nat.lt_of_lt_of_le h2 hg.size,fun j u hu=>?_⟩
  have hne:some g ≠ q.v0.ownBlock:=fun e=>by have:=hq.far g e.symm; omega
  rw [← h3 j u hu]
  simp only [World.cell?,hg.block g h2 hne]
theorem J2.app2 (y:Value) (h:J2 q D f x) (hq:q.Good) (d1:D q.a1) (hn2:¬ D q.a2) (hg:x.grownBy x' (f q.a1).ownBlock) (ho:Own x' q.B1 y (q.l0 ++ q.s1 ++ q.s2)) (hV:q.V q.a2=none):J2 q (fun j=>j=q.a2 ∨ D j) (rs.upd f q.a2 y) x':=by
 obtain ⟨hv,hk,hb,ha,hb1,hb2,hc1,hc2⟩:=h
 refine ⟨vals hv (fun z hz=>by rw [hV] at hz; cases hz),hq.row x x' _ _ hk (hb1 d1 hn2) hg,Nat.le_trans hb hg.size,fun n=>absurd (.inr d1) n,fun d n=>absurd (.inl rfl) n,fun d=>?_,fun d n=>absurd (.inr d1) n,fun d n=>absurd (.inl rfl) n⟩
 rw [rs.upd_same]; exact ho
end
structure Q1 where
 V:Nat→Option Value
 K:World→Prop
 B1:Nat
 v0:Value
 l0:List UInt8
 s1:List UInt8
 a1:Nat
def J1 (q:Q1) (D:Nat→Prop) (f:Nat→Value) (x:World):Prop :=
 (∀ j,D j→∀ y,q.V j=some y→f j=y)∧q.K x∧q.B1≤x.heap.size∧(¬ D q.a1→Own x q.B1 q.v0 q.l0)∧(D q.a1→Own x q.B1 (f q.a1) (q.l0 ++ q.s1))
structure Q1.Good (q:Q1):Prop where
 below:∀ x x',q.K x→Below x.heap.size x x'→q.K x'
 row:∀ x x' v l,q.K x→Own x q.B1 v l→x.grownBy x' v.ownBlock→q.K x'
section
variable {q:Q1} {D:Nat→Prop} {f:Nat→Value} {x x':World} {i:Nat}
theorem J1.step (y:Value) (h:J1 q D f x) (hq:q.Good) (hy:∀ z,q.V i=some z→y=z) (h1:q.a1 ≠ i) (hbx:Below x.heap.size x x'):J1 q (fun j=>j=i ∨ D j) (rs.upd f i y) x':=by
 obtain ⟨hv,hk,hb,ha,hb1⟩:=h
 refine ⟨vals hv hy,hq.below x x' hk hbx,Nat.le_trans hb hbx.size,fun n=>ow.own_below (ha (fun d=>n (.inr d))) hbx,fun d=>?_⟩
 rw [rs.upd_other f i y h1]; exact ow.own_below (hb1 (d.resolve_left h1)) hbx
theorem J1.app (y:Value) (h:J1 q D f x) (hq:q.Good) (hn:¬ D q.a1) (hg:x.grownBy x' q.v0.ownBlock) (ho:Own x' q.B1 y (q.l0 ++ q.s1)) (hV:q.V q.a1=none):J1 q (fun j=>j=q.a1 ∨ D j) (rs.upd f q.a1 y) x':=by
 obtain ⟨hv,hk,hb,ha,hb1⟩:=h
 refine ⟨vals hv (fun z hz=>by rw [hV] at hz; cases hz),hq.row x x' _ _ hk (ha hn) hg,Nat.le_trans hb hg.size,fun n=>absurd (.inl rfl) n,fun _=>?_⟩
 rw [rs.upd_same]; exact ho
end
section
variable {P:Program} {w:World}
theorem wp_append_str {o:Oper} {a:Act} {K:Act→World→Prop} {Q:Exit→Act→World→Prop} (sl x:Operand) (t u:TypeId)
  (ho:o.op=.call { callee:=.builtin .append,args:=#[sl,x],argTypes:=#[t,u] })
  (base:Nat) (e:TypeId) (i:TypeInfo) (ht:P.underlying t=some (.slice e)) (hu:P.underlying u=some .string) (hi:P.info? e=some i) (hz:i.zero=some (.int .u8 0))
  (hsize:i.size=1) (hby:i.bytes=1)
  (v:Value) (n:Nat) (xs:List Value) (hs:a.eval sl=v) (hown:w.ownsRow base e 1 v n xs) (s:ByteArray) (hx:a.eval x=.string s)
  (h63:n+s.size≤maxLen) (hbytes:n+s.size≤140737488355328) (hbase:base≤w.heap.size)
  (h:∀ v' w',w'.ownsRow base e 1 v' (n+s.size) (xs ++ Lib.strCells s)→w.grownBy w' v.ownBlock→K (a.put o.dst v') w'):o.wp P a w K Q:=by
 obtain ⟨v',w',hr,h2,h3,h4⟩:=Lib.run_append_own_string (P:=P) w base t u o.type e i ht hu hi hz hsize hby v n xs hown s h63 hbytes hbase
 unfold Oper.wp execOp
 simp only [ho,resolve,invoke,builtin,Sem.run_bind,Sem.run_pure,Result.andThen_ok,List.map_toArray,List.map_cons,List.map_nil,hs,hx,hr]
 exact h v' w' h2 h3
end
theorem cells_app (l s:List UInt8):Lib.byteCells (l ++ s)=Lib.byteCells l ++ Lib.byteCells s:=by simp [Lib.byteCells]
theorem own_app {x:World} {B:Nat} {v:Value} {l:List UInt8} {n:Nat} {cs:List Value} (s:List UInt8) (h:x.ownsRow B 5 1 v (l.length+n) (Lib.byteCells l ++ cs)) (hn:n=s.length) (hcs:cs=Lib.byteCells s):Own x B v (l ++ s):=by
 subst hn hcs
 unfold Own
 rw [List.length_append,cells_app]
 exact h
theorem add0 (g j:Nat):(⟨g,0,none⟩:Addr).add j=⟨g,j,none⟩:=by simp [Addr.add]; omega
theorem one_cells (s:List UInt8):∀ u ∈ Lib.byteCells s,u.oneCell'=true:=by
 intro u hu
 simp [Lib.byteCells] at hu
 obtain ⟨b,_,rfl⟩:=hu
 rfl
theorem infoB8:(Tryz.prog.info? 5).map (fun i=>(i.zero,i.size,i.bytes))=some (some (.int .u8 0),1,1):=by kernel_rfl
section
variable {q:Q2} {D:Nat→Prop} {f:Nat→Value} {x:World} {o:Oper} {a:Act} {K:Act→World→Prop} {Q:Exit→Act→World→Prop}
theorem app1_src (s y:Operand) (ho:o.op=.call { callee:=.builtin .append,args:=#[s,y],argTypes:=#[77,77] }) (h:J2 q D f x) (hq:q.Good) (hn:¬ D q.a1) (hn2:¬ D q.a2) (dc:D q.c1) (hs:a.eval s=q.v0) (hy:a.eval y=f q.c1) (hV:q.V q.a1=none) (hB:q.B1≤q.Bc) (hl:q.l0.length+q.s1.length≤1048576)
  (hK:∀ v' w',J2 q (fun j=>j=q.a1 ∨ D j) (rs.upd f q.a1 v') w'→K (a.put o.dst v') w'):o.wp Tryz.prog a x K Q:=by
 obtain ⟨i0,hi,hz0,hz1,hz2⟩:=info_parts infoB8
 obtain ⟨g,c,e,h1,h2,h3⟩:=h.2.2.2.2.2.2.1 dc hn
 refine wp_append_own x s y 77 ho q.B1 5 i0 _ 1 1 Tryz.underlying77 hi hz0 hz1 hz2 rfl (by decide) q.v0 q.l0.length (Lib.byteCells q.l0) hs (h.2.2.2.1 hn) ⟨g,0,none⟩ q.s1.length c (Lib.byteCells q.s1) (hy.trans e) (by simp [Lib.byteCells]) (fun j u hu=>by rw [add0]; exact h3 j u hu) (one_cells _) (by unfold maxLen; omega) (by omega) (Nat.le_trans hB h.2.2.1) ?_
 intro v' w' hown hg _
 exact hK v' w' (h.app1 v' hq hn hn2 hg (own_app _ hown rfl rfl) hV)
theorem app1_str (s y:Operand) (b:ByteArray) (ho:o.op=.call { callee:=.builtin .append,args:=#[s,y],argTypes:=#[77,9] }) (h:J2 q D f x) (hq:q.Good) (hn:¬ D q.a1) (hn2:¬ D q.a2) (hs:a.eval s=q.v0) (hy:a.eval y=.string b) (hb:q.s1=b.data.toList) (hV:q.V q.a1=none) (hB:q.B1≤q.Bc) (hl:q.l0.length+b.size≤1048576)
  (hK:∀ v' w',J2 q (fun j=>j=q.a1 ∨ D j) (rs.upd f q.a1 v') w'→K (a.put o.dst v') w'):o.wp Tryz.prog a x K Q:=by
 obtain ⟨i0,hi,hz0,hz1,hz2⟩:=info_parts infoB8
 refine wp_append_str s y 77 9 ho q.B1 5 i0 Tryz.underlying77 Tryz.underlying9 hi hz0 hz1 hz2 q.v0 q.l0.length (Lib.byteCells q.l0) hs (h.2.2.2.1 hn) b hy (by unfold maxLen; omega) (by omega) (Nat.le_trans hB h.2.2.1) ?_
 intro v' w' hown hg
 exact hK v' w' (h.app1 v' hq hn hn2 hg (own_app _ hown (by rw [hb]; rfl) (by rw [hb]; rfl)) hV)
theorem app2_src (s y:Operand) (ho:o.op=.call { callee:=.builtin .append,args:=#[s,y],argTypes:=#[77,77] }) (h:J2 q D f x) (hq:q.Good) (d1:D q.a1) (hn2:¬ D q.a2) (dc:D q.c2) (hs:a.eval s=f q.a1) (hy:a.eval y=f q.c2) (hV:q.V q.a2=none) (hB:q.B1≤q.Bc) (hl:q.l0.length+q.s1.length+q.s2.length≤1048576)
  (hK:∀ v' w',J2 q (fun j=>j=q.a2 ∨ D j) (rs.upd f q.a2 v') w'→K (a.put o.dst v') w'):o.wp Tryz.prog a x K Q:=by
 obtain ⟨i0,hi,hz0,hz1,hz2⟩:=info_parts infoB8
 obtain ⟨g,c,e,h1,h2,h3⟩:=h.2.2.2.2.2.2.2 dc hn2
 refine wp_append_own x s y 77 ho q.B1 5 i0 _ 1 1 Tryz.underlying77 hi hz0 hz1 hz2 rfl (by decide) (f q.a1) (q.l0 ++ q.s1).length (Lib.byteCells (q.l0 ++ q.s1)) hs (h.2.2.2.2.1 d1 hn2) ⟨g,0,none⟩ q.s2.length c (Lib.byteCells q.s2) (hy.trans e) (by simp [Lib.byteCells]) (fun j u hu=>by rw [add0]; exact h3 j u hu) (one_cells _) (by rw [List.length_append]; unfold maxLen; omega) (by rw [List.length_append]; omega) (Nat.le_trans hB h.2.2.1) ?_
 intro v' w' hown hg _
 exact hK v' w' (h.app2 v' hq d1 hn2 hg (own_app _ hown rfl rfl) hV)
theorem app2_str (s y:Operand) (b:ByteArray) (ho:o.op=.call { callee:=.builtin .append,args:=#[s,y],argTypes:=#[77,9] }) (h:J2 q D f x) (hq:q.Good) (d1:D q.a1) (hn2:¬ D q.a2) (hs:a.eval s=f q.a1) (hy:a.eval y=.string b) (hb:q.s2=b.data.toList) (hV:q.V q.a2=none) (hB:q.B1≤q.Bc) (hl:q.l0.length+q.s1.length+b.size≤1048576)
  (hK:∀ v' w',J2 q (fun j=>j=q.a2 ∨ D j) (rs.upd f q.a2 v') w'→K (a.put o.dst v') w'):o.wp Tryz.prog a x K Q:=by
 obtain ⟨i0,hi,hz0,hz1,hz2⟩:=info_parts infoB8
 refine wp_append_str s y 77 9 ho q.B1 5 i0 Tryz.underlying77 Tryz.underlying9 hi hz0 hz1 hz2 (f q.a1) (q.l0 ++ q.s1).length (Lib.byteCells (q.l0 ++ q.s1)) hs (h.2.2.2.2.1 d1 hn2) b hy (by rw [List.length_append]; unfold maxLen; omega) (by rw [List.length_append]; omega) (Nat.le_trans hB h.2.2.1) ?_
 intro v' w' hown hg
 exact hK v' w' (h.app2 v' hq d1 hn2 hg (own_app _ hown (by rw [hb]; rfl) (by rw [hb]; rfl)) hV)
end
theorem app_str {q:Q1} {D:Nat→Prop} {f:Nat→Value} {x:World} {o:Oper} {a:Act} {K:Act→World→Prop} {Q:Exit→Act→World→Prop} (s y:Operand) (b:ByteArray) (ho:o.op=.call { callee:=.builtin .append,args:=#[s,y],argTypes:=#[77,9] }) (h:J1 q D f x) (hq:q.Good) (hn:¬ D q.a1) (hs:a.eval s=q.v0) (hy:a.eval y=.string b) (hb:q.s1=b.data.toList) (hV:q.V q.a1=none) (hl:q.l0.length+b.size≤1048576)
  (hK:∀ v' w',J1 q (fun j=>j=q.a1 ∨ D j) (rs.upd f q.a1 v') w'→K (a.put o.dst v') w'):o.wp Tryz.prog a x K Q:=by
 obtain ⟨i0,hi,hz0,hz1,hz2⟩:=info_parts infoB8
 refine wp_append_str s y 77 9 ho q.B1 5 i0 Tryz.underlying77 Tryz.underlying9 hi hz0 hz1 hz2 q.v0 q.l0.length (Lib.byteCells q.l0) hs (h.2.2.2.1 hn) b hy (by unfold maxLen; omega) (by omega) h.2.2.1 ?_
 intro v' w' hown hg
 exact hK v' w' (h.app v' hq hn hg (own_app _ hown (by rw [hb]; rfl) (by rw [hb]; rfl)) hV)
def Tie (z a:Nat) (v:Value) (D:Nat→Prop) (f:Nat→Value):Prop:=(D z→f z=f a)∧(¬ D z→f z=v)
theorem tie_other {z a i:Nat} {v:Value} {D:Nat→Prop} {f:Nat→Value} {y:Value} (h:Tie z a v D f) (hz:z ≠ i) (ha:a ≠ i):Tie z a v (fun j=>j=i ∨ D j) (rs.upd f i y):=by
 refine ⟨fun d=>?_,fun n=>?_⟩
 ·rw [rs.upd_other f i y hz,rs.upd_other f i y ha]
  exact h.1 (d.resolve_left hz)
 ·rw [rs.upd_other f i y hz]
  exact h.2 (fun d=>n (.inr d))
theorem tie_none {z a i:Nat} {v:Value} {D:Nat→Prop} {f:Nat→Value} {y:Value} (h:Tie z a v D f) (hn:¬ D z) (hz:z ≠ i):Tie z a v (fun j=>j=i ∨ D j) (rs.upd f i y):=by
 refine ⟨fun d=>absurd (d.resolve_left hz) hn,fun n=>?_⟩
 rw [rs.upd_other f i y hz]
 exact h.2 hn
theorem tie_self {z a:Nat} {v:Value} {D:Nat→Prop} {f:Nat→Value} (hza:a ≠ z):Tie z a v (fun j=>j=z ∨ D j) (rs.upd f z (f a)):=by
 refine ⟨fun _=>?_,fun n=>absurd (.inl rfl) n⟩
 rw [rs.upd_same,rs.upd_other f z _ hza]
end Go.Proofs.YtnhcbiomkiljpaaGreatDoor.ra
namespace Go.Proofs.YtnhcbiomkiljpaaGreatDoor.mb
open Go.RowKit
open it mu
open lg (be be_len)
set_option linter.unusedVariables false
def u8 (z:Int):UInt8:=UInt8.ofNat z.toNat
theorem wrap8 {z:Int} (h0:0≤z) (h1:z < 256):IntKind.u8.wrap z=((u8 z).toNat:Int):=by
 have e:(u8 z).toNat=z.toNat:=by
  unfold u8
  rw [UInt8.toNat_ofNat']
  omega
 rw [e]
 have h256:(2:Int) ^ IntKind.u8.bits=256:=rfl
 unfold IntKind.wrap
 simp only [h256,show IntKind.u8.signed=false from rfl,Bool.false_and,Bool.false_eq_true,if_false]
 omega
def hdB (x:Mu):List UInt8:=[u8 x.k,u8 x.m,u8 x.f,u8 (x.ps.length:Int),u8 (x.b.size:Int)]
def itB (p:Pr):List UInt8:=be 2 p.1.size ++ be 2 p.2.size ++ p.1.data.toList ++ p.2.data.toList
def itsB (ps:List Pr) (k:Nat):List UInt8:=(ps.take k).flatMap itB
theorem itsB_step {ps:List Pr} {k:Nat} (h:k < ps.length):itsB ps (k+1)=itsB ps k ++ itB (ps.getD k no):=by
 unfold itsB
 rw [List.take_succ_eq_append_getElem h,List.flatMap_append]
 simp [List.getD_eq_getElem?_getD,h]
def mB (x:Mu):List UInt8:=hdB x ++ be 2 x.u.toNat ++ x.b.data.toList ++ itsB x.ps x.ps.length
theorem size_list (b:ByteArray):b.data.toList.length=b.size:=rfl
theorem itB_len (p:Pr):(itB p).length=4+p.1.size+p.2.size:=by
 simp [itB,be_len]
 omega
structure Fits (x:Mu):Prop where
 k:0≤x.k∧x.k < 256
 u:0≤x.u∧x.u < 65536
 m:0≤x.m∧x.m < 256
 f:0≤x.f∧x.f < 256
 b:x.b.size≤40
 n:x.ps.length≤20
 i:∀ j,j < x.ps.length→(x.ps.getD j no).1.size≤200∧(x.ps.getD j no).2.size≤4000
theorem fits_of {x:Mu} (h:mok x=true):Fits x:=by
 unfold mok at h
 rw [Bool.and_eq_true,Bool.and_eq_true] at h
 obtain ⟨⟨h1,h2⟩,h3⟩:=h
 have hn:nm.IsName x.b:=by
  unfold nmB at h1
  exact ow.dof h1
 have hi:=its_of h2
 have hk:=of_decide_eq_true h3
 refine ⟨by omega,by omega,by omega,by omega,hn.2.1,hi.1,fun j hj=>?_⟩
 have:=of_decide_eq_true (hi.2 j hj)
 exact ⟨this.1.2,this.2⟩
theorem itsB_len {x:Mu} (h:Fits x):∀ k,k≤x.ps.length→(itsB x.ps k).length≤k * 4204
 | 0,_=>by simp [itsB]
 | k+1,hk=>by
  have h1:=itsB_len h k (by omega)
  have h2:=h.i k (by omega)
  rw [itsB_step (by omega),List.length_append,itB_len]
  omega
theorem mB_len {x:Mu} (h:Fits x):(mB x).length≤100000:=by
 have h1:=itsB_len h x.ps.length (Nat.le_refl _)
 have h2:=h.n
 have h3:=h.b
 simp only [mB,List.length_append,be_len,size_list,hdB,List.length_cons,List.length_nil]
 omega
theorem bz_cells (n N:Nat):(lg.bz n N).map (Value.int .u8)=Lib.byteCells (be n N):=by
 simp [lg.bz,Lib.byteCells]
def IVar (x:World) (G:Nat) (a b:ByteArray):Prop:=x.heap[G]? = some (.cells #[.string a,.string b] 87 (0,0))
section
variable {x x':World} {G:Nat} {a b:ByteArray}
theorem IVar.c0 (h:IVar x G a b):x.cell? ⟨G,0,none⟩=some (.string a):=by rw [cell_of_row _ _ 0 _ _ _ h]; rfl
theorem IVar.c1 (h:IVar x G a b):x.cell? ⟨G,0+1,none⟩=some (.string b):=by rw [cell_of_row _ _ _ _ _ _ h]; rfl
theorem IVar.lt (h:IVar x G a b):G < x.heap.size:=(Array.getElem?_eq_some_iff.1 h).1
theorem IVar.below (h:IVar x G a b) (hb:Below x.heap.size x x'):IVar x' G a b:=(hb.block G h.lt).trans h
theorem IVar.row {B:Nat} {v:Value} {l:List UInt8} (h:IVar x G a b) (ho:ra.Own x B v l) (hg:x.grownBy x' v.ownBlock):IVar x' G a b:=by
 refine (hg.block G h.lt (fun e=>?_)).trans h
 rcases ho.2 with ⟨rfl,_⟩ | ⟨g,cap,cur,rfl,_,hb,_⟩
 ·simp [Value.ownBlock] at e
 ·have e:G=g:=by simpa [Value.ownBlock] using e
  subst e
  unfold IVar at h
  rw [h] at hb
  simp at hb
end
def K0 (w1:World) (x:World):Prop:=Below w1.heap.size w1 x
theorem K0.below {w1 x x':World} (h:K0 w1 x) (hb:Below x.heap.size x x'):K0 w1 x':=Below.trans h (hb.mono (Below.size h))
theorem K0.row {w1 x x':World} {v:Value} {l:List UInt8} (h:K0 w1 x) (ho:ra.Own x w1.heap.size v l) (hg:x.grownBy x' v.ownBlock):K0 w1 x':=Below.grown h hg (Below.size h) (fun k hk=>(ho.lt k hk).1)
theorem own_five (x:World) (B:Nat) (c0 c1 c2 c3 c4:UInt8) (hB:B≤x.heap.size):ra.Own (x.alloc (.cells #[.int .u8 (c0.toNat:Int),.int .u8 (c1.toNat:Int),.int .u8 (c2.toNat:Int),.int .u8 (c3.toNat:Int),.int .u8 (c4.toNat:Int)] 5)) B (.slice (some ⟨x.heap.size,0,none⟩) 5 5) [c0,c1,c2,c3,c4] :=
 ⟨by simp [Lib.byteCells],.inr ⟨x.heap.size,5,_,rfl,hB,(MapKept.heap_alloc x _).1,Nat.le_refl _,by unfold maxLen; omega,rfl,rfl⟩⟩
end Go.Proofs.YtnhcbiomkiljpaaGreatDoor.mb
