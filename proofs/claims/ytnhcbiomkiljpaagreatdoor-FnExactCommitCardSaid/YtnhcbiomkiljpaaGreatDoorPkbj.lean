/-
  The specification's l10Replay.
  Both ReplayLog functions.
  An engine as an argument: it is measured, copied, compared.
  Two stored mails are held against each other, and rows of them, and rows of texts.
-/
import Derived.Test.YtnhcbiomkiljpaaGreatDoorPkbi
import Derived.Test.YtnhcbiomkiljpaaGreatDoorPkaf
import Derived.Test.YtnhcbiomkiljpaaGreatDoorPkba
import Derived.Test.YtnhcbiomkiljpaaGreatDoorPkab
import Derived.Test.YtnhcbiomkiljpaaGreatDoorPkag
import Derived.DeepKeys
import Derived.Deep.QuietTactic
import Derived.BigQuiet
namespace Go.Proofs.YtnhcbiomkiljpaaGreatDoor.rp
open Go.RowKit
open st gr bx mx bl wi ml sa lg
set_option linter.unusedVariables false
def Rr (t:ByteArray) (ys:List Bx) (n c:Int):Prop :=
 ∃ zs b,Rp (recs t).1 [] (zs,b)∧((b=false∧ys=[]∧n=0∧c=3) ∨ (b=true∧(recs t).2.2=8∧ys=[]∧n=0∧c=8) ∨ (b=true∧(recs t).2.2 ≠ 8∧ys=zs∧n=((recs t).1.length:Nat)∧c=0))
theorem boxes_nil (w:World) (vs:Nat→Value × Value):BoxesAt (w.alloc (.cells #[] 85)) (.slice (some ⟨w.heap.size,0,none⟩) 0 0) [] vs:=ownL_boxes (⟨World.ownsRow_made w #[] 0 (Nat.le_refl _) (Nat.zero_le _) rfl,fun j hj=>absurd hj (Nat.not_lt_zero _),fun i j _ hj=>absurd hj (Nat.not_lt_zero _)⟩:OwnL _ w.heap.size _ [] vs)
theorem fines_nil (vs:Nat→Value × Value):Fines [] vs:=fun j hj=>absurd hj (Nat.not_lt_zero _)
def nv:Nat→Value × Value:=fun _=>(.slice none 0 0,.slice none 0 0)
set_option maxHeartbeats 4000000 in
set_option maxRecDepth 100000 in
theorem specRp_any (T:ByteArray) (w:World) (hT:T.size≤1048576) :
  Calls Tryz.prog 80 #[.string T] w fun e w'=>(∃ L ys vs n c,e=.returned (.tuple #[L,.int .i64 n,.int .i64 c])∧Rr T ys n c∧BoxesAt w' L ys vs∧Fines ys vs∧bx.Smalls ys∧sok ys=true)∧Below w.heap.size w w':=by
 go_enter Tryz.func80,Tryz.ntmps80
 go_wp2_with fail
 refine (l08Records_any T w hT).mono ?_
 rintro e w1 ⟨⟨v,rfl,hOT⟩,hb1⟩
 obtain ⟨ts,hts⟩:∃ ts,ts=(recs T).1:=⟨_,rfl⟩
 obtain ⟨cd,hcd⟩:∃ cd,cd=(recs T).2.2:=⟨_,rfl⟩
 have HS:Hid (∀ x ∈ ts,x.size≤20000):=by rw [hts]; exact recs_small T
 have HRR:Hid (∀ zs b ys n c,Rp ts [] (zs,b)→((b=false∧ys=[]∧n=0∧c=3) ∨ (b=true∧cd=8∧ys=[]∧n=0∧c=8) ∨ (b=true∧cd ≠ 8∧ys=zs∧n=((ts.length:Nat):Int)∧c=0))→Rr T ys n c):=fun zs b ys n c h1 h2=>⟨zs,b,by rw [← hts]; exact h1,by rw [← hcd,← hts]; exact h2⟩
 have htl:ts.length≤T.size:=by rw [hts]; exact (recs_le T).2.1
 rw [← hts] at hOT
 rw [← hcd]
 clear hts hcd
 obtain ⟨n,hn⟩:∃ n,n=ts.length:=⟨_,rfl⟩
 have HN:Hid (n=ts.length):=hn
 have hTX:=ky.own_texts hOT
 obtain ⟨a,cap,rfl,hc⟩:=hTX
 have HC:Hid (ts=[] ∨ ∃ b off,a=some ⟨b,off,none⟩∧∀ j,j < ts.length→w1.cell? ⟨b,off+j,none⟩=some (.string (ts.getD j ky.nt))):=hc
 have hnl:n≤1048576:=by omega
 rw [← hn]
 have HB1:Hid (Below w.heap.size w w1):=hb1
 have bb1:Below w1.heap.size w1 (w1.alloc (.cells #[] 85)):=(Below.refl _ _).alloc (Nat.le_refl _) _
 have hbx:=boxes_nil w1 nv
 clear hn hc hOT hb1 htl
 generalize (recs T).2.1=sz
 go_wp2_with fail
 generalize w1.alloc _=w1' at bb1 hbx ⊢
 go_loopw [8,9] (fun L i wr=>∃ (k:Nat) (xs:List Bx) (vs:Nat→Value × Value),k≤n∧i=.int .i64 k∧BoxesAt wr L xs vs∧Fines xs vs∧bx.Smalls xs∧sok xs=true∧Below w1.heap.size w1 wr∧Hid (Go ts k xs)) (fun _ i _=>n - (intOf i).toNat)
 case atStart=>exact ⟨0,[],nv,Nat.zero_le _,rfl,hbx,fines_nil _,smalls_nil,sok_nil,bb1,go_start ts⟩
 case round =>
  clear hbx bb1
  obtain ⟨k,xs,vs,hk,rfl,hB,hF,hsm,hso,hbw,HG⟩:=hrel
  have HBX:Hid (BoxesAt wr u8 xs vs∧Fines xs vs):=⟨hB,hF⟩
  obtain ⟨⟨La,Lc,rfl,_⟩,_⟩:=hB
  have hBs:=hbw.size
  have HX:Hid (bx.Smalls xs∧sok xs=true):=⟨hsm,hso⟩
  have HBW:Hid (Below w.heap.size w wr):=HB1.out.trans (hbw.mono HB1.out.size)
  have hxl:=hsm.1
  clear hF hsm hso
  by_cases hlt:k < n
  ·have hlt':(k:Int) < (n:Int):=by omega
   have hk0:(0:Int)≤(k:Int):=by omega
   have HKL:Hid (k < ts.length):=by rw [← HN.out]; exact hlt
   obtain ⟨t,ht⟩:∃ t,ts.getD k ky.nt=t:=⟨_,rfl⟩
   have hts:t.size≤20000:=by
    rw [← ht,List.getD_eq_getElem?_getD,List.getElem?_eq_getElem HKL.out]
    exact HS.out _ (List.getElem_mem _)
   rcases HC.out with e | ⟨b,off,rfl,hcells⟩
   ·have:=HKL.out; rw [e] at this; simp at this
   have c0:wr.cell? ⟨b,off+k,none⟩=some (.string t):=by
    have:=hcells k HKL.out
    rw [ht] at this
    exact (hbw.cell (p:=⟨b,off+k,none⟩) (World.block_lt_of_cell? w1 _ this)).trans this
   have HT:Hid (ts.getD k ky.nt=t):=ht
   clear hcells ht
   go_wp2_with fail
   refine (rm.read_any t wr (by omega)).mono ?_
   rintro e w2 ⟨⟨M,u,rfl,hxm,hru⟩,hb2⟩
   have hbw2:=hbw.trans (hb2.mono hBs)
   have HBW2:Hid (Below w1.heap.size w1 w2∧Below wr.heap.size wr w2):=⟨hbw2,hb2⟩
   have HE2:Hid (Below w.heap.size w w2):=HB1.out.trans (hbw2.mono HB1.out.size)
   obtain ⟨ua,uc,rfl,_⟩:=rm.rows_at hru
   have HIT:Hid (it.AttrsAt w2 (.slice ua M.ps.length uc) M.ps):=rm.rows_at hru
   clear c0 hbw hbw2 hb2 hru
   cases hr:rm.rok t with
   | false =>
    have HR:Hid (Rr T [] 0 3):=HRR.out _ _ _ _ _ (go_bad HG.out HKL.out HT.out hr) (.inl ⟨rfl,rfl,rfl,rfl⟩)
    have HE:Hid (Below w.heap.size w (w2.alloc (.cells #[.int .i64 M.k,.int .i64 M.u,.int .i64 M.m,.int .i64 M.f,.string M.b,.slice ua M.ps.length uc] 41))):=HE2.out.alloc HE2.out.size _
    unfold mu.MV
    clear hr hxm HG
    have hz3:(w2.alloc (.cells #[.int .i64 M.k,.int .i64 M.u,.int .i64 M.m,.int .i64 M.f,.string M.b,.slice ua M.ps.length uc] 41)).heap.size=w2.heap.size+1:=by simp
    go_wp2_with fail
    generalize w2.alloc _=w3 at HE hz3 ⊢
    have hbn:=boxes_nil w3 nv
    rw [hz3] at hbn
    have HE4:Hid (Below w.heap.size w (w3.alloc (.cells #[] 85))):=HE.out.alloc HE.out.size _
    go_wp2
    go_ret3
    exact ⟨⟨_,[],nv,0,3,rfl,HR.out,hbn,fines_nil _,smalls_nil,sok_nil⟩,HE4.out⟩
   | true =>
    have hM:M=mt t:=hxm hr
    have HR:Hid (rm.rok t=true):=hr
    have hsm:=mt_small t
    have hmo:=mt_ok hr
    rw [← hM] at hsm hmo
    have HM:Hid (M=mt t):=hM
    clear hr hxm hM
    have hb3:=mu.new_below w2 41 #[.int .i64 M.k,.int .i64 M.u,.int .i64 M.m,.int .i64 M.f,.string M.b,.slice ua M.ps.length uc]
    have L3:=mu.lies_new w2 41 M (.slice ua M.ps.length uc)
    have hb23:=HBW2.out.2.trans (hb3.mono HBW2.out.2.size)
    have HMU:Hid (Calls Tryz.prog 43 #[.slice La xs.length Lc,mu.MV M (.slice ua M.ps.length uc)] (w2.alloc (.cells #[.int .i64 M.k,.int .i64 M.u,.int .i64 M.m,.int .i64 M.f,.string M.b,.slice ua M.ps.length uc] 41)) fun e w'=>Ls (Am xs M) e w'∧Below (w2.alloc (.cells #[.int .i64 M.k,.int .i64 M.u,.int .i64 M.m,.int .i64 M.f,.string M.b,.slice ua M.ps.length uc] 41)).heap.size (w2.alloc (.cells #[.int .i64 M.k,.int .i64 M.u,.int .i64 M.m,.int .i64 M.f,.string M.b,.slice ua M.ps.length uc] 41)) w'):=(show Calls _ _ _ _ _ from apply_any _ xs vs M _ _ (boxes_below HBX.out.1 hb23) HBX.out.2 HX.out.1 (it.at_below HIT.out hb3) hsm HX.out.2 hmo)
    have HBW3:Hid (Below w1.heap.size w1 (w2.alloc (.cells #[.int .i64 M.k,.int .i64 M.u,.int .i64 M.m,.int .i64 M.f,.string M.b,.slice ua M.ps.length uc] 41))):=HBW2.out.1.alloc HBW2.out.1.size _
    have q0:=L3.c0
    have q1:=L3.c1
    have q2:=L3.c2
    have q3:=L3.c3
    have q4:=L3.c4
    have q5:=L3.c5
    have HMS:Hid (mu.Small M∧mu.mok M=true):=⟨hsm,hmo⟩
    clear hb3 L3 HIT hsm hmo hb23
    unfold mu.MV at HMU ⊢
    go_wp2_with fail
    generalize w2.heap.size=P at q0 q1 q2 q3 q4 q5 ⊢
    generalize w2.alloc _=w3 at HMU HBW3 q0 q1 q2 q3 q4 q5 ⊢
    refine HMU.out.mono ?_
    rintro e w4 ⟨⟨L',ys,us',c,rfl,hA,hB',hF'⟩,hb4⟩
    have HO4:Hid (BoxesAt w4 L' ys us'∧Fines ys us'):=⟨hB',hF'⟩
    obtain ⟨⟨La',Lc',rfl,_⟩,_⟩:=hB'
    have HB4:Hid (Below w1.heap.size w1 w4):=HBW3.out.trans (hb4.mono HBW3.out.size)
    have HE4:Hid (Below w.heap.size w w4):=HB1.out.trans (HB4.out.mono HB1.out.size)
    have HA:Hid (Am xs (mt t) ys c):=by rw [← HM.out]; exact hA
    have HYS:Hid (bx.Smalls ys):=am_small HX.out.1 HMS.out.1 HX.out.2 HMS.out.2 hA
    clear HMU HBW3 q0 q1 q2 q3 q4 q5 hF' hb4 hA
    by_cases hc0:c=0
    ·subst hc0
     have HG2:Hid (Go ts (k+1) ys):=go_next HG.out HKL.out HT.out HR.out HA.out
     have HSY:Hid (sok ys=true):=am_ok HX.out.2 (by rw [← HM.out]; exact HMS.out.2:mu.mok (mt t)=true) HA.out
     clear HG HA
     go_wp2
     go_roundw
     case rel=>exact ⟨k+1,ys,us',by omega,by go_num,HO4.out.1,HO4.out.2,HYS.out,HSY.out,HB4.out,HG2⟩
     case measure=>simp [intOf]; omega
    ·have hc1:(c != 0)=true:=by rw [bne_iff_ne]; exact hc0
     have HRR2:Hid (Rr T [] 0 3):=HRR.out _ _ _ _ _ (go_code HG.out HKL.out HT.out HR.out HA.out hc0) (.inl ⟨rfl,rfl,rfl,rfl⟩)
     have hbn:=boxes_nil w4 nv
     have HE5:Hid (Below w.heap.size w (w4.alloc (.cells #[] 85))):=HE4.out.alloc HE4.out.size _
     clear HG HA hc0
     go_wp2
     go_ret3
     exact ⟨⟨_,[],nv,0,3,rfl,HRR2.out,hbn,fines_nil _,smalls_nil,sok_nil⟩,HE5.out⟩
  ·have hlt':(n:Int)≤(k:Int):=by omega
   have HR:Hid (Rp ts [] (xs,true)):=go_end HG.out (by rw [← HN.out]; omega)
   clear HG hbw
   by_cases h8:cd=8
   ·have h8':((cd:Int) == 8)=true:=by rw [beq_iff_eq]; omega
    have HR2:Hid (Rr T [] 0 8):=HRR.out _ _ _ _ _ HR.out (.inr (.inl ⟨rfl,h8,rfl,rfl,rfl⟩))
    have hbn:=boxes_nil wr nv
    have HE5:Hid (Below w.heap.size w (wr.alloc (.cells #[] 85))):=HBW.out.alloc HBW.out.size _
    subst h8
    go_wp2
    go_ret3
    exact ⟨⟨_,[],nv,0,8,rfl,HR2.out,hbn,fines_nil _,smalls_nil,sok_nil⟩,HE5.out⟩
   ·have h8':((cd:Int) == 8)=false:=by rw [beq_eq_false_iff_ne]; omega
    have HR2:Hid (Rr T xs (n:Int) 0):=HRR.out _ _ _ _ _ HR.out (.inr (.inr ⟨rfl,h8,rfl,by rw [HN.out],rfl⟩))
    clear h8
    go_wp2
    go_ret3
    exact ⟨⟨_,xs,vs,_,0,rfl,HR2.out,HBX.out.1,HBX.out.2,HX.out.1,HX.out.2⟩,HBW.out⟩
end Go.Proofs.YtnhcbiomkiljpaaGreatDoor.rp
namespace Go.Proofs.YtnhcbiomkiljpaaGreatDoor.rp
open Go.RowKit
open st gr bx mx bl wi ml sa lg
set_option linter.unusedVariables false
theorem few_sok {ys:List Bx} (h:sok ys=true):Few ys:=by
 obtain ⟨h1,h2⟩:=sok_of h
 refine ⟨by omega,fun j hj=>?_⟩
 have:=bok_iff.1 (h2 j hj).1
 exact ⟨by have:=this.2.2.2.1.1; omega,by have:=this.2.2.2.2.2.1.1; omega⟩
end Go.Proofs.YtnhcbiomkiljpaaGreatDoor.rp
namespace Go.Proofs.YtnhcbiomkiljpaaGreatDoor.eg
open Go.ChangeShapes Go.WideShapes Go.ChangeAt Go.RowKit Go.Deep Go.Joins
open bx
open lg (LV)
set_option linter.unusedVariables false
def EV (r:Int) (d:ByteArray) (s:Int) (v:Value):Value:=.agg #[.int .i64 r,.string d,.int .i64 s,v]
section
variable {H:Type} {enc:TypeId × Value→H} {w:World} {base:Nat} {spare:Nat→Bool} {held:Bool}
theorem four_list {α:Type} {l:List α} (h:l.length=4):∃ a b c d,l=[a,b,c,d]:=by
 match l,h with
 | [a,b,c,d],_=>exact ⟨a,b,c,d,rfl⟩
set_option maxRecDepth 100000 in
theorem open_engine {r:Reach} {b0:Nat} {v:Value} {d:DataW H} {p:List MemPlace} (hv:Value.okWide Tryz.prog w r b0 26 v) (h:DataW.Trod enc Tryz.prog w base spare held 26 v d p) :
  ∃ (r:Int) (dd:ByteArray) (s:Int) (u:Value) (xs:List Bx) (vs:Nat→Value × Value),v=EV r dd s u∧lg.In r∧dd.size≤maxLen∧lg.In s∧BoxesAt w u xs vs∧xs.length≤maxLen∧∀ j,j < xs.length→Held (xs.getD j noB):=by
 obtain ⟨cs,rfl,hsz⟩:=okWide_struct Tryz.underlying26 hv
 obtain ⟨fuel,hf⟩:=h
 have hcs:(Value.agg cs).cells.toList=cs.toList:=by simp [Value.cells]
 rw [hcs] at hf
 obtain ⟨y0,y1,n,_,hl,t0,t1⟩:=trod_struct2 Tryz.underlying26 hf
 have hl4:cs.toList.length=4:=hl.trans (by kernel_rfl)
 obtain ⟨c0,c1,c2,c3,hc⟩:=four_list hl4
 rw [hc] at t0 t1
 have t0':DataW.trod enc Tryz.prog w base spare held n 23 [c0,c1,c2]=some y0:=t0
 have t1':DataW.trod enc Tryz.prog w base spare held n 24 [c3]=some y1:=t1
 obtain ⟨z0,z1,z2,n2,_,_,s0,s1,s2⟩:=trod_struct3 Tryz.underlying23 t0'
 have s0':DataW.trod enc Tryz.prog w base spare held n2 3 [c0]=some z0:=s0
 have s1':DataW.trod enc Tryz.prog w base spare held n2 9 [c1]=some z1:=s1
 have s2':DataW.trod enc Tryz.prog w base spare held n2 3 [c2]=some z2:=s2
 obtain ⟨i0,e0,_,f0⟩:=DataW.trod_int Tryz.underlying3 s0'
 obtain ⟨i1,e1,_,f1⟩:=DataW.trod_string Tryz.underlying9 s1'
 obtain ⟨i2,e2,_,f2⟩:=DataW.trod_int Tryz.underlying3 s2'
 simp only [List.cons.injEq,and_true] at e0 e1 e2
 subst e0 e1 e2
 obtain ⟨xs,vs,hat,hxl,hh⟩:=open_boxes t1'
 exact ⟨i0,i1,i2,c3,xs,vs,congrArg Value.agg (Array.toList_inj.1 hc),lg.in_of_wf f0,f1,lg.in_of_wf f2,hat,hxl,hh⟩
end
def LiesE (w:World) (b:Nat) (T:TypeId) (r:Int) (d:ByteArray) (s:Int) (v:Value):Prop:=w.heap[b]? = some (.cells #[.int .i64 r,.string d,.int .i64 s,v] T (0,0))
section
variable {w w':World} {b:Nat} {T:TypeId} {r:Int} {d:ByteArray} {s:Int} {v:Value}
theorem LiesE.c0 (h:LiesE w b T r d s v):w.cell? ⟨b,0,none⟩=some (.int .i64 r):=by rw [cell_of_row w _ _ _ _ _ h]; rfl
theorem LiesE.c1 (h:LiesE w b T r d s v):w.cell? ⟨b,0+1,none⟩=some (.string d):=by rw [cell_of_row w _ _ _ _ _ h]; rfl
theorem LiesE.c2 (h:LiesE w b T r d s v):w.cell? ⟨b,0+2,none⟩=some (.int .i64 s):=by rw [cell_of_row w _ _ _ _ _ h]; rfl
theorem LiesE.c3 (h:LiesE w b T r d s v):w.cell? ⟨b,0+3,none⟩=some v:=by rw [cell_of_row w _ _ _ _ _ h]; rfl
theorem LiesE.f (h:LiesE w b T r d s v) (j:Nat):w.frozen? ⟨b,j,none⟩=false:=frozen_of_row _ _ _ _ _ h
theorem LiesE.lt (h:LiesE w b T r d s v):b < w.heap.size:=World.block_lt_of_cell? w _ h.c0
theorem LiesE.keep (h:LiesE w b T r d s v) (hb:Below w.heap.size w w'):LiesE w' b T r d s v:=(hb.block b h.lt).trans h
theorem liesE_new (w:World) (T:TypeId) (r:Int) (d:ByteArray) (s:Int) (v:Value):LiesE (w.alloc (.cells #[.int .i64 r,.string d,.int .i64 s,v] T)) w.heap.size T r d s v:=by show (w.heap.push _)[w.heap.size]? = _; simp
end
theorem new_below (w:World) (T:TypeId) (cs:Array Value):Below w.heap.size w (w.alloc (.cells cs T)):=(Below.refl _ _).alloc (Nat.le_refl _) _
theorem boxes_hi {w w':World} {B n c:Nat} {xs:List Bx} {vs:Nat→Value × Value} (h:BoxesAt w (.slice (some ⟨B,0,none⟩) n c) xs vs) (hm:Rws w B xs vs xs.length) (hw:∀ q,B≤q→w'.heap[q]? = w.heap[q]?) (hs:w'.heap.size=w.heap.size):BoxesAt w' (.slice (some ⟨B,0,none⟩) n c) xs vs:=by
 obtain ⟨⟨a,cap,e,h⟩,h2⟩:=h
 have hB:=hw B (Nat.le_refl _)
 refine ⟨⟨a,cap,e,?_⟩,fun j hj=>?_⟩
 ·rcases h with h | ⟨b,off,rfl,hb,h⟩
  ·exact .inl h
  ·cases e
   refine .inr ⟨B,0,rfl,by rw [hs]; exact hb,fun j hj=>?_⟩
   obtain ⟨h0,h1,h2,h3,h4⟩:=h j hj
   exact ⟨by rw [← h0]; simp only [World.cell?,hB],by rw [← h1]; simp only [World.cell?,hB],by rw [← h2]; simp only [World.cell?,hB],by rw [← h3]; simp only [World.cell?,hB],by rw [← h4]; simp only [World.cell?,hB]⟩
 ·obtain ⟨g,g',e2,l1,l2,_,_⟩:=hm j hj
  have:=h2 j hj
  rw [e2] at this ⊢
  exact ⟨mails_other this.1 (hw g (by omega)) (fun h=>by rw [hs]; exact h),texts_other this.2 (hw g' (by omega)) (fun h=>by rw [hs]; exact h)⟩
theorem rws_hi {w w':World} {B k:Nat} {xs:List Bx} {vs:Nat→Value × Value} (hm:Rws w B xs vs k) (hw:∀ q,B≤q→w'.heap[q]? = w.heap[q]?):Rws w' B xs vs k:=fun j hj=>by
 obtain ⟨g,g',e,h1,h2,⟨c1,h3⟩,⟨c2,h4⟩⟩:=hm j hj
 exact ⟨g,g',e,h1,h2,⟨c1,mu.own_block h3 (hw g (by omega))⟩,⟨c2,mu.own_block h4 (hw g' (by omega))⟩⟩
theorem mine_hi {w w':World} {B:Nat} {xs:List Bx} {vs:Nat→Value × Value} (h:Mine w B xs vs) (hw:∀ q,B≤q→w'.heap[q]? = w.heap[q]?):Mine w' B xs vs:=by
 obtain ⟨⟨cs,h1,h2⟩,h3⟩:=h
 exact ⟨⟨cs,mu.own_block h1 (hw B (Nat.le_refl _)),h2⟩,rws_hi h3 hw⟩
set_option maxHeartbeats 1000000 in
set_option maxRecDepth 100000 in
theorem szEngine_any (r:Int) (d:ByteArray) (s:Int) (v:Value) (xs:List Bx) (vs:Nat→Value × Value) (w:World) (h:BoxesAt w v xs vs) (hd:d.size≤maxLen) (hl:xs.length≤maxLen) (hh:∀ j,j < xs.length→Held (xs.getD j noB)) :
  Calls Tryz.prog 5 #[EV r d s v,.int .i64 1048576] w fun e w'=>(∃ z:Int,e=.returned (.int .i64 z)∧z≤1048576∧-1≤z∧(0≤z→d.size≤1048576∧Smalls xs))∧Below w.heap.size w w':=by
 have L0:=liesE_new w 26 r d s v
 have b0:=new_below w 26 #[.int .i64 r,.string d,.int .i64 s,v]
 have HA:Hid (BoxesAt w v xs vs):=h
 have HH:Hid (∀ j,j < xs.length→Held (xs.getD j noB)):=hh
 obtain ⟨⟨a,cap,rfl,_⟩,_⟩:=h
 clear hh
 unfold EV
 have c0:=L0.c0
 have c1:=L0.c1
 have c2:=L0.c2
 have c3:=L0.c3
 go_enter Tryz.func5,Tryz.ntmps5
 go_wp2_with fail
 generalize w.alloc _=w0 at L0 b0 c0 c1 c2 c3 ⊢
 refine (lg.szLog_any r d s w0 hd).mono ?_
 rintro e w1 ⟨⟨z,rfl,hz0,hz1,hz2⟩,hb1⟩
 have L1:=L0.keep hb1
 have b1:=b0.trans (hb1.mono b0.size)
 have d3:=L1.c3
 clear c0 c1 c2 c3 L0 L1 b0 hb1
 by_cases hz:z < 0
 ·go_wp2
  go_ret
  exact ⟨⟨_,rfl,by omega,by omega,fun h=>by omega⟩,b1⟩
 go_wp2_with fail
 refine (szBoxS_any _ xs vs z w1 (boxes_below HA.out b1) (by omega) hz1 hl HH.out).mono ?_
 rintro e w2 ⟨⟨z2,rfl,hy0,hy1,hy2⟩,hb2⟩
 have b2:=b1.trans (hb2.mono b1.size)
 have HY:Hid (0≤z2→Smalls xs):=hy2
 clear b1 hb2 hy2 d3 HA HH
 by_cases hy:z2 < 0
 ·go_wp2
  go_ret
  exact ⟨⟨_,rfl,by omega,by omega,fun h=>by omega⟩,b2⟩
 ·go_wp2
  go_ret
  exact ⟨⟨_,rfl,by omega,by omega,fun h=>⟨by omega,HY.out h⟩⟩,b2⟩
def fin (w2:World) (b:Nat) (r:Int) (d:ByteArray) (s:Int) (V:Value):World:=((((w2.setCell ⟨b+1+1,3,none⟩ V).setCell ⟨b+1,0,none⟩ (.int .i64 r)).setCell ⟨b+1,1,none⟩ (.string d)).setCell ⟨b+1,2,none⟩ (.int .i64 s)).setCell ⟨b+1,3,none⟩ V
theorem fin_block {w2:World} {b:Nat} {T:TypeId} {u0 u1 u2 u3:Value} (h:w2.heap[b+1]? = some (.cells #[u0,u1,u2,u3] T (0,0))) (r:Int) (d:ByteArray) (s:Int) (V:Value):LiesE (fin w2 b r d s V) (b+1) T r d s V:=by
 have M1:=(heap_setCell_other w2 ⟨b+1+1,3,none⟩ (b+1) V (by simp)).trans h
 exact heap_setCell_same _ (b+1) 3 _ _ _ (heap_setCell_same _ (b+1) 2 _ _ _ (heap_setCell_same _ (b+1) 1 _ _ _ (heap_setCell_same _ (b+1) 0 _ _ _ M1)))
theorem fin_other (w2:World) (b g:Nat) (r:Int) (d:ByteArray) (s:Int) (V:Value) (h1:g ≠ b+1) (h2:g ≠ b+1+1):(fin w2 b r d s V).heap[g]? = w2.heap[g]?:=by
 unfold fin
 rw [heap_setCell_other _ _ _ _ h1,heap_setCell_other _ _ _ _ h1,heap_setCell_other _ _ _ _ h1,heap_setCell_other _ _ _ _ h1,heap_setCell_other _ _ _ _ h2]
theorem fin_size (w2:World) (b:Nat) (r:Int) (d:ByteArray) (s:Int) (V:Value):(fin w2 b r d s V).heap.size=w2.heap.size:=by
 unfold fin
 simp
theorem fin_below {w w2:World} {b:Nat} (h:Below b w w2) (r:Int) (d:ByteArray) (s:Int) (V:Value):Below b w (fin w2 b r d s V):=by
 unfold fin
 exact ((((h.setCell (by simp; omega) _).setCell (by simp) _).setCell (by simp) _).setCell (by simp) _).setCell (by simp) _
def put3 (w:World) (g:Nat) (r:Int) (d:ByteArray) (s:Int):World:=((w.setCell ⟨g,0,none⟩ (.int .i64 r)).setCell ⟨g,1,none⟩ (.string d)).setCell ⟨g,2,none⟩ (.int .i64 s)
theorem put3_block {w:World} {g:Nat} {T:TypeId} {r0 s0:Int} {d0:ByteArray} {v:Value} (h:LiesE w g T r0 d0 s0 v) (r:Int) (d:ByteArray) (s:Int):LiesE (put3 w g r d s) g T r d s v :=
 heap_setCell_same _ g 2 _ _ _ (heap_setCell_same _ g 1 _ _ _ (heap_setCell_same _ g 0 _ _ _ h))
theorem put3_other (w:World) (b g:Nat) (r:Int) (d:ByteArray) (s:Int) (h1:g ≠ b):(put3 w b r d s).heap[g]? = w.heap[g]?:=by
 unfold put3
 rw [heap_setCell_other _ _ _ _ h1,heap_setCell_other _ _ _ _ h1,heap_setCell_other _ _ _ _ h1]
theorem put3_size (w:World) (b:Nat) (r:Int) (d:ByteArray) (s:Int):(put3 w b r d s).heap.size=w.heap.size:=by
 unfold put3
 simp
theorem put3_below {w w2:World} {b g:Nat} (h:Below b w w2) (hg:b≤g) (r:Int) (d:ByteArray) (s:Int):Below b w (put3 w2 g r d s):=by
 unfold put3
 exact ((h.setCell hg _).setCell hg _).setCell hg _
def CopyB (w:World) (B:Nat) (v:Value) (xs:List Bx) (vs:Nat→Value × Value):Prop:=v=.slice (some ⟨B,0,none⟩) xs.length xs.length∧BoxesAt w v xs vs∧Mine w B xs vs∧∀ j,j < xs.length→∀ a n c,(vs j).2=.slice a n c→n≤c
set_option maxHeartbeats 2000000 in
set_option maxRecDepth 100000 in
theorem toEngine_any (r:Int) (d:ByteArray) (s:Int) (v:Value) (xs:List Bx) (vs:Nat→Value × Value) (w:World) (h:BoxesAt w v xs vs) (hs:Smalls xs) :
  Calls Tryz.prog 8 #[EV r d s v] w fun e w'=>∃ B u us,e=.returned (EV r d s u)∧CopyB w' B u xs us∧w.heap.size≤B∧Below w.heap.size w w':=by
 have HA:Hid (BoxesAt w v xs vs):=h
 have HS:Hid (Smalls xs):=hs
 obtain ⟨⟨a,cap,rfl,_⟩,_⟩:=h
 clear hs
 obtain ⟨W,hW⟩:∃ W,W=(((w.alloc (.cells #[.int .i64 r,.string d,.int .i64 s,.slice a xs.length cap] 26)).alloc (.cells #[.int .i64 0,.string ⟨#[]⟩,.int .i64 0,.slice none 0 0] 35)).alloc (.cells #[.int .i64 0,.string ⟨#[]⟩,.int .i64 0,.slice none 0 0] 35)):=⟨_,rfl⟩
 unfold EV
 go_enter Tryz.func8,Tryz.ntmps8
 go_wp2_with fail
 have b3:Below w.heap.size w W:=by rw [hW]; exact ((new_below w _ _).alloc (by simp) _).alloc (by simp; omega) _
 have sz:W.heap.size=w.heap.size+3:=by rw [hW]; simp
 have k0:LiesE W w.heap.size 26 r d s (.slice a xs.length cap):=by
  rw [hW]; exact ((liesE_new w 26 r d s (.slice a xs.length cap)).keep (new_below _ _ _)).keep (new_below _ _ _)
 have k1:LiesE W (w.heap.size+1) 35 0 ⟨#[]⟩ 0 (.slice none 0 0):=by rw [hW]; exact new1 _ _ _ _
 have k2:LiesE W (w.heap.size+1+1) 35 0 ⟨#[]⟩ 0 (.slice none 0 0):=by rw [hW]; exact new2 _ _ _ _
 rw [← hW]
 clear hW
 refine (lg.toLog_any r d s W).mono ?_
 rintro e w2 ⟨rfl,hb2⟩
 have m0:=k0.keep hb2
 have m1:=k1.keep hb2
 have m2:=k2.keep hb2
 have b4:=b3.trans (hb2.mono b3.size)
 have hs2:w.heap.size+3≤w2.heap.size:=by rw [← sz]; exact hb2.size
 clear k0 k1 k2 hb2 b3 sz
 have c03:=m0.c3
 have c20:=m2.c0
 have c21:=m2.c1
 have c22:=m2.c2
 have f20:=m2.f 0
 have f21:=m2.f 1
 have f22:=m2.f 2
 unfold LV
 have HM:Hid (LiesE w2 w.heap.size 26 r d s (.slice a xs.length cap)∧LiesE w2 (w.heap.size+1) 35 0 ⟨#[]⟩ 0 (.slice none 0 0)∧LiesE w2 (w.heap.size+1+1) 35 0 ⟨#[]⟩ 0 (.slice none 0 0)):=⟨m0,m1,m2⟩
 clear m0 m1 m2
 go_wp2_with fail
 have b5:Below w.heap.size w (put3 w2 (w.heap.size+1+1) r d s):=put3_below b4 (by omega) r d s
 have n2:LiesE (put3 w2 (w.heap.size+1+1) r d s) (w.heap.size+1+1) 35 r d s (.slice none 0 0):=put3_block HM.out.2.2 r d s
 have n1:LiesE (put3 w2 (w.heap.size+1+1) r d s) (w.heap.size+1) 35 0 ⟨#[]⟩ 0 (.slice none 0 0):=(put3_other w2 _ _ r d s (by omega)).trans HM.out.2.1
 have s3:(put3 w2 (w.heap.size+1+1) r d s).heap.size=w2.heap.size:=put3_size _ _ _ _ _
 refine (toBoxS_own _ xs vs (put3 w2 (w.heap.size+1+1) r d s) (boxes_below HA.out b5) HS.out).mono ?_
 rintro e w4 ⟨rfl,⟨us,hB,hM,hC⟩,hb4⟩
 generalize put3 w2 (w.heap.size+1+1) r d s=w3 at b5 n2 n1 s3 hB hM hC hb4 ⊢
 have q1:=n1.keep hb4
 have q2:=n2.keep hb4
 have b6:=b5.trans (hb4.mono b5.size)
 have h4:=hb4.size
 have hB3:w.heap.size+3≤w3.heap.size:=by rw [s3]; exact hs2
 have HC:Hid (BoxesAt w4 (.slice (some ⟨w3.heap.size,0,none⟩) xs.length xs.length) xs us∧Mine w4 w3.heap.size xs us∧∀ j,j < xs.length→∀ a n c,(us j).2=.slice a n c→n≤c):=⟨hB,hM,hC⟩
 clear hB hM hC hb4 n1 n2 b5 s3 c03 c20 c21 c22 f20 f21 f22 HM HA HS b4
 have c10:=q1.c0
 have c11:=q1.c1
 have c12:=q1.c2
 have c13:=q1.c3
 have c20:=q2.c0
 have c21:=q2.c1
 have c22:=q2.c2
 have c23:=q2.c3
 have f1:∀ j,w4.frozen? ⟨w.heap.size+1,j,none⟩=false:=fun j=>q1.f j
 have f2:∀ j,w4.frozen? ⟨w.heap.size+1+1,j,none⟩=false:=fun j=>q2.f j
 have f2':w4.frozen? ⟨w.heap.size+1+1,0+3,none⟩=false:=q2.f 3
 have HQ1:Hid (LiesE w4 (w.heap.size+1) 35 0 ⟨#[]⟩ 0 (.slice none 0 0)):=q1
 clear q1 q2
 go_wp2
 change bodyPost _ _ _ _ _ (fin w4 w.heap.size r d s (.slice (some ⟨w3.heap.size,0,none⟩) xs.length xs.length))
 have M5:=fin_block HQ1.out r d s (.slice (some ⟨w3.heap.size,0,none⟩) xs.length xs.length)
 have b7:=fin_below b6 r d s (.slice (some ⟨w3.heap.size,0,none⟩) xs.length xs.length)
 have hoth:∀ q,w3.heap.size≤q→(fin w4 w.heap.size r d s (.slice (some ⟨w3.heap.size,0,none⟩) xs.length xs.length)).heap[q]? = w4.heap[q]?:=fun q hq=>fin_other _ _ _ _ _ _ _ (by omega) (by omega)
 have hsz:=fin_size w4 w.heap.size r d s (.slice (some ⟨w3.heap.size,0,none⟩) xs.length xs.length)
 have HB:=boxes_hi HC.out.1 HC.out.2.1.2 hoth hsz
 have HRW:=mine_hi HC.out.2.1 hoth
 generalize fin w4 w.heap.size r d s (.slice (some ⟨w3.heap.size,0,none⟩) xs.length xs.length)=X at M5 b7 HB HRW ⊢
 have x0:X.cell? ⟨w.heap.size+1,0,none⟩=some (.int .i64 r):=M5.c0
 have x1:X.cell? ⟨w.heap.size+1,1,none⟩=some (.string d):=M5.c1
 have x2:X.cell? ⟨w.heap.size+1,2,none⟩=some (.int .i64 s):=M5.c2
 have x3:X.cell? ⟨w.heap.size+1,3,none⟩=some (.slice (some ⟨w3.heap.size,0,none⟩) xs.length xs.length):=M5.c3
 exact bodyPost_ret (v:=.agg #[.int .i64 r,.string d,.int .i64 s,.slice (some ⟨w3.heap.size,0,none⟩) xs.length xs.length]) (by simp [results,Tryz.results8,go_sem,x0,x1,x2,x3]) rfl ⟨_,_,us,rfl,⟨rfl,HB,HRW,HC.out.2.2⟩,by omega,b7⟩
set_option maxHeartbeats 2000000 in
set_option maxRecDepth 100000 in
theorem eqEngine_any (r:Int) (d:ByteArray) (s:Int) (v u:Value) (xs:List Bx) (vs us:Nat→Value × Value) (w:World) (h1:BoxesAt w v xs vs) (h2:BoxesAt w u xs us) (hs:Smalls xs) :
  Calls Tryz.prog 11 #[EV r d s v,EV r d s u] w fun e w'=>e=.returned (.bool true)∧Below w.heap.size w w':=by
 have HA:Hid (BoxesAt w v xs vs∧BoxesAt w u xs us∧Smalls xs):=⟨h1,h2,hs⟩
 obtain ⟨⟨a,cap,rfl,_⟩,_⟩:=h1
 obtain ⟨⟨a',cap',rfl,_⟩,_⟩:=h2
 clear hs
 unfold EV
 have L0:=(liesE_new w 35 r d s (.slice a xs.length cap)).keep (new_below _ 35 #[.int .i64 r,.string d,.int .i64 s,.slice a' xs.length cap'])
 have M0:=liesE_new (w.alloc (.cells #[.int .i64 r,.string d,.int .i64 s,.slice a xs.length cap] 35)) 35 r d s (.slice a' xs.length cap')
 have b0:=(new_below w 35 #[.int .i64 r,.string d,.int .i64 s,.slice a xs.length cap]).alloc (by simp) (.cells #[.int .i64 r,.string d,.int .i64 s,.slice a' xs.length cap'] 35)
 rw [show (w.alloc (.cells #[.int .i64 r,.string d,.int .i64 s,.slice a xs.length cap] 35)).heap.size=w.heap.size+1 by simp] at M0
 go_enter Tryz.func11,Tryz.ntmps11
 go_wp2_with fail
 generalize World.alloc _ _=w0 at b0 L0 M0 ⊢
 refine (lg.eqLog_same r d s _).mono ?_
 rintro e w2 ⟨rfl,hb2⟩
 have c3:=(L0.keep hb2).c3
 have d3:=(M0.keep hb2).c3
 have b3:=b0.trans (hb2.mono b0.size)
 clear b0 hb2 L0 M0
 go_wp2_with fail
 refine (eqBoxS_any _ _ xs vs us w2 (boxes_below HA.out.1 b3) (boxes_below HA.out.2.1 b3) HA.out.2.2).mono ?_
 rintro e w3 ⟨rfl,hb3⟩
 have b4:=b3.trans (hb3.mono b3.size)
 clear c3 d3 HA hb3 b3
 go_wp2
 go_ret
 exact ⟨rfl,b4⟩
end Go.Proofs.YtnhcbiomkiljpaaGreatDoor.eg
namespace Go.Proofs.YtnhcbiomkiljpaaGreatDoor.sm
open Go.RowKit Go.WideShapes
open st
set_option linter.unusedVariables false
def lits (x:St):List Lit:=[.int .i64 x.u,.int .i64 x.f,.string x.t.data.toList]
theorem lits_inj {x y:St}:lits x=lits y ↔ x=y:=by
 obtain ⟨u,f,t⟩:=x
 obtain ⟨u',f',t'⟩:=y
 constructor
 ·intro h
  simp only [lits,List.cons.injEq,Lit.int.injEq,Lit.string.injEq,true_and,and_true] at h
  obtain ⟨rfl,rfl,h⟩:=h
  rw [WideShapes.bytes_inj h]
 ·rintro h
  rw [h]
theorem wf_of {z:Int} (h:In z):(Lit.int .i64 z).wf=true:=WalkArith.wf_i64 (by have h1:=h.1; have h2:=h.2; omega)
set_option maxRecDepth 100000 in
theorem lits_of (x:St) (hx:Small x):Tryz.prog.keyLits 2 122 [.int .i64 x.u,.int .i64 x.f,.string x.t]=some (lits x):=by
 obtain ⟨u,f,t⟩:=x
 obtain ⟨h0,h1,h2⟩:=hx
 simp only at h0 h1 h2
 have w0:=wf_of h0
 have w1:=wf_of h1
 have hc:Tryz.prog.cellsOf 122=3:=by kernel_rfl
 have hi:Tryz.prog.cellsOf 3=1:=by kernel_rfl
 have hs:Tryz.prog.cellsOf 9=1:=by kernel_rfl
 simp [Program.keyLits,Tryz.underlying122,Tryz.underlying3,Tryz.underlying9,hc,hi,hs,w0,w1,lits,show t.size≤maxLen by unfold maxLen; omega]
theorem formed_of (x:St):(Value.agg #[.int .i64 x.u,.int .i64 x.f,.string x.t]).formed Tryz.prog 122=true:=by
 have hc:Tryz.prog.cellsOf 122=3:=by kernel_rfl
 simp [Value.formed,Tryz.underlying122,hc]
theorem key_at:Tryz.prog.keyTypeAt 2 122=true:=by kernel_rfl
def dEqS (x y:St):Decidable (x=y):=decidable_of_iff (x.u=y.u∧x.f=y.f∧x.t.data=y.t.data) ⟨fun ⟨a,b,c⟩=>by cases x; cases y; simp only at a b c; rw [a,b,ByteArray.ext c],fun h=>by rw [h]; exact ⟨rfl,rfl,rfl⟩⟩
def eqS (x y:St):Bool:=@decide (x=y) (dEqS x y)
theorem eq_run (x y:St) (hx:Small x) (hy:Small y) (w:World):(Op.equal 122 (.agg #[.int .i64 x.u,.int .i64 x.f,.string x.t]) (.agg #[.int .i64 y.u,.int .i64 y.f,.string y.t])).run Tryz.prog w=.ok (eqS x y) w:=by
 obtain ⟨r,h1,h2⟩:=run_equalIn_deep (P:=Tryz.prog) 9998 2 122 key_at w 2 2 (.agg #[.int .i64 x.u,.int .i64 x.f,.string x.t]) (.agg #[.int .i64 y.u,.int .i64 y.f,.string y.t]) (lits x) (lits y) (formed_of x) (formed_of y) (by simpa [Value.cells] using lits_of x hx) (by simpa [Value.cells] using lits_of y hy)
 have hr:r=eqS x y:=by
  unfold eqS
  by_cases e:x=y
  ·rw [ow.dt e]
   exact h2.2 (lits_inj.2 e)
  ·rw [ow.df e]
   exact Bool.eq_false_iff.2 fun z=>e (lits_inj.1 (h2.1 z))
 rw [← hr]
 exact h1
theorem ne_run (x y:St) (hx:Small x) (hy:Small y) (w:World):(Go.binOp .neq 122 (.agg #[.int .i64 x.u,.int .i64 x.f,.string x.t]) (.agg #[.int .i64 y.u,.int .i64 y.f,.string y.t])).run Tryz.prog w=.ok (.bool (!eqS x y)) w:=by
 simp [Go.binOp,eq_run x y hx hy w,Result.andThen]
theorem guard_run (x y:Operand) (a b:Array Value) (w:World):(eqGuard .neq 122 x y (.agg a) (.agg b)).run Tryz.prog w=.ok () w:=by
 have h:Tryz.prog.eqGuardType Tryz.prog.depth 122=false:=by kernel_rfl
 simp [eqGuard,h,Result.andThen]
def SameM (ms ms':List St):Prop:=ms.length=ms'.length∧∀ j,j < ms.length→ms.getD j noS=ms'.getD j noS
def dSameMs (ms ms':List St) (k:Nat):Decidable (∀ j,j < k→ms.getD j noS=ms'.getD j noS):=@Nat.decidableBallLT k (fun j _=>ms.getD j noS=ms'.getD j noS) (fun j _=>dEqS _ _)
def dSameM (ms ms':List St):Decidable (SameM ms ms'):=@instDecidableAnd _ _ _ (dSameMs ms ms' ms.length)
def sameM (ms ms':List St):Bool:=@decide (SameM ms ms') (dSameM ms ms')
theorem sameM_no {ms ms':List St} (h:¬ SameM ms ms'):sameM ms ms'=false:=ow.df h
theorem sameM_yes {ms ms':List St} (h:SameM ms ms'):sameM ms ms'=true:=ow.dt h
theorem eqS_yes {x y:St} (h:x=y):eqS x y=true:=ow.dt h
theorem eqS_no {x y:St} (h:¬ x=y):eqS x y=false:=ow.df h
theorem bel_drewN {B:Nat} {a w:World} (h:Below B a w) (n:Nat):Below B a (w.drewN n):=⟨h.os,h.tape,h.output,h.size,h.block⟩
set_option maxHeartbeats 2000000 in
set_option maxRecDepth 100000 in
theorem equalM_any (N M:Nat) (v u:Value) (ms ms':List St) (w:World) (h1:MailsIn w N v ms) (h2:MailsIn w M u ms') (hs:Smalls ms) (hs':Smalls ms') :
  Calls Tryz.prog 127 #[v,u] w fun e w'=>e=.returned (.bool (sameM ms ms'))∧Below w.heap.size w w':=by
 obtain ⟨a,cap,rfl,h1⟩:=h1
 obtain ⟨c,cap2,rfl,h2⟩:=h2
 obtain ⟨n,hn⟩:∃ n,n=ms.length:=⟨_,rfl⟩
 obtain ⟨m,hm⟩:∃ m,m=ms'.length:=⟨_,rfl⟩
 have HN:Hid (n=ms.length):=hn
 have HM:Hid (m=ms'.length):=hm
 have hl:n≤1048576:=by rw [hn]; exact hs.1
 have hl2:m≤1048576:=by rw [hm]; exact hs'.1
 have HS:Hid (Smalls ms∧Smalls ms'):=⟨hs,hs'⟩
 have H1:Hid (ms=[] ∨ ∃ b off,a=some ⟨b,off,none⟩∧b < N∧∀ j,j < ms.length→At3 w b (off+j * 3) (ms.getD j noS)):=h1
 have H2:Hid (ms'=[] ∨ ∃ b off,c=some ⟨b,off,none⟩∧b < M∧∀ j,j < ms'.length→At3 w b (off+j * 3) (ms'.getD j noS)):=h2
 rw [← hn,← hm]
 clear h1 h2 hs hs' hn hm
 by_cases hnm:¬ n=m
 ·have hnm':((n:Int) != (m:Int))=true:=by simp; omega
  have HR:Hid (sameM ms ms'=false):=sameM_no (fun y=>hnm (by have:=y.1; have:=HN.out; have:=HM.out; omega))
  go_enter Tryz.func127,Tryz.ntmps127
  go_wp2
  go_ret
  exact ⟨mu.ret_bool HR.out.symm,Below.refl _ _⟩
 have hnm:n=m:=Decidable.of_not_not hnm
 subst hnm
 have hnm':((n:Int) != (n:Int))=false:=by simp
 go_enter Tryz.func127,Tryz.ntmps127
 go_wp2
 go_loopw [13] (fun i wr=>∃ k:Nat,k≤n∧i=.int .i64 k∧(∀ j,j < k→ms.getD j noS=ms'.getD j noS)∧Below w.heap.size w wr) (fun i _=>n - (intOf i).toNat)
 case atStart=>exact ⟨0,Nat.zero_le _,rfl,fun j hj=>absurd hj (Nat.not_lt_zero _),Below.refl _ _⟩
 case round =>
  obtain ⟨k,hk,rfl,hal,hbw⟩:=hrel
  have HAL:Hid (∀ j,j < k→ms.getD j noS=ms'.getD j noS):=hal
  clear hal
  by_cases hlt:k < n
  ·have hka:k < ms.length:=by rw [← HN.out]; exact hlt
   have hkb:k < ms'.length:=by rw [← HM.out]; exact hlt
   rcases H1.out with e | ⟨b,off,rfl,_,hcells⟩
   ·rw [e] at hka; simp at hka
   rcases H2.out with e | ⟨b2,off2,rfl,_,hcells2⟩
   ·rw [e] at hkb; simp at hkb
   have ha:=(hcells k hka).keep hbw (hcells k hka).lt
   have hb:=(hcells2 k hkb).keep hbw (hcells2 k hkb).lt
   have hsa:=HS.out.1.2 k hka
   have hsb:=HS.out.2.2 k hkb
   have HNE:Hid (¬ ms.getD k noS=ms'.getD k noS→sameM ms ms'=false):=fun h=>sameM_no (fun y=>h (y.2 k hka))
   have HEQ:Hid (ms.getD k noS=ms'.getD k noS→∀ j,j < k+1→ms.getD j noS=ms'.getD j noS):=fun h j hj=>by
    by_cases e:j=k
    ·rw [e]; exact h
    ·exact HAL.out j (by omega)
   clear hcells hka hcells2 hkb
   generalize ms.getD k noS=x at ha hsa HNE HEQ
   generalize ms'.getD k noS=y at hb hsb HNE HEQ
   have hrun:=fun W=>ne_run x y hsa hsb W
   have hgd:=guard_run
   obtain ⟨c0,c1,c2⟩:=ha
   obtain ⟨d0,d1,d2⟩:=hb
   clear hsa hsb
   have hlt':(k:Int) < (n:Int):=by omega
   have hk0:(0:Int)≤(k:Int):=by omega
   by_cases hxy:x=y
   ·have HX:Hid (∀ j,j < k+1→ms.getD j noS=ms'.getD j noS):=HEQ.out hxy
    rw [eqS_yes hxy] at hrun
    simp only [Bool.not_true] at hrun
    clear hxy HNE HEQ
    go_wp2_with fail
    go_quiet (fail)
    have b3:=bel_drewN hbw nq
    clear c0 c1 c2 d0 d1 d2 hrun hbw
    go_wp2
    go_roundw
    case rel=>exact ⟨k+1,by omega,by go_num,HX.out,b3⟩
    case measure=>simp [intOf]; omega
   ·have HR:Hid (sameM ms ms'=false):=HNE.out hxy
    rw [eqS_no hxy] at hrun
    simp only [Bool.not_false] at hrun
    clear hxy HNE HEQ
    go_wp2_with fail
    go_quiet (fail)
    have b3:=bel_drewN hbw nq
    clear c0 c1 c2 d0 d1 d2 hrun hbw
    go_wp2
    go_ret
    exact ⟨mu.ret_bool HR.out.symm,b3⟩
  ·have HR:Hid (sameM ms ms'=true):=sameM_yes ⟨by have:=HN.out; have:=HM.out; omega,fun j hj=>HAL.out j (by have:=HN.out; omega)⟩
   go_wp2
   go_ret
   exact ⟨mu.ret_bool HR.out.symm,hbw⟩
end Go.Proofs.YtnhcbiomkiljpaaGreatDoor.sm
