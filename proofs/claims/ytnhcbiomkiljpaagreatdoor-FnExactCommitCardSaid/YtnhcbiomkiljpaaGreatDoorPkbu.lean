/-
  The rest of that region's steps.
  A list of boxes that is one's own, marked: variables of engines are as they were.
  The marks of an engine of one's own: variables of engines are as they were.
-/
import Derived.Test.YtnhcbiomkiljpaaGreatDoorPkbt
import Derived.Test.YtnhcbiomkiljpaaGreatDoorPkbi
namespace Go.Proofs.YtnhcbiomkiljpaaGreatDoor.eg
open Go.RowKit Go.WideShapes
open bx bl ml
set_option linter.unusedVariables false
theorem fines_mine {w:World} {B:Nat} {xs:List Bx} {vs:Nat→Value × Value} (h:Mine w B xs vs):Fines xs vs:=fun j hj=>by
 obtain ⟨g,g',e,_,_,⟨c1,h1⟩,⟨c2,h2⟩⟩:=h.2 j hj
 rw [e]
 exact ⟨own_fine h1,own_fine h2⟩
theorem two_new (w:World) (r:Int) (d:ByteArray) (s:Int) (v:Value) (M:mu.Mu) (iv:Value) :
  LiesE ((w.alloc (.cells #[.int .i64 r,.string d,.int .i64 s,v] 26)).alloc (.cells #[.int .i64 M.k,.int .i64 M.u,.int .i64 M.m,.int .i64 M.f,.string M.b,iv] 29)) w.heap.size 26 r d s v∧mu.Lies ((w.alloc (.cells #[.int .i64 r,.string d,.int .i64 s,v] 26)).alloc (.cells #[.int .i64 M.k,.int .i64 M.u,.int .i64 M.m,.int .i64 M.f,.string M.b,iv] 29)) (w.heap.size+1) 29 M iv∧Below w.heap.size w ((w.alloc (.cells #[.int .i64 r,.string d,.int .i64 s,v] 26)).alloc (.cells #[.int .i64 M.k,.int .i64 M.u,.int .i64 M.m,.int .i64 M.f,.string M.b,iv] 29)):=by
 refine ⟨(liesE_new w 26 r d s v).keep (new_below _ _ _),?_,(new_below w _ _).alloc (by simp) _⟩
 have:=mu.lies_new (w.alloc (.cells #[.int .i64 r,.string d,.int .i64 s,v] 26)) 29 M iv
 rw [show (w.alloc (.cells #[.int .i64 r,.string d,.int .i64 s,v] 26)).heap.size=w.heap.size+1 by simp] at this
 exact this
theorem tuple2 {y z y' z':Value} (h:Value.tuple #[y,z]=.tuple #[y',z']):y=y'∧z=z':=by
 simp only [Value.tuple.injEq,Array.mk.injEq,List.cons.injEq,and_true] at h
 exact h
section
variable {W:World} {AGE AGM:Value} {r:Int} {d:ByteArray} {s:Int} {xs:List Bx} {x:mu.Mu} {D:Nat→Prop} {f:Nat→Value} {X X':World}
theorem JC.op5 (h:JC W AGE AGM r d s xs x D f X) (d4:D 4):JC W AGE AGM r d s xs x (fun j=>j=5 ∨ D j) (rs.upd f 5 (f 4)) X :=
 ⟨h.bel,by simpa [rs.upd] using h.p0,by simpa [rs.upd] using h.p1,by simpa [rs.upd] using h.p2,by simpa [rs.upd] using h.p3,by simpa [rs.upd] using h.p8,fun _=>by
  obtain ⟨r',d',s',La,Ln,Lc,ys,us,c,e,hC,hO,h5,h6,h7,h10,h9⟩:=h.p4 d4
  exact ⟨r',d',s',La,Ln,Lc,ys,us,c,by simpa [rs.upd] using e,hC,hO,fun _=>by simpa [rs.upd] using e,by simpa [rs.upd] using h6,by simpa [rs.upd] using h7,by simpa [rs.upd] using h10,by simpa [rs.upd] using h9⟩⟩
theorem JC.op6 (h:JC W AGE AGM r d s xs x D f X) (d4:D 4) (d5:D 5) {y z:Value} (ey:f 5=.tuple #[y,z]):JC W AGE AGM r d s xs x (fun j=>j=6 ∨ D j) (rs.upd f 6 y) X :=
 ⟨h.bel,by simpa [rs.upd] using h.p0,by simpa [rs.upd] using h.p1,by simpa [rs.upd] using h.p2,by simpa [rs.upd] using h.p3,by simpa [rs.upd] using h.p8,fun _=>by
  obtain ⟨r',d',s',La,Ln,Lc,ys,us,c,e,hC,hO,h5,h6,h7,h10,h9⟩:=h.p4 d4
  have hy:y=.agg #[.int .i64 r',.string d',.int .i64 s',.slice La Ln Lc]:=(tuple2 (ey.symm.trans (h5 d5))).1
  exact ⟨r',d',s',La,Ln,Lc,ys,us,c,by simpa [rs.upd] using e,hC,hO,by simpa [rs.upd] using h5,fun _=>by simpa [rs.upd] using hy,by simpa [rs.upd] using h7,by simpa [rs.upd] using h10,by simpa [rs.upd] using h9⟩⟩
theorem JC.op7 (h:JC W AGE AGM r d s xs x D f X) (d4:D 4) (d5:D 5) {y z:Value} (ey:f 5=.tuple #[y,z]):JC W AGE AGM r d s xs x (fun j=>j=7 ∨ D j) (rs.upd f 7 z) X :=
 ⟨h.bel,by simpa [rs.upd] using h.p0,by simpa [rs.upd] using h.p1,by simpa [rs.upd] using h.p2,by simpa [rs.upd] using h.p3,by simpa [rs.upd] using h.p8,fun _=>by
  obtain ⟨r',d',s',La,Ln,Lc,ys,us,c,e,hC,hO,h5,h6,h7,h10,h9⟩:=h.p4 d4
  have hz:z=.int .i64 c:=(tuple2 (ey.symm.trans (h5 d5))).2
  exact ⟨r',d',s',La,Ln,Lc,ys,us,c,by simpa [rs.upd] using e,hC,hO,by simpa [rs.upd] using h5,by simpa [rs.upd] using h6,fun _=>by simpa [rs.upd] using hz,by simpa [rs.upd] using h10,by simpa [rs.upd] using h9⟩⟩
theorem JC.op10 (h:JC W AGE AGM r d s xs x D f X) (d4:D 4) (d7:D 7):JC W AGE AGM r d s xs x (fun j=>j=10 ∨ D j) (rs.upd f 10 (f 7)) X :=
 ⟨h.bel,by simpa [rs.upd] using h.p0,by simpa [rs.upd] using h.p1,by simpa [rs.upd] using h.p2,by simpa [rs.upd] using h.p3,by simpa [rs.upd] using h.p8,fun _=>by
  obtain ⟨r',d',s',La,Ln,Lc,ys,us,c,e,hC,hO,h5,h6,h7,h10,h9⟩:=h.p4 d4
  exact ⟨r',d',s',La,Ln,Lc,ys,us,c,by simpa [rs.upd] using e,hC,hO,by simpa [rs.upd] using h5,by simpa [rs.upd] using h6,by simpa [rs.upd] using h7,fun _=>by simpa [rs.upd] using h7 d7,by simpa [rs.upd] using h9⟩⟩
theorem JC.op9 (h:JC W AGE AGM r d s xs x D f X) (d4:D 4) (d6:D 6) (n9:¬ D 9) {g:Nat} {r2:Int} {d2:ByteArray} {s2:Int} {L2:Value} (d8:D 8) (e8:f 8=.pointer (some ⟨g,0,none⟩)) (e6:f 6=.agg #[.int .i64 r2,.string d2,.int .i64 s2,L2]):JC W AGE AGM r d s xs x (fun j=>j=9 ∨ D j) (rs.upd f 9 undef) (put4 X g (.int .i64 r2) (.string d2) (.int .i64 s2) L2):=by
 obtain ⟨g',e8',hg,hz⟩:=h.p8 d8
 obtain rfl:g'=g:=by have:=e8'.symm.trans e8; injection this with this; injection this with this; injection this
 have hL:=hz n9
 obtain ⟨r',d',s',La,Ln,Lc,ys,us,c,e,hC,hO,h5,h6,h7,h10,h9⟩:=h.p4 d4
 have hE:=e6.symm.trans (h6 d6)
 simp only [Value.agg.injEq,Array.mk.injEq,List.cons.injEq,Value.int.injEq,Value.string.injEq,true_and,and_true] at hE
 obtain ⟨rfl,rfl,rfl,rfl⟩:=hE
 refine ⟨put4_below h.bel hg,by simpa [rs.upd] using h.p0,fun _ n=>absurd (.inr d4) n,by simpa [rs.upd] using h.p2,fun _ n=>absurd (.inr d4) n,fun _=>⟨g',by simpa [rs.upd] using e8,hg,fun n=>absurd (.inl rfl) n⟩,fun _=>?_⟩
 exact ⟨_,_,_,La,Ln,Lc,ys,us,c,by simpa [rs.upd] using e,hC,ownL_eng hO hL (fun q hq=>put4_other _ _ _ _ _ _ _ hq),by simpa [rs.upd] using h5,by simpa [rs.upd] using h6,by simpa [rs.upd] using h7,by simpa [rs.upd] using h10,fun _=>⟨g',by simpa [rs.upd] using e8,hL.put⟩⟩
end
end Go.Proofs.YtnhcbiomkiljpaaGreatDoor.eg
namespace Go.Proofs.YtnhcbiomkiljpaaGreatDoor.ml
open Go.RowKit
open gr mk st bx mm mx bl
open ky (TextsAt OwnT own_texts)
set_option linter.unusedVariables false
def Kp (w w':World):Prop:=∀ k:Nat,(∃ c:Array Value,w.heap[k]? = some (Obj.cells c 35 (0,0)))→w'.heap[k]? = w.heap[k]?
theorem kp_refl (w:World):Kp w w:=fun _ _=>rfl
theorem kp_trans {a b c:World} (h:Kp a b) (h':Kp b c):Kp a c:=fun k hk=>(h' k (by obtain ⟨x,e⟩:=hk; exact ⟨x,(h k ⟨x,e⟩).trans e⟩)).trans (h k hk)
theorem kp_below {w w':World} (h:Below w.heap.size w w'):Kp w w':=fun k hk=>by
 obtain ⟨c,e⟩:=hk
 exact h.block k (Array.getElem?_eq_some_iff.1 e).1
theorem kp_grown {w w':World} {b e s n:Nat} {v:Value} {cs:List Value} (ho:w.ownsRow b e s v n cs) (hg:w.grownBy w' v.ownBlock) (he:e ≠ 35):Kp w w':=fun k hk=>by
 obtain ⟨c,hc⟩:=hk
 refine hg.block k (Array.getElem?_eq_some_iff.1 hc).1 (fun q=>?_)
 rcases ho.2 with ⟨rfl,_⟩ | ⟨g,cap,cur,rfl,_,hh,_⟩
 ·cases q
 ·cases q
  have:=hh.symm.trans hc
  injection this with this
  injection this with _ this _
  exact he this
set_option maxHeartbeats 4000000 in
set_option maxRecDepth 100000 in
theorem markBoxS_ownK (L:Value) (base:Nat) (xs:List Bx) (us:Nat→Value × Value) (w:World) (h:OwnL w base L xs us) (hf:Few xs) (hb:base≤w.heap.size) :
  Calls Tryz.prog 33 #[L,.int .i64 1] w fun e w'=>e=.returned (.int .i64 (kAt xs xs.length))∧(∃ cs,MB w' base L xs us xs.length cs)∧Below base w w'∧Kp w w':=by
 have HD:Hid (Dis us xs.length):=h.2.2
 have HF:Hid (Few xs):=hf
 have HM0:Hid (MB w base L xs us 0 (bcells xs us xs.length)):=mb_start h
 obtain ⟨n,hn⟩:∃ n,n=xs.length:=⟨_,rfl⟩
 have HN:Hid (n=xs.length):=hn
 have hl:n≤10:=by rw [hn]; exact hf.1
 obtain ⟨La,Lc,rfl,hLa⟩:∃ a c,L=.slice a n c∧(n=0 ∨ ∃ g,a=some ⟨g,0,none⟩):=by
  rcases h.1.2 with ⟨rfl,hz⟩ | ⟨g,cap,cur,rfl,_⟩
  ·exact ⟨none,0,by rw [hn,hz],.inl (by rw [hn,hz])⟩
  ·exact ⟨_,_,by rw [hn],.inr ⟨g,rfl⟩⟩
 clear h hf hn
 go_enter Tryz.func33,Tryz.ntmps33
 go_wp2
 go_loopw [1,5] (fun z i wr=>∃ (j:Nat) (cs:List Value),j≤n∧z=.int .i64 (kAt xs j)∧i=.int .i64 j∧MB wr base (.slice La n Lc) xs us j cs∧Below base w wr∧Kp w wr) (fun _ i _=>n - (intOf i).toNat)
 case atStart=>exact ⟨0,_,Nat.zero_le _,rfl,rfl,HM0.out,Below.refl _ _,kp_refl _⟩
 case round =>
  clear HM0
  obtain ⟨j,cs,hj,rfl,rfl,hmb,hbw,hkw⟩:=hrel
  have HKW:Hid (Kp w wr):=hkw
  clear hkw
  by_cases hlt:j < n
  ·have hjx:j < xs.length:=by rw [← HN.out]; exact hlt
   obtain ⟨g,rfl⟩:∃ g,La=some ⟨g,0,none⟩:=by
    rcases hLa with h | h
    ·omega
    ·exact h
   have hlt':(j:Int) < (n:Int):=by omega
   have hj0:(0:Int)≤(j:Int):=by omega
   have hki:=kAt_in HF.out (j:=j) (by omega)
   have hfe:=HF.out.2 j hjx
   have HKN:Hid (kAt xs (j+1)=kAt xs j+1+1+1+3 * ((xs.getD j noB).ms.length:Int)+((xs.getD j noB).ks.length:Int)):=by
    show kAt xs j+3+_+_=_
    omega
   obtain ⟨hown,hkp,hcm,hrm,hre⟩:=hmb
   rw [← HN.out] at hown
   have HL:Hid (cs.length=n * 5):=hown.1
   have HKP:Hid (Kept cs xs.length us):=hkp
   have HCM:Hid (∀ i,i < j→CellMk xs cs i):=hcm
   have HO:Hid (Oth wr base xs us j):=⟨hrm,fun i h1 h2=>hre i (by omega) h2⟩
   have HR:Hid (OwnM wr base (us j).1 (xs.getD j noB).ms∧OwnK wr base (us j).2 (xs.getD j noB).ks):=hre j (Nat.le_refl _) hjx
   clear hkp hcm hrm hre
   have HK1:Hid (kAt xs j+3=kAt xs j+1+1+1∧kAt xs j+2=kAt xs j+1+1):=⟨by omega,by omega⟩
   have HCN:Hid (CellMk xs (((cs.set (j * 5) (.string (mt (kAt xs j)))).set (j * 5+1) (.int .i64 (kAt xs j+1))).set (j * 5+2) (.int .i64 (kAt xs j+1+1))) j):=by
    have:=cellMk_new (xs:=xs) (cs:=cs) (j:=j) (by rw [HL.out]; omega)
    rwa [HK1.out.2] at this
   have HMM:Hid (∀ w1,(w1.ownsRow base 122 3 (us j).1 (xs.getD j noB).ms.length (marksM (kAt xs j+1+1+1) (xs.getD j noB).ms.length)∧w1.ownsRow base 9 1 (us j).2 (xs.getD j noB).ks.length ((marks (kAt xs j+1+1+1+3 * ((xs.getD j noB).ms.length:Int)) (xs.getD j noB).ks.length).map Value.string))→RowMk w1 base xs us j):=fun w1 h=>by
    unfold RowMk
    rw [HK1.out.1]
    exact h
   clear HK1
   generalize kAt xs j=K at hki HKN HCN HMM ⊢
   generalize hm1:(xs.getD j noB).ms.length=m1 at hfe HKN HMM
   generalize hm2:(xs.getD j noB).ks.length=m2 at hfe HKN HMM
   have HM1:Hid ((xs.getD j noB).ms.length=m1∧(xs.getD j noB).ks.length=m2):=⟨hm1,hm2⟩
   clear hm1 hm2
   go_wp2_with fail
   refine (mark_any K _ (by omega) (by omega)).mono ?_
   rintro e w1 ⟨rfl,hb1⟩
   have o1:=ow.own_below hown hb1
   have HO1:Hid (Oth w1 base xs us j∧OwnM w1 base (us j).1 (xs.getD j noB).ms∧OwnK w1 base (us j).2 (xs.getD j noB).ks):=⟨oth_below HO.out hb1,ow.own_below HR.out.1 hb1,ow.own_below HR.out.2 hb1⟩
   have HB1:Hid (Below base w w1∧base≤w1.heap.size):=⟨hbw.trans (hb1.mono (Nat.le_trans hb hbw.size)),Nat.le_trans (Nat.le_trans hb hbw.size) hb1.size⟩
   have HOW:Hid (w1.ownsRow base 85 5 (.slice (some ⟨g,0,none⟩) n Lc) n cs):=o1
   have q0:=o1.cellAt (j * 5) (by omega)
   have q1:=o1.cellAt (j * 5+1) (by omega)
   have q2:=o1.cellAt (j * 5+2) (by omega)
   have q3:=(o1.cellAt (j * 5+3) (by omega)).trans (HKP.out j hjx).1
   rw [List.getElem?_eq_getElem (by rw [HL.out]; omega)] at q0 q1 q2
   have f0:=o1.frozenAt (j * 5)
   have f1:=o1.frozenAt (j * 5+1)
   have f2:=o1.frozenAt (j * 5+2)
   generalize cs[j * 5]'(by rw [HL.out]; omega)=u0 at q0
   generalize cs[j * 5+1]'(by rw [HL.out]; omega)=u1 at q1
   generalize cs[j * 5+2]'(by rw [HL.out]; omega)=u2 at q2
   have HKP1':Hid (Kp w w1):=kp_trans HKW.out (kp_below hb1)
   clear o1 hown hb1 hbw HO HR HKW
   go_wp2_with fail
   clear q0 q1 q2 q3 f0 f1 f2
   have HX:Hid ((((w1.setCell ⟨g,j * 5,none⟩ (.string (mt K))).setCell ⟨g,j * 5+1,none⟩ (.int .i64 (K+1))).setCell ⟨g,j * 5+2,none⟩ (.int .i64 (K+1+1))).ownsRow base 85 5 (.slice (some ⟨g,0,none⟩) n Lc) n (((cs.set (j * 5) (.string (mt K))).set (j * 5+1) (.int .i64 (K+1))).set (j * 5+2) (.int .i64 (K+1+1)))∧w1.grownBy (((w1.setCell ⟨g,j * 5,none⟩ (.string (mt K))).setCell ⟨g,j * 5+1,none⟩ (.int .i64 (K+1))).setCell ⟨g,j * 5+2,none⟩ (.int .i64 (K+1+1))) (some g)):=⟨(((HOW.out.stored _ _).1.stored _ _).1.stored _ _).1,ow.grown_trans (ow.grown_trans (grown_set _ _ _ _) (grown_set _ _ _ _)) (grown_set _ _ _ _)⟩
   generalize hX:World.setCell _ _ _=X at HX ⊢
   clear hX
   have HKP1:Hid (Kept (((cs.set (j * 5) (.string (mt K))).set (j * 5+1) (.int .i64 (K+1))).set (j * 5+2) (.int .i64 (K+1+1))) xs.length us):=kept_set HKP.out _ _ _
   have HCM1:Hid (∀ i,i < j+1→CellMk xs (((cs.set (j * 5) (.string (mt K))).set (j * 5+1) (.int .i64 (K+1))).set (j * 5+2) (.int .i64 (K+1+1))) i):=fun i hi=>by
    by_cases e:i=j
    ·subst e; exact HCN.out
    ·exact cellMk_set (HCM.out i (by omega)) (by omega) _ _ _
   generalize (((cs.set (j * 5) (Value.string (mt K))).set (j * 5+1) (.int .i64 (K+1))).set (j * 5+2) (.int .i64 (K+1+1)))=cs1 at HX HKP1 HCM1
   have HO2:Hid (Oth X base xs us j∧OwnM X base (us j).1 (xs.getD j noB).ms∧OwnK X base (us j).2 (xs.getD j noB).ks):=⟨oth_row HO1.out.1 HOW.out HX.out.2 (by decide) (by decide),row_other HO1.out.2.1 (u:=.slice (some ⟨g,0,none⟩) n Lc) HX.out.2 (rowkinds HO1.out.2.1 HOW.out (by decide)),row_other HO1.out.2.2 (u:=.slice (some ⟨g,0,none⟩) n Lc) HX.out.2 (rowkinds HO1.out.2.2 HOW.out (by decide))⟩
   have HB2:Hid (Below base w X∧base≤X.heap.size):=⟨HB1.out.1.grown HX.out.2 HB1.out.2 (fun k hk=>(HOW.out.lt k hk).1),Nat.le_trans HB1.out.2 HX.out.2.size⟩
   have HOX:Hid (X.ownsRow base 85 5 (.slice (some ⟨g,0,none⟩) n Lc) n cs1):=HX.out.1
   have HKP2':Hid (Kp w X):=kp_trans HKP1'.out (kp_grown HOW.out HX.out.2 (by decide))
   clear HX HO1 HOW HB1 HKP HCM HCN HKP1'
   have hMo:X.ownsRow base 122 3 (us j).1 m1 (mc (xs.getD j noB).ms):=by
    have:=HO2.out.2.1
    unfold OwnM at this
    rwa [HM1.out.1] at this
   refine (markM_any (us j).1 base m1 _ (K+1+1+1) X hMo (by omega) (by omega) (by omega)).mono ?_
   rintro e w2 ⟨rfl,hm2,hg2⟩
   have HO3:Hid (Oth w2 base xs us j∧w2.ownsRow base 122 3 (us j).1 m1 (marksM (K+1+1+1) m1)∧OwnK w2 base (us j).2 (xs.getD j noB).ks):=⟨oth_mails HO2.out.1 hMo hg2 HD.out hjx,hm2,row_other HO2.out.2.2 hg2 (rowkinds HO2.out.2.2 hMo (by decide))⟩
   have o2:=row_other HOX.out hg2 (rowkinds HOX.out hMo (by decide))
   have HB3:Hid (Below base w w2∧base≤w2.heap.size):=⟨HB2.out.1.grown hg2 HB2.out.2 (fun k hk=>(hMo.lt k hk).1),Nat.le_trans HB2.out.2 hg2.size⟩
   have HOY:Hid (w2.ownsRow base 85 5 (.slice (some ⟨g,0,none⟩) n Lc) n cs1):=o2
   have q4:=(o2.cellAt (j * 5+4) (by omega)).trans (HKP1.out j hjx).2
   have HKP3':Hid (Kp w w2):=kp_trans HKP2'.out (kp_grown hMo hg2 (by decide))
   clear HO2 HOX HB2 hMo hm2 hg2 o2 HKP2'
   have hmI:(m1:Int)≤1000:=by omega
   have hmI0:(0:Int)≤(m1:Int):=by omega
   have hkI:(m2:Int)≤1000:=by omega
   have hkI0:(0:Int)≤(m2:Int):=by omega
   go_wp2_with fail
   clear q4
   refine (markTexts_any (us j).2 base (xs.getD j noB).ks (K+1+1+1+3 * (m1:Int)) w2 HO3.out.2.2 (by rw [HM1.out.2]; omega) (by omega) (by omega)).mono ?_
   rintro e w3 ⟨rfl,hk3,hg3⟩
   rw [HM1.out.2] at hk3 ⊢
   have hk3':w3.ownsRow base 9 1 (us j).2 m2 ((marks (K+1+1+1+3 * (m1:Int)) m2).map Value.string):=by
    unfold OwnT at hk3
    rwa [marks_len] at hk3
   have hrow3:=row_other HO3.out.2.1 hg3 (rowkinds HO3.out.2.1 HO3.out.2.2 (by decide))
   have HO4:Hid (Oth w3 base xs us j∧RowMk w3 base xs us j):=⟨oth_keys HO3.out.1 HO3.out.2.2 hg3 HD.out hjx,HMM.out w3 ⟨hrow3,hk3'⟩⟩
   have HOZ:Hid (w3.ownsRow base 85 5 (.slice (some ⟨g,0,none⟩) n Lc) n cs1):=row_other HOY.out hg3 (rowkinds HOY.out HO3.out.2.2 (by decide))
   have HB4:Hid (Below base w w3):=HB3.out.1.grown hg3 HB3.out.2 (fun k hk=>(World.ownsRow.lt HO3.out.2.2 k hk).1)
   have HKP4':Hid (Kp w w3):=kp_trans HKP3'.out (kp_grown HO3.out.2.2 hg3 (by decide))
   clear HO3 HOY HB3 hk3 hk3' hg3 hrow3 HMM HKP3'
   go_wp2
   go_roundw
   case rel =>
    refine ⟨j+1,cs1,by omega,by rw [HKN.out],by go_num,⟨by rw [← HN.out]; exact HOZ.out,HKP1.out,HCM1.out,fun i hi=>?_,fun i h1 h2=>HO4.out.1.2 i (by omega) h2⟩,HB4.out,HKP4'.out⟩
    by_cases e:i=j
    ·subst e; exact HO4.out.2
    ·exact HO4.out.1.1 i (by omega)
   case measure=>simp [intOf]; omega
  ·obtain rfl:j=n:=by omega
   have HQ:Hid (∃ cs,MB wr base (.slice La j Lc) xs us xs.length cs):=⟨cs,by rw [HN.out] at hmb ⊢; exact hmb⟩
   have HE:Hid (kAt xs j=kAt xs xs.length):=congrArg (kAt xs) HN.out
   clear hmb
   go_wp2
   go_ret
   refine ⟨?_,HQ.out,hbw,HKW.out⟩
   show Ending.returned (.int .i64 (kAt xs j))=.returned (.int .i64 (kAt xs xs.length))
   rw [HE.out]
end Go.Proofs.YtnhcbiomkiljpaaGreatDoor.ml
namespace Go.Proofs.YtnhcbiomkiljpaaGreatDoor.eg
open Go.RowKit Go.WideShapes
open bx bl ml
set_option linter.unusedVariables false
theorem LiesE.kp {w w':World} {b:Nat} {r:Int} {d:ByteArray} {s:Int} {v:Value} (h:LiesE w b 35 r d s v) (hk:Kp w w'):LiesE w' b 35 r d s v:=(hk b ⟨_,h⟩).trans h
set_option maxHeartbeats 1000000 in
set_option maxRecDepth 100000 in
theorem markE_ownK (r:Int) (d:ByteArray) (s:Int) (L:Value) (base:Nat) (xs:List Bx) (us:Nat→Value × Value) (w:World) (h:OwnL w base L xs us) (hf:Few xs) (hb:base≤w.heap.size) :
  Calls Tryz.prog 13 #[EV r d s L,.int .i64 1] w fun e w'=>e=.returned (.int .i64 (kAt xs xs.length))∧(∃ cs,MB w' base L xs us xs.length cs)∧Below base w w'∧Kp w w':=by
 obtain ⟨La,Ln,Lc,rfl⟩:=slice_fine (own_fine h.1)
 have L0:=liesE_new w 35 r d s (.slice La Ln Lc)
 have b0:=new_below w 35 #[.int .i64 r,.string d,.int .i64 s,.slice La Ln Lc]
 have HM:Hid (OwnL w base (.slice La Ln Lc) xs us∧Few xs):=⟨h,hf⟩
 have c3:=L0.c3
 clear h hf L0
 unfold EV
 go_enter Tryz.func13,Tryz.ntmps13
 go_wp2_with fail
 generalize w.alloc _=w0 at b0 c3 ⊢
 refine (markBoxS_ownK _ base xs us w0 (ownL_below HM.out.1 b0) HM.out.2 (Nat.le_trans hb b0.size)).mono ?_
 rintro e w1 ⟨rfl,hMB,hb1,hk1⟩
 have HK:Hid ((∃ cs,MB w1 base (.slice La Ln Lc) xs us xs.length cs)∧Below base w w1∧Kp w w1):=⟨hMB,(b0.mono hb).trans hb1,kp_trans (kp_below b0) hk1⟩
 clear hMB hb1 b0 c3 HM hk1
 go_wp2
 go_ret
 exact ⟨rfl,HK.out.1,HK.out.2⟩
end Go.Proofs.YtnhcbiomkiljpaaGreatDoor.eg
