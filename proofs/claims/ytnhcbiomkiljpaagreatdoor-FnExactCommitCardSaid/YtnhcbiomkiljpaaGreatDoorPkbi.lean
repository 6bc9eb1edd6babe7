/-
  A list of boxes that is one's own, marked by the law's own function: what stands in it then.
  A list of boxes that is one's own, marked by the law's own function.
  A list of boxes, held against its marks by the law's own function.
  What the records of a log make: each is a mutation, done to the boxes that those ahead of it made.
  The program's replayed.
-/
import Derived.Test.YtnhcbiomkiljpaaGreatDoorPkal
import Derived.Test.YtnhcbiomkiljpaaGreatDoorPkaz
import Derived.Test.YtnhcbiomkiljpaaGreatDoorPkbd
import Derived.Test.YtnhcbiomkiljpaaGreatDoorPkbf
import Derived.Test.YtnhcbiomkiljpaaGreatDoorPkbh
namespace Go.Proofs.YtnhcbiomkiljpaaGreatDoor.ml
open Go.RowKit
open gr mk st bx mm mx bl
open ky (TextsAt OwnT own_texts)
set_option linter.unusedVariables false
def kAt (xs:List Bx):Nat→Int
 | 0=>1
 | j+1=>kAt xs j+3+3 * ((xs.getD j noB).ms.length:Int)+((xs.getD j noB).ks.length:Int)
def Few (xs:List Bx):Prop:=xs.length≤10∧∀ j,j < xs.length→(xs.getD j noB).ms.length≤1000∧(xs.getD j noB).ks.length≤1000
theorem kAt_in {xs:List Bx} (h:Few xs):∀ {j:Nat},j≤xs.length→0 < kAt xs j∧kAt xs j≤1+5000 * (j:Int)
 | 0,_=>by simp [kAt]
 | j+1,hj=>by
  have hi:=kAt_in h (j:=j) (by omega)
  have hb:=h.2 j (by omega)
  rw [kAt]
  omega
def RowMk (w:World) (base:Nat) (xs:List Bx) (us:Nat→Value × Value) (i:Nat):Prop :=
 w.ownsRow base 122 3 (us i).1 (xs.getD i noB).ms.length (marksM (kAt xs i+3) (xs.getD i noB).ms.length)∧w.ownsRow base 9 1 (us i).2 (xs.getD i noB).ks.length ((marks (kAt xs i+3+3 * ((xs.getD i noB).ms.length:Int)) (xs.getD i noB).ks.length).map Value.string)
def CellMk (xs:List Bx) (cs:List Value) (i:Nat):Prop:=cs[i * 5]? = some (.string (mt (kAt xs i)))∧cs[i * 5+1]? = some (.int .i64 (kAt xs i+1))∧cs[i * 5+2]? = some (.int .i64 (kAt xs i+2))
def MB (w:World) (base:Nat) (L:Value) (xs:List Bx) (us:Nat→Value × Value) (j:Nat) (cs:List Value):Prop :=
 w.ownsRow base 85 5 L xs.length cs∧Kept cs xs.length us∧(∀ i,i < j→CellMk xs cs i)∧(∀ i,i < j→RowMk w base xs us i)∧∀ i,j≤i→i < xs.length→OwnM w base (us i).1 (xs.getD i noB).ms∧OwnK w base (us i).2 (xs.getD i noB).ks
theorem mb_start {w:World} {base:Nat} {L:Value} {xs:List Bx} {us:Nat→Value × Value} (h:OwnL w base L xs us):MB w base L xs us 0 (bcells xs us xs.length) :=
 ⟨h.1,fun j hj=>⟨(bcells_at xs us _ j hj).2.2.2.1,(bcells_at xs us _ j hj).2.2.2.2⟩,fun i hi=>absurd hi (Nat.not_lt_zero _),fun i hi=>absurd hi (Nat.not_lt_zero _),fun i _ hi=>h.2.1 i hi⟩
theorem cellMk_set {xs:List Bx} {cs:List Value} {i j:Nat} (h:CellMk xs cs i) (hij:i < j) (a b c:Value):CellMk xs (((cs.set (j * 5) a).set (j * 5+1) b).set (j * 5+2) c) i:=by
 obtain ⟨h0,h1,h2⟩:=h
 refine ⟨?_,?_,?_⟩
 ·rw [List.getElem?_set_ne (by omega),List.getElem?_set_ne (by omega),List.getElem?_set_ne (by omega),h0]
 ·rw [List.getElem?_set_ne (by omega),List.getElem?_set_ne (by omega),List.getElem?_set_ne (by omega),h1]
 ·rw [List.getElem?_set_ne (by omega),List.getElem?_set_ne (by omega),List.getElem?_set_ne (by omega),h2]
theorem cellMk_new {xs:List Bx} {cs:List Value} {j:Nat} (hl:j * 5+4 < cs.length):CellMk xs (((cs.set (j * 5) (.string (mt (kAt xs j)))).set (j * 5+1) (.int .i64 (kAt xs j+1))).set (j * 5+2) (.int .i64 (kAt xs j+2))) j:=by
 refine ⟨?_,?_,?_⟩
 ·rw [List.getElem?_set_ne (by omega),List.getElem?_set_ne (by omega),List.getElem?_set_self (by omega)]
 ·rw [List.getElem?_set_ne (by omega),List.getElem?_set_self (by simp; omega)]
 ·rw [List.getElem?_set_self (by simp; omega)]
theorem rowMk_grown {w w':World} {base:Nat} {xs:List Bx} {us:Nat→Value × Value} {i:Nat} {v:Value} (h:RowMk w base xs us i) (hg:w.grownBy w' v.ownBlock) (h1:(us i).1.ownBlock=none ∨ (us i).1.ownBlock ≠ v.ownBlock) (h2:(us i).2.ownBlock=none ∨ (us i).2.ownBlock ≠ v.ownBlock):RowMk w' base xs us i:=⟨row_other h.1 hg h1,row_other h.2 hg h2⟩
theorem own_grown2 {w w':World} {base:Nat} {x:Bx} {p:Value × Value} {v:Value} (h:OwnM w base p.1 x.ms∧OwnK w base p.2 x.ks) (hg:w.grownBy w' v.ownBlock) (h1:p.1.ownBlock=none ∨ p.1.ownBlock ≠ v.ownBlock) (h2:p.2.ownBlock=none ∨ p.2.ownBlock ≠ v.ownBlock):OwnM w' base p.1 x.ms∧OwnK w' base p.2 x.ks:=⟨row_other h.1 hg h1,row_other h.2 hg h2⟩
theorem apart_comm {a b:Option Nat} (h:a=none ∨ a ≠ b):b=none ∨ b ≠ a:=by
 rcases h with rfl | h
 ·rcases b with _ | b
  ·exact .inl rfl
  ·exact .inr (by simp)
 ·exact .inr (Ne.symm h)
theorem dis_any {us:Nat→Value × Value} {n i j:Nat} (h:Dis us n) (hi:i < n) (hj:j < n) (hne:i ≠ j):((us i).1.ownBlock=none ∨ (us i).1.ownBlock ≠ (us j).1.ownBlock)∧((us i).2.ownBlock=none ∨ (us i).2.ownBlock ≠ (us j).2.ownBlock):=by
 by_cases e:i < j
 ·exact h i j e hj
 ·have:=h j i (by omega) hi
  exact ⟨apart_comm this.1,apart_comm this.2⟩
end Go.Proofs.YtnhcbiomkiljpaaGreatDoor.ml
namespace Go.Proofs.YtnhcbiomkiljpaaGreatDoor.ml
open Go.RowKit
open gr mk st bx mm mx bl
open ky (TextsAt OwnT own_texts)
set_option linter.unusedVariables false
def Oth (w:World) (base:Nat) (xs:List Bx) (us:Nat→Value × Value) (j:Nat):Prop :=
 (∀ i,i < j→RowMk w base xs us i)∧∀ i,j < i→i < xs.length→OwnM w base (us i).1 (xs.getD i noB).ms∧OwnK w base (us i).2 (xs.getD i noB).ks
theorem oth_below {w w':World} {base:Nat} {xs:List Bx} {us:Nat→Value × Value} {j:Nat} (h:Oth w base xs us j) (hb:Below w.heap.size w w'):Oth w' base xs us j :=
 ⟨fun i hi=>⟨ow.own_below (h.1 i hi).1 hb,ow.own_below (h.1 i hi).2 hb⟩,fun i h1 h2=>⟨ow.own_below (h.2 i h1 h2).1 hb,ow.own_below (h.2 i h1 h2).2 hb⟩⟩
theorem oth_row {w w':World} {base b e s n:Nat} {v:Value} {cs:List Value} {xs:List Bx} {us:Nat→Value × Value} {j:Nat} (h:Oth w base xs us j) (ho:w.ownsRow b e s v n cs) (hg:w.grownBy w' v.ownBlock) (h1:122 ≠ e) (h2:9 ≠ e):Oth w' base xs us j :=
 ⟨fun i hi=>rowMk_grown (h.1 i hi) hg (rowkinds (h.1 i hi).1 ho h1) (rowkinds (h.1 i hi).2 ho h2),fun i hi hl=>own_grown2 (h.2 i hi hl) hg (rowkinds (h.2 i hi hl).1 ho h1) (rowkinds (h.2 i hi hl).2 ho h2)⟩
theorem oth_mails {w w':World} {base b n:Nat} {cs:List Value} {xs:List Bx} {us:Nat→Value × Value} {j:Nat} (h:Oth w base xs us j) (ho:w.ownsRow b 122 3 (us j).1 n cs) (hg:w.grownBy w' (us j).1.ownBlock) (hd:Dis us xs.length) (hj:j < xs.length):Oth w' base xs us j :=
 ⟨fun i hi=>rowMk_grown (h.1 i hi) hg (dis_any hd (by omega) hj (by omega)).1 (rowkinds (h.1 i hi).2 ho (by decide)),fun i hi hl=>own_grown2 (h.2 i hi hl) hg (dis_any hd hl hj (by omega)).1 (rowkinds (h.2 i hi hl).2 ho (by decide))⟩
theorem oth_keys {w w':World} {base b n:Nat} {cs:List Value} {xs:List Bx} {us:Nat→Value × Value} {j:Nat} (h:Oth w base xs us j) (ho:w.ownsRow b 9 1 (us j).2 n cs) (hg:w.grownBy w' (us j).2.ownBlock) (hd:Dis us xs.length) (hj:j < xs.length):Oth w' base xs us j :=
 ⟨fun i hi=>rowMk_grown (h.1 i hi) hg (rowkinds (h.1 i hi).1 ho (by decide)) (dis_any hd (by omega) hj (by omega)).2,fun i hi hl=>own_grown2 (h.2 i hi hl) hg (rowkinds (h.2 i hi hl).1 ho (by decide)) (dis_any hd hl hj (by omega)).2⟩
end Go.Proofs.YtnhcbiomkiljpaaGreatDoor.ml
namespace Go.Proofs.YtnhcbiomkiljpaaGreatDoor.ml
open Go.RowKit
open gr mk st bx mm mx bl
open ky (TextsAt OwnT own_texts)
set_option linter.unusedVariables false
theorem mb_below {w w':World} {base:Nat} {L:Value} {xs:List Bx} {us:Nat→Value × Value} {cs:List Value} (h:MB w base L xs us xs.length cs) (hb:Below w.heap.size w w'):MB w' base L xs us xs.length cs :=
 ⟨ow.own_below h.1 hb,h.2.1,h.2.2.1,fun i hi=>⟨ow.own_below (h.2.2.2.1 i hi).1 hb,ow.own_below (h.2.2.2.1 i hi).2 hb⟩,fun i h1 h2=>absurd h1 (by omega)⟩
set_option maxHeartbeats 4000000 in
set_option maxRecDepth 100000 in
theorem heldBoxS_any (L:Value) (base:Nat) (xs:List Bx) (us:Nat→Value × Value) (cs:List Value) (w:World) (h:MB w base L xs us xs.length cs) (hf:Few xs) :
  Calls Tryz.prog 35 #[L,.int .i64 1] w fun e w'=>e=.returned (.int .i64 (kAt xs xs.length))∧Below w.heap.size w w':=by
 have HF:Hid (Few xs):=hf
 have HMB:Hid (MB w base L xs us xs.length cs):=h
 obtain ⟨n,hn⟩:∃ n,n=xs.length:=⟨_,rfl⟩
 have HN:Hid (n=xs.length):=hn
 have hl:n≤10:=by rw [hn]; exact hf.1
 obtain ⟨La,Lc,rfl,hLa⟩:∃ a c,L=.slice a n c∧(n=0 ∨ ∃ g,a=some ⟨g,0,none⟩):=by
  rcases h.1.2 with ⟨rfl,hz⟩ | ⟨g,cap,cur,rfl,_⟩
  ·exact ⟨none,0,by rw [hn,hz],.inl (by rw [hn,hz])⟩
  ·exact ⟨_,_,by rw [hn],.inr ⟨g,rfl⟩⟩
 clear h hf hn
 go_enter Tryz.func35,Tryz.ntmps35
 go_wp2
 go_loopw [1,5] (fun z i wr=>∃ (j:Nat),j≤n∧z=.int .i64 (kAt xs j)∧i=.int .i64 j∧Below w.heap.size w wr) (fun _ i _=>n - (intOf i).toNat)
 case atStart=>exact ⟨0,Nat.zero_le _,rfl,rfl,Below.refl _ _⟩
 case round =>
  obtain ⟨j,hj,rfl,rfl,hbw⟩:=hrel
  by_cases hlt:j < n
  ·have hjx:j < xs.length:=by rw [← HN.out]; exact hlt
   obtain ⟨g,rfl⟩:∃ g,La=some ⟨g,0,none⟩:=by
    rcases hLa with h | h
    ·omega
    ·exact h
   have hlt':(j:Int) < (n:Int):=by omega
   have hj0:(0:Int)≤(j:Int):=by omega
   have hki:=kAt_in HF.out (j:=j) (by omega)
   have hfe:=HF.out.2 j hjx
   have HKN:Hid (kAt xs (j+1)=kAt xs j+1+1+1+3 * ((xs.getD j noB).ms.length:Int)+((xs.getD j noB).ks.length:Int)):=by
    show kAt xs j+3+_+_=_
    omega
   have hmb:=mb_below HMB.out hbw
   obtain ⟨hown,hkp,hcm,hrm,_⟩:=hmb
   rw [← HN.out] at hown
   have c0:=(hown.cellAt (j * 5) (by omega)).trans (hcm j hjx).1
   have c1:=(hown.cellAt (j * 5+1) (by omega)).trans (hcm j hjx).2.1
   have c2:=(hown.cellAt (j * 5+2) (by omega)).trans (hcm j hjx).2.2
   have c3:=(hown.cellAt (j * 5+3) (by omega)).trans (hkp j hjx).1
   have c4:=(hown.cellAt (j * 5+4) (by omega)).trans (hkp j hjx).2
   have hr:=hrm j hjx
   unfold RowMk at hr
   rw [show kAt xs j+3=kAt xs j+1+1+1 by omega] at hr
   rw [show kAt xs j+2=kAt xs j+1+1 by omega] at c2
   have HR:Hid (wr.ownsRow base 122 3 (us j).1 (xs.getD j noB).ms.length (marksM (kAt xs j+1+1+1) (xs.getD j noB).ms.length)∧wr.ownsRow base 9 1 (us j).2 (xs.getD j noB).ks.length ((marks (kAt xs j+1+1+1+3 * ((xs.getD j noB).ms.length:Int)) (xs.getD j noB).ks.length).map Value.string)):=hr
   clear hr hown hkp hcm hrm
   generalize kAt xs j=K at hki HKN HR c0 c1 c2 ⊢
   generalize (xs.getD j noB).ms.length=m1 at hfe HKN HR
   generalize (xs.getD j noB).ks.length=m2 at hfe HKN HR
   have HM:Hid (∀ w,Calls Tryz.prog 60 #[.int .i64 K] w fun e w'=>e=.returned (.string (mt K))∧Below w.heap.size w w'):=fun w=>mark_any _ w (by omega) (by omega)
   generalize mt K=x at c0 HM
   have HC:Hid (wr.cell? ⟨g,j * 5+1,none⟩=some (.int .i64 (K+1))∧wr.cell? ⟨g,j * 5+2,none⟩=some (.int .i64 (K+1+1))∧wr.cell? ⟨g,j * 5+3,none⟩=some (us j).1∧wr.cell? ⟨g,j * 5+4,none⟩=some (us j).2):=⟨c1,c2,c3,c4⟩
   have HC0:Hid (wr.cell? ⟨g,j * 5,none⟩=some (.string x)):=c0
   clear c0 c1 c2 c3 c4
   have hxx:(x.toList == x.toList)=true:=by simp
   have n1:((K+1:Int) != K+1)=false:=by simp
   have n2:((K+1+1:Int) != K+1+1)=false:=by simp
   go_wp2_with fail
   have ne:=ext_some wr
   have c0:=fun y:Ext wr=>gw_cell y HC0.out
   refine region_lit (by kernel_rfl) (by kernel_rfl) ?_
   repeat (go_big_quiet_step ((go_at_call 60; exact grow_of (HM.out _))))
   refine wpQuiet_nil ?_
   rintro W1 ⟨y0,rfl⟩
   have hb1:=gw_below y0
   generalize gw y0=W1 at hb1 ⊢
   have c1:=(hb1.cell (p:=⟨g,j * 5+1,none⟩) (World.block_lt_of_cell? wr _ HC.out.1)).trans HC.out.1
   have c2:=(hb1.cell (p:=⟨g,j * 5+2,none⟩) (World.block_lt_of_cell? wr _ HC.out.2.1)).trans HC.out.2.1
   have c3:=(hb1.cell (p:=⟨g,j * 5+3,none⟩) (World.block_lt_of_cell? wr _ HC.out.2.2.1)).trans HC.out.2.2.1
   have HC4:Hid (W1.cell? ⟨g,j * 5+4,none⟩=some (us j).2):=(hb1.cell (p:=⟨g,j * 5+4,none⟩) (World.block_lt_of_cell? wr _ HC.out.2.2.2)).trans HC.out.2.2.2
   have HR1:Hid (W1.ownsRow base 122 3 (us j).1 m1 (marksM (K+1+1+1) m1)∧W1.ownsRow base 9 1 (us j).2 m2 ((marks (K+1+1+1+3 * (m1:Int)) m2).map Value.string)):=⟨ow.own_below HR.out.1 hb1,ow.own_below HR.out.2 hb1⟩
   have HB1:Hid (Below w.heap.size w W1):=hbw.trans (hb1.mono hbw.size)
   clear c0 HC0 HC HR hbw hb1 HM
   go_wp2_with fail
   clear c1 c2 c3
   refine (heldM_any (us j).1 base m1 (K+1+1+1) W1 HR1.out.1 (by omega) (by omega) (by omega)).mono ?_
   rintro e w2 ⟨rfl,hb2⟩
   have c4:=(hb2.cell (p:=⟨g,j * 5+4,none⟩) (World.block_lt_of_cell? W1 _ HC4.out)).trans HC4.out
   have HT2:Hid (TextsAt w2 (us j).2 (marks (K+1+1+1+3 * (m1:Int)) m2)):=own_texts (base:=base) (by unfold OwnT; rw [marks_len]; exact ow.own_below HR1.out.2 hb2)
   have HB2:Hid (Below w.heap.size w w2):=HB1.out.trans (hb2.mono HB1.out.size)
   clear HR1 HC4 HB1 hb2
   have hmI:(m1:Int)≤1000:=by omega
   have hmI0:(0:Int)≤(m1:Int):=by omega
   have hkI:(m2:Int)≤1000:=by omega
   have hkI0:(0:Int)≤(m2:Int):=by omega
   go_wp2_with fail
   clear c4
   refine (heldTexts_any (us j).2 m2 (K+1+1+1+3 * (m1:Int)) w2 HT2.out (by omega) (by omega) (by omega)).mono ?_
   rintro e w3 ⟨rfl,hb3⟩
   have HB3:Hid (Below w.heap.size w w3):=HB2.out.trans (hb3.mono HB2.out.size)
   clear HT2 HB2 hb3
   go_wp2
   go_roundw
   case rel=>exact ⟨j+1,by omega,by rw [HKN.out],by go_num,HB3.out⟩
   case measure=>simp [intOf]; omega
  ·obtain rfl:j=n:=by omega
   have HE:Hid (kAt xs j=kAt xs xs.length):=congrArg (kAt xs) HN.out
   go_wp2
   go_ret
   refine ⟨?_,hbw⟩
   show Ending.returned (.int .i64 (kAt xs j))=.returned (.int .i64 (kAt xs xs.length))
   rw [HE.out]
end Go.Proofs.YtnhcbiomkiljpaaGreatDoor.ml
namespace Go.Proofs.YtnhcbiomkiljpaaGreatDoor.rp
open Go.RowKit
open st gr bx mx bl wi ml sa lg
set_option linter.unusedVariables false
theorem scan_small (t:ByteArray):∀ f p acc,(∀ x ∈ acc,x.size≤20000)→∀ x ∈ (scan t f p acc).1,x.size≤20000
 | 0,p,acc,h=>h
 | f+1,p,acc,h=>by
  rw [scan]
  split
  ·exact h
  ·split
   ·rename_i h0 h1
    refine scan_small t f _ _ fun x hx=>?_
    rcases List.mem_append.1 hx with hx | hx
    ·exact h x hx
    ·rw [List.mem_singleton] at hx
     subst hx
     exact (next_ok h1).2.2
   ·exact h
theorem recs_small (t:ByteArray):∀ x ∈ (recs t).1,x.size≤20000:=scan_small t _ _ _ (fun x hx=>absurd hx List.not_mem_nil)
theorem recR_small (r:Int) (d:ByteArray) (s:Int):∀ x ∈ (recR r d s).1,x.size≤20000:=by
 unfold recR
 split
 ·exact recs_small d
 ·exact fun x hx=>absurd hx List.not_mem_nil
def mt (t:ByteArray):mu.Mu:=rm.mtn (t,false)
theorem mt_small (t:ByteArray):mu.Small (mt t):=rm.mtn_small _
theorem mt_ok {t:ByteArray} (h:rm.rok t=true):mu.mok (mt t)=true:=by
 unfold rm.rok at h
 simp only [Bool.and_eq_true] at h
 exact h.2.2
theorem mk_self (t:ByteArray):(⟨t.data.toList.toArray⟩:ByteArray)=t:=by cases t; simp
theorem rm_yes {t:ByteArray} (hs:t.size≤20000) (h:rm.rok t=true):rm.rmx t.data.toList=mt t∧rm.rmc t.data.toList=0:=by
 have:=rm.rm_ok (l:=t.data.toList) (by rw [← Lib.size_eq]; exact hs) (by rw [mk_self]; exact h)
 rw [mk_self] at this
 exact this
theorem rm_no {t:ByteArray} (hs:t.size≤20000) (h:rm.rok t=false):rm.rmx t.data.toList=rm.noM∧rm.rmc t.data.toList=3 :=
 rm.rm_form (by rw [← Lib.size_eq]; omega) (by rw [mk_self,h]; simp)
def Rp:List ByteArray→List Bx→List Bx × Bool→Prop
 | [],xs,r=>r=(xs,true)
 | t :: ts,xs,r=>(rm.rok t=false∧r=([],false)) ∨ (rm.rok t=true∧∃ ys c,Am xs (mt t) ys c∧((c ≠ 0∧r=([],false)) ∨ (c=0∧Rp ts ys r)))
theorem rising_sok {xs:List Bx} (h:sok xs=true):∀ k,k < xs.length→Rising (xs.getD k noB).ms:=fun k hk=>rising_of (bok_iff.1 ((sok_of h).2 k hk).1).2.2.2.1.2
theorem rp_one:∀ {ts:List ByteArray} {xs:List Bx} {r r':List Bx × Bool},sok xs=true→Rp ts xs r→Rp ts xs r'→r=r'
 | [],xs,r,r',_,h,h'=>by rw [h,h']
 | t :: ts,xs,r,r',hs,h,h'=>by
  rcases h with ⟨h1,e⟩ | ⟨h1,ys,c,hA,hc⟩
  ·rcases h' with ⟨_,e'⟩ | ⟨h1',_⟩
   ·rw [e,e']
   ·rw [h1] at h1'; cases h1'
  ·rcases h' with ⟨h1',_⟩ | ⟨_,ys',c',hA',hc'⟩
   ·rw [h1] at h1'; cases h1'
   ·obtain ⟨rfl,rfl⟩:=am_one (rising_sok hs) hA hA'
    rcases hc with ⟨c0,e⟩ | ⟨rfl,hR⟩
    ·rcases hc' with ⟨_,e'⟩ | ⟨c1,_⟩
     ·rw [e,e']
     ·exact absurd c1 c0
    ·rcases hc' with ⟨c1,_⟩ | ⟨_,hR'⟩
     ·exact absurd rfl c1
     ·exact rp_one (am_ok hs (mt_ok h1) hA) hR hR'
theorem drop_getD {ts:List ByteArray} {k:Nat} (h:k < ts.length):ts.drop k=ts.getD k ky.nt :: ts.drop (k+1):=by
 rw [List.drop_eq_getElem_cons h]
 simp [List.getD_eq_getElem?_getD,h]
def Go (ts:List ByteArray) (k:Nat) (xs:List Bx):Prop:=∀ r,Rp (ts.drop k) xs r→Rp ts [] r
theorem go_start (ts:List ByteArray):Go ts 0 []:=fun r h=>h
theorem go_end {ts:List ByteArray} {xs:List Bx} {k:Nat} (h:Go ts k xs) (hk:ts.length≤k):Rp ts [] (xs,true):=h _ (by rw [List.drop_eq_nil_of_le hk]; rfl)
theorem go_bad {ts:List ByteArray} {xs:List Bx} {k:Nat} {t:ByteArray} (h:Go ts k xs) (hk:k < ts.length) (ht:ts.getD k ky.nt=t) (hr:rm.rok t=false):Rp ts [] ([],false):=h _ (by rw [drop_getD hk,ht]; exact .inl ⟨hr,rfl⟩)
theorem go_code {ts:List ByteArray} {xs ys:List Bx} {k:Nat} {t:ByteArray} {c:Int} (h:Go ts k xs) (hk:k < ts.length) (ht:ts.getD k ky.nt=t) (hr:rm.rok t=true) (hA:Am xs (mt t) ys c) (hc:c ≠ 0):Rp ts [] ([],false):=h _ (by rw [drop_getD hk,ht]; exact .inr ⟨hr,ys,c,hA,.inl ⟨hc,rfl⟩⟩)
theorem go_next {ts:List ByteArray} {xs ys:List Bx} {k:Nat} {t:ByteArray} (h:Go ts k xs) (hk:k < ts.length) (ht:ts.getD k ky.nt=t) (hr:rm.rok t=true) (hA:Am xs (mt t) ys 0):Go ts (k+1) ys:=fun r hR=>h r (by rw [drop_getD hk,ht]; exact .inr ⟨hr,ys,0,hA,.inr ⟨rfl,hR⟩⟩)
theorem sok_nil:sok []=true:=sok_yes (Nat.zero_le _) (fun j hj=>absurd hj (Nat.not_lt_zero _))
theorem smalls_nil:bx.Smalls []:=⟨Nat.zero_le _,fun j hj=>absurd hj (Nat.not_lt_zero _)⟩
theorem ownL_nil (w:World) (base:Nat) (us:Nat→Value × Value):OwnL w base (.slice none 0 0) [] us:=⟨World.ownsRow_nil _ _ _ _,fun j hj=>absurd hj (Nat.not_lt_zero _),fun i j _ hj=>absurd hj (Nat.not_lt_zero _)⟩
theorem items_by {w:World} {base N:Nat} {u:Value} {ps:List it.Pr} (h:rm.Rows2 w base u ps):ItemsBy w N u ps:=by
 have ha:=rm.rows_at h
 obtain ⟨a,cap,rfl,h2⟩:=ha
 refine ⟨a,cap,rfl,?_⟩
 rcases h2 with h2 | ⟨b,off,rfl,h2⟩
 ·exact .inl h2
 ·refine .inr ⟨b,off,rfl,.inr ?_,h2⟩
  rcases h.2 with ⟨e,_⟩ | ⟨g,c,cur,e,_,hh,_⟩
  ·cases e
  ·cases e
   exact ⟨_,_,hh⟩
end Go.Proofs.YtnhcbiomkiljpaaGreatDoor.rp
namespace Go.Proofs.YtnhcbiomkiljpaaGreatDoor.rp
open Go.RowKit
open st gr bx mx bl wi ml sa lg
set_option linter.unusedVariables false
set_option maxHeartbeats 4000000 in
set_option maxRecDepth 100000 in
theorem replayed_any (v:Value) (ts:List ByteArray) (w:World) (h:ky.TextsAt w v ts) (hl:ts.length≤1048576) (hs:∀ x ∈ ts,x.size≤20000) :
  Calls Tryz.prog 51 #[v] w fun e w'=>(∃ L ys us b,e=.returned (.tuple #[L,.bool b])∧Rp ts [] (ys,b)∧OwnL w' w.heap.size L ys us∧bx.Smalls ys∧sok ys=true)∧Below w.heap.size w w':=by
 obtain ⟨n,hn⟩:∃ n,n=ts.length:=⟨_,rfl⟩
 have HN:Hid (n=ts.length):=hn
 obtain ⟨a,cap,rfl,hc⟩:=h
 have HC:Hid (ts=[] ∨ ∃ b off,a=some ⟨b,off,none⟩∧∀ j,j < ts.length→w.cell? ⟨b,off+j,none⟩=some (.string (ts.getD j ky.nt))):=hc
 have HS:Hid (∀ x ∈ ts,x.size≤20000):=hs
 rw [← hn] at hl ⊢
 clear hn hc hs
 go_enter Tryz.func51,Tryz.ntmps51
 go_wp2_with fail
 go_loopw [4,11] (fun L i wr=>∃ (k:Nat) (xs:List Bx) (us:Nat→Value × Value),k≤n∧i=.int .i64 k∧OwnL wr w.heap.size L xs us∧bx.Smalls xs∧sok xs=true∧Below w.heap.size w wr∧Hid (Go ts k xs)) (fun _ i _=>n - (intOf i).toNat)
 case atStart=>exact ⟨0,[],fun _=>(.slice none 0 0,.slice none 0 0),Nat.zero_le _,rfl,ownL_nil _ _ _,smalls_nil,sok_nil,Below.refl _ _,go_start ts⟩
 case round =>
  obtain ⟨k,xs,us,hk,rfl,hO,hsm,hso,hbw,HG⟩:=hrel
  obtain ⟨La,Ln,Lc,rfl⟩:=slice_fine (own_fine hO.1)
  have hBs:=hbw.size
  have HO:Hid (OwnL wr w.heap.size (.slice La Ln Lc) xs us):=hO
  have HX:Hid (bx.Smalls xs∧sok xs=true):=⟨hsm,hso⟩
  clear hO hsm hso
  by_cases hlt:k < n
  ·have hlt':(k:Int) < (n:Int):=by omega
   have hk0:(0:Int)≤(k:Int):=by omega
   have HKL:Hid (k < ts.length):=by rw [← HN.out]; exact hlt
   obtain ⟨t,ht⟩:∃ t,ts.getD k ky.nt=t:=⟨_,rfl⟩
   have hts:t.size≤20000:=by
    rw [← ht,List.getD_eq_getElem?_getD,List.getElem?_eq_getElem HKL.out]
    exact HS.out _ (List.getElem_mem _)
   rcases HC.out with e | ⟨b,off,rfl,hcells⟩
   ·have:=HKL.out; rw [e] at this; simp at this
   have c0:wr.cell? ⟨b,off+k,none⟩=some (.string t):=by
    have:=hcells k HKL.out
    rw [ht] at this
    exact (hbw.cell (p:=⟨b,off+k,none⟩) (World.block_lt_of_cell? w _ this)).trans this
   have HT:Hid (ts.getD k ky.nt=t):=ht
   clear hcells ht
   have hcv:=Lib.run_convert_string_bytes (P:=Tryz.prog) wr 9 77 5 t Tryz.underlying9 Tryz.underlying77 Tryz.underlying5
   have hlc:=ow.lies_conv wr 5 t
   have hbc:=ow.below_conv wr 5 t
   generalize grownCap wr t.size 0 5=gc at hcv hlc
   generalize Lib.bytesWorld wr 5 t=W1 at hcv hlc hbc
   have HRM:Hid (Calls Tryz.prog 96 #[.slice (some ⟨wr.heap.size,0,none⟩) t.size gc] W1 fun e w'=>rm.RmRet t.data.toList W1.heap.size e w'∧Below W1.heap.size W1 w'):=(show Calls _ _ _ _ _ from rm.impl_rm _ t.data.toList W1 (ow.reads_lies hlc) (by rw [← Lib.size_eq]; omega))
   clear hlc
   go_wp2_with fail
   refine HRM.out.mono ?_
   rintro e w2 ⟨⟨u,rfl,hru⟩,hb2⟩
   have hb12:=hbc.trans (hb2.mono hbc.size)
   have HO2:Hid (OwnL w2 w.heap.size (.slice La Ln Lc) xs us):=ownL_below HO.out hb12
   have hbw2:=hbw.trans (hb12.mono hBs)
   have hBs2:=hbw2.size
   have HBW2:Hid (Below w.heap.size w w2):=hbw2
   clear HRM c0 hcv hbc hb2 hb12 HO hbw hbw2
   cases hr:rm.rok t with
   | false =>
    obtain ⟨e1,e2⟩:=rm_no hts hr
    rw [e1] at hru
    have HR:Hid (Rp ts [] ([],false)):=go_bad HG.out HKL.out HT.out hr
    obtain ⟨ua,uc,rfl,_⟩:=rm.rows_at hru
    rw [e1,e2]
    unfold mu.MV rm.noM
    clear hr e1 e2 hru HG
    have HE:Hid (Below w.heap.size w (w2.alloc (.cells #[.int .i64 0,.int .i64 0,.int .i64 0,.int .i64 0,.string ⟨#[]⟩,.slice ua 0 uc] 41))):=HBW2.out.alloc hBs2 _
    go_wp2
    go_ret2
    exact ⟨⟨_,[],fun _=>(.slice none 0 0,.slice none 0 0),false,rfl,HR.out,ownL_nil _ _ _,smalls_nil,sok_nil⟩,HE.out⟩
   | true =>
    obtain ⟨e1,e2⟩:=rm_yes hts hr
    rw [e1] at hru
    have HR:Hid (rm.rok t=true):=hr
    have HIT:Hid (rm.Rows2 w2 W1.heap.size u (mt t).ps):=hru
    have hsm:=mt_small t
    have hmo:=mt_ok hr
    rw [e1,e2]
    obtain ⟨ua,uc,rfl,_⟩:=rm.rows_at hru
    generalize hM:mt t=M at HIT hsm hmo ⊢
    have HM:Hid (mt t=M):=hM
    clear hr e1 e2 hru hM
    have hb3:=mu.new_below w2 41 #[.int .i64 M.k,.int .i64 M.u,.int .i64 M.m,.int .i64 M.f,.string M.b,.slice ua M.ps.length uc]
    have L3:=mu.lies_new w2 41 M (.slice ua M.ps.length uc)
    have HMU:Hid (Calls Tryz.prog 69 #[.slice La Ln Lc,mu.MV M (.slice ua M.ps.length uc)] (w2.alloc (.cells #[.int .i64 M.k,.int .i64 M.u,.int .i64 M.m,.int .i64 M.f,.string M.b,.slice ua M.ps.length uc] 41)) fun e w'=>(∃ L' ys us' c,e=.returned (.tuple #[L',.int .i64 c])∧Am xs M ys c∧OwnL w' w.heap.size L' ys us')∧Below w.heap.size (w2.alloc (.cells #[.int .i64 M.k,.int .i64 M.u,.int .i64 M.m,.int .i64 M.f,.string M.b,.slice ua M.ps.length uc] 41)) w'):=(show Calls _ _ _ _ _ from mutated_any _ w.heap.size xs us M _ _ (ownL_below HO2.out hb3) (Nat.le_trans hBs2 hb3.size) HX.out.1 (by_keep (items_by HIT.out) hb3) hsm HX.out.2 hmo)
    have HBW3:Hid (Below w.heap.size w (w2.alloc (.cells #[.int .i64 M.k,.int .i64 M.u,.int .i64 M.m,.int .i64 M.f,.string M.b,.slice ua M.ps.length uc] 41))):=HBW2.out.alloc hBs2 _
    have q0:=L3.c0
    have q1:=L3.c1
    have q2:=L3.c2
    have q3:=L3.c3
    have q4:=L3.c4
    have q5:=L3.c5
    have HMS:Hid (mu.Small M∧mu.mok M=true):=⟨hsm,hmo⟩
    clear hb3 L3 HO2 HIT hsm hmo
    unfold mu.MV at HMU ⊢
    go_wp2_with fail
    generalize hP:w2.heap.size=P at q0 q1 q2 q3 q4 q5 hBs2 ⊢
    clear hP
    generalize w2.alloc _=w3 at HMU HBW3 q0 q1 q2 q3 q4 q5 ⊢
    refine HMU.out.mono ?_
    rintro e w4 ⟨⟨L',ys,us',c,rfl,hA,hO'⟩,hb4⟩
    obtain ⟨La',Ln',Lc',rfl⟩:=slice_fine (own_fine hO'.1)
    have HO4:Hid (OwnL w4 w.heap.size (.slice La' Ln' Lc') ys us'):=hO'
    have HB4:Hid (Below w.heap.size w w4):=HBW3.out.trans hb4
    have HA:Hid (Am xs (mt t) ys c):=by rw [HM.out]; exact hA
    have HYS:Hid (bx.Smalls ys):=am_small HX.out.1 HMS.out.1 HX.out.2 HMS.out.2 hA
    clear HMU HBW3 q0 q1 q2 q3 q4 q5 hO' hb4 hA
    by_cases hc0:c=0
    ·subst hc0
     have HG2:Hid (Go ts (k+1) ys):=go_next HG.out HKL.out HT.out HR.out HA.out
     have HSY:Hid (sok ys=true):=am_ok HX.out.2 (by rw [HM.out]; exact HMS.out.2:mu.mok (mt t)=true) HA.out
     clear HG HA
     go_wp2
     go_roundw
     case rel=>exact ⟨k+1,ys,us',by omega,by go_num,HO4.out,HYS.out,HSY.out,HB4.out,HG2⟩
     case measure=>simp [intOf]; omega
    ·have hc1:(c != 0)=true:=by rw [bne_iff_ne]; exact hc0
     have HRR:Hid (Rp ts [] ([],false)):=go_code HG.out HKL.out HT.out HR.out HA.out hc0
     clear HG HA hc0
     go_wp2
     go_ret2
     exact ⟨⟨_,[],fun _=>(.slice none 0 0,.slice none 0 0),false,rfl,HRR.out,ownL_nil _ _ _,smalls_nil,sok_nil⟩,HB4.out⟩
  ·have hlt':(n:Int)≤(k:Int):=by omega
   have HR:Hid (Rp ts [] (xs,true)):=go_end HG.out (by rw [← HN.out]; omega)
   have HB:Hid (Below w.heap.size w wr):=hbw
   clear HG hbw
   go_wp2
   go_ret2
   exact ⟨⟨_,xs,us,true,rfl,HR.out,HO.out,HX.out.1,HX.out.2⟩,HB.out⟩
end Go.Proofs.YtnhcbiomkiljpaaGreatDoor.rp
