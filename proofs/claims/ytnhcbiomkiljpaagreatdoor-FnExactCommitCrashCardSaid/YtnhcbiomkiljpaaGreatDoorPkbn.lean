/-
  A commit that the power ends: plain facts.
  Both LogRepair functions.
  The program's CommitCrash.
  The program's CommitCrash, whole.
  The specification's restart.
-/
import Derived.Test.YtnhcbiomkiljpaaGreatDoorPkbk
import Derived.Test.YtnhcbiomkiljpaaGreatDoorPkbm
import Derived.Test.YtnhcbiomkiljpaaGreatDoorPkba
import Derived.Test.YtnhcbiomkiljpaaGreatDoorPkay
import Derived.Test.YtnhcbiomkiljpaaGreatDoorPkbl

namespace Go.Proofs.YtnhcbiomkiljpaaGreatDoor.lg
open Go.RowKit
set_option linter.unusedVariables false
theorem next_fr {t:ByteArray} {p:Nat} (h:(next t p).1=0):t.extract p (p+7+(next t p).2.size)=fr (next t p).2:=by
 have hk:=next_ok h
 unfold next at h hk ⊢
 by_cases h1:t.size < p+7
 ·rw [if_pos h1] at h; cases h
 rw [if_neg h1] at h hk ⊢
 by_cases h2:numB (t.extract p (p+3))=0 ∨ 20000 < numB (t.extract p (p+3))
 ·rw [if_pos h2] at h; cases h
 rw [if_neg h2] at h hk ⊢
 by_cases h3:t.size < p+7+numB (t.extract p (p+3))
 ·rw [if_pos h3] at h; cases h
 rw [if_neg h3] at h hk ⊢
 by_cases h4:fr (t.extract (p+7) (p+7+numB (t.extract p (p+3)))) ≠ t.extract p (p+7+numB (t.extract p (p+3)))
 ·rw [if_pos h4] at h; cases h
 rw [if_neg h4]
 have h5:=Classical.not_not.1 h4
 simp only
 rw [size_ex (by omega) (by omega),show p+7+(p+7+numB (t.extract p (p+3)) - (p+7))=p+7+numB (t.extract p (p+3)) from by omega]
 exact h5.symm
theorem scan_cat (t:ByteArray):∀ f p acc,p≤t.size→t.size - p < f→t.extract 0 p=catR acc→Rights acc→(scan t f p acc).2.2=0→t.extract 0 (scan t f p acc).2.1=catR (scan t f p acc).1∧Rights (scan t f p acc).1
 | 0,p,acc,hp,hf,he,hr,h0=>by omega
 | f+1,p,acc,hp,hf,he,hr,h0=>by
  rw [scan] at h0 ⊢
  by_cases h1:t.size≤p
  ·rw [if_pos h1]
   exact ⟨he,hr⟩
  rw [if_neg h1] at h0 ⊢
  by_cases h2:(next t p).1=0
  ·rw [if_pos h2] at h0 ⊢
   have hk:=next_ok h2
   refine scan_cat t f _ _ hk.1 (by omega) ?_ ?_ h0
   ·rw [catR_app,← he,← next_fr h2,ByteArray.extract_append_extract,Nat.min_eq_left (Nat.zero_le _),Nat.max_eq_right (by omega)]
   ·intro x hx
    rcases List.mem_append.1 hx with hx | hx
    ·exact hr x hx
    ·rw [List.mem_singleton] at hx
     subst hx
     exact ⟨hk.2.1,hk.2.2⟩
  ·rw [if_neg h2] at h0
   exact absurd h0 h2
theorem recs_cat {d:ByteArray} (h:(recs d).2.2=0) (he:(recs d).2.1=d.size):d=catR (recs d).1∧Rights (recs d).1:=by
 have:=scan_cat d (d.size+1) 0 [] (Nat.zero_le _) (by omega) (by apply ByteArray.ext; simp [catR,nt]) (fun x hx=>absurd hx List.not_mem_nil) h
 have h2:d.extract 0 (recs d).2.1=catR (recs d).1:=this.1
 rw [he,ex_over (Nat.le_refl _)] at h2
 exact ⟨h2,this.2⟩
theorem cut_fix {l:List ByteArray} (h:Rights l) {k:Nat} (hk:k≤(catR l).size) :
  (recs ((catR l).extract 0 k)).2.2 ≠ 8∧((catR l).extract 0 k).extract 0 (recs ((catR l).extract 0 k)).2.1=catR (l.take (fits l k))∧(recs ((catR l).extract 0 k)).2.1=(catR (l.take (fits l k))).size:=by
 obtain ⟨c,hc,e⟩:=recs_torn h hk
 rw [e]
 refine ⟨by rcases hc with rfl | rfl <;> simp,?_,rfl⟩
 have hs:=fits_size l k
 show ((catR l).extract 0 k).extract 0 (catR (l.take (fits l k))).size=_
 rw [ByteArray.extract_extract,Nat.zero_add,Nat.zero_add,Nat.min_eq_left hs]
 exact cat_pre l (fits l k)
theorem rights_take {l:List ByteArray} (h:Rights l) (j:Nat):Rights (l.take j):=fun x hx=>h x (List.mem_of_mem_take hx)
end Go.Proofs.YtnhcbiomkiljpaaGreatDoor.lg
namespace Go.Proofs.YtnhcbiomkiljpaaGreatDoor.eg
open Go.RowKit
open bx bl
open lg (LV RV fr recs left catR Rights fits Right)
set_option linter.unusedVariables false
theorem getD_ext {α:Type} {xs ys:List α} (d:α) (hl:xs.length=ys.length) (h:∀ j,j < xs.length→xs.getD j d=ys.getD j d):xs=ys:=by
 refine List.ext_getElem hl fun j h1 h2=>?_
 have:=h j h1
 simpa [List.getD_eq_getElem?_getD,h1,h2] using this
theorem sameB_eq {x y:Bx} (h:sm.SameB x y):x=y:=by
 obtain ⟨h1,h2,h3,h4,h5⟩:=h
 have e4:=getD_ext st.noS h4.1 h4.2
 have e5:=getD_ext ky.nt h5.1 h5.2
 cases x
 cases y
 simp only at h1 h2 h3 e4 e5
 subst h1 h2 h3 e4 e5
 rfl
theorem same_eq {xs ys:List Bx} (h:sm.sameS xs ys=true):xs=ys:=by
 have h:sm.SameS xs ys:=ow.dof h
 exact getD_ext noB h.1 fun j hj=>sameB_eq (h.2 j hj)
theorem rp_app {t:ByteArray} {r:List Bx × Bool}:∀ {ts:List ByteArray} {xs ys:List Bx},rp.Rp ts xs (ys,true)→rp.Rp [t] ys r→rp.Rp (ts ++ [t]) xs r:=by
 intro ts
 induction ts with
 | nil =>
  intro xs ys h h'
  rw [rp.Rp] at h
  injection h with h _
  subst h
  exact h'
 | cons t0 ts ih =>
  intro xs ys h h'
  rw [List.cons_append]
  rw [rp.Rp] at h ⊢
  rcases h with ⟨_,e⟩ | ⟨h1,zs,c,hA,hc⟩
  ·exact absurd (show true=false from congrArg Prod.snd e) (by decide)
  ·refine .inr ⟨h1,zs,c,hA,?_⟩
   rcases hc with ⟨_,e⟩ | ⟨c0,hR⟩
   ·exact absurd (show true=false from congrArg Prod.snd e) (by decide)
   ·exact .inr ⟨c0,ih hR h'⟩
def Rl (r:Int) (d:ByteArray) (ys:List Bx):Prop:=∃ n:Int,rp.RlIs r d ((d.size:Nat):Int) ys n 0
def fx (d:ByteArray) (s keep:Int):ByteArray:=(d.extract 0 (left d.size s keep)).extract 0 (recs (d.extract 0 (left d.size s keep))).2.1
def Wd (r:Int) (d:ByteArray) (bs:List Bx) (M:mu.Mu) (D:ByteArray):Prop:=∃ zs k,sa.Am bs M zs k∧((k ≠ 0∧D=d) ∨ (k=0∧(20000 < (mbt M).size ∨ r < (d.size:Int)+7+(mbt M).size)∧D=d) ∨ (k=0∧¬ (20000 < (mbt M).size ∨ r < (d.size:Int)+7+(mbt M).size)∧D=d ++ fr (mbt M)))
theorem wd_of {r:Int} {d:ByteArray} {bs:List Bx} {M:mu.Mu} {zs:List Bx} {k:Int} {d':ByteArray} {ys:List Bx} {c:Int} (hA:sa.Am bs M zs k) (h:Wx r d bs M zs k d' ys c):Wd r d bs M d':=by
 refine ⟨zs,k,hA,?_⟩
 rcases h with ⟨h1,h2,_⟩ | ⟨h1,h2,h3,_⟩ | ⟨h1,h2,h3,_⟩
 ·exact .inl ⟨h1,h2⟩
 ·exact .inr (.inl ⟨h1,h2,h3⟩)
 ·exact .inr (.inr ⟨h1,h2,h3⟩)
theorem wd_one {r:Int} {d:ByteArray} {s:Int} {bs:List Bx} {M:mu.Mu} {D D':ByteArray} (hs:sok bs=true) (h:Wd r d bs M D) (h':Wd r d bs M D'):D=D':=by
 obtain ⟨zs,k,hA,h⟩:=h
 obtain ⟨zs',k',hA',h'⟩:=h'
 obtain ⟨rfl,rfl⟩:=sa.am_one (rp.rising_sok hs) hA hA'
 rcases h with ⟨h1,rfl⟩ | ⟨h1,h2,rfl⟩ | ⟨h1,h2,rfl⟩ <;>
 rcases h' with ⟨g1,rfl⟩ | ⟨g1,g2,rfl⟩ | ⟨g1,g2,rfl⟩ <;>
 first | rfl | exact absurd g1 h1 | exact absurd h1 g1 | exact absurd g2 h2 | exact absurd h2 g2
def Cd (r:Int) (d:ByteArray) (s:Int) (bs:List Bx) (M:mu.Mu) (keep:Int) (r':Int) (d':ByteArray) (s':Int) (ys:List Bx) (c:Int):Prop :=
 ∃ D,Wd r d bs M D∧r'=r∧d'=fx D s keep∧s'=(((fx D s keep).size:Nat):Int)∧c=0∧Rl r (fx D s keep) ys
def Cc (r:Int) (d:ByteArray) (s:Int) (bs:List Bx) (M:mu.Mu) (keep:Int) (r':Int) (d':ByteArray) (s':Int) (ys:List Bx) (c:Int):Prop :=
 (¬ (Cn r d s bs∧mu.mok M=true)∧r'=0∧d'=⟨#[]⟩∧s'=0∧ys=[]∧c=1) ∨
 (Cn r d s bs∧mu.mok M=true∧Cd r d s bs M keep r' d' s' ys c)
theorem cc_one {r:Int} {d:ByteArray} {s:Int} {bs:List Bx} {M:mu.Mu} {keep:Int} {r' r'':Int} {d' d'':ByteArray} {s' s'':Int} {ys ys':List Bx} {c c':Int} (h:Cc r d s bs M keep r' d' s' ys c) (h':Cc r d s bs M keep r'' d'' s'' ys' c'):r'=r''∧d'=d''∧s'=s''∧ys=ys'∧c=c':=by
 rcases h with ⟨h1,rfl,rfl,rfl,rfl,rfl⟩ | ⟨h1,h2,D,hD,rfl,rfl,rfl,rfl,n,hR⟩
 ·rcases h' with ⟨g1,rfl,rfl,rfl,rfl,rfl⟩ | ⟨g1,g2,_⟩
  ·exact ⟨rfl,rfl,rfl,rfl,rfl⟩
  ·exact absurd ⟨g1,g2⟩ h1
 ·rcases h' with ⟨g1,_⟩ | ⟨g1,g2,D',hD',rfl,rfl,rfl,rfl,n',hR'⟩
  ·exact absurd ⟨h1,h2⟩ g1
  ·obtain rfl:=wd_one (s:=s) (cn_sok h1) hD hD'
   exact ⟨rfl,rfl,rfl,(rp.rl_one hR hR').1,rfl⟩
structure Fx (r:Int) (d:ByteArray) (s:Int) (D:ByteArray) (keep:Int):Prop where
 ok:lg.ok r D.size s=true
 size:D.size≤60000
 cut:lg.ok r (D.extract 0 (left D.size s keep)).size ((left D.size s keep:Nat):Int)=true
 cutn:(D.extract 0 (left D.size s keep)).size=left D.size s keep
 code:(recs (D.extract 0 (left D.size s keep))).2.2 ≠ 8
 len:(recs (D.extract 0 (left D.size s keep))).2.1=(fx D s keep).size
 good:lg.ok r (fx D s keep).size (((fx D s keep).size:Nat):Int)=true
 say:∀ ys n c,rp.RlIs r (fx D s keep) (((fx D s keep).size:Nat):Int) ys n c→c=0
theorem fx_of {r:Int} {d:ByteArray} {s:Int} {bs:List Bx} {M:mu.Mu} {D:ByteArray} (keep:Int) (hc:Cn r d s bs) (hm:mu.mok M=true) (hD:Wd r d bs M D):Fx r d s D keep:=by
 obtain ⟨hok,hs,h0,zs,hR,hso,hsa⟩:=hc
 obtain rfl:=same_eq hsa
 have hkk:=of_decide_eq_true hok
 obtain ⟨hd,hrt⟩:=lg.recs_cat h0 (recs_zero h0)
 have hrec:∃ l,Rights l∧D=catR l∧lg.ok r D.size s=true∧(l=(recs d).1 ∨ (l=(recs d).1 ++ [mbt M]∧∃ ws,sa.Am zs M ws 0)):=by
  obtain ⟨ws,k,hA,h⟩:=hD
  rcases h with ⟨h1,rfl⟩ | ⟨h1,h2,rfl⟩ | ⟨rfl,h2,rfl⟩
  ·exact ⟨_,hrt,hd,hok,.inl rfl⟩
  ·exact ⟨_,hrt,hd,hok,.inl rfl⟩
  ·have hm1:Right (mbt M):=⟨mbt_one M,by omega⟩
   refine ⟨(recs d).1 ++ [mbt M],?_,?_,?_,.inr ⟨rfl,ws,hA⟩⟩
   ·intro x hx
    rcases List.mem_append.1 hx with hx | hx
    ·exact hrt x hx
    ·rw [List.mem_singleton] at hx
     subst hx
     exact hm1
   ·rw [lg.catR_app,← hd]
   ·refine decide_eq_true ?_
    rw [ByteArray.size_append,lg.fr_size]
    omega
 obtain ⟨l,hl,rfl,hok2,hcase⟩:=hrec
 have hk2:=of_decide_eq_true hok2
 obtain ⟨e1,e2,e3⟩:=lg.left_le keep hok2
 have hsd:(catR (recs d).1).size=d.size:=by rw [← hd]
 have hleft:d.size≤left (catR l).size s keep:=by
  have:(0:Int)≤min (max keep 0) (((catR l).size:Int) - s):=by omega
  omega
 have hcs:((catR l).extract 0 (left (catR l).size s keep)).size=left (catR l).size s keep:=by rw [lg.size_ex (Nat.zero_le _) e1]; omega
 obtain ⟨f1,f2,f3⟩:=lg.cut_fix hl e1
 have hfx:fx (catR l) s keep=catR (l.take (fits l (left (catR l).size s keep))):=f2
 have hfs:=lg.fits_size l (left (catR l).size s keep)
 have hgood:lg.ok r (fx (catR l) s keep).size (((fx (catR l) s keep).size:Nat):Int)=true:=by
  refine decide_eq_true ?_
  rw [hfx]
  omega
 refine ⟨hok2,by omega,?_,hcs,f1,by rw [f3,hfx],hgood,?_⟩
 ·refine decide_eq_true ?_
  rw [hcs]
  omega
 intro ys n c hRl
 have hw:=lg.recs_whole (lg.rights_take hl (fits l (left (catR l).size s keep)))
 have hmade:∃ ws,rp.Rp (l.take (fits l (left (catR l).size s keep))) [] (ws,true):=by
  have hn:∀ j,(recs d).1.length≤j→(recs d).1.take j=(recs d).1:=fun j hj=>List.take_of_length_le hj
  rcases hcase with rfl | ⟨rfl,ws,hA⟩
  ·have:=lg.fits_max (recs d).1 (left (catR (recs d).1).size s keep) (recs d).1.length (Nat.le_refl _) (by rw [List.take_length]; exact Nat.le_trans (Nat.le_of_eq hsd) hleft)
   rw [hn _ this]
   exact ⟨zs,hR⟩
  ·have h1:=lg.fits_max ((recs d).1 ++ [mbt M]) (left (catR ((recs d).1 ++ [mbt M])).size s keep) (recs d).1.length (by simp) (by rw [List.take_left]; exact Nat.le_trans (Nat.le_of_eq hsd) hleft)
   have h2:=lg.fits_le ((recs d).1 ++ [mbt M]) (left (catR ((recs d).1 ++ [mbt M])).size s keep)
   rw [List.length_append,List.length_singleton] at h2
   rcases Nat.lt_or_ge (fits ((recs d).1 ++ [mbt M]) (left (catR ((recs d).1 ++ [mbt M])).size s keep)) ((recs d).1.length+1) with h3 | h3
   ·rw [show fits ((recs d).1 ++ [mbt M]) (left (catR ((recs d).1 ++ [mbt M])).size s keep)=(recs d).1.length by omega,List.take_left]
    exact ⟨zs,hR⟩
   ·rw [List.take_of_length_le (by rw [List.length_append,List.length_singleton]; exact h3)]
    refine ⟨ws,rp_app hR ?_⟩
    obtain ⟨b1,b2⟩:=mb.mb_back hm
    refine .inr ⟨b1,ws,0,?_,.inr ⟨rfl,rfl⟩⟩
    show sa.Am zs (rm.mtn (mbt M,false)) ws 0
    rw [show rm.mtn (mbt M,false)=M from b2]
    exact hA
 obtain ⟨ws,hws⟩:=hmade
 have hthis:rp.RlIs r (fx (catR l) s keep) (((fx (catR l) s keep).size:Nat):Int) ws (((l.take (fits l (left (catR l).size s keep))).length:Nat):Int) 0:=by
  refine .inr ⟨hgood,ws,true,?_,.inr (.inr ?_)⟩
  ·rw [hfx,hw]; exact hws
  ·rw [hfx,hw]; exact ⟨rfl,by simp,rfl,rfl,rfl⟩
 exact (rp.rl_one hRl hthis).2.2
end Go.Proofs.YtnhcbiomkiljpaaGreatDoor.eg

namespace Go.Proofs.YtnhcbiomkiljpaaGreatDoor.lg
open Go.RowKit
open er
open ky (OwnT TextsAt own_texts)
set_option linter.unusedVariables false
def rep1 (r:Int) (d:ByteArray) (s:Int):Value:=if (recs d).2.2=8 then RV r d s 8 else RV r (d.extract 0 (recs d).2.1) (recs d).2.1 0
def repair (r:Int) (d:ByteArray) (s:Int):Value:=if ok r d.size s=true then rep1 r d s else RV 0 ⟨#[]⟩ 0 1
set_option maxHeartbeats 1000000 in
set_option maxRecDepth 100000 in
theorem isWrong (p code:Nat) (w:World) (c b:Addr) (ca cb:Array Value) (ta tb:TypeId) (hE:Errs w c b ca cb ta tb) (hcd:code=0 ∨ code=18 ∨ code=8) :
  Calls Tryz.prog 115 #[fault c b p code,EV b] w fun e w'=>e=.returned (.bool (decide (code=8)))∧Below w.heap.size w w':=by
 rcases hcd with rfl | rfl | rfl
 ·exact is_nil b w
 ·exact is_other p c b ca cb ta tb w hE.hne hE.ha hE.hb
 ·exact is_same p b w
set_option maxHeartbeats 1000000 in
set_option maxRecDepth 100000 in
theorem impl_repair (r:Int) (d:ByteArray) (s:Int) (w:World) (c b:Addr) (ca cb:Array Value) (ta tb:TypeId) (hr:In r) (hd:d.size≤1048576) (hs:In s) (hE:Errs w c b ca cb ta tb) :
  Calls Tryz.prog 73 #[LV r d s] w fun e w'=>e=.returned (repair r d s)∧Below w.heap.size w w':=by
 obtain ⟨A1,R1,b1⟩:=two_new w 32 r d s
 have HO:=fun W=>impl_ok r d s W hr (Nat.le_trans hd (by unfold maxLen; omega)) hs
 have HE:Hid (Errs w c b ca cb ta tb):=hE
 clear hE hr hs
 unfold repair rep1 LV
 by_cases ho:ok r d.size s=true
 ·rw [if_pos ho]
  rw [ho] at HO
  have HO':Hid _:=HO
  obtain ⟨hple,_,hcd⟩:=recs_le d
  have HR:Hid (∀ W,Errs W c b ca cb ta tb→Calls Tryz.prog 94 #[.string d] W fun e w'=>(∃ v,e=.returned (.tuple #[v,.int .i64 (recs d).2.1,fault c b (recs d).2.1 (recs d).2.2]))∧Below W.heap.size W w'):=fun W hW=>(recordsOf_any d W c b ca cb ta tb hd hW).mono fun e w' ⟨⟨v,h1,_⟩,h2⟩=>⟨⟨v,h1⟩,h2⟩
  have HW:=fun (W:World) (hW:Errs W c b ca cb ta tb)=>isWrong (recs d).2.1 (recs d).2.2 W c b ca cb ta tb hW hcd
  have HC:=fun W=>cut_any r d s (recs d).2.1 W hple hd
  clear HO ho hcd
  obtain ⟨⟨L,P,Q⟩,hRR⟩:∃ R,recs d=R:=⟨_,rfl⟩
  rw [hRR] at HR HW HC hple ⊢
  clear hRR
  simp only at HR HW HC hple ⊢
  generalize fault c b P Q=FF at HR HW
  have HC':Hid _:=HC
  clear HC
  unfold EV at HW
  by_cases hq:Q=8
  ·rw [if_pos hq]
   rw [decide_eq_true hq] at HW
   have HW':Hid _:=HW
   have HP:Hid _:=fun W=>copied_any r d s W hd
   clear HW hq HC'
   unfold RV LV
   go_enter Tryz.func73,Tryz.ntmps73
   go_wp2_with fail
   generalize (w.alloc (.cells #[.int .i64 r,.string d,.int .i64 s] 32)).alloc (.cells #[.int .i64 0,.string ⟨#[]⟩,.int .i64 0] 32)=w1 at A1 R1 b1 ⊢
   refine (HO'.out w1).mono ?_
   rintro e w2 ⟨rfl,k2⟩
   have A2:=A1.keep k2
   have R2:=R1.keep k2
   have b2:=b1.trans (k2.mono b1.size)
   clear A1 R1 k2 b1
   have a1:=A2.c1
   go_wp2_with fail
   refine (HR.out w2 (HE.out.keep b2)).mono ?_
   rintro e w3 ⟨⟨v,rfl⟩,k3⟩
   have A3:=A2.keep k3
   have R3:=R2.keep k3
   have b3:=b2.trans (k3.mono b2.size)
   clear A2 R2 k3 b2 a1
   have hw3:=(HE.out.keep b3).hw
   unfold EV at hw3
   go_wp2_with fail
   refine (HW'.out w3 (HE.out.keep b3)).mono ?_
   rintro e w4 ⟨rfl,k4⟩
   have A4:=A3.keep k4
   have R4:=R3.keep k4
   have b4:=b3.trans (k4.mono b3.size)
   clear A3 R3 k4 b3 hw3
   have a0:=A4.c0
   have a1:=A4.c1'
   have a2:=A4.c2'
   go_wp2_with fail
   refine (HP.out w4).mono ?_
   rintro e w5 ⟨rfl,k5⟩
   unfold LV
   have R5:=R4.keep k5
   have b5:=b4.trans (k5.mono b4.size)
   clear A4 R4 b4 k5 a0 a1 a2
   have r0:=R5.c0
   have r1:=R5.c1'
   have r2:=R5.c2'
   have f0:=R5.f 0
   have f1:=R5.f 1
   have f2:=R5.f 2
   go_wp2
   have A5:=R5.put (a':=.int .i64 r) (b':=.string d) (c':=.int .i64 s)
   have b6:=put_below (g:=w.heap.size+1) (a:=.int .i64 r) (b:=.string d) (c:=.int .i64 s) b5 (by omega)
   change bodyPost _ _ _ _ _ (lg.put w5 (w.heap.size+1) (.int .i64 r) (.string d) (.int .i64 s))
   generalize lg.put _ _ _ _ _=W5 at A5 b6 ⊢
   have d0:=A5.c0
   have d1:=A5.c1
   have d2:=A5.c2
   exact bodyPost_ret (v:=.tuple #[.agg #[.int .i64 r,.string d,.int .i64 s],.int .i64 8]) (by simp [results,Tryz.results73,go_sem,d0,d1,d2]) rfl ⟨rfl,b6⟩
  ·rw [if_neg hq]
   rw [decide_eq_false hq] at HW
   have HW':Hid _:=HW
   clear HW hq
   unfold RV LV
   go_enter Tryz.func73,Tryz.ntmps73
   go_wp2_with fail
   generalize (w.alloc (.cells #[.int .i64 r,.string d,.int .i64 s] 32)).alloc (.cells #[.int .i64 0,.string ⟨#[]⟩,.int .i64 0] 32)=w1 at A1 R1 b1 ⊢
   refine (HO'.out w1).mono ?_
   rintro e w2 ⟨rfl,k2⟩
   have A2:=A1.keep k2
   have R2:=R1.keep k2
   have b2:=b1.trans (k2.mono b1.size)
   clear A1 R1 k2 b1
   have a1:=A2.c1
   go_wp2_with fail
   refine (HR.out w2 (HE.out.keep b2)).mono ?_
   rintro e w3 ⟨⟨v,rfl⟩,k3⟩
   have A3:=A2.keep k3
   have R3:=R2.keep k3
   have b3:=b2.trans (k3.mono b2.size)
   clear A2 R2 k3 b2 a1
   have hw3:=(HE.out.keep b3).hw
   unfold EV at hw3
   go_wp2_with fail
   refine (HW'.out w3 (HE.out.keep b3)).mono ?_
   rintro e w4 ⟨rfl,k4⟩
   have A4:=A3.keep k4
   have R4:=R3.keep k4
   have b4:=b3.trans (k4.mono b3.size)
   clear A3 R3 k4 b3 hw3
   have a0:=A4.c0
   have a1:=A4.c1'
   have a2:=A4.c2'
   go_wp2_with fail
   refine (HC'.out w4).mono ?_
   rintro e w5 ⟨rfl,k5⟩
   unfold LV
   have R5:=R4.keep k5
   have b5:=b4.trans (k5.mono b4.size)
   clear A4 R4 b4 k5 a0 a1 a2
   have r0:=R5.c0
   have r1:=R5.c1'
   have r2:=R5.c2'
   have f0:=R5.f 0
   have f1:=R5.f 1
   have f2:=R5.f 2
   go_wp2
   have A5:=R5.put (a':=.int .i64 r) (b':=.string (d.extract 0 P)) (c':=.int .i64 P)
   have b6:=put_below (g:=w.heap.size+1) (a:=.int .i64 r) (b:=.string (d.extract 0 P)) (c:=.int .i64 P) b5 (by omega)
   change bodyPost _ _ _ _ _ (lg.put w5 (w.heap.size+1) (.int .i64 r) (.string (d.extract 0 P)) (.int .i64 P))
   generalize lg.put _ _ _ _ _=W5 at A5 b6 ⊢
   have d0:=A5.c0
   have d1:=A5.c1
   have d2:=A5.c2
   exact bodyPost_ret (v:=.tuple #[.agg #[.int .i64 r,.string (d.extract 0 P),.int .i64 P],.int .i64 0]) (by simp [results,Tryz.results73,go_sem,d0,d1,d2]) rfl ⟨rfl,b6⟩
 ·have ho':ok r d.size s=false:=by simpa using ho
  rw [ho'] at HO
  rw [if_neg ho]
  have HO':Hid _:=HO
  clear HO ho ho'
  unfold RV LV
  go_enter Tryz.func73,Tryz.ntmps73
  go_wp2_with fail
  generalize (w.alloc (.cells #[.int .i64 r,.string d,.int .i64 s] 32)).alloc (.cells #[.int .i64 0,.string ⟨#[]⟩,.int .i64 0] 32)=w1 at A1 R1 b1 ⊢
  refine (HO'.out w1).mono ?_
  rintro e w3 ⟨rfl,k2⟩
  have R3:=R1.keep k2
  have b3:=b1.trans (k2.mono b1.size)
  clear A1 R1 k2 b1
  have r0:=R3.c0
  have r1:=R3.c1'
  have r2:=R3.c2'
  have f0:=R3.f 0
  have f1:=R3.f 1
  have f2:=R3.f 2
  go_wp2
  have A5:=R3.put (a':=.int .i64 0) (b':=.string ⟨#[]⟩) (c':=.int .i64 0)
  have b5:=put_below (g:=w.heap.size+1) (a:=.int .i64 0) (b:=.string ⟨#[]⟩) (c:=.int .i64 0) b3 (by omega)
  change bodyPost _ _ _ _ _ (lg.put w3 (w.heap.size+1) (.int .i64 0) (.string ⟨#[]⟩) (.int .i64 0))
  generalize lg.put _ _ _ _ _=W5 at A5 b5 ⊢
  have d0:=A5.c0
  have d1:=A5.c1
  have d2:=A5.c2
  exact bodyPost_ret (v:=.tuple #[.agg #[.int .i64 0,.string ⟨#[]⟩,.int .i64 0],.int .i64 1]) (by simp [results,Tryz.results73,go_sem,d0,d1,d2]) rfl ⟨rfl,b5⟩
set_option maxHeartbeats 1000000 in
set_option maxRecDepth 100000 in
theorem l08Repair_any (r:Int) (d:ByteArray) (s:Int) (w:World) (hd:d.size≤1048576) :
  Calls Tryz.prog 106 #[LV r d s] w fun e w'=>e=.returned (rep1 r d s)∧Below w.heap.size w w':=by
 obtain ⟨A1,R1,b1⟩:=two_new w 32 r d s
 obtain ⟨hple,_,hcd⟩:=recs_le d
 have HR:Hid (∀ W,Calls Tryz.prog 79 #[.string d] W fun e w'=>(∃ v,e=.returned (.tuple #[v,.int .i64 (recs d).2.1,.int .i64 (recs d).2.2]))∧Below W.heap.size W w'):=fun W=>(l08Records_any d W hd).mono fun e w' ⟨⟨v,h1,_⟩,h2⟩=>⟨⟨v,h1⟩,h2⟩
 unfold rep1 LV
 obtain ⟨⟨L,P,Q⟩,hRR⟩:∃ R,recs d=R:=⟨_,rfl⟩
 rw [hRR] at HR hple hcd ⊢
 clear hRR
 simp only at HR hple hcd ⊢
 by_cases hq:Q=8
 ·subst hq
  rw [if_pos rfl]
  clear hcd
  unfold RV LV
  go_enter Tryz.func106,Tryz.ntmps106
  go_wp2_with fail
  generalize (w.alloc (.cells #[.int .i64 r,.string d,.int .i64 s] 32)).alloc (.cells #[.int .i64 0,.string ⟨#[]⟩,.int .i64 0] 32)=w1 at A1 R1 b1 ⊢
  refine (HR.out w1).mono ?_
  rintro e w3 ⟨⟨v,rfl⟩,k2⟩
  have A3:=A1.keep k2
  have R3:=R1.keep k2
  have b3:=b1.trans (k2.mono b1.size)
  clear A1 R1 k2 b1
  have a0:=A3.c0
  have a1:=A3.c1'
  have a2:=A3.c2'
  have r0:=R3.c0
  have r1:=R3.c1'
  have r2:=R3.c2'
  have f0:=R3.f 0
  have f1:=R3.f 1
  have f2:=R3.f 2
  go_wp2
  have A5:=R3.put (a':=.int .i64 r) (b':=.string d) (c':=.int .i64 s)
  have b5:=put_below (g:=w.heap.size+1) (a:=.int .i64 r) (b:=.string d) (c:=.int .i64 s) b3 (by omega)
  change bodyPost _ _ _ _ _ (lg.put w3 (w.heap.size+1) (.int .i64 r) (.string d) (.int .i64 s))
  generalize lg.put _ _ _ _ _=W5 at A5 b5 ⊢
  have d0:=A5.c0
  have d1:=A5.c1
  have d2:=A5.c2
  exact bodyPost_ret (v:=.tuple #[.agg #[.int .i64 r,.string d,.int .i64 s],.int .i64 8]) (by simp [results,Tryz.results106,go_sem,d0,d1,d2]) rfl ⟨rfl,b5⟩
 ·rw [if_neg hq]
  have hq':((Q:Int) == 8)=false:=by simp; omega
  have hsz:(d.extract 0 P).size=P:=by rw [size_ex (by omega) hple]; omega
  have HS:=fun W=>l08Sync_any r (d.extract 0 P) s W
  rw [hsz] at HS
  have HS':Hid _:=HS
  clear HS hcd hsz
  unfold RV LV
  go_enter Tryz.func106,Tryz.ntmps106
  go_wp2_with fail
  generalize (w.alloc (.cells #[.int .i64 r,.string d,.int .i64 s] 32)).alloc (.cells #[.int .i64 0,.string ⟨#[]⟩,.int .i64 0] 32)=w1 at A1 R1 b1 ⊢
  refine (HR.out w1).mono ?_
  rintro e w3 ⟨⟨v,rfl⟩,k2⟩
  have A3:=A1.keep k2
  have R3:=R1.keep k2
  have b3:=b1.trans (k2.mono b1.size)
  clear A1 R1 k2 b1
  have A4:=A3.put1 (.string (d.extract 0 P))
  have R4:=R3.other (g':=w.heap.size) 1 (.string (d.extract 0 P)) (by omega)
  have b4:=b3.setCell (p:=⟨w.heap.size,1,none⟩) (Nat.le_refl _) (.string (d.extract 0 P))
  have a0:=A3.c0
  have a1:=A3.c1
  have a1':=A3.c1'
  have a2:=A3.c2
  have a2':=A3.c2'
  have g1:=A3.f 1
  go_wp2_with fail
  generalize w3.setCell ⟨w.heap.size,1,none⟩ (.string (d.extract 0 P))=w4 at A4 R4 b4 ⊢
  refine (HS'.out w4).mono ?_
  rintro e w5 ⟨rfl,k5⟩
  unfold LV
  have R5:=R4.keep k5
  have b5:=b4.trans (k5.mono b4.size)
  clear A3 R3 b3 A4 R4 b4 k5 a0 a1 a1' a2 a2' g1
  have r0:=R5.c0
  have r1:=R5.c1'
  have r2:=R5.c2'
  have f0:=R5.f 0
  have f1:=R5.f 1
  have f2:=R5.f 2
  go_wp2
  have A5:=R5.put (a':=.int .i64 r) (b':=.string (d.extract 0 P)) (c':=.int .i64 P)
  have b6:=put_below (g:=w.heap.size+1) (a:=.int .i64 r) (b:=.string (d.extract 0 P)) (c:=.int .i64 P) b5 (by omega)
  change bodyPost _ _ _ _ _ (lg.put w5 (w.heap.size+1) (.int .i64 r) (.string (d.extract 0 P)) (.int .i64 P))
  generalize lg.put _ _ _ _ _=W5 at A5 b6 ⊢
  have d0:=A5.c0
  have d1:=A5.c1
  have d2:=A5.c2
  exact bodyPost_ret (v:=.tuple #[.agg #[.int .i64 r,.string (d.extract 0 P),.int .i64 P],.int .i64 0]) (by simp [results,Tryz.results106,go_sem,d0,d1,d2]) rfl ⟨rfl,b6⟩
end Go.Proofs.YtnhcbiomkiljpaaGreatDoor.lg

namespace Go.Proofs.YtnhcbiomkiljpaaGreatDoor.eg
open Go.RowKit Go.WideShapes
open bx bl
open lg (LV RV fr recs left)
set_option linter.unusedVariables false
def Rv (r:Int) (F:ByteArray) (base:Nat) (e:Ending) (w':World):Prop:=∃ (L:Value) (ys:List Bx) (us:Nat→Value × Value) (n:Int),e=.returned (.tuple #[.agg #[.int .i64 r,.string F,.int .i64 ((F.size:Nat):Int),L],.int .i64 0])∧rp.RlIs r F ((F.size:Nat):Int) ys n 0∧OwnL w' base L ys us∧Smalls ys∧sok ys=true
theorem rec_lie (w:World) (r:Int) (D:ByteArray) (s:Int) :
  lg.B3 ((w.alloc (.cells #[.int .i64 r,.string D,.int .i64 s] 32)).alloc (.cells #[.int .i64 0,.string ⟨#[]⟩,.int .i64 0,.slice none 0 0] 35)) w.heap.size 32 (.int .i64 r) (.string D) (.int .i64 s)∧LiesE ((w.alloc (.cells #[.int .i64 r,.string D,.int .i64 s] 32)).alloc (.cells #[.int .i64 0,.string ⟨#[]⟩,.int .i64 0,.slice none 0 0] 35)) (w.heap.size+1) 35 0 ⟨#[]⟩ 0 (.slice none 0 0):=by
 refine ⟨(lg.b3_new w 32 _ _ _).keep (new_below _ _ _),?_⟩
 have:=liesE_new (w.alloc (.cells #[.int .i64 r,.string D,.int .i64 s] 32)) 35 0 ⟨#[]⟩ 0 (.slice none 0 0)
 rw [show (w.alloc (.cells #[.int .i64 r,.string D,.int .i64 s] 32)).heap.size=w.heap.size+1 by simp] at this
 exact this
theorem liesE_put3 {w:World} {g b:Nat} {T:TypeId} {r:Int} {d:ByteArray} {s:Int} {v x y z:Value} (h:LiesE w b T r d s v) (hn:b ≠ g):LiesE (((w.setCell ⟨g,0,none⟩ x).setCell ⟨g,1,none⟩ y).setCell ⟨g,2,none⟩ z) b T r d s v:=by
 unfold LiesE
 rw [heap_setCell_other _ _ _ _ hn,heap_setCell_other _ _ _ _ hn,heap_setCell_other _ _ _ _ hn]
 exact h
set_option maxHeartbeats 8000000 in
set_option maxRecDepth 100000 in
theorem recovered_any (r:Int) (d D:ByteArray) (s keep:Int) (w:World) (ec eb:Addr) (ca cb:Array Value) (ta tb:TypeId) (hr:lg.In r) (hs:lg.In s) (hk:lg.In keep) (hE:lg.Errs w ec eb ca cb ta tb) (hF:Fx r d s D keep) :
  Calls Tryz.prog 38 #[.agg #[.int .i64 r,.string D,.int .i64 s],.int .i64 keep] w fun e w'=>Rv r (fx D s keep) (w.heap.size+1+1) e w'∧Below w.heap.size w w':=by
 have hsz:=hF.size
 have hle:=(lg.left_le keep hF.ok).1
 have hNi:lg.In ((left D.size s keep:Nat):Int):=⟨by omega,by omega⟩
 have hFi:lg.In (((fx D s keep).size:Nat):Int):=by have:=of_decide_eq_true hF.good; exact ⟨by omega,by omega⟩
 have hFs:(fx D s keep).size≤60000:=by have:=of_decide_eq_true hF.good; omega
 have HCR:Hid (∀ x,Calls Tryz.prog 72 #[.agg #[.int .i64 r,.string D,.int .i64 s],.int .i64 keep] x fun e w'=>e=.returned (.tuple #[.agg #[.int .i64 r,.string (D.extract 0 (left D.size s keep)),.int .i64 ((left D.size s keep:Nat):Int)],.int .i64 0])∧Below x.heap.size x w'):=fun x =>
  (lg.impl_crash r D s keep x hr (by omega) hs hk).mono fun e w' ⟨he,hb⟩=>⟨by rw [he]; unfold lg.crash; rw [if_pos hF.ok]; rfl,hb⟩
 have HRE:Hid (∀ x,Below w.heap.size w x→Calls Tryz.prog 73 #[.agg #[.int .i64 r,.string (D.extract 0 (left D.size s keep)),.int .i64 ((left D.size s keep:Nat):Int)]] x fun e w'=>e=.returned (.tuple #[.agg #[.int .i64 r,.string (fx D s keep),.int .i64 (((fx D s keep).size:Nat):Int)],.int .i64 0])∧Below x.heap.size x w'):=fun x hx =>
  (lg.impl_repair r (D.extract 0 (left D.size s keep)) _ x ec eb ca cb ta tb hr (by rw [hF.cutn]; omega) hNi (hE.keep hx)).mono fun e w' ⟨he,hb⟩=>⟨by
   rw [he]
   unfold lg.repair lg.rep1
   rw [if_pos hF.cut,if_neg hF.code]
   show Ending.returned (RV r (fx D s keep) ((recs (D.extract 0 (left D.size s keep))).2.1:Nat) 0)=_
   rw [hF.len]
   rfl,hb⟩
 have HRL:Hid (∀ x,Below w.heap.size w x→w.heap.size+1+1≤x.heap.size→Calls Tryz.prog 74 #[.agg #[.int .i64 r,.string (fx D s keep),.int .i64 (((fx D s keep).size:Nat):Int)]] x fun e w'=>(∃ La Ln Lc ys us n,e=.returned (.tuple #[.slice La Ln Lc,.int .i64 n,.int .i64 0])∧Hid (rp.RlIs r (fx D s keep) (((fx D s keep).size:Nat):Int) ys n 0∧OwnL w' (w.heap.size+1+1) (.slice La Ln Lc) ys us∧Smalls ys∧sok ys=true))∧Below x.heap.size x w'):=fun x hx hl =>
  (rp.implRl_any r (fx D s keep) _ x ec eb ca cb ta tb hr (by omega) hFi (hE.keep hx)).mono fun e w' ⟨⟨L,ys,us,n,c,he,hR,hO,h1,h2⟩,hb⟩=>by
   obtain rfl:=hF.say ys n c hR
   obtain ⟨La,Ln,Lc,rfl⟩:=slice_fine (own_fine hO.1)
   exact ⟨⟨La,Ln,Lc,ys,us,n,he,hR,sa.ownL_le hO hl,h1,h2⟩,hb⟩
 obtain ⟨k0,k1⟩:=rec_lie w r D s
 have b2:Below w.heap.size w ((w.alloc (.cells #[.int .i64 r,.string D,.int .i64 s] 32)).alloc (.cells #[.int .i64 0,.string ⟨#[]⟩,.int .i64 0,.slice none 0 0] 35)):=(new_below w _ _).alloc (by simp) _
 have sz:((w.alloc (.cells #[.int .i64 r,.string D,.int .i64 s] 32)).alloc (.cells #[.int .i64 0,.string ⟨#[]⟩,.int .i64 0,.slice none 0 0] 35)).heap.size=w.heap.size+1+1:=by simp
 clear hsz hle hNi hFi hFs hF hr hs hk hE
 generalize hKK:((left D.size s keep:Nat):Int)=K at HCR HRE
 generalize hCC:D.extract 0 (left D.size s keep)=C at HCR HRE
 clear hKK hCC
 generalize hFF:fx D s keep=F at HRE HRL ⊢
 clear hFF
 generalize hNN:((F.size:Nat):Int)=N at HRE HRL
 have HNN:Hid (((F.size:Nat):Int)=N):=hNN
 clear hNN
 have c0:=k0.c0
 have c1:=k0.c1'
 have c2:=k0.c2'
 go_enter Tryz.func38,Tryz.ntmps38
 go_wp2_with fail
 generalize World.alloc _ _=W at k0 k1 b2 sz c0 c1 c2 ⊢
 refine (HCR.out W).mono ?_
 rintro e x1 ⟨rfl,hb1⟩
 have m0:=k0.keep hb1
 have m1:=k1.keep hb1
 have bx1:=b2.trans (hb1.mono b2.size)
 have sx1:w.heap.size+1+1≤x1.heap.size:=by rw [← sz]; exact hb1.size
 clear c0 c1 c2 k0 k1 b2 sz hb1 HCR
 have c0:=m0.c0
 have c1:=m0.c1
 have c2:=m0.c2
 have f0:=m0.f 0
 have f1:=m0.f 1
 have f2:=m0.f 2
 have P0:lg.B3 (((x1.setCell ⟨w.heap.size,0,none⟩ (.int .i64 r)).setCell ⟨w.heap.size,1,none⟩ (.string C)).setCell ⟨w.heap.size,2,none⟩ (.int .i64 K)) w.heap.size 32 (.int .i64 r) (.string C) (.int .i64 K):=m0.put
 have P1:=liesE_put3 (x:=.int .i64 r) (y:=.string C) (z:=.int .i64 K) m1 (show w.heap.size+1 ≠ w.heap.size by omega)
 have P2:Below w.heap.size w (((x1.setCell ⟨w.heap.size,0,none⟩ (.int .i64 r)).setCell ⟨w.heap.size,1,none⟩ (.string C)).setCell ⟨w.heap.size,2,none⟩ (.int .i64 K)):=lg.put_below bx1 (Nat.le_refl _)
 have P3:w.heap.size+1+1≤(((x1.setCell ⟨w.heap.size,0,none⟩ (.int .i64 r)).setCell ⟨w.heap.size,1,none⟩ (.string C)).setCell ⟨w.heap.size,2,none⟩ (.int .i64 K)).heap.size:=by simpa using sx1
 clear m0 m1 bx1 sx1
 go_wp2_with fail
 generalize World.setCell _ _ _=x2 at P0 P1 P2 P3 ⊢
 refine (HRE.out x2 P2).mono ?_
 rintro e x3 ⟨rfl,hb3⟩
 have m0:=P0.keep hb3
 have m1:=P1.keep hb3
 have bx3:=P2.trans (hb3.mono P2.size)
 have sx3:w.heap.size+1+1≤x3.heap.size:=Nat.le_trans P3 hb3.size
 clear c0 c1 c2 f0 f1 f2 P0 P1 P2 P3 hb3 HRE
 have c0:=m0.c0
 have c1:=m0.c1
 have c2:=m0.c2
 have f0:=m0.f 0
 have f1:=m0.f 1
 have f2:=m0.f 2
 have P0:lg.B3 (((x3.setCell ⟨w.heap.size,0,none⟩ (.int .i64 r)).setCell ⟨w.heap.size,1,none⟩ (.string F)).setCell ⟨w.heap.size,2,none⟩ (.int .i64 N)) w.heap.size 32 (.int .i64 r) (.string F) (.int .i64 N):=m0.put
 have P1:=liesE_put3 (x:=.int .i64 r) (y:=.string F) (z:=.int .i64 N) m1 (show w.heap.size+1 ≠ w.heap.size by omega)
 have P2:Below w.heap.size w (((x3.setCell ⟨w.heap.size,0,none⟩ (.int .i64 r)).setCell ⟨w.heap.size,1,none⟩ (.string F)).setCell ⟨w.heap.size,2,none⟩ (.int .i64 N)):=lg.put_below bx3 (Nat.le_refl _)
 have P3:w.heap.size+1+1≤(((x3.setCell ⟨w.heap.size,0,none⟩ (.int .i64 r)).setCell ⟨w.heap.size,1,none⟩ (.string F)).setCell ⟨w.heap.size,2,none⟩ (.int .i64 N)).heap.size:=by simpa using sx3
 clear m0 m1 bx3 sx3
 go_wp2_with fail
 generalize World.setCell _ _ _=x4 at P0 P1 P2 P3 ⊢
 refine (HRL.out x4 P2 P3).mono ?_
 rintro e x5 ⟨⟨La,Ln,Lc,ys,us,n,rfl,HR⟩,hb5⟩
 have m0:=P0.keep hb5
 have m1:=P1.keep hb5
 have bx5:=P2.trans (hb5.mono P2.size)
 have HM1:Hid (LiesE x5 (w.heap.size+1) 35 0 ⟨#[]⟩ 0 (.slice none 0 0)):=m1
 have HB5:Hid (Below w.heap.size w x5):=bx5
 clear c0 c1 c2 f0 f1 f2 P0 P1 P2 P3 hb5 HRL bx5
 have c0:=m0.c0
 have c1:=m0.c1'
 have c2:=m0.c2'
 have e0:=m1.c0
 have e1:=m1.c1
 have e2:=m1.c2
 have e3:=m1.c3
 have g0:=m1.f 0
 have g1:=m1.f 1
 have g2:=m1.f 2
 have g3:=m1.f 3
 clear m0 m1
 go_wp2
 change bodyPost _ _ _ _ _ (put4 x5 (w.heap.size+1) (.int .i64 r) (.string F) (.int .i64 N) (.slice La Ln Lc))
 have A5:=HM1.out.put (r':=r) (d':=F) (s':=N) (v':=.slice La Ln Lc)
 have b5:=put4_below (a:=.int .i64 r) (b:=.string F) (c:=.int .i64 N) (d:=.slice La Ln Lc) HB5.out (show w.heap.size≤w.heap.size+1 by omega)
 have O5:=ownL_hi (w':=put4 x5 (w.heap.size+1) (.int .i64 r) (.string F) (.int .i64 N) (.slice La Ln Lc)) HR.out.2.1 (fun q hq=>put4_other _ _ _ _ _ _ _ (by omega))
 generalize put4 _ _ _ _ _ _=W5 at A5 b5 O5 ⊢
 have x0:W5.cell? ⟨w.heap.size+1,0,none⟩=some (.int .i64 r):=A5.c0
 have x1:W5.cell? ⟨w.heap.size+1,1,none⟩=some (.string F):=A5.c1
 have x2:W5.cell? ⟨w.heap.size+1,2,none⟩=some (.int .i64 N):=A5.c2
 have x3:W5.cell? ⟨w.heap.size+1,3,none⟩=some (.slice La Ln Lc):=A5.c3
 exact bodyPost_ret (v:=.tuple #[.agg #[.int .i64 r,.string F,.int .i64 N,.slice La Ln Lc],.int .i64 0]) (by simp [results,Tryz.results38,go_sem,x0,x1,x2,x3]) rfl ⟨⟨_,ys,us,n,by rw [HNN.out],by rw [HNN.out]; exact HR.out.1,O5,HR.out.2.2.1,HR.out.2.2.2⟩,b5⟩
end Go.Proofs.YtnhcbiomkiljpaaGreatDoor.eg

namespace Go.Proofs.YtnhcbiomkiljpaaGreatDoor.eg
open Go.RowKit Go.WideShapes
open bx bl
open lg (LV RV fr recs left)
set_option linter.unusedVariables false
def CcRet (r:Int) (d:ByteArray) (s:Int) (bs:List Bx) (M:mu.Mu) (keep:Int) (base:Nat) (e:Ending) (w':World):Prop:=∃ (r':Int) (d':ByteArray) (s':Int) (L:Value) (ys:List Bx) (us:Nat→Value × Value) (c:Int),e=.returned (.tuple #[.agg #[.int .i64 r',.string d',.int .i64 s',L],.int .i64 c])∧Cc r d s bs M keep r' d' s' ys c∧OwnL w' base L ys us∧Smalls ys∧sok ys=true
set_option maxHeartbeats 8000000 in
set_option maxRecDepth 100000 in
theorem implCc_any (r:Int) (d:ByteArray) (s:Int) (v:Value) (bs:List Bx) (vs:Nat→Value × Value) (M:mu.Mu) (iv:Value) (keep:Int) (w:World) (ec eb:Addr) (ca cb:Array Value) (ta tb:TypeId) (hr:lg.In r) (hd:d.size≤1048576) (hs:lg.In s) (hE:lg.Errs w ec eb ca cb ta tb) (hB:BoxesAt w v bs vs) (hv:Fine v) (hf:Fines bs vs) (hsm:Smalls bs) (hI:it.AttrsAt w iv M.ps) (hM:mu.Small M) (hkp:lg.In keep) :
  Calls Tryz.prog 17 #[EV r d s v,mu.MV M iv,.int .i64 keep] w fun e w'=>CcRet r d s bs M keep w.heap.size e w'∧Below w.heap.size w w':=by
 have HEN:Hid (∀ W,Below w.heap.size w W→Calls Tryz.prog 27 #[EV r d s v] W fun e w'=>Er r d s bs e∧Below W.heap.size W w'):=fun W hW=>implEk_any r d s v bs vs W ec eb ca cb ta tb hr hd hs (hE.keep hW) (boxes_below hB hW) hsm
 have HMO:Hid (∀ W,Below w.heap.size w W→Calls Tryz.prog 28 #[mu.MV M iv] W fun e w'=>e=.returned (.bool (mu.mok M))∧Below W.heap.size W w'):=fun W hW=>mu.impl_mok M iv W (it.at_below hI hW) hM
 have HCO:Hid (∀ W,Below w.heap.size w W→Cn r d s bs→mu.mok M=true→Calls Tryz.prog 37 #[EV r d s v,mu.MV M iv] W fun e w'=>Wr r d s bs M (W.heap.size+1+1+1+1) e w'∧Below W.heap.size W w'):=fun W hW hC hm=>written_any r d s v bs vs M iv W hr hd hs (boxes_below hB hW) hv hf hsm (cn_sok hC) hC.1 (it.at_below hI hW) hM hm
 have HRC:Hid (∀ W D,Below w.heap.size w W→Cn r d s bs→mu.mok M=true→Wd r d bs M D→Calls Tryz.prog 38 #[.agg #[.int .i64 r,.string D,.int .i64 s],.int .i64 keep] W fun e w'=>Rv r (fx D s keep) (W.heap.size+1+1) e w'∧Below W.heap.size W w'):=fun W D hW hC hm hD=>recovered_any r d D s keep W ec eb ca cb ta tb hr hs hkp (hE.keep hW) (fx_of keep hC hm hD)
 obtain ⟨⟨a,cap,rfl,_⟩,_⟩:=hB
 obtain ⟨ia,ic,rfl,_⟩:=hI
 obtain ⟨k0,k1⟩:=two_lie w r d s (.slice a bs.length cap) M (.slice ia M.ps.length ic)
 have k2:=three_lie w r d s (.slice a bs.length cap) M (.slice ia M.ps.length ic)
 have k0:=k0.keep (new_below _ 35 #[.int .i64 0,.string ⟨#[]⟩,.int .i64 0,.slice none 0 0])
 have k1:LiesM (((w.alloc (.cells #[.int .i64 r,.string d,.int .i64 s,.slice a bs.length cap] 35)).alloc (.cells #[.int .i64 M.k,.int .i64 M.u,.int .i64 M.m,.int .i64 M.f,.string M.b,.slice ia M.ps.length ic] 41)).alloc (.cells #[.int .i64 0,.string ⟨#[]⟩,.int .i64 0,.slice none 0 0] 35)) (w.heap.size+1) M (.slice ia M.ps.length ic):=mu.Lies.keep k1 (new_below _ 35 #[.int .i64 0,.string ⟨#[]⟩,.int .i64 0,.slice none 0 0])
 have b2:Below w.heap.size w (((w.alloc (.cells #[.int .i64 r,.string d,.int .i64 s,.slice a bs.length cap] 35)).alloc (.cells #[.int .i64 M.k,.int .i64 M.u,.int .i64 M.m,.int .i64 M.f,.string M.b,.slice ia M.ps.length ic] 41)).alloc (.cells #[.int .i64 0,.string ⟨#[]⟩,.int .i64 0,.slice none 0 0] 35)):=((new_below w _ _).alloc (by simp) _).alloc (by simp; omega) _
 have sz:(((w.alloc (.cells #[.int .i64 r,.string d,.int .i64 s,.slice a bs.length cap] 35)).alloc (.cells #[.int .i64 M.k,.int .i64 M.u,.int .i64 M.m,.int .i64 M.f,.string M.b,.slice ia M.ps.length ic] 41)).alloc (.cells #[.int .i64 0,.string ⟨#[]⟩,.int .i64 0,.slice none 0 0] 35)).heap.size=w.heap.size+1+1+1:=by simp
 clear hr hd hs hv hf hsm hM hE hkp
 unfold EV mu.MV at *
 have c0:=k0.c0
 have c1:=k0.c1
 have c2:=k0.c2
 have c3:=k0.c3
 have d0:=mu.Lies.c0 k1
 have d1:=mu.Lies.c1 k1
 have d2:=mu.Lies.c2 k1
 have d3:=mu.Lies.c3 k1
 have d4:=mu.Lies.c4 k1
 have d5:=mu.Lies.c5 k1
 go_enter Tryz.func17,Tryz.ntmps17
 go_wp2_with fail
 generalize World.alloc _ _=W at k0 k1 k2 b2 sz c0 c1 c2 c3 d0 d1 d2 d3 d4 d5 ⊢
 refine (HEN.out W b2).mono ?_
 rintro e w1 ⟨⟨o,rfl,hEk⟩,hb1⟩
 have HE:Hid (Ek r d s bs o):=hEk
 have b3:=b2.trans (hb1.mono b2.size)
 have k0:=k0.keep hb1
 have k1:LiesM w1 (w.heap.size+1) M (.slice ia M.ps.length ic):=mu.Lies.keep k1 hb1
 have k2:=k2.keep hb1
 clear c0 c1 c2 c3 d0 d1 d2 d3 d4 d5 b2 hb1 hEk HEN sz
 cases o with
 | false =>
  have HX:Hid (Cc r d s bs M keep 0 ⟨#[]⟩ 0 [] 1):=.inl ⟨fun h=>absurd (HE.out.2 h.1) (by decide),rfl,rfl,rfl,rfl,rfl⟩
  have HZ:Hid (LiesE w1 (w.heap.size+1+1) 35 0 ⟨#[]⟩ 0 (.slice none 0 0)):=k2
  have e0:=k2.c0
  have e1:=k2.c1
  have e2:=k2.c2
  have e3:=k2.c3
  have g0:=k2.f 0
  have g1:=k2.f 1
  have g2:=k2.f 2
  have g3:=k2.f 3
  go_wp2
  change bodyPost _ _ _ _ _ (put4 (w1) (w.heap.size+1+1) (.int .i64 0) (.string ⟨#[]⟩) (.int .i64 (0)) (.slice none 0 0))
  have A5:=(HZ.out).put (r':=0) (d':=⟨#[]⟩) (s':=0) (v':=.slice none 0 0)
  have b5:=put4_below (a:=.int .i64 0) (b:=.string ⟨#[]⟩) (c:=.int .i64 (0)) (d:=.slice none 0 0) (b3) (show w.heap.size≤w.heap.size+1+1 by omega)
  have O5:=(rp.ownL_nil _ _ _:OwnL (put4 (w1) (w.heap.size+1+1) (.int .i64 0) (.string ⟨#[]⟩) (.int .i64 (0)) (.slice none 0 0)) w.heap.size (.slice none 0 0) [] rp.nv)
  generalize put4 _ _ _ _ _ _=W5 at A5 b5 O5 ⊢
  have x0:W5.cell? ⟨w.heap.size+1+1,0,none⟩=some (.int .i64 0):=A5.c0
  have x1:W5.cell? ⟨w.heap.size+1+1,1,none⟩=some (.string ⟨#[]⟩):=A5.c1
  have x2:W5.cell? ⟨w.heap.size+1+1,2,none⟩=some (.int .i64 (0)):=A5.c2
  have x3:W5.cell? ⟨w.heap.size+1+1,3,none⟩=some (.slice none 0 0):=A5.c3
  exact bodyPost_ret (v:=.tuple #[.agg #[.int .i64 0,.string ⟨#[]⟩,.int .i64 (0),.slice none 0 0],.int .i64 1]) (by simp [results,Tryz.results17,go_sem,x0,x1,x2,x3]) rfl ⟨⟨_,_,_,_,_,rp.nv,_,rfl,HX.out,O5,rp.smalls_nil,rp.sok_nil⟩,b5⟩
 | true =>
  have c0:=k0.c0
  have c1:=k0.c1
  have c2:=k0.c2
  have c3:=k0.c3
  have d0:=mu.Lies.c0 k1
  have d1:=mu.Lies.c1 k1
  have d2:=mu.Lies.c2 k1
  have d3:=mu.Lies.c3 k1
  have d4:=mu.Lies.c4 k1
  have d5:=mu.Lies.c5 k1
  go_wp2_with fail
  refine (HMO.out w1 b3).mono ?_
  rintro e w2 ⟨rfl,hb2⟩
  have b4:=b3.trans (hb2.mono b3.size)
  have k0:=k0.keep hb2
  have k1:LiesM w2 (w.heap.size+1) M (.slice ia M.ps.length ic):=mu.Lies.keep k1 hb2
  have k2:=k2.keep hb2
  clear c0 c1 c2 c3 d0 d1 d2 d3 d4 d5 b3 hb2 HMO
  have HZ:Hid (LiesE w2 (w.heap.size+1+1) 35 0 ⟨#[]⟩ 0 (.slice none 0 0)):=k2
  cases hmo:mu.mok M with
  | false =>
   have HX:Hid (Cc r d s bs M keep 0 ⟨#[]⟩ 0 [] 1):=.inl ⟨fun h=>by rw [hmo] at h; exact absurd h.2 (by decide),rfl,rfl,rfl,rfl,rfl⟩
   clear hmo HCO
   have e0:=k2.c0
   have e1:=k2.c1
   have e2:=k2.c2
   have e3:=k2.c3
   have g0:=k2.f 0
   have g1:=k2.f 1
   have g2:=k2.f 2
   have g3:=k2.f 3
   go_wp2
   change bodyPost _ _ _ _ _ (put4 (w2) (w.heap.size+1+1) (.int .i64 0) (.string ⟨#[]⟩) (.int .i64 (0)) (.slice none 0 0))
   have A5:=(HZ.out).put (r':=0) (d':=⟨#[]⟩) (s':=0) (v':=.slice none 0 0)
   have b5:=put4_below (a:=.int .i64 0) (b:=.string ⟨#[]⟩) (c:=.int .i64 (0)) (d:=.slice none 0 0) (b4) (show w.heap.size≤w.heap.size+1+1 by omega)
   have O5:=(rp.ownL_nil _ _ _:OwnL (put4 (w2) (w.heap.size+1+1) (.int .i64 0) (.string ⟨#[]⟩) (.int .i64 (0)) (.slice none 0 0)) w.heap.size (.slice none 0 0) [] rp.nv)
   generalize put4 _ _ _ _ _ _=W5 at A5 b5 O5 ⊢
   have x0:W5.cell? ⟨w.heap.size+1+1,0,none⟩=some (.int .i64 0):=A5.c0
   have x1:W5.cell? ⟨w.heap.size+1+1,1,none⟩=some (.string ⟨#[]⟩):=A5.c1
   have x2:W5.cell? ⟨w.heap.size+1+1,2,none⟩=some (.int .i64 (0)):=A5.c2
   have x3:W5.cell? ⟨w.heap.size+1+1,3,none⟩=some (.slice none 0 0):=A5.c3
   exact bodyPost_ret (v:=.tuple #[.agg #[.int .i64 0,.string ⟨#[]⟩,.int .i64 (0),.slice none 0 0],.int .i64 1]) (by simp [results,Tryz.results17,go_sem,x0,x1,x2,x3]) rfl ⟨⟨_,_,_,_,_,rp.nv,_,rfl,HX.out,O5,rp.smalls_nil,rp.sok_nil⟩,b5⟩
  | true =>
   have HCN:Hid (Cn r d s bs∧mu.mok M=true):=⟨HE.out.1 rfl,hmo⟩
   have HC2:Hid (Calls Tryz.prog 37 #[.agg #[.int .i64 r,.string d,.int .i64 s,.slice a bs.length cap],.agg #[.int .i64 M.k,.int .i64 M.u,.int .i64 M.m,.int .i64 M.f,.string M.b,.slice ia M.ps.length ic]] w2 fun e w'=>Wr r d s bs M (w2.heap.size+1+1+1+1) e w'∧Below w2.heap.size w2 w'):=HCO.out w2 b4 HCN.out.1 hmo
   clear hmo HCO
   have c0:=k0.c0
   have c1:=k0.c1
   have c2:=k0.c2
   have c3:=k0.c3
   have d0:=mu.Lies.c0 k1
   have d1:=mu.Lies.c1 k1
   have d2:=mu.Lies.c2 k1
   have d3:=mu.Lies.c3 k1
   have d4:=mu.Lies.c4 k1
   have d5:=mu.Lies.c5 k1
   clear k0 k1
   go_wp2_with fail
   refine HC2.out.mono ?_
   rintro e w3 ⟨⟨D,L,ys,us,c,rfl,⟨zs,k,hA,hX⟩,hO⟩,hb3⟩
   obtain ⟨La,Ln,Lc,rfl⟩:=slice_fine (own_fine hO.1)
   have HD:Hid (Wd r d bs M D):=wd_of hA hX
   have N1:=liesE_new w3 35 r D s (.slice La Ln Lc)
   have nb:=new_below w3 35 #[.int .i64 r,.string D,.int .i64 s,.slice La Ln Lc]
   have hl2:=k2.lt
   have k3:=(k2.keep hb3).keep nb
   have hb4:=hb3.trans (nb.mono hb3.size)
   have hs4:=hb4.size
   have HB4:Hid (Below w.heap.size w (w3.alloc (.cells #[.int .i64 r,.string D,.int .i64 s,.slice La Ln Lc] 35))):=b4.trans (hb4.mono b4.size)
   have HRV:Hid (Calls Tryz.prog 38 #[.agg #[.int .i64 r,.string D,.int .i64 s],.int .i64 keep] (w3.alloc (.cells #[.int .i64 r,.string D,.int .i64 s,.slice La Ln Lc] 35)) fun e w'=>Rv r (fx D s keep) ((w3.alloc (.cells #[.int .i64 r,.string D,.int .i64 s,.slice La Ln Lc] 35)).heap.size+1+1) e w'∧Below (w3.alloc (.cells #[.int .i64 r,.string D,.int .i64 s,.slice La Ln Lc] 35)).heap.size (w3.alloc (.cells #[.int .i64 r,.string D,.int .i64 s,.slice La Ln Lc] 35)) w'):=HRC.out _ D HB4.out HCN.out.1 HCN.out.2 HD.out
   clear c0 c1 c2 c3 d0 d1 d2 d3 d4 d5 hX hA hO k2 hb3 hb4 HZ HC2 HRC nb
   have n0:=N1.c0
   have n1:=N1.c1
   have n2:=N1.c2
   clear N1
   go_wp2_with fail
   generalize w3.alloc _=w4 at HRV k3 HB4 n0 n1 n2 hs4 ⊢
   refine HRV.out.mono ?_
   rintro e w5 ⟨⟨L',ys',us',n,rfl,hRl,hO',hS1,hS2⟩,hb5⟩
   obtain ⟨La',Ln',Lc',rfl⟩:=slice_fine (own_fine hO'.1)
   have HX:Hid (Cc r d s bs M keep r (fx D s keep) (((fx D s keep).size:Nat):Int) ys' 0∧Smalls ys'∧sok ys'=true):=⟨.inr ⟨HCN.out.1,HCN.out.2,D,HD.out,rfl,rfl,rfl,rfl,n,hRl⟩,hS1,hS2⟩
   generalize fx D s keep=F at HX ⊢
   generalize ((F.size:Nat):Int)=N' at HX ⊢
   have HO5:Hid (OwnL w5 (w.heap.size+1+1+1) (.slice La' Ln' Lc') ys' us'):=sa.ownL_le hO' (by omega)
   have k5:=k3.keep hb5
   have HZ5:Hid (LiesE w5 (w.heap.size+1+1) 35 0 ⟨#[]⟩ 0 (.slice none 0 0)):=k5
   have HB5:Hid (Below w.heap.size w w5):=HB4.out.trans (hb5.mono HB4.out.size)
   clear hO' hb5 k3 n0 n1 n2 HRV hRl hS1 hS2
   have e0:=k5.c0
   have e1:=k5.c1
   have e2:=k5.c2
   have e3:=k5.c3
   have g0:=k5.f 0
   have g1:=k5.f 1
   have g2:=k5.f 2
   have g3:=k5.f 3
   go_wp2
   change bodyPost _ _ _ _ _ (put4 w5 (w.heap.size+1+1) (.int .i64 r) (.string F) (.int .i64 N') (.slice La' Ln' Lc'))
   have A5:=(HZ5.out).put (r':=r) (d':=F) (s':=N') (v':=.slice La' Ln' Lc')
   have b5:=put4_below (a:=.int .i64 r) (b:=.string F) (c:=.int .i64 N') (d:=.slice La' Ln' Lc') (HB5.out) (show w.heap.size≤w.heap.size+1+1 by omega)
   have O5:=ownL_hi (w':=put4 w5 (w.heap.size+1+1) (.int .i64 r) (.string F) (.int .i64 N') (.slice La' Ln' Lc')) (HO5.out) (fun q hq=>put4_other _ _ _ _ _ _ _ (by omega))
   generalize put4 _ _ _ _ _ _=W5 at A5 b5 O5 ⊢
   have x0:W5.cell? ⟨w.heap.size+1+1,0,none⟩=some (.int .i64 r):=A5.c0
   have x1:W5.cell? ⟨w.heap.size+1+1,1,none⟩=some (.string F):=A5.c1
   have x2:W5.cell? ⟨w.heap.size+1+1,2,none⟩=some (.int .i64 N'):=A5.c2
   have x3:W5.cell? ⟨w.heap.size+1+1,3,none⟩=some (.slice La' Ln' Lc'):=A5.c3
   exact bodyPost_ret (v:=.tuple #[.agg #[.int .i64 r,.string F,.int .i64 N',.slice La' Ln' Lc'],.int .i64 0]) (by simp [results,Tryz.results17,go_sem,x0,x1,x2,x3]) rfl ⟨⟨_,_,_,_,_,us',_,rfl,HX.out.1,sa.ownL_le O5 (by omega),HX.out.2.1,HX.out.2.2⟩,b5⟩
end Go.Proofs.YtnhcbiomkiljpaaGreatDoor.eg

namespace Go.Proofs.YtnhcbiomkiljpaaGreatDoor.eg
open Go.RowKit Go.WideShapes
open bx bl
open lg (LV RV fr recs left)
set_option linter.unusedVariables false
def Lc (r:Int) (d:ByteArray) (s:Int) (bs:List Bx) (M:mu.Mu) (keep:Int) (e:Ending) (w':World):Prop:=∃ (r':Int) (d':ByteArray) (s':Int) (L:Value) (ys:List Bx) (us:Nat→Value × Value) (c:Int),e=.returned (.tuple #[.agg #[.int .i64 r',.string d',.int .i64 s',L],.int .i64 c])∧Cd r d s bs M keep r' d' s' ys c∧BoxesAt w' L ys us∧Fines ys us∧Smalls ys∧sok ys=true
def Rt (r:Int) (F:ByteArray) (e:Ending) (w':World):Prop:=∃ (L:Value) (ys:List Bx) (us:Nat→Value × Value),e=.returned (.tuple #[.agg #[.int .i64 r,.string F,.int .i64 ((F.size:Nat):Int),L],.int .i64 0])∧Rl r F ys∧BoxesAt w' L ys us∧Fines ys us∧Smalls ys∧sok ys=true
set_option maxHeartbeats 8000000 in
set_option maxRecDepth 100000 in
theorem restart_any (r:Int) (d D:ByteArray) (s keep:Int) (w:World) (hF:Fx r d s D keep) :
  Calls Tryz.prog 65 #[.agg #[.int .i64 r,.string (D.extract 0 (left D.size s keep)),.int .i64 ((left D.size s keep:Nat):Int)]] w fun e w'=>Rt r (fx D s keep) e w'∧Below w.heap.size w w':=by
 have hsz:=hF.size
 have hle:=(lg.left_le keep hF.ok).1
 have hFs:(fx D s keep).size≤60000:=by have:=of_decide_eq_true hF.good; omega
 have HRE:Hid (∀ x,Calls Tryz.prog 106 #[.agg #[.int .i64 r,.string (D.extract 0 (left D.size s keep)),.int .i64 ((left D.size s keep:Nat):Int)]] x fun e w'=>e=.returned (.tuple #[.agg #[.int .i64 r,.string (fx D s keep),.int .i64 (((fx D s keep).size:Nat):Int)],.int .i64 0])∧Below x.heap.size x w'):=fun x =>
  (lg.l08Repair_any r (D.extract 0 (left D.size s keep)) _ x (by rw [hF.cutn]; omega)).mono fun e w' ⟨he,hb⟩=>⟨by
   rw [he]
   unfold lg.rep1
   rw [if_neg hF.code]
   show Ending.returned (RV r (fx D s keep) ((recs (D.extract 0 (left D.size s keep))).2.1:Nat) 0)=_
   rw [hF.len]
   rfl,hb⟩
 have HRL:Hid (∀ x,Calls Tryz.prog 80 #[.string (fx D s keep)] x fun e w'=>(∃ La Ln Lc ys us n,e=.returned (.tuple #[.slice La Ln Lc,.int .i64 n,.int .i64 0])∧Hid (Rl r (fx D s keep) ys∧BoxesAt w' (.slice La Ln Lc) ys us∧Fines ys us∧Smalls ys∧sok ys=true))∧Below x.heap.size x w'):=fun x =>
  (rp.specRp_any (fx D s keep) x (by omega)).mono fun e w' ⟨⟨L,ys,us,n,c,he,hR,hB,hf,h1,h2⟩,hb⟩=>by
   have hRl:rp.RlIs r (fx D s keep) (((fx D s keep).size:Nat):Int) ys n c:=.inr ⟨hF.good,hR⟩
   obtain rfl:=hF.say ys n c hRl
   have hB':=hB
   obtain ⟨⟨La,Lc,rfl,_⟩,_⟩:=hB
   exact ⟨⟨La,_,Lc,ys,us,n,he,⟨n,hRl⟩,hB',hf,h1,h2⟩,hb⟩
 clear hsz hle hFs hF
 generalize hKK:((left D.size s keep:Nat):Int)=K at HRE ⊢
 generalize hCC:D.extract 0 (left D.size s keep)=C at HRE ⊢
 clear hKK hCC
 generalize hFF:fx D s keep=F at HRE HRL ⊢
 clear hFF
 obtain ⟨k0,k1⟩:=rec_lie w r C K
 have b2:Below w.heap.size w ((w.alloc (.cells #[.int .i64 r,.string C,.int .i64 K] 32)).alloc (.cells #[.int .i64 0,.string ⟨#[]⟩,.int .i64 0,.slice none 0 0] 35)):=(new_below w _ _).alloc (by simp) _
 unfold Rt
 generalize hNN:((F.size:Nat):Int)=N at HRE ⊢
 clear hNN
 have c0:=k0.c0
 have c1:=k0.c1'
 have c2:=k0.c2'
 go_enter Tryz.func65,Tryz.ntmps65
 go_wp2_with fail
 generalize World.alloc _ _=W at k0 k1 b2 c0 c1 c2 ⊢
 refine (HRE.out W).mono ?_
 rintro e x1 ⟨rfl,hb1⟩
 have N1:=lg.lies_new x1 32 r F N
 have nb:=new_below x1 32 #[.int .i64 r,.string F,.int .i64 N]
 have hb2:=hb1.trans (nb.mono hb1.size)
 have m1:=k1.keep hb2
 have bx1:=b2.trans (hb2.mono b2.size)
 clear c0 c1 c2 k0 k1 b2 hb1 hb2 nb HRE
 have n1:=N1.c1
 go_wp2_with fail
 generalize x1.alloc _=x2 at N1 m1 bx1 n1 ⊢
 generalize x1.heap.size=G at N1 n1 ⊢
 refine (HRL.out x2).mono ?_
 rintro e x3 ⟨⟨La,Ln,Lc,ys,us,n,rfl,HR⟩,hb3⟩
 have N3:=N1.keep hb3
 have m3:=m1.keep hb3
 have HB3:Hid (Below w.heap.size w x3):=bx1.trans (hb3.mono bx1.size)
 have HM3:Hid (LiesE x3 (w.heap.size+1) 35 0 ⟨#[]⟩ 0 (.slice none 0 0)):=m3
 clear n1 N1 m1 bx1 hb3 HRL
 have c0:=N3.c0
 have c1:=N3.c1
 have c2:=N3.c2
 have e0:=m3.c0
 have e1:=m3.c1
 have e2:=m3.c2
 have e3:=m3.c3
 have g0:=m3.f 0
 have g1:=m3.f 1
 have g2:=m3.f 2
 have g3:=m3.f 3
 clear N3 m3
 go_wp2
 change bodyPost _ _ _ _ _ (put4 x3 (w.heap.size+1) (.int .i64 r) (.string F) (.int .i64 N) (.slice La Ln Lc))
 have A5:=HM3.out.put (r':=r) (d':=F) (s':=N) (v':=.slice La Ln Lc)
 have b5:=put4_below (a:=.int .i64 r) (b:=.string F) (c:=.int .i64 N) (d:=.slice La Ln Lc) HB3.out (show w.heap.size≤w.heap.size+1 by omega)
 have B5:BoxesAt (put4 x3 (w.heap.size+1) (.int .i64 r) (.string F) (.int .i64 N) (.slice La Ln Lc)) (.slice La Ln Lc) ys us:=boxes_eng HR.out.2.1 HR.out.2.2.2.2 HM3.out (fun q hq=>put4_other _ _ _ _ _ _ _ hq) (put4_size _ _ _ _ _ _)
 generalize put4 _ _ _ _ _ _=W5 at A5 b5 B5 ⊢
 have x0:W5.cell? ⟨w.heap.size+1,0,none⟩=some (.int .i64 r):=A5.c0
 have x1:W5.cell? ⟨w.heap.size+1,1,none⟩=some (.string F):=A5.c1
 have x2:W5.cell? ⟨w.heap.size+1,2,none⟩=some (.int .i64 N):=A5.c2
 have x3:W5.cell? ⟨w.heap.size+1,3,none⟩=some (.slice La Ln Lc):=A5.c3
 exact bodyPost_ret (v:=.tuple #[.agg #[.int .i64 r,.string F,.int .i64 N,.slice La Ln Lc],.int .i64 0]) (by simp [results,Tryz.results65,go_sem,x0,x1,x2,x3]) rfl ⟨⟨_,ys,us,rfl,HR.out.1,B5,HR.out.2.2⟩,b5⟩
end Go.Proofs.YtnhcbiomkiljpaaGreatDoor.eg
