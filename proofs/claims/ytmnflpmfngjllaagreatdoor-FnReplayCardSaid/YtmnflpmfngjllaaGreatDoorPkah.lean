/-
  FnReplayCardSaid
-/
import Derived.Test.YtmnflpmfngjllaaGreatDoorPkag
set_option maxHeartbeats 16000000
set_option maxRecDepth 100000
set_option linter.unusedVariables false
namespace Go.Proofs.YtmnflpmfngjllaaGreatDoor
namespace bx
open Go.RowKit Go.Deep
open st
theorem zaG{x:World}{b1 b2 e1 e2 s1 s2 n1 n2:Nat}{v u:Value}{xs ys:List Value}(h:x.ownsRow b1 e1 s1 v n1 xs)(h2:x.ownsRow b2 e2 s2 u n2 ys)(hne:e1≠e2):v.ownBlock=none∨v.ownBlock≠u.ownBlock:=by
 rcases h.2 with⟨rfl,_⟩|⟨g,cap,cur,rfl,_,hb,_⟩
 ·exact .inl rfl
 ·right;intro hk
  rcases h2.2 with⟨rfl,_⟩|⟨g',cap',cur',rfl,_,hb',_⟩
  ·simp[Value.ownBlock] at hk
  ·have e:g=g':=by simpa [Value.ownBlock] using hk
   subst e;rw[hb] at hb';simp at hb';exact hne hb'.2
theorem zaX{x x':World}{G:Nat}{m:Bx}{v1 u1:Value}{b e s n:Nat}{v:Value}{xs:List Value}(h:Lies x G 65 m v1 u1)(ho:x.ownsRow b e s v n xs)(hg:x.grownBy x' v.ownBlock)(hne:e≠65):Lies x' G 65 m v1 u1 :=
 (hg.block G h.lt (λe=>zay ho h hne e.symm)).trans h
theorem l09Box_any(y:Bx)(v u:Value)(N:Nat)(w:World)(h:RowsIn w N v u y.ms y.ks)(hN:N≤w.heap.size)(hv:Fine v)(hu:Fine u)(hm:y.ms.length≤1048576)(hk:y.ks.length≤1048576) :
  Calls Tryz.prog 79 #[BV y v u] w λe w'=>(∃v' u',e=.returned (BV y v' u')∧OwnM w' w.heap.size v' y.ms∧OwnK w' w.heap.size u' y.ks)∧Below w.heap.size w w':=by
 obtain⟨i0,hi,hz0,hz1,hz2⟩:=info_parts infoS;obtain⟨j0,hj,hy0,hy1,hy2⟩:=info_parts infoT;have L0:=(zan w 65 y v u).keep (new_below _ 65 #[.string ⟨#[]⟩,.int .i64 0,.int .i64 0,.slice none 0 0,.slice none 0 0]);have R0:Lies ((w.alloc (.cells #[.string y.nm,.int .i64 y.vd,.int .i64 y.nx,v,u] 65)).alloc (.cells #[.string ⟨#[]⟩,.int .i64 0,.int .i64 0,.slice none 0 0,.slice none 0 0] 65)) (w.alloc (.cells #[.string y.nm,.int .i64 y.vd,.int .i64 y.nx,v,u] 65)).heap.size 65 B0 (.slice none 0 0) (.slice none 0 0):=zan (w.alloc (.cells #[.string y.nm,.int .i64 y.vd,.int .i64 y.nx,v,u] 65)) 65 B0 (.slice none 0 0) (.slice none 0 0);have b0:Below w.heap.size w ((w.alloc (.cells #[.string y.nm,.int .i64 y.vd,.int .i64 y.nx,v,u] 65)).alloc (.cells #[.string ⟨#[]⟩,.int .i64 0,.int .i64 0,.slice none 0 0,.slice none 0 0] 65)):=(new_below w _ _).trans ((new_below _ _ _).mono (by simp));have s0:((w.alloc (.cells #[.string y.nm,.int .i64 y.vd,.int .i64 y.nx,v,u] 65)).alloc (.cells #[.string ⟨#[]⟩,.int .i64 0,.int .i64 0,.slice none 0 0,.slice none 0 0] 65)).heap.size=w.heap.size+2:=by simp
 rw[show(w.alloc (.cells #[.string y.nm,.int .i64 y.vd,.int .i64 y.nx,v,u] 65)).heap.size=w.heap.size+1 by simp] at R0;have HR:Hid (∀W,Below w.heap.size w W→RowsIn W N v u y.ms y.ks):=λW hW=>zbs h hW hN
 have HFV:Hid (Fine v∧Fine u):=⟨hv,hu⟩
 have HF2:Hid (∃a n c a' n' c',v=.slice a n c∧u=.slice a' n' c'):=by
  obtain⟨⟨a,cap,e1,_⟩,⟨a1,cap1,e2,_⟩⟩:=h;exact⟨_,_,_,_,_,_,e1,e2⟩
 clear hv hu h;unfold BV;go_enter Tryz.func79,Tryz.ntmps79
 go_upto_region 1 with fail
 generalize World.alloc _ _=W0 at L0 R0 b0 s0 ⊢;have HZ0:=hD s0;clear s0;have c3:=L0.c3;have f3:=L0.f 3;have kE:=new_below W0 92 #[];have HRW:=hD (HR.out _ (b0.trans (kE.mono b0.size)));have HO:Hid ((W0.alloc (.cells #[] 92)).ownsRow (w.heap.size+2) 92 3 (.slice (some ⟨W0.heap.size,0,none⟩) 0 0) 0 []):=World.ownsRow_made W0 #[] 0 (Nat.le_of_eq HZ0.out.symm) (Nat.zero_le _) rfl;have LE:=L0.keep kE;have RE:=R0.keep kE;have bE:=b0.trans (kE.mono b0.size);have hszE:w.heap.size+2≤(W0.alloc (.cells #[] 92)).heap.size:=by have:=HZ0.out;simp;omega
 have c3':=LE.c3
 go_upto_region 2 with(at_builtin;refine zdx rfl _ _ 63 rfl (w.heap.size+2) 92 i0 _ 3 32 Tryz.underlying63 hi hz0 hz1 hz2 rfl (by decide) _ _ _ rfl HO.out v y.ms.length (mc y.ms) rfl (mails_src HRW.out.1 HFV.out.1) (mc_one y.ms) (by unfold maxLen;omega) (by omega) hszE ?_;intro v1 w1 hown1 hg1;have HE1:Hid (OwnM w1 (w.heap.size+2) v1 y.ms∧Lies w1 w.heap.size 65 y v u∧Lies w1 (w.heap.size+1) 65 B0 (.slice none 0 0) (.slice none 0 0)∧Below w.heap.size w w1∧w.heap.size+2≤w1.heap.size):=⟨by simpa [OwnM] using hown1,zaX LE HO.out hg1 (by decide),zaX RE HO.out hg1 (by decide),bE.grown hg1 (Nat.le_trans (by omega) hszE) (λk hk=>Nat.le_trans (by omega) (HO.out.lt k hk).1),Nat.le_trans hszE hg1.size⟩;have k3:=HE1.out.2.1.c3;have k3f:=HE1.out.2.1.f 3;obtain⟨va,vc,rfl,_⟩:=slice_of HE1.out.1)
 have HK:Hid (Lies (w1.setCell ⟨w.heap.size,3,none⟩ (.slice va y.ms.length vc)) w.heap.size 65 y (.slice va y.ms.length vc) u∧Lies (w1.setCell ⟨w.heap.size,3,none⟩ (.slice va y.ms.length vc)) (w.heap.size+1) 65 B0 (.slice none 0 0) (.slice none 0 0)∧OwnM (w1.setCell ⟨w.heap.size,3,none⟩ (.slice va y.ms.length vc)) (w.heap.size+2) (.slice va y.ms.length vc) y.ms∧Below w.heap.size w (w1.setCell ⟨w.heap.size,3,none⟩ (.slice va y.ms.length vc))∧w.heap.size+2≤(w1.setCell ⟨w.heap.size,3,none⟩ (.slice va y.ms.length vc)).heap.size) :=
  ⟨HE1.out.2.1.put3 _,HE1.out.2.2.1.other (by omega),zaV HE1.out.1 HE1.out.2.1 (by decide),HE1.out.2.2.2.1.setCell (p:=⟨w.heap.size,3,none⟩) lR _,by simp;exact HE1.out.2.2.2.2⟩
 clear HE1 hg1 hown1 L0 R0 b0 HZ0 c3 f3 kE HRW HO LE RE bE hszE c3' k3 k3f;generalize w1.setCell _ _=W2 at HK ⊢;have c4:=HK.out.1.c4;have kE:=new_below W2 9 #[];have bE:=HK.out.2.2.2.1.trans (kE.mono HK.out.2.2.2.1.size);have HRW:=hD (HR.out _ bE);have HO:Hid ((W2.alloc (.cells #[] 9)).ownsRow (w.heap.size+2) 9 1 (.slice (some ⟨W2.heap.size,0,none⟩) 0 0) 0 []):=World.ownsRow_made W2 #[] 0 HK.out.2.2.2.2 (Nat.zero_le _) rfl;have LE:=HK.out.1.keep kE;have RE:=HK.out.2.1.keep kE;have OE:OwnM (W2.alloc (.cells #[] 9)) (w.heap.size+2) (.slice va y.ms.length vc) y.ms:=ow.own_below HK.out.2.2.1 kE;have hszE:w.heap.size+2≤(W2.alloc (.cells #[] 9)).heap.size:=by have:=HK.out.2.2.2.2;simp;omega
 have c4':=LE.c4
 go_upto_region 3 with(at_builtin;refine zdx rfl _ _ 39 rfl (w.heap.size+2) 9 j0 _ 1 16 Tryz.underlying39 hj hy0 hy1 hy2 rfl (by decide) _ _ _ rfl HO.out u y.ks.length (y.ks.map Value.string) rfl (texts_src HRW.out.2 HFV.out.2) (str_one y.ks) (by unfold maxLen;omega) (by omega) hszE ?_;intro u1 w3 hown3 hg3;have HE3:Hid (OwnK w3 (w.heap.size+2) u1 y.ks∧Lies w3 w.heap.size 65 y (.slice va y.ms.length vc) u∧Lies w3 (w.heap.size+1) 65 B0 (.slice none 0 0) (.slice none 0 0)∧OwnM w3 (w.heap.size+2) (.slice va y.ms.length vc) y.ms∧Below w.heap.size w w3):=⟨by simpa [OwnK] using hown3,zaX LE HO.out hg3 (by decide),zaX RE HO.out hg3 (by decide),OE.kept hg3 (zaG OE HO.out (by decide)),bE.grown hg3 (Nat.le_trans (by omega) hszE) (λk hk=>Nat.le_trans (by omega) (HO.out.lt k hk).1)⟩;have k4:=HE3.out.2.1.c4;have k4f:=HE3.out.2.1.f 4;obtain⟨ua,uc,rfl,_⟩:=slice_of HE3.out.1)
 have L:=HE3.out.2.1.put4 (.slice ua y.ks.length uc);have R:Lies (w3.setCell ⟨w.heap.size,4,none⟩ (.slice ua y.ks.length uc)) (w.heap.size+1) 65 B0 (.slice none 0 0) (.slice none 0 0):=HE3.out.2.2.1.other (by omega);have OM:OwnM (w3.setCell ⟨w.heap.size,4,none⟩ (.slice ua y.ks.length uc)) (w.heap.size+2) (.slice va y.ms.length vc) y.ms:=zaV HE3.out.2.2.2.1 HE3.out.2.1 (by decide);have OK:OwnK (w3.setCell ⟨w.heap.size,4,none⟩ (.slice ua y.ks.length uc)) (w.heap.size+2) (.slice ua y.ks.length uc) y.ks:=zaV HE3.out.1 HE3.out.2.1 (by decide);have b3:=HE3.out.2.2.2.2.setCell (p:=⟨w.heap.size,4,none⟩) lR (.slice ua y.ks.length uc);clear HE3 hown3 hg3 kE bE HRW HO LE RE OE hszE c4' k4 k4f HK c4;generalize w3.setCell _ _=W4 at L R OM OK b3 ⊢;have c0:=L.c0;have c1:=L.c1;have c2:=L.c2;have c3:=L.c3;have c4:=L.c4;have r0:=R.c0;have r1:=R.c1;have r2:=R.c2;have r3:=R.c3;have r4:=R.c4;have fr:=R.f;have HE:Hid (Lies (zaf W4 (w.heap.size+1) (.string y.nm) (.int .i64 y.vd) (.int .i64 y.nx) (.slice va y.ms.length vc) (.slice ua y.ks.length uc)) (w.heap.size+1) 65 y (.slice va y.ms.length vc) (.slice ua y.ks.length uc)∧Below w.heap.size w (zaf W4 (w.heap.size+1) (.string y.nm) (.int .i64 y.vd) (.int .i64 y.nx) (.slice va y.ms.length vc) (.slice ua y.ks.length uc))∧OwnM (zaf W4 (w.heap.size+1) (.string y.nm) (.int .i64 y.vd) (.int .i64 y.nx) (.slice va y.ms.length vc) (.slice ua y.ks.length uc)) w.heap.size (.slice va y.ms.length vc) y.ms∧OwnK (zaf W4 (w.heap.size+1) (.string y.nm) (.int .i64 y.vd) (.int .i64 y.nx) (.slice va y.ms.length vc) (.slice ua y.ks.length uc)) w.heap.size (.slice ua y.ks.length uc) y.ks) :=
  ⟨zbV R,zdn b3 (by omega),zaM (zaD OM (zax _ _ _ _ _ _ _) (zay OM R (by decide))) (by omega),zaM (zaD OK (zax _ _ _ _ _ _ _) (zay OK R (by decide))) (by omega)⟩
 clear L R OM OK b3;go_wp2;change bodyPost _ _ _ _ _ (zaf W4 (w.heap.size+1) (.string y.nm) (.int .i64 y.vd) (.int .i64 y.nx) (.slice va y.ms.length vc) (.slice ua y.ks.length uc));generalize zaf _ _ _ _ _ _ _=W9 at HE ⊢;have d0:=HE.out.1.c0;have d1:=HE.out.1.c1;have d2:=HE.out.1.c2;have d3:=HE.out.1.c3;have d4:=HE.out.1.c4;exact bodyPost_ret (v:=.agg #[.string y.nm,.int .i64 y.vd,.int .i64 y.nx,.slice va y.ms.length vc,.slice ua y.ks.length uc]) (by simp[results,Tryz.results79,go_sem,d0,d1,d2,d3,d4]) rfl ⟨⟨_,_,rfl,HE.out.2.2.1,HE.out.2.2.2⟩,HE.out.2.1⟩
theorem plc_nat{xs:List Bx}{s:ByteArray}{r:Int}(h:Plc xs s r):r=-1∨∃k:Nat,r=k∧k<xs.length:=by
 rcases h with⟨k,rfl,hk,_⟩|⟨rfl,_⟩
 ·exact .inr ⟨k,rfl,hk⟩
 ·exact .inl rfl
def zal(xs:List Bx)(vs:Nat→Value×Value):Prop:=∀j,j<xs.length→Fine (vs j).1∧Fine (vs j).2
end bx
namespace mx
open Go.RowKit
open gr mk st bx
open ky (TextsAt OwnT own_texts)
theorem za2{w w':World}{b e s n:Nat}{v u:Value}{xs:List Value}(h:w.ownsRow b e s v n xs)(hg:w.grownBy w' u.ownBlock)(hd:v.ownBlock=none∨v.ownBlock≠u.ownBlock):w'.ownsRow b e s v n xs:=by
 rcases h.2 with⟨rfl,hz⟩|⟨g,cap,cur,rfl,hB,hh,r⟩
 ·exact⟨h.1,.inl ⟨rfl,hz⟩⟩
 ·refine mu.own_block h (hg.block g (Array.getElem?_eq_some_iff.1 hh).1 ?_)
  rcases hd with e|e
  ·cases e
  ·exact e
end mx
namespace bl
open Go.ChangeShapes Go.WideShapes Go.ChangeAt Go.RowKit Go.Deep Go.Joins
open st gr bx mx
def zai(xs:List Bx)(vs:Nat→Value×Value):Nat→List Value
 | 0=>[]
 | n+1=>zai xs vs n++[.string (xs.getD n noB).nm,.int .i64 (xs.getD n noB).vd,.int .i64 (xs.getD n noB).nx,(vs n).1,(vs n).2]
theorem zby(xs:List Bx)(vs:Nat→Value×Value):∀n,(zai xs vs n).length=n*5
 | 0=>rfl
 | n+1=>by simp[zai,zby xs vs n];omega
theorem za1(xs:List Bx)(vs:Nat→Value×Value):∀n j,j<n→In5 (zai xs vs n) (j*5) (xs.getD j noB) (vs j)
 | 0,j,hj=>absurd hj (Nat.not_lt_zero _)
 | n+1,j,hj=>by
  have hl:=zby xs vs n;unfold In5;by_cases e:j<n
  ·obtain⟨h0,h1,h2,h3,h4⟩:=za1 xs vs n j e;rw[zai,List.getElem?_append_left (by omega),List.getElem?_append_left (by omega),List.getElem?_append_left (by omega),List.getElem?_append_left (by omega),List.getElem?_append_left (by omega)];exact⟨h0,h1,h2,h3,h4⟩
  ·obtain rfl:j=n:=by omega
   rw[zai,List.getElem?_append_right (by omega),List.getElem?_append_right (by omega),List.getElem?_append_right (by omega),List.getElem?_append_right (by omega),List.getElem?_append_right (by omega),hl];rw[show j*5-j*5=0 by omega,show j*5+1-j*5=1 by omega,show j*5+2-j*5=2 by omega,show j*5+3-j*5=3 by omega,show j*5+4-j*5=4 by omega];exact⟨rfl,rfl,rfl,rfl,rfl⟩
theorem bcells_ext{xs:List Bx}{vs:Nat→Value×Value}{n:Nat}{cs:List Value}(hl:cs.length=n*5)(h:LayB xs vs n cs):cs=zai xs vs n:=by
 refine List.ext_getElem? λi=>?_
 by_cases hi:i<n*5
 ·have hq:i / 5<n:=by omega
  obtain⟨a0,a1,a2,a3,a4⟩:=h (i / 5) hq;obtain⟨b0,b1,b2,b3,b4⟩:=za1 xs vs n (i / 5) hq;have hr:i % 5=0∨i % 5=1∨i % 5=2∨i % 5=3∨i % 5=4:=by omega
  rcases hr with hr|hr|hr|hr|hr
  ·rw[show i=i / 5*5 by omega,a0,b0]
  ·rw[show i=i / 5*5+1 by omega,a1,b1]
  ·rw[show i=i / 5*5+2 by omega,a2,b2]
  ·rw[show i=i / 5*5+3 by omega,a3,b3]
  ·rw[show i=i / 5*5+4 by omega,a4,b4]
 ·rw[List.getElem?_eq_none (by omega),List.getElem?_eq_none (by rw[zby];omega)]
theorem bcells_one{xs:List Bx}{vs:Nat→Value×Value}:∀{n:Nat},(∀j,j<n→(vs j).1.oneCell'=true∧(vs j).2.oneCell'=true)→∀u∈zai xs vs n,u.oneCell'=true
 | 0,_,u,hu=>by simp[zai] at hu
 | n+1,h,u,hu=>by
  rw[zai,List.mem_append] at hu
  rcases hu with hu|hu
  ·exact bcells_one (λj hj=>h j (by omega)) u hu
  ·have hn:=h n (by omega);simp only[List.mem_cons,List.not_mem_nil,or_false] at hu
   rcases hu with rfl|rfl|rfl|rfl|rfl
   ·rfl
   ·rfl
   ·rfl
   ·exact hn.1
   ·exact hn.2
theorem fine_one{v:Value}(h:Fine v):v.oneCell'=true:=by
 rcases h with rfl|⟨ad,n,c,rfl⟩
 ·rfl
 ·rfl
def OwnB(w:World)(base:Nat)(v:Value)(xs:List Bx)(vs:Nat→Value×Value):Prop:=w.ownsRow base 65 5 v xs.length (zai xs vs xs.length)
def Dis(vs:Nat→Value×Value)(n:Nat):Prop:=∀i j,i<j→j<n→((vs i).1.ownBlock=none∨(vs i).1.ownBlock≠(vs j).1.ownBlock)∧((vs i).2.ownBlock=none∨(vs i).2.ownBlock≠(vs j).2.ownBlock)
def OwnR(w:World)(base:Nat)(xs:List Bx)(vs:Nat→Value×Value)(n:Nat):Prop:=∀j,j<n→OwnM w base (vs j).1 (xs.getD j noB).ms∧OwnK w base (vs j).2 (xs.getD j noB).ks
def OwnL(w:World)(base:Nat)(v:Value)(xs:List Bx)(vs:Nat→Value×Value):Prop:=OwnB w base v xs vs∧OwnR w base xs vs xs.length∧Dis vs xs.length
theorem zcK{w w':World}{base:Nat}{xs:List Bx}{vs:Nat→Value×Value}{n:Nat}(h:OwnR w base xs vs n)(hb:Below w.heap.size w w'):OwnR w' base xs vs n:=λj hj=>⟨ow.own_below (h j hj).1 hb,ow.own_below (h j hj).2 hb⟩
theorem zaC{w w':World}{base:Nat}{v:Value}{xs:List Bx}{vs:Nat→Value×Value}(h:OwnL w base v xs vs)(hb:Below w.heap.size w w'):OwnL w' base v xs vs:=⟨ow.own_below h.1 hb,zcK h.2.1 hb,h.2.2⟩
theorem zbi{w:World}{base:Nat}{v:Value}{xs:List Bx}{vs:Nat→Value×Value}(h:OwnL w base v xs vs):zaa w v xs vs:=by
 refine⟨?_,λj hj=>⟨ownM_in (h.2.1 j hj).1 lR,ownK_in (h.2.1 j hj).2 lR⟩⟩;have ho:=h.1
 rcases ho.2 with⟨rfl,hz⟩|⟨g,cap,cur,rfl,_,hh,_⟩
 ·exact⟨none,0,by rw[hz],.inl (List.eq_nil_of_length_eq_zero hz)⟩
 ·refine⟨_,cap,rfl,.inr ⟨g,0,rfl,(Array.getElem?_eq_some_iff.1 hh).1,λj hj=>?_⟩⟩;obtain⟨h0,h1,h2,h3,h4⟩:=za1 xs vs xs.length j hj;refine⟨?_,?_,?_,?_,?_⟩
  ·rw[Nat.zero_add,ho.cellAt _ (by omega),h0]
  ·rw[Nat.zero_add,ho.cellAt _ (by omega),h1]
  ·rw[Nat.zero_add,ho.cellAt _ (by omega),h2]
  ·rw[Nat.zero_add,ho.cellAt _ (by omega),h3]
  ·rw[Nat.zero_add,ho.cellAt _ (by omega),h4]
theorem zcJ{w:World}{base:Nat}{v:Value}{xs:List Bx}{vs:Nat→Value×Value}(h:OwnL w base v xs vs):Fine v∧zal xs vs:=⟨zaj h.1,λj hj=>⟨zaj (h.2.1 j hj).1,zaj (h.2.1 j hj).2⟩⟩
theorem src_boxes{w:World}{ad:Addr}{n c:Nat}{xs:List Bx}{vs:Nat→Value×Value}(h:zaa w (.slice (some ad) n c) xs vs):n=xs.length∧∀j u,(zai xs vs xs.length)[j]?=some u→w.cell? (ad.add j)=some u:=by
 obtain⟨⟨a,cap,e,h⟩,_⟩:=h;cases e;refine⟨rfl,λi u hu=>?_⟩;have hi:i<xs.length*5:=by
  have:=(List.getElem?_eq_some_iff.1 hu).1
  rwa [zby] at this
 rcases h with h|⟨b,off,e,_,h⟩
 ·rw[h] at hi;simp at hi
 ·cases e;rw[show((⟨b,off,none⟩:Addr).add i)=⟨b,off+i,none⟩ from by simp[Addr.add]];have hq:i / 5<xs.length:=by omega
  obtain⟨a0,a1,a2,a3,a4⟩:=h (i / 5) hq;obtain⟨b0,b1,b2,b3,b4⟩:=za1 xs vs xs.length (i / 5) hq;have hr:i % 5=0∨i % 5=1∨i % 5=2∨i % 5=3∨i % 5=4:=by omega
  rcases hr with hr|hr|hr|hr|hr
  ·rw[show i=i / 5*5 by omega,b0] at hu;cases hu;rw[show off+i=off+i / 5*5 by omega,a0]
  ·rw[show i=i / 5*5+1 by omega,b1] at hu;cases hu;rw[show off+i=off+i / 5*5+1 by omega,a1]
  ·rw[show i=i / 5*5+2 by omega,b2] at hu;cases hu;rw[show off+i=off+i / 5*5+2 by omega,a2]
  ·rw[show i=i / 5*5+3 by omega,b3] at hu;cases hu;rw[show off+i=off+i / 5*5+3 by omega,a3]
  ·rw[show i=i / 5*5+4 by omega,b4] at hu;cases hu;rw[show off+i=off+i / 5*5+4 by omega,a4]
theorem cloneB_any(v:Value)(xs:List Bx)(vs:Nat→Value×Value)(w:World)(h:zaa w v xs vs)(hv:Fine v)(hf:zal xs vs)(hn:xs.length≤1048576) :
  Calls Tryz.prog 132 #[v] w λe w'=>(∃v',e=.returned v'∧OwnB w' w.heap.size v' xs vs)∧Below w.heap.size w w':=by
 obtain⟨i0,hi,hz0,hz1,hz2⟩:=info_parts infoB;have hq:∀(w:World) (a:Option Addr) (n c n' c':Nat),(binOp .eql 25 (.slice a n c) (.slice none n' c')).run Tryz.prog w=.ok (.bool a.isNone) w:=λw a n c n' c'=>Lib.run_eql_slice_nil w _ _ a n c n' c' Tryz.underlying25
 have h1c:∀u∈zai xs vs xs.length,u.oneCell'=true:=bcells_one λj hj=>⟨fine_one (hf j hj).1,fine_one (hf j hj).2⟩
 have H1C:=hD h1c;clear h1c hf
 rcases hv with rfl|⟨ad,n,c,rfl⟩
 ·have hms:xs=[]:=by
   obtain⟨⟨a,cap,e,_⟩,_⟩:=h;simp only[Value.slice.injEq] at e;exact List.eq_nil_of_length_eq_zero e.2.1.symm
  have HM:Hid (OwnB w w.heap.size (.slice none 0 0) xs vs):=by rw[hms];exact World.ownsRow_nil _ _ _ _
  clear h hms hn H1C;go_enter Tryz.func132,Tryz.ntmps132;go_wp2;go_ret;exact⟨⟨_,rfl,HM.out⟩,Below.refl _ _⟩
 obtain⟨rfl,hs⟩:=src_boxes h;have hb:Below w.heap.size w (w.alloc (.cells #[] 65)):=bR.alloc lR _;have HS:Hid (∀j u,(zai xs vs xs.length)[j]?=some u→(w.alloc (.cells #[] 65)).cell? (ad.add j)=some u):=λj u hu=>(hb.cell (World.block_lt_of_cell? w _ (hs j u hu))).trans (hs j u hu)
 have HO:Hid ((w.alloc (.cells #[] 65)).ownsRow w.heap.size 65 5 (.slice (some ⟨w.heap.size,0,none⟩) 0 0) 0 []):=World.ownsRow_made w #[] 0 (Nat.le_refl _) (Nat.zero_le _) rfl;clear h hs;go_enter Tryz.func132,Tryz.ntmps132
 go_wp2_with (at_builtin;refine wpList_append_own _ rfl _ _ 25 rfl w.heap.size 65 i0 _ 5 80 Tryz.underlying25 hi hz0 hz1 hz2 rfl (by decide) _ _ _ rfl HO.out ad xs.length c (zai xs vs xs.length) rfl (zby xs vs _) HS.out H1C.out (by unfold maxLen;omega) (by omega) (by simp) ?_;intro v' w1 hown hgrow hnil)
 have HE:Hid (OwnB w1 w.heap.size v' xs vs∧Below w.heap.size w w1):=by
  refine⟨?_,hb.grown hgrow (by simp) (λk hk=>(HO.out.lt k hk).1)⟩;unfold OwnB;simpa using hown
 clear hown hgrow hnil;go_wp2;go_ret;exact⟨⟨_,rfl,HE.out.1⟩,HE.out.2⟩
end bl
namespace bl
open Go.ChangeShapes Go.WideShapes Go.ChangeAt Go.RowKit Go.Deep Go.Joins
open st gr bx mx
theorem bcells_put{xs:List Bx}{us:Nat→Value×Value}{n k:Nat}(hk:k<n){x:Bx}(hx:xs.getD k noB=x)(p:Value×Value):put5 (zai xs us n) (k*5) x p=zai xs (upd us k p) n:=by
 refine bcells_ext (by rw[put5_len,zby]) λj hj=>?_
 by_cases e:j=k
 ·subst e;simp only[upd,if_true];rw[hx];exact put5_same (by rw[zby];omega)
 ·simp only[upd,if_neg e];exact in5_other (za1 xs us n j hj) (by omega)
theorem ownR_row{w w':World}{base b e s n m:Nat}{v:Value}{cs:List Value}{xs:List Bx}{us:Nat→Value×Value}(h:OwnR w base xs us n)(ho:w.ownsRow b e s v m cs)(hg:w.grownBy w' v.ownBlock)(h1:92≠e)(h2:9≠e):OwnR w' base xs us n:=λj hj =>
 ⟨za2 (h j hj).1 hg (zaG (h j hj).1 ho h1),za2 (h j hj).2 hg (zaG (h j hj).2 ho h2)⟩
theorem ownR_step{w:World}{base:Nat}{xs:List Bx}{us:Nat→Value×Value}{k:Nat}{x:Bx}{p q:Value}(h:OwnR w base xs us k)(hx:xs.getD k noB=x)(h1:OwnM w base p x.ms)(h2:OwnK w base q x.ks):OwnR w base xs (upd us k (p,q)) (k+1):=by
 intro j hj;by_cases e:j=k
 ·subst e;simp only[upd,if_true];rw[hx];exact⟨h1,h2⟩
 ·simp only[upd,if_neg e];exact h j (by omega)
theorem dis_step{w w2:World}{base:Nat}{xs:List Bx}{us:Nat→Value×Value}{k:Nat}{x:Bx}{p q:Value}(hd:Dis us k)(h:OwnR w base xs us k)(h1:OwnM w2 w.heap.size p x.ms)(h2:OwnK w2 w.heap.size q x.ks):Dis (upd us k (p,q)) (k+1):=by
 intro i j hij hj;have hi:i≠k:=by omega
 by_cases e:j=k
 ·subst e;simp only[upd,if_true,if_neg hi];exact⟨ow.apart (h i hij).1 h1,ow.apart (h i hij).2 h2⟩
 ·simp only[upd,if_neg e,if_neg hi];exact hd i j hij (by omega)
theorem copied_all(v:Value)(xs:List Bx)(vs:Nat→Value×Value)(w:World)(h:zaa w v xs vs)(hv:Fine v)(hf:zal xs vs)(hs:bx.zac xs) :
  Calls Tryz.prog 103 #[v] w λe w'=>(∃L us,e=.returned L∧OwnL w' w.heap.size L xs us)∧Below w.heap.size w w':=by
 have HALL:=hD h;have HV:Hid (Fine v∧zal xs vs):=⟨hv,hf⟩
 have HS:=hD hs;have hl:=hs.1;clear h hv hf hs;go_enter Tryz.func103,Tryz.ntmps103
 go_wp2_with fail
 refine(cloneB_any v xs vs w HALL.out HV.out.1 HV.out.2 HS.out.1).mono ?_;rintro e w1 ⟨⟨L,rfl,ho⟩,hb1⟩;obtain⟨n,hn⟩:∃n,n=xs.length:=⟨_,rfl⟩
 have HN:=hD hn;rw[←hn] at hl;unfold OwnB at ho;rw[←hn] at ho;have HO1:=hD ho;obtain⟨La,Lc,rfl,hLa⟩:∃a c,L=.slice a n c∧(n=0∨∃g,a=some ⟨g,0,none⟩):=by
  rcases ho.2 with⟨rfl,hz⟩|⟨g,cap,cur,rfl,_⟩
  ·exact⟨none,0,by rw[hz],.inl hz⟩
  ·exact⟨_,_,rfl,.inr ⟨g,rfl⟩⟩
 clear ho hn;go_wp2
 go_loopw [9] (λi wr=>∃(k:Nat) (us:Nat→Value×Value),k≤n∧i=.int .i64 k∧wr.ownsRow w.heap.size 65 5 (.slice La n Lc) n (zai xs us n)∧(∀j,k≤j→us j=vs j)∧OwnR wr w.heap.size xs us k∧Dis us k∧Below w.heap.size w wr) (λi _=>n-(intOf i).toNat)
 case atStart=>exact⟨0,vs,Nat.zero_le _,rfl,HO1.out,λ_ _=>rfl,λj hj=>absurd hj (Nat.not_lt_zero _),λi j hij hj=>absurd hj (Nat.not_lt_zero _),hb1⟩
 case round =>
  clear HO1 hb1;obtain⟨k,us,hk,rfl,hown,hrest,hor,hd,hbw⟩:=hrel;have HR:Hid (OwnR wr w.heap.size xs us k∧Dis us k):=⟨hor,hd⟩
  have HE:=hD hrest;clear hor hd hrest;by_cases hlt:k<n
  ·have hka:k<xs.length:=by rw[←HN.out];exact hlt
   obtain⟨g,rfl⟩:∃g,La=some ⟨g,0,none⟩:=by
    rcases hLa with h|h
    ·omega
    ·exact h
   have hcl:=zby xs us n;obtain⟨e0,e1,e2,e3,e4⟩:=za1 xs us n k hlt;rw[HE.out k lR] at e3 e4;have hrw:=(za6 HALL.out hbw lR).2 k hka;have hsk:=HS.out.2 k hka;have hfk:=HV.out.2 k hka;generalize hx:xs.getD k noB=x at e0 e1 e2 hrw hsk;have HX:=hD hx;generalize vs k=q at e3 e4 hrw hfk;obtain⟨p1,p2⟩:=q;simp only at e3 e4 hrw hfk;have HRW:Hid (bx.RowsIn wr w.heap.size p1 p2 x.ms x.ks∧Fine p1∧Fine p2∧Small x):=⟨hrw,hfk.1,hfk.2,hsk⟩
   obtain⟨⟨a2,cap2,rfl,_⟩,⟨a3,cap3,rfl,_⟩⟩:=hrw;have c0:=(hown.cellAt (k*5) (by omega)).trans e0;have c1:=(hown.cellAt (k*5+1) (by omega)).trans e1;have c2:=(hown.cellAt (k*5+2) (by omega)).trans e2;have c3:=(hown.cellAt (k*5+3) (by omega)).trans e3;have c4:=(hown.cellAt (k*5+4) (by omega)).trans e4;have hlt':(k:Int)<(n:Int):=by omega
   clear hx hsk hfk hka e0 e1 e2 e3 e4;have hba:=bx.new_below wr 65 #[.string x.nm,.int .i64 x.vd,.int .i64 x.nx,.slice a2 x.ms.length cap2,.slice a3 x.ks.length cap3];have hownW:=ow.own_below hown hba;have hbwW:=hbw.trans (hba.mono hbw.size);have HRW:Hid (bx.RowsIn (wr.alloc (.cells #[.string x.nm,.int .i64 x.vd,.int .i64 x.nx,.slice a2 x.ms.length cap2,.slice a3 x.ks.length cap3] 65)) w.heap.size (.slice a2 x.ms.length cap2) (.slice a3 x.ks.length cap3) x.ms x.ks∧Fine (.slice a2 x.ms.length cap2)∧Fine (.slice a3 x.ks.length cap3)∧Small x):=⟨zbs HRW.out.1 hba hbw.size,HRW.out.2⟩
   have HR:Hid (OwnR (wr.alloc (.cells #[.string x.nm,.int .i64 x.vd,.int .i64 x.nx,.slice a2 x.ms.length cap2,.slice a3 x.ks.length cap3] 65)) w.heap.size xs us k∧Dis us k):=⟨zcK HR.out.1 hba,HR.out.2⟩
   have d0:=(zan wr 65 x (.slice a2 x.ms.length cap2) (.slice a3 x.ks.length cap3))
   clear hba
   go_wp2_with fail
   clear hown hbw d0 c0 c1 c2 c3 c4;generalize wr.alloc _=W at hownW hbwW HRW HR ⊢;have hown:=hownW;have hbw:=hbwW;clear hownW hbwW;refine(copiedB_any x _ _ w.heap.size W HRW.out.1 hbw.size HRW.out.2.1 HRW.out.2.2.1 HRW.out.2.2.2).mono ?_;rintro e w2 ⟨⟨v',u',rfl,hm2,hk2⟩,hb2⟩;have hown2:=ow.own_below hown hb2;have hbw2:=hbw.trans (hb2.mono hbw.size);have HO2:=hD hown2;have HR2:Hid (OwnR w2 w.heap.size xs (upd us k (v',u')) (k+1)∧Dis (upd us k (v',u')) (k+1)):=⟨ownR_step (zcK HR.out.1 hb2) HX.out (mu.zcx hm2 hbw.size) (mu.zcx hk2 hbw.size),dis_step HR.out.2 HR.out.1 hm2 hk2⟩
   have hfv:Fine v'∧Fine u':=⟨zaj hm2,zaj hk2⟩
   obtain⟨va,vn,vc,rfl⟩:∃a n c,v'=.slice a n c:=by
    rcases hfv.1 with rfl|⟨ad,n,c,rfl⟩
    ·exact⟨_,_,_,rfl⟩
    ·exact⟨_,_,_,rfl⟩
   obtain⟨ua,un,uc,rfl⟩:∃a n c,u'=.slice a n c:=by
    rcases hfv.2 with rfl|⟨ad,n,c,rfl⟩
    ·exact⟨_,_,_,rfl⟩
    ·exact⟨_,_,_,rfl⟩
   have hgb:=(hown2.lt g rfl).1;clear hb2 hbw hown HRW HR hm2 hk2 hfv;have HL:=hD hcl;have q0:=hown2.cellAt (k*5) (by omega);have q1:=hown2.cellAt (k*5+1) (by omega);have q2:=hown2.cellAt (k*5+2) (by omega);have q3:=hown2.cellAt (k*5+3) (by omega);have q4:=hown2.cellAt (k*5+4) (by omega);rw[List.getElem?_eq_getElem (by rw[HL.out];omega)] at q0 q1 q2 q3 q4;have f0:=hown2.frozenAt (k*5);have f1:=hown2.frozenAt (k*5+1);have f2:=hown2.frozenAt (k*5+2);have f3:=hown2.frozenAt (k*5+3);have f4:=hown2.frozenAt (k*5+4);clear hown2 hcl;generalize(zai xs us n)[k*5]'(by rw[HL.out];omega)=u0 at q0;generalize(zai xs us n)[k*5+1]'(by rw[HL.out];omega)=u1 at q1;generalize(zai xs us n)[k*5+2]'(by rw[HL.out];omega)=u2 at q2;generalize(zai xs us n)[k*5+3]'(by rw[HL.out];omega)=u3 at q3;generalize(zai xs us n)[k*5+4]'(by rw[HL.out];omega)=u4 at q4;unfold BV;go_wp2
   go_roundw
   case rel =>
    refine⟨k+1,upd us k (.slice va vn vc,.slice ua un uc),by omega,by go_num,?_,λj hj=>?_,?_,HR2.out.2,((((hbw2.setCell hgb _).setCell hgb _).setCell hgb _).setCell hgb _).setCell hgb _⟩
    ·rw[←bcells_put hlt HX.out];exact(((((HO2.out.stored _ _).1.stored _ _).1.stored _ _).1.stored _ _).1.stored _ _).1
    ·simp only[upd,if_neg (show j≠k by omega)];exact HE.out j (by omega)
    ·exact ownR_row HR2.out.1 HO2.out (ow.zah (ow.zah (ow.zah (ow.zah (mk.zam _ _ _ _) (mk.zam _ _ _ _)) (mk.zam _ _ _ _)) (mk.zam _ _ _ _)) (mk.zam _ _ _ _)) (by decide) (by decide)
   case measure=>simp[intOf];omega
  ·obtain rfl:k=n:=by omega
   have HQ:Hid (OwnL wr w.heap.size (.slice La k Lc) xs us):=by
    refine⟨?_,?_,?_⟩
    ·unfold OwnB;rw[←HN.out];exact hown
    ·rw[←HN.out];exact HR.out.1
    ·rw[←HN.out];exact HR.out.2
   go_wp2;go_ret;exact⟨⟨_,_,rfl,HQ.out⟩,hbw⟩
end bl
namespace bl
open Go.ChangeShapes Go.WideShapes Go.ChangeAt Go.RowKit Go.Deep Go.Joins
open st gr bx mx
theorem zcV{xs:List Bx}{us vs:Nat→Value×Value}:∀{n:Nat},(∀j,j<n→us j=vs j)→zai xs us n=zai xs vs n
 | 0,_=>rfl
 | n+1,h=>by rw[zai,zai,zcV (λj hj=>h j (by omega)),h n (by omega)]
theorem bcells_snoc{xs:List Bx}{us:Nat→Value×Value}{k:Nat}{x:Bx}(hx:xs.getD k noB=x)(p q:Value):zai xs us k++[.string x.nm,.int .i64 x.vd,.int .i64 x.nx,p,q]=zai xs (upd us k (p,q)) (k+1):=by
 rw[zai,hx];rw[zcV (us:=upd us k (p,q)) (vs:=us) (λj hj=>by simp only[upd,if_neg (show j≠k by omega)])];simp only[upd,if_true]
theorem zak{v:Value}(h:Fine v):∃a n c,v=.slice a n c:=by
 rcases h with rfl|⟨ad,n,c,rfl⟩
 ·exact⟨_,_,_,rfl⟩
 ·exact⟨_,_,_,rfl⟩
theorem zcR(v:Value)(xs:List Bx)(vs:Nat→Value×Value)(w:World)(h:zaa w v xs vs)(hf:zal xs vs)(hs:bx.zac xs) :
  Calls Tryz.prog 43 #[v] w λe w'=>(∃L us,e=.returned L∧OwnL w' w.heap.size L xs us)∧Below w.heap.size w w':=by
 have HALL:=hD h;obtain⟨⟨a,cap,rfl,hc⟩,_⟩:=h;obtain⟨i0,hi,hz0,hz1,hz2⟩:=info_parts infoB;obtain⟨n,hn⟩:∃n,n=xs.length:=⟨_,rfl⟩
 have HN:=hD hn;have HH:=hD hc;have HS:=hD hs;have HF:=hD hf;have hl:n≤1048576:=by rw[hn];exact hs.1
 rw[←hn] at HALL ⊢;have hb0:=bx.new_below w 65 #[];have HO0:Hid ((w.alloc (.cells #[] 65)).ownsRow w.heap.size 65 5 (.slice (some ⟨w.heap.size,0,none⟩) 0 0) 0 []):=World.ownsRow_made w #[] 0 (Nat.le_refl _) (Nat.zero_le _) rfl;clear hc hs hn hf;go_enter Tryz.func43,Tryz.ntmps43;go_wp2
 go_loopw [3,4] (λo i wr=>∃(k:Nat) (us:Nat→Value×Value),k≤n∧i=.int .i64 k∧wr.ownsRow w.heap.size 65 5 o k (zai xs us k)∧OwnR wr w.heap.size xs us k∧Dis us k∧Below w.heap.size w wr) (λ_ i _=>n-(intOf i).toNat)
 case atStart=>exact⟨0,vs,Nat.zero_le _,rfl,HO0.out,λj hj=>absurd hj (Nat.not_lt_zero _),λi j hij hj=>absurd hj (Nat.not_lt_zero _),hb0⟩
 case round =>
  clear HO0 hb0;obtain⟨k,us,hk,rfl,hown,hor,hd,hbw⟩:=hrel;have HR:Hid (OwnR wr w.heap.size xs us k∧Dis us k):=⟨hor,hd⟩
  clear hor hd;by_cases hlt:k<n
  ·have hka:k<xs.length:=by rw[←HN.out];exact hlt
   rcases HH.out with e|⟨b,off,rfl,hbl,hcells⟩
   ·rw[e] at hka;simp at hka
   have hat:=(hcells k hka).keep hbw hbl;have hrw:=(za6 HALL.out hbw lR).2 k hka;have hsk:=HS.out.2 k hka;have hfk:=HF.out k hka;clear hcells hka;generalize hx:xs.getD k noB=x at hat hrw hsk;have HX:=hD hx;generalize vs k=q at hat hrw hfk;obtain⟨p1,p2⟩:=q;obtain⟨c0,c1,c2,c3,c4⟩:=hat;simp only at c0 c1 c2 c3 c4 hrw hfk;have HRW:Hid (bx.RowsIn wr w.heap.size p1 p2 x.ms x.ks∧Fine p1∧Fine p2∧x.ms.length≤1048576∧x.ks.length≤1048576):=⟨hrw,hfk.1,hfk.2,hsk.2.2.1.1,hsk.2.2.2.1⟩
   obtain⟨⟨a2,cap2,rfl,_⟩,⟨a3,cap3,rfl,_⟩⟩:=hrw;obtain⟨oa,on,oc,ho⟩:=zak (zaj hown);subst ho;have hlt':(k:Int)<(n:Int):=by omega
   clear hx hsk hfk
   go_wp2_with fail
   refine(l09Box_any x _ _ w.heap.size wr HRW.out.1 hbw.size HRW.out.2.1 HRW.out.2.2.1 HRW.out.2.2.2.1 HRW.out.2.2.2.2).mono ?_;rintro e w2 ⟨⟨v',u',rfl,hm2,hk2⟩,hb2⟩;have hown2:=ow.own_below hown hb2;have hbw2:=hbw.trans (hb2.mono hbw.size);have HR2:Hid (OwnR w2 w.heap.size xs (upd us k (v',u')) (k+1)∧Dis (upd us k (v',u')) (k+1)):=⟨ownR_step (zcK HR.out.1 hb2) HX.out (mu.zcx hm2 hbw.size) (mu.zcx hk2 hbw.size),dis_step HR.out.2 HR.out.1 hm2 hk2⟩
   obtain⟨va,vn,vc,rfl⟩:=zak (zaj hm2);obtain⟨ua,un,uc,rfl⟩:=zak (zaj hk2);clear hb2 hbw hown c0 c1 c2 c3 c4 HRW HR hm2 hk2;have HO2:Hid ((w2.alloc (.cells #[.string x.nm,.int .i64 x.vd,.int .i64 x.nx,.slice va vn vc,.slice ua un uc] 65)).ownsRow w.heap.size 65 5 (.slice oa on oc) k (zai xs us k)):=hown2.alloc _;have HR3:Hid (OwnR (w2.alloc (.cells #[.string x.nm,.int .i64 x.vd,.int .i64 x.nx,.slice va vn vc,.slice ua un uc] 65)) w.heap.size xs (upd us k (.slice va vn vc,.slice ua un uc)) (k+1)):=zcK HR2.out.1 (bx.new_below _ _ _);have HB3:Hid (Below w.heap.size w (w2.alloc (.cells #[.string x.nm,.int .i64 x.vd,.int .i64 x.nx,.slice va vn vc,.slice ua un uc] 65))∧w.heap.size≤(w2.alloc (.cells #[.string x.nm,.int .i64 x.vd,.int .i64 x.nx,.slice va vn vc,.slice ua un uc] 65)).heap.size):=⟨hbw2.alloc hbw2.size _,(hbw2.alloc hbw2.size _).size⟩
   clear hown2 hbw2;unfold BV
   go_wp2_with (at_builtin;refine wpList_append_own _ rfl _ _ 25 rfl w.heap.size 65 i0 _ 5 80 Tryz.underlying25 hi hz0 hz1 hz2 rfl (by decide) _ _ _ rfl HO2.out ⟨w2.heap.size,0,none⟩ 1 1 [.string x.nm,.int .i64 x.vd,.int .i64 x.nx,.slice va vn vc,.slice ua un uc] rfl rfl (ow.zaI _ [.string x.nm,.int .i64 x.vd,.int .i64 x.nx,.slice va vn vc,.slice ua un uc] _) (by intro u hu;simp at hu;rcases hu with rfl|rfl|rfl|rfl|rfl<;>rfl) (by unfold maxLen;omega) (by omega) HB3.out.2 ?_;intro v3 w3 hown hgrow hnil)
   have HE:Hid (w3.ownsRow w.heap.size 65 5 v3 (k+1) (zai xs (upd us k (.slice va vn vc,.slice ua un uc)) (k+1))∧OwnR w3 w.heap.size xs (upd us k (.slice va vn vc,.slice ua un uc)) (k+1)∧Below w.heap.size w w3):=by
    refine⟨?_,ownR_row HR3.out HO2.out hgrow (by decide) (by decide),HB3.out.1.grown hgrow HB3.out.2 (λj hj=>(HO2.out.lt j hj).1)⟩;rw[←bcells_snoc HX.out];exact hown
   clear hown hgrow hnil HO2 HR3 HB3;go_wp2
   go_roundw
   case rel=>exact⟨k+1,_,by omega,by go_num,HE.out.1,HE.out.2.1,HR2.out.2,HE.out.2.2⟩
   case measure=>simp[intOf];omega
  ·obtain rfl:k=n:=by omega
   obtain⟨oa,on,oc,ho⟩:=zak (zaj hown);subst ho;have HQ:Hid (OwnL wr w.heap.size (.slice oa on oc) xs us):=by
    refine⟨?_,?_,?_⟩
    ·unfold OwnB;rw[←HN.out];exact hown
    ·rw[←HN.out];exact HR.out.1
    ·rw[←HN.out];exact HR.out.2
   go_wp2;go_ret;exact⟨⟨_,_,rfl,HQ.out⟩,hbw⟩
end bl
end Go.Proofs.YtmnflpmfngjllaaGreatDoor
