/-
  FnReplayCardSaid
-/
import Derived.Test.YtmnflpmfngjllaaGreatDoorPkad
import Derived.Deep.DeepCutAuto
import Derived.Deep.Cut
import Derived.Deep.CutRange
import Derived.Deep.RegionWith
set_option maxHeartbeats 16000000
set_option maxRecDepth 100000
set_option linter.unusedVariables false
namespace Go.Proofs.YtmnflpmfngjllaaGreatDoor
namespace bx
open Go.RowKit Go.Deep
open st
theorem zdb{α:Type}{l:List α}{i:Nat}{a:α}(h:l[i]?=some a):l.set i a=l:=by
 refine List.ext_getElem? λj=>?_
 by_cases e:j=i
 ·subst e;rw[List.getElem?_set_self (List.getElem?_eq_some_iff.1 h).1,h]
 ·rw[List.getElem?_set_ne (Ne.symm e)]
theorem zaM{w:World}{b base e size n:Nat}{v:Value}{xs:List Value}(h:w.ownsRow base e size v n xs)(hb:b≤base):w.ownsRow b e size v n xs :=
 ⟨h.1,h.2.imp id λ⟨g,cap,cur,he,hb',r⟩=>⟨g,cap,cur,he,Nat.le_trans hb hb',r⟩⟩
theorem Lies.put0{w:World}{b:Nat}{T:TypeId}{x:Bx}{v u:Value}(h:Lies w b T x v u):Lies (w.setCell ⟨b,0,none⟩ (.string x.nm)) b T x v u:=heap_setCell_same _ b 0 _ _ _ h
theorem Lies.put3{w:World}{b:Nat}{T:TypeId}{x:Bx}{v u:Value}(h:Lies w b T x v u)(v':Value):Lies (w.setCell ⟨b,3,none⟩ v') b T x v' u:=heap_setCell_same _ b 3 _ _ _ h
theorem Lies.put4{w:World}{b:Nat}{T:TypeId}{x:Bx}{v u:Value}(h:Lies w b T x v u)(u':Value):Lies (w.setCell ⟨b,4,none⟩ u') b T x v u':=heap_setCell_same _ b 4 _ _ _ h
theorem Lies.other{w:World}{b q j:Nat}{T:TypeId}{x:Bx}{v u y:Value}(h:Lies w b T x v u)(hne:b≠q):Lies (w.setCell ⟨q,j,none⟩ y) b T x v u:=by
 unfold Lies;rw[heap_setCell_other _ _ _ _ hne];exact h
theorem Lies.f{w:World}{b:Nat}{T:TypeId}{x:Bx}{v u:Value}(h:Lies w b T x v u)(j:Nat):w.frozen? ⟨b,j,none⟩=false:=frozen_of_row _ _ _ _ _ h
theorem zay{x:World}{b1 e1 s1 n1 G:Nat}{v:Value}{xs:List Value}{m:Bx}{v1 u1:Value}(h:x.ownsRow b1 e1 s1 v n1 xs)(h2:Lies x G 65 m v1 u1)(hne:e1≠65):v.ownBlock≠some G:=by
 intro hk
 rcases h.2 with⟨rfl,_⟩|⟨g,cap,cur,rfl,_,hb,_⟩
 ·simp[Value.ownBlock] at hk
 ·have e:g=G:=by simpa [Value.ownBlock] using hk
  subst e;unfold Lies at h2;rw[h2] at hb;simp at hb;exact hne hb.2.symm
theorem own_cell{x:World}{B e s n g m c q j:Nat}{xs:List Value}{y:Value}(h:x.ownsRow B e s (.slice (some ⟨g,0,none⟩) m c) n xs)(hne:g≠q):(x.setCell ⟨q,j,none⟩ y).ownsRow B e s (.slice (some ⟨g,0,none⟩) m c) n xs:=by
 obtain⟨h1,h2⟩:=h;refine⟨h1,?_⟩
 rcases h2 with⟨e,hz⟩|⟨g',cap,cur,e,hB,hh,r⟩
 ·exact .inl ⟨e,hz⟩
 ·cases e;exact .inr ⟨g,_,cur,rfl,hB,(heap_setCell_other _ _ _ _ hne).trans hh,r⟩
theorem zaV{x:World}{B e s n G j:Nat}{v:Value}{xs:List Value}{y:Value}{m:Bx}{v1 u1:Value}(h:x.ownsRow B e s v n xs)(h2:Lies x G 65 m v1 u1)(hne:e≠65):(x.setCell ⟨G,j,none⟩ y).ownsRow B e s v n xs:=by
 have hr:=zay h h2 hne;obtain⟨h1,h3⟩:=id h
 rcases h3 with⟨e,hz⟩|⟨g',cap,cur,e,hB,hh,r⟩
 ·exact⟨h1,.inl ⟨e,hz⟩⟩
 ·subst e;exact own_cell h (λe=>hr (by rw[e];rfl))
theorem zaD{x x':World}{B e s n:Nat}{v:Value}{xs:List Value}{G:Nat}(h:x.ownsRow B e s v n xs)(hg:x.grownBy x' (some G))(hne:v.ownBlock≠some G):x'.ownsRow B e s v n xs:=h.kept hg (.inr hne)
def zaf(w:World)(g:Nat)(a b c d e:Value):World:=((((w.setCell ⟨g,0,none⟩ a).setCell ⟨g,1,none⟩ b).setCell ⟨g,2,none⟩ c).setCell ⟨g,3,none⟩ d).setCell ⟨g,4,none⟩ e
theorem zbV{w:World}{g:Nat}{T:TypeId}{x y:Bx}{v u v' u':Value}(h:Lies w g T x v u):Lies (zaf w g (.string y.nm) (.int .i64 y.vd) (.int .i64 y.nx) v' u') g T y v' u' :=
 heap_setCell_same _ g 4 _ _ _ (heap_setCell_same _ g 3 _ _ _ (heap_setCell_same _ g 2 _ _ _ (heap_setCell_same _ g 1 _ _ _ (heap_setCell_same _ g 0 _ _ _ h))))
theorem zdn{B:Nat}{w0 w:World}{g:Nat}{a b c d e:Value}(k:Below B w0 w)(hb:B≤g):Below B w0 (zaf w g a b c d e) :=
 ((((k.setCell (p:=⟨g,0,none⟩) hb _).setCell (p:=⟨g,1,none⟩) hb _).setCell (p:=⟨g,2,none⟩) hb _).setCell (p:=⟨g,3,none⟩) hb _).setCell (p:=⟨g,4,none⟩) hb _
theorem cell_grown(w:World)(b j:Nat)(u:Value):w.grownBy (w.setCell ⟨b,j,none⟩ u) (some b) :=
 ⟨rfl,rfl,rfl,by simp,λk _ hk=>heap_setCell_other w ⟨b,j,none⟩ k u (λe=>hk (by simp[e]))⟩
theorem zax(w:World)(g:Nat)(a b c d e:Value):w.grownBy (zaf w g a b c d e) (some g) :=
 ow.zah (ow.zah (ow.zah (ow.zah (cell_grown w g 0 a) (cell_grown _ g 1 b)) (cell_grown _ g 2 c)) (cell_grown _ g 3 d)) (cell_grown _ g 4 e)
def B0:Bx:=⟨⟨#[]⟩,0,0,[],[]⟩
def Km(w:World)(y:Bx)(v u:Value)(x:World):Prop :=
 Below w.heap.size w x∧Lies x w.heap.size 65 y v u∧Lies x (w.heap.size+1) 65 B0 (.slice none 0 0) (.slice none 0 0)∧OwnM x (w.heap.size+2) v y.ms
theorem Km.keep{w:World}{y:Bx}{v u:Value}{x x':World}(h:Km w y v u x)(hb:Below x.heap.size x x'):Km w y v u x' :=
 ⟨h.1.trans (hb.mono h.1.size),h.2.1.keep hb,h.2.2.1.keep hb,ow.own_below h.2.2.2 hb⟩
theorem own_three{x:World}{B g c i:Nat}{ms:List St}(h:OwnM x B (.slice (some ⟨g,0,none⟩) ms.length c) ms)(hi:i<ms.length){e:St}(he:ms.getD i noS=e):OwnM (((x.setCell ⟨g,i*3,none⟩ (.int .i64 e.u)).setCell ⟨g,i*3+1,none⟩ (.int .i64 e.f)).setCell ⟨g,i*3+2,none⟩ (.string e.t)) B (.slice (some ⟨g,0,none⟩) ms.length c) ms:=by
 obtain⟨h0,h1,h2⟩:=mc_at ms i hi;rw[he] at h0 h1 h2;have h':x.ownsRow B 92 3 (.slice (some ⟨g,0,none⟩) ms.length c) ms.length (mc ms):=h;have s0:=(h'.stored (i*3) (.int .i64 e.u)).1;rw[zdb h0] at s0;have s1:=(s0.stored (i*3+1) (.int .i64 e.f)).1;rw[zdb h1] at s1;have s2:=(s1.stored (i*3+2) (.string e.t)).1;rw[zdb h2] at s2;exact s2
theorem Km.put{w:World}{y:Bx}{u:Value}{x:World}{g c i:Nat}(h:Km w y (.slice (some ⟨g,0,none⟩) y.ms.length c) u x)(hi:i<y.ms.length){e:St}(he:y.ms.getD i noS=e):Km w y (.slice (some ⟨g,0,none⟩) y.ms.length c) u (((x.setCell ⟨g,i*3,none⟩ (.int .i64 e.u)).setCell ⟨g,i*3+1,none⟩ (.int .i64 e.f)).setCell ⟨g,i*3+2,none⟩ (.string e.t)):=by
 have hg:=(h.2.2.2.lt g rfl).1;have n1:w.heap.size≠g:=by omega
 have n2:w.heap.size+1≠g:=by omega
 have hB:w.heap.size≤g:=by omega
 exact⟨((h.1.setCell (p:=⟨g,i*3,none⟩) hB _).setCell (p:=⟨g,i*3+1,none⟩) hB _).setCell (p:=⟨g,i*3+2,none⟩) hB _,((h.2.1.other n1).other n1).other n1,((h.2.2.1.other n2).other n2).other n2,own_three h.2.2.2 hi he⟩
def Kk(w:World)(y:Bx)(v u:Value)(x:World):Prop:=Km w y v u x∧OwnK x (w.heap.size+2) u y.ks
theorem Kk.keep{w:World}{y:Bx}{v u:Value}{x x':World}(h:Kk w y v u x)(hb:Below x.heap.size x x'):Kk w y v u x':=⟨h.1.keep hb,ow.own_below h.2 hb⟩
theorem own_kinds{x:World}{b1 b2 e1 e2 s1 s2 n1 n2 g g2 m m2 c c2:Nat}{xs ys:List Value}(h:x.ownsRow b1 e1 s1 (.slice (some ⟨g,0,none⟩) m c) n1 xs)(h2:x.ownsRow b2 e2 s2 (.slice (some ⟨g2,0,none⟩) m2 c2) n2 ys)(hne:e1≠e2):g≠g2:=by
 intro e;subst e
 rcases h.2 with⟨e,_⟩|⟨g',cap,cur,e,_,hb,_⟩
 ·cases e
 ·cases e
  rcases h2.2 with⟨e,_⟩|⟨g',cap,cur,e,_,hb',_⟩
  ·cases e
  ·cases e;rw[hb] at hb';simp at hb';exact hne hb'.2
theorem own_far{x:World}{b1 b2 e1 e2 s1 s2 n1 n2 g2 m2 c2 j:Nat}{v y:Value}{xs ys:List Value}(h:x.ownsRow b1 e1 s1 v n1 xs)(h2:x.ownsRow b2 e2 s2 (.slice (some ⟨g2,0,none⟩) m2 c2) n2 ys)(hne:e1≠e2):(x.setCell ⟨g2,j,none⟩ y).ownsRow b1 e1 s1 v n1 xs:=by
 rcases id h.2 with⟨e,hz⟩|⟨g',cap,cur,e,_⟩
 ·exact⟨h.1,.inl ⟨e,hz⟩⟩
 ·subst e;exact own_cell h (own_kinds h h2 hne)
theorem Kk.put{w:World}{y:Bx}{v:Value}{x:World}{g c i:Nat}(h:Kk w y v (.slice (some ⟨g,0,none⟩) y.ks.length c) x)(hi:i<y.ks.length){s:ByteArray}(hs:y.ks.getD i ky.nt=s):Kk w y v (.slice (some ⟨g,0,none⟩) y.ks.length c) (x.setCell ⟨g,i,none⟩ (.string s)):=by
 have hg:=(h.2.lt g rfl).1;have n1:w.heap.size≠g:=by omega
 have n2:w.heap.size+1≠g:=by omega
 have hB:w.heap.size≤g:=by omega
 have h0:(y.ks.map Value.string)[i]?=some (.string s):=by
  rw[←hs];simp[List.getD_eq_getElem?_getD,hi]
 have h':x.ownsRow (w.heap.size+2) 9 1 (.slice (some ⟨g,0,none⟩) y.ks.length c) y.ks.length (y.ks.map Value.string):=h.2;have s0:=(h'.stored i (.string s)).1;rw[zdb h0] at s0;exact⟨⟨h.1.1.setCell (p:=⟨g,i,none⟩) hB _,h.1.2.1.other n1,h.1.2.2.1.other n2,own_far h.1.2.2.2 h.2 (by decide)⟩,s0⟩
theorem cells3{x:World}{B g c i:Nat}{ms:List St}(h:OwnM x B (.slice (some ⟨g,0,none⟩) ms.length c) ms)(hi:i<ms.length){e:St}(he:ms.getD i noS=e):x.cell? ⟨g,i*3,none⟩=some (.int .i64 e.u)∧x.cell? ⟨g,i*3+1,none⟩=some (.int .i64 e.f)∧x.cell? ⟨g,i*3+2,none⟩=some (.string e.t):=by
 obtain⟨h0,h1,h2⟩:=mc_at ms i hi;rw[he] at h0 h1 h2;have h':x.ownsRow B 92 3 (.slice (some ⟨g,0,none⟩) ms.length c) ms.length (mc ms):=h;exact⟨by rw[h'.cellAt _ (by omega),h0],by rw[h'.cellAt _ (by omega),h1],by rw[h'.cellAt _ (by omega),h2]⟩
theorem froz3{x:World}{B g c:Nat}{ms:List St}(h:OwnM x B (.slice (some ⟨g,0,none⟩) ms.length c) ms)(j:Nat):x.frozen? ⟨g,j,none⟩=false:=by
 have h':x.ownsRow B 92 3 (.slice (some ⟨g,0,none⟩) ms.length c) ms.length (mc ms):=h;exact h'.frozenAt j
theorem cell1{x:World}{B g c i:Nat}{ks:List ByteArray}(h:OwnK x B (.slice (some ⟨g,0,none⟩) ks.length c) ks)(hi:i<ks.length){s:ByteArray}(hs:ks.getD i ky.nt=s):x.cell? ⟨g,i,none⟩=some (.string s):=by
 have h':x.ownsRow B 9 1 (.slice (some ⟨g,0,none⟩) ks.length c) ks.length (ks.map Value.string):=h;rw[h'.cellAt _ (by omega),←hs];simp[List.getD_eq_getElem?_getD,hi]
theorem froz1{x:World}{B g c:Nat}{ks:List ByteArray}(h:OwnK x B (.slice (some ⟨g,0,none⟩) ks.length c) ks)(j:Nat):x.frozen? ⟨g,j,none⟩=false:=by
 have h':x.ownsRow B 9 1 (.slice (some ⟨g,0,none⟩) ks.length c) ks.length (ks.map Value.string):=h;exact h'.frozenAt j
theorem slice_of{w:World}{B e s n:Nat}{v:Value}{xs:List Value}(h:w.ownsRow B e s v n xs):∃a c,v=.slice a n c∧(0<n→∃g,a=some ⟨g,0,none⟩):=by
 rcases h.2 with⟨rfl,h0⟩|⟨g,cap,cur,rfl,_⟩
 ·exact⟨none,0,by rw[h0],λh=>by omega⟩
 ·exact⟨_,_,rfl,λ_=>⟨g,rfl⟩⟩
def Vm(M g i:Nat)(v:Value)(e:St):Nat→Option Value
 | 0=>some (.pointer (some ⟨M,0+3,none⟩))
 | 1=>some v
 | 2=>some (.int .i64 (i:Nat))
 | 3=>some (.pointer (some ⟨M,0+3,none⟩))
 | 4=>some v
 | 5=>some (.int .i64 (i:Nat))
 | 6=>some (.pointer (some ⟨g,i*3,none⟩))
 | 7=>some (.agg #[.int .i64 e.u,.int .i64 e.f,.string e.t])
 | 8=>some (.agg #[.int .i64 e.u,.int .i64 e.f,.string e.t])
 | 9=>some (.pointer (some ⟨g,i*3,none⟩))
 | _=>none
def Vk(M g i:Nat)(u:Value)(s:ByteArray):Nat→Option Value
 | 0=>some (.pointer (some ⟨M,0+4,none⟩))
 | 1=>some u
 | 2=>some (.int .i64 (i:Nat))
 | 3=>some (.string s)
 | 4=>some (.string s)
 | 5=>some (.pointer (some ⟨g,i,none⟩))
 | _=>none
theorem copiedB_any(y:Bx)(v u:Value)(N:Nat)(w:World)(h:RowsIn w N v u y.ms y.ks)(hN:N≤w.heap.size)(hv:Fine v)(hu:Fine u)(hs:Small y) :
  Calls Tryz.prog 133 #[BV y v u] w λe w'=>(∃v' u',e=.returned (BV y v' u')∧OwnM w' w.heap.size v' y.ms∧OwnK w' w.heap.size u' y.ks)∧Below w.heap.size w w':=by
 have L0:=(zan w 65 y v u).keep (new_below _ 65 #[.string ⟨#[]⟩,.int .i64 0,.int .i64 0,.slice none 0 0,.slice none 0 0]);have R0:Lies ((w.alloc (.cells #[.string y.nm,.int .i64 y.vd,.int .i64 y.nx,v,u] 65)).alloc (.cells #[.string ⟨#[]⟩,.int .i64 0,.int .i64 0,.slice none 0 0,.slice none 0 0] 65)) (w.alloc (.cells #[.string y.nm,.int .i64 y.vd,.int .i64 y.nx,v,u] 65)).heap.size 65 B0 (.slice none 0 0) (.slice none 0 0):=zan (w.alloc (.cells #[.string y.nm,.int .i64 y.vd,.int .i64 y.nx,v,u] 65)) 65 B0 (.slice none 0 0) (.slice none 0 0);have b0:Below w.heap.size w ((w.alloc (.cells #[.string y.nm,.int .i64 y.vd,.int .i64 y.nx,v,u] 65)).alloc (.cells #[.string ⟨#[]⟩,.int .i64 0,.int .i64 0,.slice none 0 0,.slice none 0 0] 65)):=(new_below w _ _).trans ((new_below _ _ _).mono (by simp));have s0:((w.alloc (.cells #[.string y.nm,.int .i64 y.vd,.int .i64 y.nx,v,u] 65)).alloc (.cells #[.string ⟨#[]⟩,.int .i64 0,.int .i64 0,.slice none 0 0,.slice none 0 0] 65)).heap.size=w.heap.size+2:=by simp
 rw[show(w.alloc (.cells #[.string y.nm,.int .i64 y.vd,.int .i64 y.nx,v,u] 65)).heap.size=w.heap.size+1 by simp] at R0;have HR:Hid (∀W,Below w.heap.size w W→RowsIn W N v u y.ms y.ks):=λW hW=>zbs h hW hN
 have HFV:Hid (Fine v∧Fine u):=⟨hv,hu⟩
 obtain⟨⟨a,cap,rfl,_⟩,⟨a1,cap1,rfl,_⟩⟩:=h;have hnm:y.nm.size≤1048576:=hs.2.1;have HS:=hD hs.2.2;clear hs hv hu;unfold BV;go_enter Tryz.func133,Tryz.ntmps133
 go_wp2_with fail
 generalize World.alloc _ _=W0 at L0 R0 b0 s0 ⊢;have HW0:=hD s0;clear s0;refine(zbz y.nm W0 hnm).mono ?_;rintro e W1 ⟨rfl,k1⟩;have L1:=L0.keep k1;have R1:=R0.keep k1;have b1:=b0.trans (k1.mono b0.size);have HZ1:=hD ((show w.heap.size+2≤W1.heap.size by have:=k1.size;have:=HW0.out;omega));clear L0 R0 b0 k1 HW0;have c0:=L1.c0;have f0:=L1.f 0;have L2:=L1.put0;have R2:Lies (W1.setCell ⟨w.heap.size,0,none⟩ (.string y.nm)) (w.heap.size+1) 65 B0 (.slice none 0 0) (.slice none 0 0):=R1.other (by omega);have b2:=b1.setCell (p:=⟨w.heap.size,0,none⟩) lR (.string y.nm);have HZ2:=hD ((show w.heap.size+2≤(W1.setCell ⟨w.heap.size,0,none⟩ (.string y.nm)).heap.size by simp;exact HZ1.out));clear R1 b1 HZ1;have c3:=L2.c3
 go_wp2_with fail
 clear c0 f0 L1;generalize W1.setCell _ _=W2 at L2 R2 b2 HZ2 c3 ⊢;clear c3;refine(cloneM_any _ N y.ms W2 (HR.out W2 b2).1 HFV.out.1 HS.out.1.1).mono ?_;rintro e W3 ⟨⟨v3,rfl,ho3⟩,k3⟩;have L3:=L2.keep k3;have R3:=R2.keep k3;have b3:=b2.trans (k3.mono b2.size);have HO3:=hD (zaM ho3 HZ2.out);have HZ3:=hD (Nat.le_trans HZ2.out k3.size);clear L2 R2 b2 k3 ho3 HZ2;have c3:=L3.c3;have f3:=L3.f 3;obtain⟨va,vc,rfl,hvg⟩:=slice_of HO3.out;have HVG:=hD hvg;clear hvg;have HK:Hid (Km w y (.slice va y.ms.length vc) (.slice a1 y.ks.length cap1) (W3.setCell ⟨w.heap.size,3,none⟩ (.slice va y.ms.length vc))):=⟨b3.setCell (p:=⟨w.heap.size,3,none⟩) lR _,L3.put3 _,R3.other (by omega),zaV HO3.out L3 (by decide)⟩
 have HZ4:=hD ((show w.heap.size+2≤(W3.setCell ⟨w.heap.size,3,none⟩ (.slice va y.ms.length vc)).heap.size by simp;exact HZ3.out));clear R3 b3 HO3 HZ3
 go_upto_region 3 with fail
 clear c3 f3 L3;generalize W3.setCell _ _=W4 at HK HZ4 ⊢;have c3:W4.cell? ⟨w.heap.size,0+3,none⟩=_:=HK.out.2.1.c3;have hml:y.ms.length≤1048576:=HS.out.1.1;go_wp2;clear c3
 go_loopw [17] (λq wr=>∃i:Nat,i≤y.ms.length∧q=.int .i64 i∧Km w y (.slice va y.ms.length vc) (.slice a1 y.ks.length cap1) wr∧w.heap.size+2≤wr.heap.size) (λq _=>y.ms.length-(intOf q).toNat)
 case atStart=>exact⟨0,Nat.zero_le _,rfl,HK.out,HZ4.out⟩
 case round =>
  clear HK HZ4;obtain⟨i,hi0,rfl,hkm,hzs⟩:=hrel;have HKR:=hD hkm;have HZS:=hD hzs;clear hkm hzs;by_cases hi:i<y.ms.length
  ·obtain⟨g,rfl⟩:=HVG.out (by omega);have hi':(i:Int)<(y.ms.length:Int):=by omega
   have hi0':(0:Int)≤(i:Int):=by omega
   have hsm:=HS.out.1.2 i hi;generalize he:y.ms.getD i noS=e at hsm;have HE:=hD he;have HCP:Hid (∀W,Calls Tryz.prog 144 #[.agg #[.int .i64 e.u,.int .i64 e.f,.string e.t]] W λr w'=>r=.returned (.agg #[.int .i64 e.u,.int .i64 e.f,.string e.t])∧Below W.heap.size W w'):=λW=>zcY e W hsm.2.2
   clear he hsm
   go_upto_region 6 with fail
   ·skip
    refine rs.zaW (by kernel_rfl) (λf=>{tmps:=#[.agg #[.string y.nm,.int .i64 y.vd,.int .i64 y.nx,.slice a y.ms.length cap,.slice a1 y.ks.length cap1],.pointer (some ⟨w.heap.size,0,none⟩),.pointer (some ⟨w.heap.size+1,0,none⟩),.int .i64 i,undef,undef,.pointer (some ⟨w.heap.size,0,none⟩),.string y.nm,.string y.nm,.pointer (some ⟨w.heap.size,0,none⟩),.pointer (some ⟨w.heap.size,3,none⟩),.slice a y.ms.length cap,.slice (some ⟨g,0,none⟩) y.ms.length vc,.pointer (some ⟨w.heap.size,3,none⟩),.pointer (some ⟨w.heap.size,3,none⟩),.slice (some ⟨g,0,none⟩) y.ms.length vc,.int .i64 y.ms.length,.int .i64 i,.bool true,.int .i64 i,f 0,f 1,f 2,f 3,f 4,f 5,f 6,f 7,f 8,f 9,u30,undef,undef,undef,undef,undef,undef,undef,undef,undef,undef,undef,undef,undef,undef,undef,undef,undef,undef,undef,undef],defers:=[]}) (rk.JK (Vm w.heap.size g i (.slice (some ⟨g,0,none⟩) y.ms.length vc) e) (Km w y (.slice (some ⟨g,0,none⟩) y.ms.length vc) (.slice a1 y.ks.length cap1))) (λk=>([u20,u21,u22,u23,u24,u25,u26,u27,u28,u29]:List Value).getD k undef) rfl ⟨λj hj=>hj.elim,HKR.out.keep bR.drew⟩ (rs.zaK (by kernel_rfl)) ?_ ?_
    ·intro i' o ho D f x hJ hall hni hcl
     match i',ho with
     | 0,ho =>
       cases ho;have HJ:=hD hJ;clear hJ hall hcl hni;refine wpOp_step rfl (λK' hK=>?_);go_simp;exact hK _ _ ⟨.pointer (some ⟨w.heap.size,0+3,none⟩),by simp[rs.upd],HJ.out.step _ (λz hz=>Option.some.inj hz) HJ.out.2⟩
     | 1,ho =>
       cases ho;have d0:D 0:=hall {on:=0,ground:=.data} (by simp) rfl;have h0:f 0=.pointer (some ⟨w.heap.size,0+3,none⟩):=hJ.1 0 d0 _ rfl;have c3:x.cell? ⟨w.heap.size,0+3,none⟩=_:=hJ.2.2.1.c3;have HJ:=hD hJ;clear hJ hall hcl hni;refine wpOp_step rfl (λK' hK=>?_);simp only[h0]
       go_wp2_with fail
       exact⟨.slice (some ⟨g,0,none⟩) y.ms.length vc,by simp[rs.upd,h0],HJ.out.step _ (λz hz=>Option.some.inj hz) HJ.out.2⟩
     | 2,ho =>
       cases ho;have HJ:=hD hJ;clear hJ hall hcl hni;refine wpOp_step rfl (λK' hK=>?_);go_simp;exact hK _ _ ⟨.int .i64 i,by simp[rs.upd],HJ.out.step _ (λz hz=>Option.some.inj hz) HJ.out.2⟩
     | 3,ho =>
       cases ho;have HJ:=hD hJ;clear hJ hall hcl hni;refine wpOp_step rfl (λK' hK=>?_);go_simp;exact hK _ _ ⟨.pointer (some ⟨w.heap.size,0+3,none⟩),by simp[rs.upd],HJ.out.step _ (λz hz=>Option.some.inj hz) HJ.out.2⟩
     | 4,ho =>
       cases ho;have d3:D 3:=hall {on:=3,ground:=.data} (by simp) rfl;have h3:f 3=.pointer (some ⟨w.heap.size,0+3,none⟩):=hJ.1 3 d3 _ rfl;have c3:x.cell? ⟨w.heap.size,0+3,none⟩=_:=hJ.2.2.1.c3;have HJ:=hD hJ;clear hJ hall hcl hni;refine wpOp_step rfl (λK' hK=>?_);simp only[h3]
       go_wp2_with fail
       exact⟨.slice (some ⟨g,0,none⟩) y.ms.length vc,by simp[rs.upd,h3],HJ.out.step _ (λz hz=>Option.some.inj hz) HJ.out.2⟩
     | 5,ho =>
       cases ho;have HJ:=hD hJ;clear hJ hall hcl hni;refine wpOp_step rfl (λK' hK=>?_);go_simp;exact hK _ _ ⟨.int .i64 i,by simp[rs.upd],HJ.out.step _ (λz hz=>Option.some.inj hz) HJ.out.2⟩
     | 6,ho =>
       cases ho;have d4:D 4:=hall {on:=4,ground:=.data} (by simp) rfl;have h4:f 4=.slice (some ⟨g,0,none⟩) y.ms.length vc:=hJ.1 4 d4 _ rfl;have d5:D 5:=hall {on:=5,ground:=.data} (by simp) rfl;have h5:f 5=.int .i64 i:=hJ.1 5 d5 _ rfl;have HJ:=hD hJ;clear hJ hall hcl hni;refine wpOp_step rfl (λK' hK=>?_);simp only[h4,h5];go_simp;exact hK _ _ ⟨.pointer (some ⟨g,i*3,none⟩),by simp[rs.upd,h4,h5],HJ.out.step _ (λz hz=>Option.some.inj hz) HJ.out.2⟩
     | 7,ho =>
       cases ho;have d6:D 6:=hall {on:=6,ground:=.data} (by simp) rfl;have h6:f 6=.pointer (some ⟨g,i*3,none⟩):=hJ.1 6 d6 _ rfl;obtain⟨q0,q1,q2⟩:=cells3 hJ.2.2.2.2 hi HE.out;have HJ:=hD hJ;clear hJ hall hcl hni;refine wpOp_step rfl (λK' hK=>?_);simp only[h6]
       go_wp2_with fail
       exact⟨.agg #[.int .i64 e.u,.int .i64 e.f,.string e.t],by simp[rs.upd,h6],HJ.out.step _ (λz hz=>Option.some.inj hz) HJ.out.2⟩
     | 8,ho =>
       cases ho;have d7:D 7:=hall {on:=7,ground:=.data} (by simp) rfl;have h7:f 7=.agg #[.int .i64 e.u,.int .i64 e.f,.string e.t]:=hJ.1 7 d7 _ rfl;have HJ:=hD hJ;clear hJ hall hcl hni;refine wpOp_step rfl (λK' hK=>?_);simp only[h7]
       go_wp2_with (go_at_call 144;refine(HCP.out _).mono ?_;rintro e w' ⟨rfl,hb⟩)
       exact⟨.agg #[.int .i64 e.u,.int .i64 e.f,.string e.t],by simp[rs.upd,h7],HJ.out.step _ (λz hz=>Option.some.inj hz) (HJ.out.2.keep hb)⟩
     | 9,ho =>
       cases ho;have d1:D 1:=hall {on:=1,ground:=.data} (by simp) rfl;have h1:f 1=.slice (some ⟨g,0,none⟩) y.ms.length vc:=hJ.1 1 d1 _ rfl;have d2:D 2:=hall {on:=2,ground:=.data} (by simp) rfl;have h2:f 2=.int .i64 i:=hJ.1 2 d2 _ rfl;have HJ:=hD hJ;clear hJ hall hcl hni;refine wpOp_step rfl (λK' hK=>?_);simp only[h1,h2];go_simp;exact hK _ _ ⟨.pointer (some ⟨g,i*3,none⟩),by simp[rs.upd,h1,h2],HJ.out.step _ (λz hz=>Option.some.inj hz) HJ.out.2⟩
     | 10,ho =>
       cases ho;have d8:D 8:=hall {on:=8,ground:=.data} (by simp) rfl;have h8:f 8=.agg #[.int .i64 e.u,.int .i64 e.f,.string e.t]:=hJ.1 8 d8 _ rfl;have d9:D 9:=hall {on:=9,ground:=.data} (by simp) rfl;have h9:f 9=.pointer (some ⟨g,i*3,none⟩):=hJ.1 9 d9 _ rfl;obtain⟨q0,q1,q2⟩:=cells3 hJ.2.2.2.2 hi HE.out;have f0:=froz3 hJ.2.2.2.2 (i*3);have f1:=froz3 hJ.2.2.2.2 (i*3+1);have f2:=froz3 hJ.2.2.2.2 (i*3+2);have HJ:=hD hJ;clear hJ hall hcl hni;refine wpOp_step rfl (λK' hK=>?_);simp only[h8,h9]
       go_wp2_with fail
       exact⟨undef,by simp[rs.upd,h8,h9],HJ.out.step _ (λz hz=>by cases hz) (HJ.out.2.put hi HE.out)⟩
     | k+11,ho=>simp at ho
    ·intro D F X hD hJ;have HX:Hid (Km w y (.slice (some ⟨g,0,none⟩) y.ms.length vc) (.slice a1 y.ks.length cap1) X∧w.heap.size+2≤X.heap.size):=⟨hJ.2,Nat.le_of_lt_succ (Nat.lt_succ_of_lt (by have h1:=(hJ.2.2.2.2.lt g rfl);have h2:=h1.1;have h3:=h1.2;omega))⟩
     clear hJ hD HKR HZS;go_wp2
     go_roundw
     case rel=>exact⟨i+1,by omega,by go_num,HX.out.1,HX.out.2⟩
     case measure=>simp[intOf];omega
  ·obtain rfl:i=y.ms.length:=by omega
   have c4:wr.cell? ⟨w.heap.size,0+4,none⟩=_:=HKR.out.2.1.c4;have hkl:y.ks.length≤1048576:=HS.out.2.1
   go_wp2_with fail
   refine(cloneK_any _ N y.ks wr (HR.out wr HKR.out.1).2 HFV.out.2 hkl).mono ?_;rintro e W5 ⟨⟨u5,rfl,ho5⟩,k5⟩;have K5:=HKR.out.keep k5;have HO5:=hD (zaM ho5 HZS.out);obtain⟨ua,uc,rfl,hug⟩:=slice_of HO5.out;have HUG:=hD hug;clear ho5 k5 HKR HZS c4 hug;have c4:=K5.2.1.c4;have f4:=K5.2.1.f 4;have HK6:Hid (Kk w y (.slice va y.ms.length vc) (.slice ua y.ks.length uc) (W5.setCell ⟨w.heap.size,4,none⟩ (.slice ua y.ks.length uc))):=⟨⟨K5.1.setCell (p:=⟨w.heap.size,4,none⟩) lR _,K5.2.1.put4 _,K5.2.2.1.other (by omega),zaV K5.2.2.2 K5.2.1 (by decide)⟩,zaV HO5.out K5.2.1 (by decide)⟩
   clear K5 HO5
   go_upto_region 9 with fail
   clear c4 f4;generalize W5.setCell _ _=W6 at HK6 ⊢;have c4:W6.cell? ⟨w.heap.size,0+4,none⟩=_:=HK6.out.1.2.1.c4;go_wp2;clear c4
   go_loopw [38] (λq wq=>∃i:Nat,i≤y.ks.length∧q=.int .i64 i∧Kk w y (.slice va y.ms.length vc) (.slice ua y.ks.length uc) wq) (λq _=>y.ks.length-(intOf q).toNat)
   case atStart=>exact⟨0,Nat.zero_le _,rfl,HK6.out⟩
   case round =>
    clear HK6;obtain⟨i,hi0,rfl,hkk⟩:=hrel;have HKR:=hD hkk;clear hkk;by_cases hi:i<y.ks.length
    ·obtain⟨g,rfl⟩:=HUG.out (by omega);have hi':(i:Int)<(y.ks.length:Int):=by omega
     have hi0':(0:Int)≤(i:Int):=by omega
     have hsm:=HS.out.2.2 i hi;generalize he:y.ks.getD i ky.nt=s at hsm;have HE:=hD he;have HCL:Hid (∀W,Calls Tryz.prog 47 #[.string s] W λr w'=>r=.returned (.string s)∧Below W.heap.size W w'):=λW=>zbz s W hsm
     have q0:=cell1 HKR.out.2 hi he;clear he hsm
     go_upto_region 12 with fail
     clear q0
     ·skip
      refine rs.zaW (by kernel_rfl) (λf=>{tmps:=#[.agg #[.string y.nm,.int .i64 y.vd,.int .i64 y.nx,.slice a y.ms.length cap,.slice a1 y.ks.length cap1],.pointer (some ⟨w.heap.size,0,none⟩),.pointer (some ⟨w.heap.size+1,0,none⟩),u3,.int .i64 i,.string s,.pointer (some ⟨w.heap.size,0,none⟩),.string y.nm,.string y.nm,.pointer (some ⟨w.heap.size,0,none⟩),.pointer (some ⟨w.heap.size,3,none⟩),.slice a y.ms.length cap,.slice va y.ms.length vc,.pointer (some ⟨w.heap.size,3,none⟩),.pointer (some ⟨w.heap.size,3,none⟩),.slice va y.ms.length vc,.int .i64 y.ms.length,.int .i64 y.ms.length,.bool false,u19,u20,u21,u22,u23,u24,u25,u26,u27,u28,u29,u30,.pointer (some ⟨w.heap.size,4,none⟩),.slice a1 y.ks.length cap1,.slice (some ⟨g,0,none⟩) y.ks.length uc,.pointer (some ⟨w.heap.size,4,none⟩),.pointer (some ⟨w.heap.size,4,none⟩),.slice (some ⟨g,0,none⟩) y.ks.length uc,.int .i64 y.ks.length,.int .i64 i,.bool true,.int .i64 i,.pointer (some ⟨g,i,none⟩),.string s,f 0,f 1,f 2,f 3,f 4,f 5,u49,undef],defers:=[]}) (rk.JK (Vk w.heap.size g i (.slice (some ⟨g,0,none⟩) y.ks.length uc) s) (Kk w y (.slice va y.ms.length vc) (.slice (some ⟨g,0,none⟩) y.ks.length uc))) (λk=>([u43,u44,u45,u46,u47,u48]:List Value).getD k undef) rfl ⟨λj hj=>hj.elim,HKR.out.keep bR.drew⟩ (rs.zaK (by kernel_rfl)) ?_ ?_
      ·intro i' o ho D f x hJ hall hni hcl
       match i',ho with
       | 0,ho =>
         cases ho;have HJ:=hD hJ;clear hJ hall hcl hni;refine wpOp_step rfl (λK' hK=>?_);go_simp;exact hK _ _ ⟨.pointer (some ⟨w.heap.size,0+4,none⟩),by simp[rs.upd],HJ.out.step _ (λz hz=>Option.some.inj hz) HJ.out.2⟩
       | 1,ho =>
         cases ho;have d0:D 0:=hall {on:=0,ground:=.data} (by simp) rfl;have h0:f 0=.pointer (some ⟨w.heap.size,0+4,none⟩):=hJ.1 0 d0 _ rfl;have c4:x.cell? ⟨w.heap.size,0+4,none⟩=_:=hJ.2.1.2.1.c4;have HJ:=hD hJ;clear hJ hall hcl hni;refine wpOp_step rfl (λK' hK=>?_);simp only[h0]
         go_wp2_with fail
         exact⟨.slice (some ⟨g,0,none⟩) y.ks.length uc,by simp[rs.upd,h0],HJ.out.step _ (λz hz=>Option.some.inj hz) HJ.out.2⟩
       | 2,ho =>
         cases ho;have HJ:=hD hJ;clear hJ hall hcl hni;refine wpOp_step rfl (λK' hK=>?_);go_simp;exact hK _ _ ⟨.int .i64 i,by simp[rs.upd],HJ.out.step _ (λz hz=>Option.some.inj hz) HJ.out.2⟩
       | 3,ho =>
         cases ho;have HJ:=hD hJ;clear hJ hall hcl hni;refine wpOp_step rfl (λK' hK=>?_);go_simp;exact hK _ _ ⟨.string s,by simp[rs.upd],HJ.out.step _ (λz hz=>Option.some.inj hz) HJ.out.2⟩
       | 4,ho =>
         cases ho;have d3:D 3:=hall {on:=3,ground:=.data} (by simp) rfl;have h3:f 3=.string s:=hJ.1 3 d3 _ rfl;have HJ:=hD hJ;clear hJ hall hcl hni;refine wpOp_step rfl (λK' hK=>?_);simp only[h3]
         go_wp2_with (go_at_call 47;refine(HCL.out _).mono ?_;rintro e w' ⟨rfl,hb⟩)
         exact⟨.string s,by simp[rs.upd,h3],HJ.out.step _ (λz hz=>Option.some.inj hz) (HJ.out.2.keep hb)⟩
       | 5,ho =>
         cases ho;have d1:D 1:=hall {on:=1,ground:=.data} (by simp) rfl;have h1:f 1=.slice (some ⟨g,0,none⟩) y.ks.length uc:=hJ.1 1 d1 _ rfl;have d2:D 2:=hall {on:=2,ground:=.data} (by simp) rfl;have h2:f 2=.int .i64 i:=hJ.1 2 d2 _ rfl;have HJ:=hD hJ;clear hJ hall hcl hni;refine wpOp_step rfl (λK' hK=>?_);simp only[h1,h2];go_simp;exact hK _ _ ⟨.pointer (some ⟨g,i,none⟩),by simp[rs.upd,h1,h2],HJ.out.step _ (λz hz=>Option.some.inj hz) HJ.out.2⟩
       | 6,ho =>
         cases ho;have d4:D 4:=hall {on:=4,ground:=.data} (by simp) rfl;have h4:f 4=.string s:=hJ.1 4 d4 _ rfl;have d5:D 5:=hall {on:=5,ground:=.data} (by simp) rfl;have h5:f 5=.pointer (some ⟨g,i,none⟩):=hJ.1 5 d5 _ rfl;have q0:=cell1 hJ.2.2 hi HE.out;have f0:=froz1 hJ.2.2 i;have HJ:=hD hJ;clear hJ hall hcl hni;refine wpOp_step rfl (λK' hK=>?_);simp only[h4,h5]
         go_wp2_with fail
         exact⟨undef,by simp[rs.upd,h4,h5],HJ.out.step _ (λz hz=>by cases hz) (HJ.out.2.put hi HE.out)⟩
       | k+7,ho=>simp at ho
      ·intro D F X hD hJ;have HX:Hid (Kk w y (.slice va y.ms.length vc) (.slice (some ⟨g,0,none⟩) y.ks.length uc) X):=hJ.2;clear hJ hD HKR;go_wp2
       go_roundw
       case rel=>exact⟨i+1,by omega,by go_num,HX.out⟩
       case measure=>simp[intOf];omega
    ·obtain rfl:i=y.ks.length:=by omega
     have L:=HKR.out.1.2.1;have R:=HKR.out.1.2.2.1;have c0:=L.c0;have c1:=L.c1;have c2:=L.c2;have c3:=L.c3;have c4:=L.c4;have r0:=R.c0;have r1:=R.c1;have r2:=R.c2;have r3:=R.c3;have r4:=R.c4;have fr:=R.f;have HE:Hid (Lies (zaf wr (w.heap.size+1) (.string y.nm) (.int .i64 y.vd) (.int .i64 y.nx) (.slice va y.ms.length vc) (.slice ua y.ks.length uc)) (w.heap.size+1) 65 y (.slice va y.ms.length vc) (.slice ua y.ks.length uc)∧Below w.heap.size w (zaf wr (w.heap.size+1) (.string y.nm) (.int .i64 y.vd) (.int .i64 y.nx) (.slice va y.ms.length vc) (.slice ua y.ks.length uc))∧OwnM (zaf wr (w.heap.size+1) (.string y.nm) (.int .i64 y.vd) (.int .i64 y.nx) (.slice va y.ms.length vc) (.slice ua y.ks.length uc)) w.heap.size (.slice va y.ms.length vc) y.ms∧OwnK (zaf wr (w.heap.size+1) (.string y.nm) (.int .i64 y.vd) (.int .i64 y.nx) (.slice va y.ms.length vc) (.slice ua y.ks.length uc)) w.heap.size (.slice ua y.ks.length uc) y.ks) :=
      ⟨zbV R,zdn HKR.out.1.1 (by omega),zaM (zaD HKR.out.1.2.2.2 (zax _ _ _ _ _ _ _) (zay HKR.out.1.2.2.2 R (by decide))) (by omega),zaM (zaD HKR.out.2 (zax _ _ _ _ _ _ _) (zay HKR.out.2 R (by decide))) (by omega)⟩
     clear L R HKR;go_wp2;change bodyPost _ _ _ _ _ (zaf wr (w.heap.size+1) (.string y.nm) (.int .i64 y.vd) (.int .i64 y.nx) (.slice va y.ms.length vc) (.slice ua y.ks.length uc));generalize zaf _ _ _ _ _ _ _=W9 at HE ⊢;have d0:=HE.out.1.c0;have d1:=HE.out.1.c1;have d2:=HE.out.1.c2;have d3:=HE.out.1.c3;have d4:=HE.out.1.c4;exact bodyPost_ret (v:=.agg #[.string y.nm,.int .i64 y.vd,.int .i64 y.nx,.slice va y.ms.length vc,.slice ua y.ks.length uc]) (by simp[results,Tryz.results133,go_sem,d0,d1,d2,d3,d4]) rfl ⟨⟨_,_,rfl,HE.out.2.2.1,HE.out.2.2.2⟩,HE.out.2.1⟩
end bx
namespace bx
open Go.ChangeShapes Go.WideShapes Go.ChangeAt Go.RowKit Go.Deep Go.Joins
open st gr
theorem infoB:(Tryz.prog.info? 65).map (λi=>(i.zero,i.size,i.bytes))=some (some (.agg #[.string ⟨#[]⟩,.int .i64 0,.int .i64 0,.slice none 0 0,.slice none 0 0]),5,80):=by kernel_rfl
def put5(cs:List Value)(o:Nat)(x:Bx)(p:Value×Value):List Value:=((((cs.set o (.string x.nm)).set (o+1) (.int .i64 x.vd)).set (o+2) (.int .i64 x.nx)).set (o+3) p.1).set (o+4) p.2
theorem put5_len(cs:List Value)(o:Nat)(x:Bx)(p:Value×Value):(put5 cs o x p).length=cs.length:=by simp[put5]
theorem put5_other{cs:List Value}{o j:Nat}{x:Bx}{p:Value×Value}(h:j<o∨o+4<j):(put5 cs o x p)[j]?=cs[j]?:=by
 unfold put5;rw[List.getElem?_set_ne (by omega),List.getElem?_set_ne (by omega),List.getElem?_set_ne (by omega),List.getElem?_set_ne (by omega),List.getElem?_set_ne (by omega)]
def In5(cs:List Value)(o:Nat)(x:Bx)(p:Value×Value):Prop:=cs[o]?=some (.string x.nm)∧cs[o+1]?=some (.int .i64 x.vd)∧cs[o+2]?=some (.int .i64 x.nx)∧cs[o+3]?=some p.1∧cs[o+4]?=some p.2
theorem put5_same{cs:List Value}{o:Nat}{x:Bx}{p:Value×Value}(h:o+4<cs.length):In5 (put5 cs o x p) o x p:=by
 unfold put5 In5;refine⟨?_,?_,?_,?_,?_⟩
 ·rw[List.getElem?_set_ne (by omega),List.getElem?_set_ne (by omega),List.getElem?_set_ne (by omega),List.getElem?_set_ne (by omega),List.getElem?_set_self (by omega)]
 ·rw[List.getElem?_set_ne (by omega),List.getElem?_set_ne (by omega),List.getElem?_set_ne (by omega),List.getElem?_set_self (by simp;omega)]
 ·rw[List.getElem?_set_ne (by omega),List.getElem?_set_ne (by omega),List.getElem?_set_self (by simp;omega)]
 ·rw[List.getElem?_set_ne (by omega),List.getElem?_set_self (by simp;omega)]
 ·rw[List.getElem?_set_self (by simp;omega)]
theorem in5_other{cs:List Value}{o q:Nat}{x y:Bx}{p r:Value×Value}(h:In5 cs q y r)(hp:q+4<o∨o+4<q):In5 (put5 cs o x p) q y r:=by
 obtain⟨h0,h1,h2,h3,h4⟩:=h;refine⟨?_,?_,?_,?_,?_⟩<;>(rw[put5_other (by omega)];assumption)
def LayB(xs:List Bx)(vs:Nat→Value×Value)(k:Nat)(cs:List Value):Prop:=∀j,j<k→In5 cs (j*5) (xs.getD j noB) (vs j)
def upd(vs:Nat→Value×Value)(k:Nat)(p:Value×Value):Nat→Value×Value:=λj=>if j=k then p else vs j
end bx
end Go.Proofs.YtmnflpmfngjllaaGreatDoor
