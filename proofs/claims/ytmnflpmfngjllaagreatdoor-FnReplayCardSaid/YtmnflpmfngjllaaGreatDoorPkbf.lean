/-
  FnReplayCardSaid
-/
import Derived.Test.YtmnflpmfngjllaaGreatDoorPkad
import Derived.Lib.UnsafeStr
import Derived.Test.YtmnflpmfngjllaaGreatDoorPkau
set_option maxHeartbeats 16000000
set_option maxRecDepth 100000
set_option linter.unusedVariables false
namespace Go.Proofs.YtmnflpmfngjllaaGreatDoor
namespace ra
open Go.RowKit
def Own(x:World)(B:Nat)(v:Value)(l:List UInt8):Prop:=x.ownsRow B 5 1 v l.length (Lib.byteCells l)
theorem own_form{x:World}{B:Nat}{v:Value}{l:List UInt8}(h:Own x B v l):∃a n c,v=.slice a n c:=by
 rcases h.2 with⟨rfl,_⟩|⟨g,cap,cur,rfl,_⟩
 ·exact⟨_,_,_,rfl⟩
 ·exact⟨_,_,_,rfl⟩
theorem zbK{x:World}{B:Nat}{v:Value}{l:List UInt8}(h:Own x B v l):∃a c,v=.slice a l.length c:=by
 rcases h.2 with⟨rfl,h0⟩|⟨g,cap,cur,rfl,_⟩
 ·exact⟨none,0,by rw[h0]⟩
 ·exact⟨_,_,rfl⟩
def Src(Bc:Nat)(x:World)(v:Value)(s:List UInt8):Prop:=∃g c,v=.slice (some ⟨g,0,none⟩) s.length c∧Bc≤g∧g<x.heap.size∧∀j u,(Lib.byteCells s)[j]?=some u→x.cell? ⟨g,j,none⟩=some u
structure Q2 where
 V:Nat→Option Value
 K:World→Prop
 B1:Nat
 Bc:Nat
 v0:Value
 l0:List UInt8
 s1:List UInt8
 s2:List UInt8
 a1:Nat
 a2:Nat
 c1:Nat
 c2:Nat
def J2(q:Q2)(D:Nat→Prop)(f:Nat→Value)(x:World):Prop :=
 (∀j,D j→∀y,q.V j=some y→f j=y)∧q.K x∧q.Bc≤x.heap.size∧(¬D q.a1→Own x q.B1 q.v0 q.l0)∧(D q.a1→¬D q.a2→Own x q.B1 (f q.a1) (q.l0++q.s1))∧(D q.a2→Own x q.B1 (f q.a2) (q.l0++q.s1++q.s2)) ∧
 (D q.c1→¬D q.a1→Src q.Bc x (f q.c1) q.s1)∧(D q.c2→¬D q.a2→Src q.Bc x (f q.c2) q.s2)
structure Q2.Good (q:Q2):Prop where
 below:∀x x',q.K x→Below x.heap.size x x'→q.K x'
 row:∀x x' v l,q.K x→Own x q.B1 v l→x.grownBy x' v.ownBlock→q.K x'
 far:∀k,q.v0.ownBlock=some k→k<q.Bc
 n12:q.a1≠q.a2
 n13:q.a1≠q.c1
 n14:q.a1≠q.c2
 n23:q.a2≠q.c1
 n24:q.a2≠q.c2
 n34:q.c1≠q.c2
theorem vals{V:Nat→Option Value}{D:Nat→Prop}{f:Nat→Value}{i:Nat}{y:Value}(h:∀j,D j→∀z,V j=some z→f j=z)(hy:∀z,V i=some z→y=z):∀j,(j=i∨D j)→∀z,V j=some z→rs.upd f i y j=z:=by
 intro j hj z hz;by_cases e:j=i
 ·subst e;rw[rs.upd_same];exact hy z hz
 ·rw[rs.zad f i y e];exact h j (hj.resolve_left e) z hz
theorem Src.keep{Bc:Nat}{x x':World}{v:Value}{s:List UInt8}(h:Src Bc x v s)(hb:Below x.heap.size x x'):Src Bc x' v s:=by
 obtain⟨g,c,e,h1,h2,h3⟩:=h;exact⟨g,c,e,h1,Nat.lt_of_lt_of_le h2 hb.size,λj u hu=>(hb.cell (p:=⟨g,j,none⟩) h2).trans (h3 j u hu)⟩
section
variable {q:Q2}{D:Nat→Prop}{f:Nat→Value}{x x':World}{i:Nat}
theorem J2.pure(y:Value)(h:J2 q D f x)(hy:∀z,q.V i=some z→y=z)(h1:q.a1≠i)(h2:q.a2≠i)(h3:q.c1≠i)(h4:q.c2≠i):J2 q (λj=>j=i∨D j) (rs.upd f i y) x:=by
 obtain⟨hv,hk,hb,ha,hb1,hb2,hc1,hc2⟩:=h;refine⟨vals hv hy,hk,hb,λn=>ha (λd=>n (.inr d)),λd n=>?_,λd=>?_,λd n=>?_,λd n=>?_⟩
 ·rw[rs.zad f i y h1];exact hb1 (d.resolve_left h1) (λd=>n (.inr d))
 ·rw[rs.zad f i y h2];exact hb2 (d.resolve_left h2)
 ·rw[rs.zad f i y h3];exact hc1 (d.resolve_left h3) (λd=>n (.inr d))
 ·rw[rs.zad f i y h4];exact hc2 (d.resolve_left h4) (λd=>n (.inr d))
theorem J2.grow(h:J2 q D f x)(hq:q.Good)(hbx:Below x.heap.size x x'):J2 q D f x':=by
 obtain⟨hv,hk,hb,ha,hb1,hb2,hc1,hc2⟩:=h;exact⟨hv,hq.below x x' hk hbx,Nat.le_trans hb hbx.size,λn=>ow.own_below (ha n) hbx,λd n=>ow.own_below (hb1 d n) hbx,λd=>ow.own_below (hb2 d) hbx,λd n=>(hc1 d n).keep hbx,λd n=>(hc2 d n).keep hbx⟩
theorem src_of{B n:Nat}{v:Value}{s:List UInt8}{cs:List Value}(h:x'.ownsRow B 5 1 v n cs)(hn:n=s.length)(hcs:cs=Lib.byteCells s)(h0:0<s.length):Src B x' v s:=by
 subst hn hcs
 rcases h.2 with⟨_,hz⟩|⟨g,cap,cur,rfl,hB,hb,_⟩
 ·omega
 ·refine⟨g,cap,rfl,hB,(Array.getElem?_eq_some_iff.1 hb).1,λj u hu=>?_⟩;have hj:j<s.length:=by
   have:=(List.getElem?_eq_some_iff.1 hu).1;simpa [Lib.byteCells] using this
  rw[h.cellAt j (by omega),hu]
theorem Src.low{B Bc:Nat}{v:Value}{s:List UInt8}(h:Src B x v s)(hB:Bc≤B):Src Bc x v s:=by
 obtain⟨g,c,e,h1,h2⟩:=h;exact⟨g,c,e,Nat.le_trans hB h1,h2⟩
theorem J2.call1(y:Value)(h:J2 q D f x)(hq:q.Good)(hbx:Below x.heap.size x x')(hs:Src x.heap.size x' y q.s1)(hV:q.V q.c1=none):J2 q (λj=>j=q.c1∨D j) (rs.upd f q.c1 y) x':=by
 have hb0:=h.2.2.1;obtain⟨hv,hk,hb,ha,hb1,hb2,hc1,hc2⟩:=h.grow hq hbx;refine⟨vals hv (λz hz=>by rw[hV] at hz;cases hz),hk,hb,λn=>ha (λd=>n (.inr d)),λd n=>?_,λd=>?_,λd n=>?_,λd n=>?_⟩
 ·rw[rs.zad f _ y hq.n13];exact hb1 (d.resolve_left hq.n13) (λd=>n (.inr d))
 ·rw[rs.zad f _ y hq.n23];exact hb2 (d.resolve_left hq.n23)
 ·rw[rs.upd_same];exact hs.low hb0
 ·rw[rs.zad f _ y hq.n34.symm];exact hc2 (d.resolve_left hq.n34.symm) (λd=>n (.inr d))
theorem J2.call2(y:Value)(h:J2 q D f x)(hq:q.Good)(hbx:Below x.heap.size x x')(hs:Src x.heap.size x' y q.s2)(hV:q.V q.c2=none):J2 q (λj=>j=q.c2∨D j) (rs.upd f q.c2 y) x':=by
 have hb0:=h.2.2.1;obtain⟨hv,hk,hb,ha,hb1,hb2,hc1,hc2⟩:=h.grow hq hbx;refine⟨vals hv (λz hz=>by rw[hV] at hz;cases hz),hk,hb,λn=>ha (λd=>n (.inr d)),λd n=>?_,λd=>?_,λd n=>?_,λd n=>?_⟩
 ·rw[rs.zad f _ y hq.n14];exact hb1 (d.resolve_left hq.n14) (λd=>n (.inr d))
 ·rw[rs.zad f _ y hq.n24];exact hb2 (d.resolve_left hq.n24)
 ·rw[rs.zad f _ y hq.n34];exact hc1 (d.resolve_left hq.n34) (λd=>n (.inr d))
 ·rw[rs.upd_same];exact hs.low hb0
theorem J2.app1(y:Value)(h:J2 q D f x)(hq:q.Good)(hn:¬D q.a1)(hn2:¬D q.a2)(hg:x.grownBy x' q.v0.ownBlock)(ho:Own x' q.B1 y (q.l0++q.s1))(hV:q.V q.a1=none):J2 q (λj=>j=q.a1∨D j) (rs.upd f q.a1 y) x':=by
 obtain⟨hv,hk,hb,ha,hb1,hb2,hc1,hc2⟩:=h;refine⟨vals hv (λz hz=>by rw[hV] at hz;cases hz),hq.row x x' _ _ hk (ha hn) hg,Nat.le_trans hb hg.size,λn=>absurd (.inl rfl) n,λd n=>?_,λd=>absurd (d.resolve_left hq.n12.symm) hn2,λd n=>absurd (.inl rfl) n,λd n=>?_⟩
 ·rw[rs.upd_same];exact ho
 ·rw[rs.zad f _ y hq.n14.symm];obtain⟨g,c,e,h1,h2,h3⟩:=hc2 (d.resolve_left hq.n14.symm) (λd=>n (.inr d));refine⟨g,c,e,h1,Nat.lt_of_lt_of_le h2 hg.size,λj u hu=>?_⟩;have hne:some g≠q.v0.ownBlock:=λe=>by have:=hq.far g e.symm;omega
  rw[←h3 j u hu];simp only[World.cell?,hg.block g h2 hne]
theorem J2.app2(y:Value)(h:J2 q D f x)(hq:q.Good)(d1:D q.a1)(hn2:¬D q.a2)(hg:x.grownBy x' (f q.a1).ownBlock)(ho:Own x' q.B1 y (q.l0++q.s1++q.s2))(hV:q.V q.a2=none):J2 q (λj=>j=q.a2∨D j) (rs.upd f q.a2 y) x':=by
 obtain⟨hv,hk,hb,ha,hb1,hb2,hc1,hc2⟩:=h;refine⟨vals hv (λz hz=>by rw[hV] at hz;cases hz),hq.row x x' _ _ hk (hb1 d1 hn2) hg,Nat.le_trans hb hg.size,λn=>absurd (.inr d1) n,λd n=>absurd (.inl rfl) n,λd=>?_,λd n=>absurd (.inr d1) n,λd n=>absurd (.inl rfl) n⟩;rw[rs.upd_same];exact ho
end
structure Q1 where
 V:Nat→Option Value
 K:World→Prop
 B1:Nat
 v0:Value
 l0:List UInt8
 s1:List UInt8
 a1:Nat
def J1(q:Q1)(D:Nat→Prop)(f:Nat→Value)(x:World):Prop :=
 (∀j,D j→∀y,q.V j=some y→f j=y)∧q.K x∧q.B1≤x.heap.size∧(¬D q.a1→Own x q.B1 q.v0 q.l0)∧(D q.a1→Own x q.B1 (f q.a1) (q.l0++q.s1))
structure Q1.Good (q:Q1):Prop where
 below:∀x x',q.K x→Below x.heap.size x x'→q.K x'
 row:∀x x' v l,q.K x→Own x q.B1 v l→x.grownBy x' v.ownBlock→q.K x'
section
variable {q:Q1}{D:Nat→Prop}{f:Nat→Value}{x x':World}{i:Nat}
theorem J1.step(y:Value)(h:J1 q D f x)(hq:q.Good)(hy:∀z,q.V i=some z→y=z)(h1:q.a1≠i)(hbx:Below x.heap.size x x'):J1 q (λj=>j=i∨D j) (rs.upd f i y) x':=by
 obtain⟨hv,hk,hb,ha,hb1⟩:=h;refine⟨vals hv hy,hq.below x x' hk hbx,Nat.le_trans hb hbx.size,λn=>ow.own_below (ha (λd=>n (.inr d))) hbx,λd=>?_⟩;rw[rs.zad f i y h1];exact ow.own_below (hb1 (d.resolve_left h1)) hbx
theorem J1.app(y:Value)(h:J1 q D f x)(hq:q.Good)(hn:¬D q.a1)(hg:x.grownBy x' q.v0.ownBlock)(ho:Own x' q.B1 y (q.l0++q.s1))(hV:q.V q.a1=none):J1 q (λj=>j=q.a1∨D j) (rs.upd f q.a1 y) x':=by
 obtain⟨hv,hk,hb,ha,hb1⟩:=h;refine⟨vals hv (λz hz=>by rw[hV] at hz;cases hz),hq.row x x' _ _ hk (ha hn) hg,Nat.le_trans hb hg.size,λn=>absurd (.inl rfl) n,λ_=>?_⟩;rw[rs.upd_same];exact ho
end
section
variable {P:Program}{w:World}
theorem zdp{o:Oper}{a:Act}{K:Act→World→Prop}{Q:Exit→Act→World→Prop}(sl x:Operand)(t u:TypeId)
  (ho:o.op=.call {callee:=.builtin .append,args:=#[sl,x],argTypes:=#[t,u]})
  (base:Nat) (e:TypeId) (i:TypeInfo) (ht:P.underlying t=some (.slice e)) (hu:P.underlying u=some .string) (hi:P.info? e=some i) (hz:i.zero=some (.int .u8 0))
  (hsize:i.size=1) (hby:i.bytes=1)
  (v:Value) (n:Nat) (xs:List Value) (hs:a.eval sl=v) (hown:w.ownsRow base e 1 v n xs) (s:ByteArray) (hx:a.eval x=.string s)
  (h63:n+s.size≤maxLen) (hbytes:n+s.size≤140737488355328) (hbase:base≤w.heap.size)
  (h:∀v' w',w'.ownsRow base e 1 v' (n+s.size) (xs++Lib.strCells s)→w.grownBy w' v.ownBlock→K (a.put o.dst v') w'):o.wp P a w K Q:=by
 obtain⟨v',w',hr,h2,h3,h4⟩:=Lib.run_append_own_string (P:=P) w base t u o.type e i ht hu hi hz hsize hby v n xs hown s h63 hbytes hbase;unfold Oper.wp execOp;simp only[ho,resolve,invoke,builtin,Sem.run_bind,Sem.run_pure,Result.andThen_ok,List.map_toArray,List.map_cons,List.map_nil,hs,hx,hr];exact h v' w' h2 h3
end
theorem cells_app(l s:List UInt8):Lib.byteCells (l++s)=Lib.byteCells l++Lib.byteCells s:=by simp[Lib.byteCells]
theorem own_app{x:World}{B:Nat}{v:Value}{l:List UInt8}{n:Nat}{cs:List Value}(s:List UInt8)(h:x.ownsRow B 5 1 v (l.length+n) (Lib.byteCells l++cs))(hn:n=s.length)(hcs:cs=Lib.byteCells s):Own x B v (l++s):=by
 subst hn hcs;unfold Own;rw[List.length_append,cells_app];exact h
theorem add0(g j:Nat):(⟨g,0,none⟩:Addr).add j=⟨g,j,none⟩:=by simp[Addr.add];omega
theorem one_cells(s:List UInt8):∀u∈Lib.byteCells s,u.oneCell'=true:=by
 intro u hu;simp[Lib.byteCells] at hu;obtain⟨b,_,rfl⟩:=hu;rfl
theorem infoB8:(Tryz.prog.info? 5).map (λi=>(i.zero,i.size,i.bytes))=some (some (.int .u8 0),1,1):=by kernel_rfl
section
variable {q:Q2}{D:Nat→Prop}{f:Nat→Value}{x:World}{o:Oper}{a:Act}{K:Act→World→Prop}{Q:Exit→Act→World→Prop}
theorem app1_src(s y:Operand)(ho:o.op=.call {callee:=.builtin .append,args:=#[s,y],argTypes:=#[22,22]})(h:J2 q D f x)(hq:q.Good)(hn:¬D q.a1)(hn2:¬D q.a2)(dc:D q.c1)(hs:a.eval s=q.v0)(hy:a.eval y=f q.c1)(hV:q.V q.a1=none)(hB:q.B1≤q.Bc)(hl:q.l0.length+q.s1.length≤1048576)
  (hK:∀v' w',J2 q (λj=>j=q.a1∨D j) (rs.upd f q.a1 v') w'→K (a.put o.dst v') w'):o.wp Tryz.prog a x K Q:=by
 obtain⟨i0,hi,hz0,hz1,hz2⟩:=info_parts infoB8;obtain⟨g,c,e,h1,h2,h3⟩:=h.2.2.2.2.2.2.1 dc hn;refine wp_append_own x s y 22 ho q.B1 5 i0 _ 1 1 Tryz.underlying22 hi hz0 hz1 hz2 rfl (by decide) q.v0 q.l0.length (Lib.byteCells q.l0) hs (h.2.2.2.1 hn) ⟨g,0,none⟩ q.s1.length c (Lib.byteCells q.s1) (hy.trans e) (by simp[Lib.byteCells]) (λj u hu=>by rw[add0];exact h3 j u hu) (one_cells _) (by unfold maxLen;omega) (by omega) (Nat.le_trans hB h.2.2.1) ?_;intro v' w' hown hg _;exact hK v' w' (h.app1 v' hq hn hn2 hg (own_app _ hown rfl rfl) hV)
theorem app1_str(s y:Operand)(b:ByteArray)(ho:o.op=.call {callee:=.builtin .append,args:=#[s,y],argTypes:=#[22,9]})(h:J2 q D f x)(hq:q.Good)(hn:¬D q.a1)(hn2:¬D q.a2)(hs:a.eval s=q.v0)(hy:a.eval y=.string b)(hb:q.s1=b.data.toList)(hV:q.V q.a1=none)(hB:q.B1≤q.Bc)(hl:q.l0.length+b.size≤1048576)
  (hK:∀v' w',J2 q (λj=>j=q.a1∨D j) (rs.upd f q.a1 v') w'→K (a.put o.dst v') w'):o.wp Tryz.prog a x K Q:=by
 obtain⟨i0,hi,hz0,hz1,hz2⟩:=info_parts infoB8;refine zdp s y 22 9 ho q.B1 5 i0 Tryz.underlying22 Tryz.underlying9 hi hz0 hz1 hz2 q.v0 q.l0.length (Lib.byteCells q.l0) hs (h.2.2.2.1 hn) b hy (by unfold maxLen;omega) (by omega) (Nat.le_trans hB h.2.2.1) ?_;intro v' w' hown hg;exact hK v' w' (h.app1 v' hq hn hn2 hg (own_app _ hown (by rw[hb];rfl) (by rw[hb];rfl)) hV)
theorem app2_src(s y:Operand)(ho:o.op=.call {callee:=.builtin .append,args:=#[s,y],argTypes:=#[22,22]})(h:J2 q D f x)(hq:q.Good)(d1:D q.a1)(hn2:¬D q.a2)(dc:D q.c2)(hs:a.eval s=f q.a1)(hy:a.eval y=f q.c2)(hV:q.V q.a2=none)(hB:q.B1≤q.Bc)(hl:q.l0.length+q.s1.length+q.s2.length≤1048576)
  (hK:∀v' w',J2 q (λj=>j=q.a2∨D j) (rs.upd f q.a2 v') w'→K (a.put o.dst v') w'):o.wp Tryz.prog a x K Q:=by
 obtain⟨i0,hi,hz0,hz1,hz2⟩:=info_parts infoB8;obtain⟨g,c,e,h1,h2,h3⟩:=h.2.2.2.2.2.2.2 dc hn2;refine wp_append_own x s y 22 ho q.B1 5 i0 _ 1 1 Tryz.underlying22 hi hz0 hz1 hz2 rfl (by decide) (f q.a1) (q.l0++q.s1).length (Lib.byteCells (q.l0++q.s1)) hs (h.2.2.2.2.1 d1 hn2) ⟨g,0,none⟩ q.s2.length c (Lib.byteCells q.s2) (hy.trans e) (by simp[Lib.byteCells]) (λj u hu=>by rw[add0];exact h3 j u hu) (one_cells _) (by rw[List.length_append];unfold maxLen;omega) (by rw[List.length_append];omega) (Nat.le_trans hB h.2.2.1) ?_;intro v' w' hown hg _;exact hK v' w' (h.app2 v' hq d1 hn2 hg (own_app _ hown rfl rfl) hV)
theorem app2_str(s y:Operand)(b:ByteArray)(ho:o.op=.call {callee:=.builtin .append,args:=#[s,y],argTypes:=#[22,9]})(h:J2 q D f x)(hq:q.Good)(d1:D q.a1)(hn2:¬D q.a2)(hs:a.eval s=f q.a1)(hy:a.eval y=.string b)(hb:q.s2=b.data.toList)(hV:q.V q.a2=none)(hB:q.B1≤q.Bc)(hl:q.l0.length+q.s1.length+b.size≤1048576)
  (hK:∀v' w',J2 q (λj=>j=q.a2∨D j) (rs.upd f q.a2 v') w'→K (a.put o.dst v') w'):o.wp Tryz.prog a x K Q:=by
 obtain⟨i0,hi,hz0,hz1,hz2⟩:=info_parts infoB8;refine zdp s y 22 9 ho q.B1 5 i0 Tryz.underlying22 Tryz.underlying9 hi hz0 hz1 hz2 (f q.a1) (q.l0++q.s1).length (Lib.byteCells (q.l0++q.s1)) hs (h.2.2.2.2.1 d1 hn2) b hy (by rw[List.length_append];unfold maxLen;omega) (by rw[List.length_append];omega) (Nat.le_trans hB h.2.2.1) ?_;intro v' w' hown hg;exact hK v' w' (h.app2 v' hq d1 hn2 hg (own_app _ hown (by rw[hb];rfl) (by rw[hb];rfl)) hV)
end
theorem app_str{q:Q1}{D:Nat→Prop}{f:Nat→Value}{x:World}{o:Oper}{a:Act}{K:Act→World→Prop}{Q:Exit→Act→World→Prop}(s y:Operand)(b:ByteArray)(ho:o.op=.call {callee:=.builtin .append,args:=#[s,y],argTypes:=#[22,9]})(h:J1 q D f x)(hq:q.Good)(hn:¬D q.a1)(hs:a.eval s=q.v0)(hy:a.eval y=.string b)(hb:q.s1=b.data.toList)(hV:q.V q.a1=none)(hl:q.l0.length+b.size≤1048576)
  (hK:∀v' w',J1 q (λj=>j=q.a1∨D j) (rs.upd f q.a1 v') w'→K (a.put o.dst v') w'):o.wp Tryz.prog a x K Q:=by
 obtain⟨i0,hi,hz0,hz1,hz2⟩:=info_parts infoB8;refine zdp s y 22 9 ho q.B1 5 i0 Tryz.underlying22 Tryz.underlying9 hi hz0 hz1 hz2 q.v0 q.l0.length (Lib.byteCells q.l0) hs (h.2.2.2.1 hn) b hy (by unfold maxLen;omega) (by omega) h.2.2.1 ?_;intro v' w' hown hg;exact hK v' w' (h.app v' hq hn hg (own_app _ hown (by rw[hb];rfl) (by rw[hb];rfl)) hV)
def Tie(z a:Nat)(v:Value)(D:Nat→Prop)(f:Nat→Value):Prop:=(D z→f z=f a)∧(¬D z→f z=v)
theorem zao{z a i:Nat}{v:Value}{D:Nat→Prop}{f:Nat→Value}{y:Value}(h:Tie z a v D f)(hz:z≠i)(ha:a≠i):Tie z a v (λj=>j=i∨D j) (rs.upd f i y):=by
 refine⟨λd=>?_,λn=>?_⟩
 ·rw[rs.zad f i y hz,rs.zad f i y ha];exact h.1 (d.resolve_left hz)
 ·rw[rs.zad f i y hz];exact h.2 (λd=>n (.inr d))
theorem zcT{z a i:Nat}{v:Value}{D:Nat→Prop}{f:Nat→Value}{y:Value}(h:Tie z a v D f)(hn:¬D z)(hz:z≠i):Tie z a v (λj=>j=i∨D j) (rs.upd f i y):=by
 refine⟨λd=>absurd (d.resolve_left hz) hn,λn=>?_⟩;rw[rs.zad f i y hz];exact h.2 hn
theorem zcU{z a:Nat}{v:Value}{D:Nat→Prop}{f:Nat→Value}(hza:a≠z):Tie z a v (λj=>j=z∨D j) (rs.upd f z (f a)):=by
 refine⟨λ_=>?_,λn=>absurd (.inl rfl) n⟩;rw[rs.upd_same,rs.zad f z _ hza]
end ra
namespace mb
open Go.RowKit
open it mu
open lg (be be_len)
def u8(z:Int):UInt8:=UInt8.ofNat z.toNat
theorem wrap8{z:Int}(h0:0≤z)(h1:z<256):IntKind.u8.wrap z=((u8 z).toNat:Int):=by
 have e:(u8 z).toNat=z.toNat:=by
  unfold u8;rw[UInt8.toNat_ofNat'];omega
 rw[e];have h256:(2:Int) ^ IntKind.u8.bits=256:=rfl;unfold IntKind.wrap;simp only[h256,show IntKind.u8.signed=false from rfl,Bool.false_and,Bool.false_eq_true,if_false];omega
theorem size_list(b:ByteArray):b.data.toList.length=b.size:=rfl
def hdB(x:Mu):List UInt8:=[u8 x.k,u8 x.m,u8 x.f,u8 (x.ps.length:Int),u8 (x.b.size:Int)]
def itB(p:Pr):List UInt8:=be 2 p.1.size++be 2 p.2.size++p.1.data.toList++p.2.data.toList
def itsB(ps:List Pr)(k:Nat):List UInt8:=(ps.take k).flatMap itB
theorem zc7{ps:List Pr}{k:Nat}(h:k<ps.length):itsB ps (k+1)=itsB ps k++itB (ps.getD k no):=by
 unfold itsB;rw[List.take_succ_eq_append_getElem h,List.flatMap_append];simp[List.getD_eq_getElem?_getD,h]
def mB(x:Mu):List UInt8:=hdB x++be 2 x.u.toNat++x.b.data.toList++itsB x.ps x.ps.length
theorem itB_len(p:Pr):(itB p).length=4+p.1.size+p.2.size:=by
 simp[itB,be_len];omega
structure Fits (x:Mu):Prop where
 k:0≤x.k∧x.k<256
 u:0≤x.u∧x.u<65536
 m:0≤x.m∧x.m<256
 f:0≤x.f∧x.f<256
 b:x.b.size≤40
 n:x.ps.length≤20
 i:∀j,j<x.ps.length→(x.ps.getD j no).1.size≤200∧(x.ps.getD j no).2.size≤4000
theorem fits_of{x:Mu}(h:mok x=true):Fits x:=by
 unfold mok at h;rw[Bool.and_eq_true,Bool.and_eq_true] at h;obtain⟨⟨h1,h2⟩,h3⟩:=h;have hn:nm.za9 x.b:=by
  unfold nmB at h1;exact ow.dof h1
 have hi:=its_of h2;have hk:=of_decide_eq_true h3;refine⟨by omega,by omega,by omega,by omega,hn.2.1,hi.1,λj hj=>?_⟩;have:=of_decide_eq_true (hi.2 j hj);exact⟨this.1.2,this.2⟩
theorem itsB_len{x:Mu}(h:Fits x):∀k,k≤x.ps.length→(itsB x.ps k).length≤k*4204
 | 0,_=>by simp[itsB]
 | k+1,hk=>by
  have h1:=itsB_len h k (by omega);have h2:=h.i k (by omega);rw[zc7 (by omega),List.length_append,itB_len];omega
theorem mB_len{x:Mu}(h:Fits x):(mB x).length≤100000:=by
 have h1:=itsB_len h x.ps.length lR;have h2:=h.n;have h3:=h.b;simp only[mB,List.length_append,be_len,size_list,hdB,List.length_cons,List.length_nil];omega
theorem bz_cells(n N:Nat):(lg.bz n N).map (Value.int .u8)=Lib.byteCells (be n N):=by
 simp[lg.bz,Lib.byteCells]
def IVar(x:World)(G:Nat)(a b:ByteArray):Prop:=x.heap[G]?=some (.cells #[.string a,.string b] 103 (0,0))
section
variable {x x':World}{G:Nat}{a b:ByteArray}
theorem IVar.c0(h:IVar x G a b):x.cell? ⟨G,0,none⟩=some (.string a):=by rw[cell_of_row _ _ 0 _ _ _ h];rfl
theorem IVar.c1(h:IVar x G a b):x.cell? ⟨G,0+1,none⟩=some (.string b):=by rw[cell_of_row _ _ _ _ _ _ h];rfl
theorem IVar.lt(h:IVar x G a b):G<x.heap.size:=(Array.getElem?_eq_some_iff.1 h).1
theorem IVar.below(h:IVar x G a b)(hb:Below x.heap.size x x'):IVar x' G a b:=(hb.block G h.lt).trans h
theorem IVar.row{B:Nat}{v:Value}{l:List UInt8}(h:IVar x G a b)(ho:ra.Own x B v l)(hg:x.grownBy x' v.ownBlock):IVar x' G a b:=by
 refine(hg.block G h.lt (λe=>?_)).trans h
 rcases ho.2 with⟨rfl,_⟩|⟨g,cap,cur,rfl,_,hb,_⟩
 ·simp[Value.ownBlock] at e
 ·have e:G=g:=by simpa [Value.ownBlock] using e
  subst e;unfold IVar at h;rw[h] at hb;simp at hb
end
def K0(w1:World)(x:World):Prop:=Below w1.heap.size w1 x
theorem K0.below{w1 x x':World}(h:K0 w1 x)(hb:Below x.heap.size x x'):K0 w1 x':=Below.trans h (hb.mono (Below.size h))
theorem K0.row{w1 x x':World}{v:Value}{l:List UInt8}(h:K0 w1 x)(ho:ra.Own x w1.heap.size v l)(hg:x.grownBy x' v.ownBlock):K0 w1 x':=Below.grown h hg (Below.size h) (λk hk=>(ho.lt k hk).1)
theorem own_five(x:World)(B:Nat)(c0 c1 c2 c3 c4:UInt8)(hB:B≤x.heap.size):ra.Own (x.alloc (.cells #[.int .u8 (c0.toNat:Int),.int .u8 (c1.toNat:Int),.int .u8 (c2.toNat:Int),.int .u8 (c3.toNat:Int),.int .u8 (c4.toNat:Int)] 5)) B (.slice (some ⟨x.heap.size,0,none⟩) 5 5) [c0,c1,c2,c3,c4] :=
 ⟨by simp[Lib.byteCells],.inr ⟨x.heap.size,5,_,rfl,hB,(MapKept.heap_alloc x _).1,Nat.le_refl _,by unfold maxLen;omega,rfl,rfl⟩⟩
end mb
end Go.Proofs.YtmnflpmfngjllaaGreatDoor
