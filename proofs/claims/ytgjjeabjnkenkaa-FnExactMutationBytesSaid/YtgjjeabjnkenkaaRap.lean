/-
  Regions that draw their order and append to a row of bytes: what has come up, what the row holds, what lies beside it.
-/
import Derived.Test.YtgjjeabjnkenkaaRst
import Derived.Test.YtgjjeabjnkenkaaOwn
import Derived.Test.YtgjjeabjnkenkaaRows
import Derived.Below
import Derived.WalkKit
import Derived.Laws.AppendOwn
import Derived.Lib.AppendStr
import Derived.Lib.UnsafeStr
namespace Go.Proofs.Ytgjjeabjnkenkaa.ra
open Go.RowKit
set_option linter.unusedVariables false

/-- A row of bytes that a call made. -/
def Own (x : World) (B : Nat) (v : Value) (l : List UInt8) : Prop := x.ownsRow B 5 1 v l.length (Lib.byteCells l)
theorem own_form {x : World} {B : Nat} {v : Value} {l : List UInt8} (h : Own x B v l) : ∃ a n c, v = .slice a n c := by
  rcases h.2 with ⟨rfl, _⟩ | ⟨g, cap, cur, rfl, _⟩
  · exact ⟨_, _, _, rfl⟩
  · exact ⟨_, _, _, rfl⟩
theorem own_len {x : World} {B : Nat} {v : Value} {l : List UInt8} (h : Own x B v l) : ∃ a c, v = .slice a l.length c := by
  rcases h.2 with ⟨rfl, h0⟩ | ⟨g, cap, cur, rfl, _⟩
  · exact ⟨none, 0, by rw [h0]⟩
  · exact ⟨_, _, rfl⟩
/-- Bytes that another row holds, in a block from Bc on. -/
def Src (Bc : Nat) (x : World) (v : Value) (s : List UInt8) : Prop := ∃ g c, v = .slice (some ⟨g, 0, none⟩) s.length c ∧ Bc ≤ g ∧ g < x.heap.size ∧ ∀ j u, (Lib.byteCells s)[j]? = some u → x.cell? ⟨g, j, none⟩ = some u
structure Q2 where
  V : Nat → Option Value
  K : World → Prop
  B1 : Nat
  Bc : Nat
  v0 : Value
  l0 : List UInt8
  s1 : List UInt8
  s2 : List UInt8
  a1 : Nat
  a2 : Nat
  c1 : Nat
  c2 : Nat
def J2 (q : Q2) (D : Nat → Prop) (f : Nat → Value) (x : World) : Prop :=
  (∀ j, D j → ∀ y, q.V j = some y → f j = y) ∧ q.K x ∧ q.Bc ≤ x.heap.size ∧ (¬ D q.a1 → Own x q.B1 q.v0 q.l0) ∧ (D q.a1 → ¬ D q.a2 → Own x q.B1 (f q.a1) (q.l0 ++ q.s1)) ∧ (D q.a2 → Own x q.B1 (f q.a2) (q.l0 ++ q.s1 ++ q.s2)) ∧
  (D q.c1 → ¬ D q.a1 → Src q.Bc x (f q.c1) q.s1) ∧ (D q.c2 → ¬ D q.a2 → Src q.Bc x (f q.c2) q.s2)
structure Q2.Good (q : Q2) : Prop where
  below : ∀ x x', q.K x → Below x.heap.size x x' → q.K x'
  row : ∀ x x' v l, q.K x → Own x q.B1 v l → x.grownBy x' v.ownBlock → q.K x'
  far : ∀ k, q.v0.ownBlock = some k → k < q.Bc
  n12 : q.a1 ≠ q.a2
  n13 : q.a1 ≠ q.c1
  n14 : q.a1 ≠ q.c2
  n23 : q.a2 ≠ q.c1
  n24 : q.a2 ≠ q.c2
  n34 : q.c1 ≠ q.c2
theorem vals {V : Nat → Option Value} {D : Nat → Prop} {f : Nat → Value} {i : Nat} {y : Value} (h : ∀ j, D j → ∀ z, V j = some z → f j = z) (hy : ∀ z, V i = some z → y = z) : ∀ j, (j = i ∨ D j) → ∀ z, V j = some z → rs.upd f i y j = z := by
  intro j hj z hz
  by_cases e : j = i
  · subst e
    rw [rs.upd_same]
    exact hy z hz
  · rw [rs.upd_other f i y e]
    exact h j (hj.resolve_left e) z hz
theorem Src.keep {Bc : Nat} {x x' : World} {v : Value} {s : List UInt8} (h : Src Bc x v s) (hb : Below x.heap.size x x') : Src Bc x' v s := by
  obtain ⟨g, c, e, h1, h2, h3⟩ := h
  exact ⟨g, c, e, h1, Nat.lt_of_lt_of_le h2 hb.size, fun j u hu => (hb.cell (p := ⟨g, j, none⟩) h2).trans (h3 j u hu)⟩
section
variable {q : Q2} {D : Nat → Prop} {f : Nat → Value} {x x' : World} {i : Nat}
theorem J2.pure (y : Value) (h : J2 q D f x) (hy : ∀ z, q.V i = some z → y = z) (h1 : q.a1 ≠ i) (h2 : q.a2 ≠ i) (h3 : q.c1 ≠ i) (h4 : q.c2 ≠ i) : J2 q (fun j => j = i ∨ D j) (rs.upd f i y) x := by
  obtain ⟨hv, hk, hb, ha, hb1, hb2, hc1, hc2⟩ := h
  refine ⟨vals hv hy, hk, hb, fun n => ha (fun d => n (.inr d)), fun d n => ?_, fun d => ?_, fun d n => ?_, fun d n => ?_⟩
  · rw [rs.upd_other f i y h1]; exact hb1 (d.resolve_left h1) (fun d => n (.inr d))
  · rw [rs.upd_other f i y h2]; exact hb2 (d.resolve_left h2)
  · rw [rs.upd_other f i y h3]; exact hc1 (d.resolve_left h3) (fun d => n (.inr d))
  · rw [rs.upd_other f i y h4]; exact hc2 (d.resolve_left h4) (fun d => n (.inr d))
/-- The world grows. -/
theorem J2.grow (h : J2 q D f x) (hq : q.Good) (hbx : Below x.heap.size x x') : J2 q D f x' := by
  obtain ⟨hv, hk, hb, ha, hb1, hb2, hc1, hc2⟩ := h
  exact ⟨hv, hq.below x x' hk hbx, Nat.le_trans hb hbx.size, fun n => ow.own_below (ha n) hbx, fun d n => ow.own_below (hb1 d n) hbx, fun d => ow.own_below (hb2 d) hbx, fun d n => (hc1 d n).keep hbx, fun d n => (hc2 d n).keep hbx⟩
theorem src_of {B n : Nat} {v : Value} {s : List UInt8} {cs : List Value} (h : x'.ownsRow B 5 1 v n cs) (hn : n = s.length) (hcs : cs = Lib.byteCells s) (h0 : 0 < s.length) : Src B x' v s := by
  subst hn hcs
  rcases h.2 with ⟨_, hz⟩ | ⟨g, cap, cur, rfl, hB, hb, _⟩
  · omega
  · refine ⟨g, cap, rfl, hB, (Array.getElem?_eq_some_iff.1 hb).1, fun j u hu => ?_⟩
    have hj : j < s.length := by
      have := (List.getElem?_eq_some_iff.1 hu).1
      simpa [Lib.byteCells] using this
    rw [h.cellAt j (by omega), hu]
theorem Src.low {B Bc : Nat} {v : Value} {s : List UInt8} (h : Src B x v s) (hB : Bc ≤ B) : Src Bc x v s := by
  obtain ⟨g, c, e, h1, h2⟩ := h
  exact ⟨g, c, e, Nat.le_trans hB h1, h2⟩
theorem J2.call1 (y : Value) (h : J2 q D f x) (hq : q.Good) (hbx : Below x.heap.size x x') (hs : Src x.heap.size x' y q.s1) (hV : q.V q.c1 = none) : J2 q (fun j => j = q.c1 ∨ D j) (rs.upd f q.c1 y) x' := by
  have hb0 := h.2.2.1
  obtain ⟨hv, hk, hb, ha, hb1, hb2, hc1, hc2⟩ := h.grow hq hbx
  refine ⟨vals hv (fun z hz => by rw [hV] at hz; cases hz), hk, hb, fun n => ha (fun d => n (.inr d)), fun d n => ?_, fun d => ?_, fun d n => ?_, fun d n => ?_⟩
  · rw [rs.upd_other f _ y hq.n13]; exact hb1 (d.resolve_left hq.n13) (fun d => n (.inr d))
  · rw [rs.upd_other f _ y hq.n23]; exact hb2 (d.resolve_left hq.n23)
  · rw [rs.upd_same]; exact hs.low hb0
  · rw [rs.upd_other f _ y hq.n34.symm]; exact hc2 (d.resolve_left hq.n34.symm) (fun d => n (.inr d))
theorem J2.call2 (y : Value) (h : J2 q D f x) (hq : q.Good) (hbx : Below x.heap.size x x') (hs : Src x.heap.size x' y q.s2) (hV : q.V q.c2 = none) : J2 q (fun j => j = q.c2 ∨ D j) (rs.upd f q.c2 y) x' := by
  have hb0 := h.2.2.1
  obtain ⟨hv, hk, hb, ha, hb1, hb2, hc1, hc2⟩ := h.grow hq hbx
  refine ⟨vals hv (fun z hz => by rw [hV] at hz; cases hz), hk, hb, fun n => ha (fun d => n (.inr d)), fun d n => ?_, fun d => ?_, fun d n => ?_, fun d n => ?_⟩
  · rw [rs.upd_other f _ y hq.n14]; exact hb1 (d.resolve_left hq.n14) (fun d => n (.inr d))
  · rw [rs.upd_other f _ y hq.n24]; exact hb2 (d.resolve_left hq.n24)
  · rw [rs.upd_other f _ y hq.n34]; exact hc1 (d.resolve_left hq.n34) (fun d => n (.inr d))
  · rw [rs.upd_same]; exact hs.low hb0
theorem J2.app1 (y : Value) (h : J2 q D f x) (hq : q.Good) (hn : ¬ D q.a1) (hn2 : ¬ D q.a2) (hg : x.grownBy x' q.v0.ownBlock) (ho : Own x' q.B1 y (q.l0 ++ q.s1)) (hV : q.V q.a1 = none) : J2 q (fun j => j = q.a1 ∨ D j) (rs.upd f q.a1 y) x' := by
  obtain ⟨hv, hk, hb, ha, hb1, hb2, hc1, hc2⟩ := h
  refine ⟨vals hv (fun z hz => by rw [hV] at hz; cases hz), hq.row x x' _ _ hk (ha hn) hg, Nat.le_trans hb hg.size, fun n => absurd (.inl rfl) n, fun d n => ?_, fun d => absurd (d.resolve_left hq.n12.symm) hn2, fun d n => absurd (.inl rfl) n, fun d n => ?_⟩
  · rw [rs.upd_same]; exact ho
  · rw [rs.upd_other f _ y hq.n14.symm]
    obtain ⟨g, c, e, h1, h2, h3⟩ := hc2 (d.resolve_left hq.n14.symm) (fun d => n (.inr d))
    refine ⟨g, c, e, h1, Nat.lt_of_lt_of_le h2 hg.size, fun j u hu => ?_⟩
    have hne : some g ≠ q.v0.ownBlock := fun e => by have := hq.far g e.symm; omega
    rw [← h3 j u hu]
    simp only [World.cell?, hg.block g h2 hne]
theorem J2.app2 (y : Value) (h : J2 q D f x) (hq : q.Good) (d1 : D q.a1) (hn2 : ¬ D q.a2) (hg : x.grownBy x' (f q.a1).ownBlock) (ho : Own x' q.B1 y (q.l0 ++ q.s1 ++ q.s2)) (hV : q.V q.a2 = none) : J2 q (fun j => j = q.a2 ∨ D j) (rs.upd f q.a2 y) x' := by
  obtain ⟨hv, hk, hb, ha, hb1, hb2, hc1, hc2⟩ := h
  refine ⟨vals hv (fun z hz => by rw [hV] at hz; cases hz), hq.row x x' _ _ hk (hb1 d1 hn2) hg, Nat.le_trans hb hg.size, fun n => absurd (.inr d1) n, fun d n => absurd (.inl rfl) n, fun d => ?_, fun d n => absurd (.inr d1) n, fun d n => absurd (.inl rfl) n⟩
  rw [rs.upd_same]; exact ho
end
structure Q1 where
  V : Nat → Option Value
  K : World → Prop
  B1 : Nat
  v0 : Value
  l0 : List UInt8
  s1 : List UInt8
  a1 : Nat
def J1 (q : Q1) (D : Nat → Prop) (f : Nat → Value) (x : World) : Prop :=
  (∀ j, D j → ∀ y, q.V j = some y → f j = y) ∧ q.K x ∧ q.B1 ≤ x.heap.size ∧ (¬ D q.a1 → Own x q.B1 q.v0 q.l0) ∧ (D q.a1 → Own x q.B1 (f q.a1) (q.l0 ++ q.s1))
structure Q1.Good (q : Q1) : Prop where
  below : ∀ x x', q.K x → Below x.heap.size x x' → q.K x'
  row : ∀ x x' v l, q.K x → Own x q.B1 v l → x.grownBy x' v.ownBlock → q.K x'
section
variable {q : Q1} {D : Nat → Prop} {f : Nat → Value} {x x' : World} {i : Nat}
theorem J1.step (y : Value) (h : J1 q D f x) (hq : q.Good) (hy : ∀ z, q.V i = some z → y = z) (h1 : q.a1 ≠ i) (hbx : Below x.heap.size x x') : J1 q (fun j => j = i ∨ D j) (rs.upd f i y) x' := by
  obtain ⟨hv, hk, hb, ha, hb1⟩ := h
  refine ⟨vals hv hy, hq.below x x' hk hbx, Nat.le_trans hb hbx.size, fun n => ow.own_below (ha (fun d => n (.inr d))) hbx, fun d => ?_⟩
  rw [rs.upd_other f i y h1]; exact ow.own_below (hb1 (d.resolve_left h1)) hbx
theorem J1.app (y : Value) (h : J1 q D f x) (hq : q.Good) (hn : ¬ D q.a1) (hg : x.grownBy x' q.v0.ownBlock) (ho : Own x' q.B1 y (q.l0 ++ q.s1)) (hV : q.V q.a1 = none) : J1 q (fun j => j = q.a1 ∨ D j) (rs.upd f q.a1 y) x' := by
  obtain ⟨hv, hk, hb, ha, hb1⟩ := h
  refine ⟨vals hv (fun z hz => by rw [hV] at hz; cases hz), hq.row x x' _ _ hk (ha hn) hg, Nat.le_trans hb hg.size, fun n => absurd (.inl rfl) n, fun _ => ?_⟩
  rw [rs.upd_same]; exact ho
end
section
variable {P : Program} {w : World}
theorem wp_append_str {o : Oper} {a : Act} {K : Act → World → Prop} {Q : Exit → Act → World → Prop} (sl x : Operand) (t u : TypeId)
    (ho : o.op = .call { callee := .builtin .append, args := #[sl, x], argTypes := #[t, u] })
    (base : Nat) (e : TypeId) (i : TypeInfo) (ht : P.underlying t = some (.slice e)) (hu : P.underlying u = some .string) (hi : P.info? e = some i) (hz : i.zero = some (.int .u8 0))
    (hsize : i.size = 1) (hby : i.bytes = 1)
    (v : Value) (n : Nat) (xs : List Value) (hs : a.eval sl = v) (hown : w.ownsRow base e 1 v n xs) (s : ByteArray) (hx : a.eval x = .string s)
    (h63 : n + s.size ≤ maxLen) (hbytes : n + s.size ≤ 140737488355328) (hbase : base ≤ w.heap.size)
    (h : ∀ v' w', w'.ownsRow base e 1 v' (n + s.size) (xs ++ Lib.strCells s) → w.grownBy w' v.ownBlock → K (a.put o.dst v') w') : o.wp P a w K Q := by
  obtain ⟨v', w', hr, h2, h3, h4⟩ := Lib.run_append_own_string (P := P) w base t u o.type e i ht hu hi hz hsize hby v n xs hown s h63 hbytes hbase
  unfold Oper.wp execOp
  simp only [ho, resolve, invoke, builtin, Sem.run_bind, Sem.run_pure, Result.andThen_ok, List.map_toArray, List.map_cons, List.map_nil, hs, hx, hr]
  exact h v' w' h2 h3
end
theorem cells_app (l s : List UInt8) : Lib.byteCells (l ++ s) = Lib.byteCells l ++ Lib.byteCells s := by simp [Lib.byteCells]
theorem own_app {x : World} {B : Nat} {v : Value} {l : List UInt8} {n : Nat} {cs : List Value} (s : List UInt8) (h : x.ownsRow B 5 1 v (l.length + n) (Lib.byteCells l ++ cs)) (hn : n = s.length) (hcs : cs = Lib.byteCells s) : Own x B v (l ++ s) := by
  subst hn hcs
  unfold Own
  rw [List.length_append, cells_app]
  exact h
theorem add0 (g j : Nat) : (⟨g, 0, none⟩ : Addr).add j = ⟨g, j, none⟩ := by simp [Addr.add]; omega
theorem one_cells (s : List UInt8) : ∀ u ∈ Lib.byteCells s, u.oneCell' = true := by
  intro u hu
  simp [Lib.byteCells] at hu
  obtain ⟨b, _, rfl⟩ := hu
  rfl
theorem infoB8 : (Try.prog.info? 5).map (fun i => (i.zero, i.size, i.bytes)) = some (some (.int .u8 0), 1, 1) := by kernel_rfl
section
variable {q : Q2} {D : Nat → Prop} {f : Nat → Value} {x : World} {o : Oper} {a : Act} {K : Act → World → Prop} {Q : Exit → Act → World → Prop}
/-- The first append, of bytes in another row. -/
theorem app1_src (s y : Operand) (ho : o.op = .call { callee := .builtin .append, args := #[s, y], argTypes := #[43, 43] }) (h : J2 q D f x) (hq : q.Good) (hn : ¬ D q.a1) (hn2 : ¬ D q.a2) (dc : D q.c1) (hs : a.eval s = q.v0) (hy : a.eval y = f q.c1) (hV : q.V q.a1 = none) (hB : q.B1 ≤ q.Bc) (hl : q.l0.length + q.s1.length ≤ 1048576)
    (hK : ∀ v' w', J2 q (fun j => j = q.a1 ∨ D j) (rs.upd f q.a1 v') w' → K (a.put o.dst v') w') : o.wp Try.prog a x K Q := by
  obtain ⟨i0, hi, hz0, hz1, hz2⟩ := info_parts infoB8
  obtain ⟨g, c, e, h1, h2, h3⟩ := h.2.2.2.2.2.2.1 dc hn
  refine wp_append_own x s y 43 ho q.B1 5 i0 _ 1 1 Try.underlying43 hi hz0 hz1 hz2 rfl (by decide) q.v0 q.l0.length (Lib.byteCells q.l0) hs (h.2.2.2.1 hn) ⟨g, 0, none⟩ q.s1.length c (Lib.byteCells q.s1) (hy.trans e) (by simp [Lib.byteCells]) (fun j u hu => by rw [add0]; exact h3 j u hu) (one_cells _) (by unfold maxLen; omega) (by omega) (Nat.le_trans hB h.2.2.1) ?_
  intro v' w' hown hg _
  exact hK v' w' (h.app1 v' hq hn hn2 hg (own_app _ hown rfl rfl) hV)
theorem app1_str (s y : Operand) (b : ByteArray) (ho : o.op = .call { callee := .builtin .append, args := #[s, y], argTypes := #[43, 9] }) (h : J2 q D f x) (hq : q.Good) (hn : ¬ D q.a1) (hn2 : ¬ D q.a2) (hs : a.eval s = q.v0) (hy : a.eval y = .string b) (hb : q.s1 = b.data.toList) (hV : q.V q.a1 = none) (hB : q.B1 ≤ q.Bc) (hl : q.l0.length + b.size ≤ 1048576)
    (hK : ∀ v' w', J2 q (fun j => j = q.a1 ∨ D j) (rs.upd f q.a1 v') w' → K (a.put o.dst v') w') : o.wp Try.prog a x K Q := by
  obtain ⟨i0, hi, hz0, hz1, hz2⟩ := info_parts infoB8
  refine wp_append_str s y 43 9 ho q.B1 5 i0 Try.underlying43 Try.underlying9 hi hz0 hz1 hz2 q.v0 q.l0.length (Lib.byteCells q.l0) hs (h.2.2.2.1 hn) b hy (by unfold maxLen; omega) (by omega) (Nat.le_trans hB h.2.2.1) ?_
  intro v' w' hown hg
  exact hK v' w' (h.app1 v' hq hn hn2 hg (own_app _ hown (by rw [hb]; rfl) (by rw [hb]; rfl)) hV)
theorem app2_src (s y : Operand) (ho : o.op = .call { callee := .builtin .append, args := #[s, y], argTypes := #[43, 43] }) (h : J2 q D f x) (hq : q.Good) (d1 : D q.a1) (hn2 : ¬ D q.a2) (dc : D q.c2) (hs : a.eval s = f q.a1) (hy : a.eval y = f q.c2) (hV : q.V q.a2 = none) (hB : q.B1 ≤ q.Bc) (hl : q.l0.length + q.s1.length + q.s2.length ≤ 1048576)
    (hK : ∀ v' w', J2 q (fun j => j = q.a2 ∨ D j) (rs.upd f q.a2 v') w' → K (a.put o.dst v') w') : o.wp Try.prog a x K Q := by
  obtain ⟨i0, hi, hz0, hz1, hz2⟩ := info_parts infoB8
  obtain ⟨g, c, e, h1, h2, h3⟩ := h.2.2.2.2.2.2.2 dc hn2
  refine wp_append_own x s y 43 ho q.B1 5 i0 _ 1 1 Try.underlying43 hi hz0 hz1 hz2 rfl (by decide) (f q.a1) (q.l0 ++ q.s1).length (Lib.byteCells (q.l0 ++ q.s1)) hs (h.2.2.2.2.1 d1 hn2) ⟨g, 0, none⟩ q.s2.length c (Lib.byteCells q.s2) (hy.trans e) (by simp [Lib.byteCells]) (fun j u hu => by rw [add0]; exact h3 j u hu) (one_cells _) (by rw [List.length_append]; unfold maxLen; omega) (by rw [List.length_append]; omega) (Nat.le_trans hB h.2.2.1) ?_
  intro v' w' hown hg _
  exact hK v' w' (h.app2 v' hq d1 hn2 hg (own_app _ hown rfl rfl) hV)
theorem app2_str (s y : Operand) (b : ByteArray) (ho : o.op = .call { callee := .builtin .append, args := #[s, y], argTypes := #[43, 9] }) (h : J2 q D f x) (hq : q.Good) (d1 : D q.a1) (hn2 : ¬ D q.a2) (hs : a.eval s = f q.a1) (hy : a.eval y = .string b) (hb : q.s2 = b.data.toList) (hV : q.V q.a2 = none) (hB : q.B1 ≤ q.Bc) (hl : q.l0.length + q.s1.length + b.size ≤ 1048576)
    (hK : ∀ v' w', J2 q (fun j => j = q.a2 ∨ D j) (rs.upd f q.a2 v') w' → K (a.put o.dst v') w') : o.wp Try.prog a x K Q := by
  obtain ⟨i0, hi, hz0, hz1, hz2⟩ := info_parts infoB8
  refine wp_append_str s y 43 9 ho q.B1 5 i0 Try.underlying43 Try.underlying9 hi hz0 hz1 hz2 (f q.a1) (q.l0 ++ q.s1).length (Lib.byteCells (q.l0 ++ q.s1)) hs (h.2.2.2.2.1 d1 hn2) b hy (by rw [List.length_append]; unfold maxLen; omega) (by rw [List.length_append]; omega) (Nat.le_trans hB h.2.2.1) ?_
  intro v' w' hown hg
  exact hK v' w' (h.app2 v' hq d1 hn2 hg (own_app _ hown (by rw [hb]; rfl) (by rw [hb]; rfl)) hV)
end
theorem app_str {q : Q1} {D : Nat → Prop} {f : Nat → Value} {x : World} {o : Oper} {a : Act} {K : Act → World → Prop} {Q : Exit → Act → World → Prop} (s y : Operand) (b : ByteArray) (ho : o.op = .call { callee := .builtin .append, args := #[s, y], argTypes := #[43, 9] }) (h : J1 q D f x) (hq : q.Good) (hn : ¬ D q.a1) (hs : a.eval s = q.v0) (hy : a.eval y = .string b) (hb : q.s1 = b.data.toList) (hV : q.V q.a1 = none) (hl : q.l0.length + b.size ≤ 1048576)
    (hK : ∀ v' w', J1 q (fun j => j = q.a1 ∨ D j) (rs.upd f q.a1 v') w' → K (a.put o.dst v') w') : o.wp Try.prog a x K Q := by
  obtain ⟨i0, hi, hz0, hz1, hz2⟩ := info_parts infoB8
  refine wp_append_str s y 43 9 ho q.B1 5 i0 Try.underlying43 Try.underlying9 hi hz0 hz1 hz2 q.v0 q.l0.length (Lib.byteCells q.l0) hs (h.2.2.2.1 hn) b hy (by unfold maxLen; omega) (by omega) h.2.2.1 ?_
  intro v' w' hown hg
  exact hK v' w' (h.app v' hq hn hg (own_app _ hown (by rw [hb]; rfl) (by rw [hb]; rfl)) hV)
/-- A slot that takes another's value, and held v ahead. -/
def Tie (z a : Nat) (v : Value) (D : Nat → Prop) (f : Nat → Value) : Prop := (D z → f z = f a) ∧ (¬ D z → f z = v)
theorem tie_other {z a i : Nat} {v : Value} {D : Nat → Prop} {f : Nat → Value} {y : Value} (h : Tie z a v D f) (hz : z ≠ i) (ha : a ≠ i) : Tie z a v (fun j => j = i ∨ D j) (rs.upd f i y) := by
  refine ⟨fun d => ?_, fun n => ?_⟩
  · rw [rs.upd_other f i y hz, rs.upd_other f i y ha]
    exact h.1 (d.resolve_left hz)
  · rw [rs.upd_other f i y hz]
    exact h.2 (fun d => n (.inr d))
theorem tie_none {z a i : Nat} {v : Value} {D : Nat → Prop} {f : Nat → Value} {y : Value} (h : Tie z a v D f) (hn : ¬ D z) (hz : z ≠ i) : Tie z a v (fun j => j = i ∨ D j) (rs.upd f i y) := by
  refine ⟨fun d => absurd (d.resolve_left hz) hn, fun n => ?_⟩
  rw [rs.upd_other f i y hz]
  exact h.2 hn
theorem tie_self {z a : Nat} {v : Value} {D : Nat → Prop} {f : Nat → Value} (hza : a ≠ z) : Tie z a v (fun j => j = z ∨ D j) (rs.upd f z (f a)) := by
  refine ⟨fun _ => ?_, fun n => absurd (.inl rfl) n⟩
  rw [rs.upd_same, rs.upd_other f z _ hza]
end Go.Proofs.Ytgjjeabjnkenkaa.ra
