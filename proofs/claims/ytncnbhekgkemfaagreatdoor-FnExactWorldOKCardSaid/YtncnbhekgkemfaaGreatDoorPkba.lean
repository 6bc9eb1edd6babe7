/-
  (impl.Box).mutated and impl.mutated where items are added.
  A list of boxes that is one's own, one of whose boxes grows where it lies.
-/
import Derived.Test.YtncnbhekgkemfaaGreatDoorPkaz

namespace Go.Proofs.YtncnbhekgkemfaaGreatDoor.wi
open Go.ChangeShapes Go.WideShapes Go.ChangeAt Go.RowKit Go.Deep Go.Joins
open st gr bx mx bl
set_option linter.unusedVariables false

set_option maxHeartbeats 4000000 in
set_option maxRecDepth 100000 in
theorem arm_items (y : Bx) (p q : Value) (m : mu.Mu) (iv : Value) (base : Nat) (w : World) (hm : OwnM w base p y.ms) (hk : OwnK w base q y.ks) (hbs : base ≤ w.heap.size) (hi : ItemsBy w base iv m.ps) (hs : it.Small m.ps) (hlm : y.ms.length ≤ 30) (hlk : y.ks.length ≤ 60) (hks : tx.Smalls y.ks) (hnx : 1 ≤ y.nx ∧ y.nx ≤ 1001) (hmk : m.k = 2) :
    Calls Tryz.prog 98 #[BV y p q, mu.MV m iv] w (Arm base y p q (fun y' c => add y m.ps = (y', c)) w) := by
  have HI : Hid (ItemsBy w base iv m.ps) := hi
  obtain ⟨ia, ic, rfl, hdum⟩ := hi
  clear hdum
  obtain ⟨va, vn, vc, rfl⟩ := slice_fine (own_fine hm)
  obtain ⟨ua, un, uc, rfl⟩ := slice_fine (own_fine hk)
  obtain ⟨W, hW⟩ : ∃ W, W = (((w.alloc (.cells #[.string y.nm, .int .i64 y.vd, .int .i64 y.nx, .slice va vn vc, .slice ua un uc] 99)).alloc (.cells #[.int .i64 2, .int .i64 m.u, .int .i64 m.m, .int .i64 m.f, .string m.b, .slice ia m.ps.length ic] 104)).alloc (.cells #[.string ⟨#[]⟩, .int .i64 0, .int .i64 0, .slice none 0 0, .slice none 0 0] 99)) := ⟨_, rfl⟩
  have b3 : Below w.heap.size w W := by rw [hW]; exact ((bx.new_below w _ _).alloc (by simp) _).alloc (by simp; omega) _
  have k0 : bx.Lies W w.heap.size 99 y (.slice va vn vc) (.slice ua un uc) := by
    rw [hW]; exact ((bx.lies_new w 99 y (.slice va vn vc) (.slice ua un uc)).keep (bx.new_below _ _ _)).keep (bx.new_below _ _ _)
  have k1 : mu.Lies W (w.heap.size + 1) 104 m (.slice ia m.ps.length ic) := by rw [hW, ← hmk]; exact new1 _ _ _ _
  have k2 : bx.Lies W (w.heap.size + 1 + 1) 99 B0 (.slice none 0 0) (.slice none 0 0) := by rw [hW]; exact new2 _ _ _ _
  have HD : Hid (Calls Tryz.prog 120 #[.agg #[.string y.nm, .int .i64 y.vd, .int .i64 y.nx, .slice va vn vc, .slice ua un uc], .slice ia m.ps.length ic] W (Arm base y (.slice va vn vc) (.slice ua un uc) (fun y' c => add y m.ps = (y', c)) W)) := with_any y _ _ _ m.ps base W (ow.own_below hm b3) (ow.own_below hk b3) (Nat.le_trans hbs b3.size) (by_keep HI.out b3) hs hlm hlk hks hnx
  have HP : Hid ((Value.slice va vn vc).ownBlock ≠ some (w.heap.size + 1 + 1) ∧ (Value.slice ua un uc).ownBlock ≠ some (w.heap.size + 1 + 1)) := ⟨fun e => by have := (hm.lt _ e).2; omega, fun e => by have := (hk.lt _ e).2; omega⟩
  have HK2 : Hid (bx.Lies W (w.heap.size + 1 + 1) 99 B0 (.slice none 0 0) (.slice none 0 0)) := k2
  have HB : Hid (Below w.heap.size w W) := b3
  have c0 := k0.c0
  have c1 := k0.c1
  have c2 := k0.c2
  have c3 := k0.c3
  have c4 := k0.c4
  have d0 : W.cell? ⟨w.heap.size + 1, 0, none⟩ = some (.int .i64 2) := by rw [← hmk]; exact k1.c0
  have d5 := k1.c5
  unfold BV mu.MV
  rw [hmk]
  clear hm hk b3 k0 k1 k2 HI hs hks hnx
  go_enter Tryz.func98, Tryz.ntmps98
  go_wp2_with (rw [← hW])
  clear hW
  refine HD.out.mono ?_
  rintro e X ⟨y', c, a, n, cp, a', n', cp', rfl, hR, h0, h1, hg⟩
  have RX : bx.Lies X (w.heap.size + 1 + 1) 99 B0 (.slice none 0 0) (.slice none 0 0) := lies_gr2 HK2.out hg HP.out.1 HP.out.2
  have HA : Hid (Aft base y (.slice va vn vc) (.slice ua un uc) (fun y' c => add y m.ps = (y', c)) w y' c (.slice a n cp) (.slice a' n' cp') X) :=
    ⟨hR, fun e => ⟨(h0 e).1, (h0 e).2.1, here_le (h0 e).2.2.1 HB.out.size, here_le (h0 e).2.2.2 HB.out.size⟩, h1, (gr2_below HB.out _ _).trans hg⟩
  have HV := aftv HA.out RX (by omega)
  have HV2 : Hid (AftV base y (.slice va vn vc) (.slice ua un uc) (fun y' c => add y m.ps = (y', c)) w y' c (.slice a n cp) (.slice a' n' cp') (w.heap.size + 1 + 1) (put5w X (w.heap.size + 1 + 1) (.string y'.nm) (.int .i64 y'.vd) (.int .i64 y'.nx) (.slice a n cp) (.slice a' n' cp'))) := HV
  have r0 : X.cell? ⟨w.heap.size + 1 + 1, 0, none⟩ = some (.string ⟨#[]⟩) := RX.c0
  have r1 : X.cell? ⟨w.heap.size + 1 + 1, 0 + 1, none⟩ = some (.int .i64 0) := RX.c1
  have r2 : X.cell? ⟨w.heap.size + 1 + 1, 0 + 2, none⟩ = some (.int .i64 0) := RX.c2
  have r3 := RX.c3
  have r4 := RX.c4
  have fr := RX.f
  clear RX HA HV hR h0 h1 hg HD HP HK2 HB c0 c1 c2 c3 c4 d0 d5
  go_wp2
  change bodyPost _ _ _ _ _ (put5w X (w.heap.size + 1 + 1) (.string y'.nm) (.int .i64 y'.vd) (.int .i64 y'.nx) (.slice a n cp) (.slice a' n' cp'))
  clear r0 r1 r2 r3 r4 fr
  generalize put5w X _ _ _ _ _ _ = W9 at HV2 ⊢
  have x0 := HV2.out.2.1.c0
  have x1 := HV2.out.2.1.c1
  have x2 := HV2.out.2.1.c2
  have x3 := HV2.out.2.1.c3
  have x4 := HV2.out.2.1.c4
  exact bodyPost_ret (v := .tuple #[.agg #[.string y'.nm, .int .i64 y'.vd, .int .i64 y'.nx, .slice a n cp, .slice a' n' cp'], .int .i64 c]) (by simp [results, Tryz.results98, go_sem, x0, x1, x2, x3, x4]) rfl ⟨y', c, a, n, cp, a', n', cp', rfl, HV2.out.1.1, HV2.out.1.2.1, HV2.out.1.2.2.1, HV2.out.1.2.2.2⟩
theorem imp_items (L : Value) (base : Nat) (xs : List Bx) (us : Nat → Value × Value) (m : mu.Mu) (iv : Value) (w : World) (h : OwnL w base L xs us) (hb : base ≤ w.heap.size) (hn : xs.length ≤ 1048576) (hi : ItemsBy w base iv m.ps) (hs : it.Small m.ps) (k : Nat) (hk : k < xs.length) (hp : Plc xs m.b (k : Int)) (hlm : (xs.getD k noB).ms.length ≤ 30) (hlk : (xs.getD k noB).ks.length ≤ 60) (hks : tx.Smalls (xs.getD k noB).ks) (hnx : 1 ≤ (xs.getD k noB).nx ∧ (xs.getD k noB).nx ≤ 1001) (hmk : m.k = 2) :
    Calls Tryz.prog 67 #[L, mu.MV m iv] w fun e w' => ∃ y' c us', e = .returned (.tuple #[L, .int .i64 c]) ∧ add (xs.getD k noB) m.ps = (y', c) ∧ (c = 0 → OwnL w' base L (xs.set k y') us') ∧ (c ≠ 0 → OwnL w' base L xs us) ∧ Below base w w' :=
  imp_at L base xs us m iv w h hb hn (by obtain ⟨a, c, e, _⟩ := hi; exact ⟨_, _, _, e⟩) (by rw [hmk]; decide) k hk hp _ fun X hX => arm_items _ _ _ m iv base X (ow.own_below (h.2.1 k hk).1 hX) (ow.own_below (h.2.1 k hk).2 hX) (Nat.le_trans hb hX.size) (by_keep hi hX) hs hlm hlk hks hnx hmk
end Go.Proofs.YtncnbhekgkemfaaGreatDoor.wi

namespace Go.Proofs.YtncnbhekgkemfaaGreatDoor.sa
open Go.ChangeShapes Go.WideShapes Go.ChangeAt Go.RowKit Go.Deep Go.Joins
open st gr bx mx bl wi
set_option linter.unusedVariables false

theorem set_same {l : List Value} {i : Nat} {v : Value} (h : l[i]? = some v) : l.set i v = l := by
  apply List.ext_getElem?
  intro j
  by_cases e : j = i
  · subst e
    rw [List.getElem?_set_self (List.getElem?_eq_some_iff.1 h).1, h]
  · rw [List.getElem?_set_ne (Ne.symm e)]
/-- One cell of one box, in the list's row. -/
theorem bset {xs : List Bx} {us : Nat → Value × Value} {k : Nat} (hk : k < xs.length) (b : Bx) (p : Value × Value) (hn : b.nm = (xs.getD k noB).nm) (hv : b.vd = (xs.getD k noB).vd) :
    ((((bcells xs us xs.length).set (k * 5 + 2) (.int .i64 b.nx)).set (k * 5 + 3) p.1).set (k * 5 + 4) p.2) = bcells (xs.set k b) (upd us k p) xs.length := by
  rw [← bcells_set hk hk b p]
  obtain ⟨i0, i1, i2, i3, i4⟩ := bcells_at xs us xs.length k hk
  unfold put5
  rw [hn, hv, set_same i0, set_same i1]
section
variable {x x' : World} {base g c n : Nat} {xs : List Bx} {us : Nat → Value × Value} {k : Nat}
/-- The cells of a box in the row. -/
theorem at5 (h : OwnL x base (.slice (some ⟨g, 0, none⟩) xs.length c) xs us) (hk : k < xs.length) : x.cell? ⟨g, k * 5, none⟩ = some (.string (xs.getD k noB).nm) ∧ x.cell? ⟨g, k * 5 + 1, none⟩ = some (.int .i64 (xs.getD k noB).vd) ∧ x.cell? ⟨g, k * 5 + 2, none⟩ = some (.int .i64 (xs.getD k noB).nx) ∧ x.cell? ⟨g, k * 5 + 3, none⟩ = some (us k).1 ∧ x.cell? ⟨g, k * 5 + 4, none⟩ = some (us k).2 ∧ ∀ j, x.frozen? ⟨g, j, none⟩ = false := by
  have hL : x.ownsRow base 99 5 (.slice (some ⟨g, 0, none⟩) xs.length c) xs.length (bcells xs us xs.length) := h.1
  obtain ⟨i0, i1, i2, i3, i4⟩ := bcells_at xs us xs.length k hk
  exact ⟨(hL.cellAt (k * 5) (by omega)).trans i0, (hL.cellAt (k * 5 + 1) (by omega)).trans i1, (hL.cellAt (k * 5 + 2) (by omega)).trans i2, (hL.cellAt (k * 5 + 3) (by omega)).trans i3, (hL.cellAt (k * 5 + 4) (by omega)).trans i4, fun j => hL.frozenAt j⟩
/-- A row of a box was appended to, and its cell is written: mails. -/
theorem grow_mails {Q : rf.Q} {m : St} {v' : Value} {x2 : World} (h : OwnL x base (.slice (some ⟨g, 0, none⟩) xs.length c) xs us) (hk : k < xs.length) (hbx : base ≤ x.heap.size) (hW : Q.W1 = x) (hb : Q.base = base) (he : Q.e = 110) (hs : Q.s = 3) (h0 : Q.v0 = (us k).1) (hn : Q.n = (xs.getD k noB).ms.length) (hx : Q.xs = mc (xs.getD k noB).ms) (hnew : Q.news = mc [m]) (hm : rf.Mid Q v' x2) :
    OwnL (x2.setCell ⟨g, k * 5 + 3, none⟩ v') base (.slice (some ⟨g, 0, none⟩) xs.length c) (xs.set k ⟨(xs.getD k noB).nm, (xs.getD k noB).vd, (xs.getD k noB).nx, (xs.getD k noB).ms ++ [m], (xs.getD k noB).ks⟩) (upd us k (v', (us k).2)) ∧ Below base x (x2.setCell ⟨g, k * 5 + 3, none⟩ v') := by
  obtain ⟨x1, hb1, hg, ho, hk2, ho2⟩ := hm
  rw [hW] at hb1
  rw [hb, he, hs, hn, hx, hnew] at ho
  rw [h0] at hg hk2
  have h1 := ownL_below h hb1
  obtain ⟨om, ok⟩ := h1.2.1 k hk
  have ho3 : OwnM x2 base v' ((xs.getD k noB).ms ++ [m]) := by
    unfold OwnM
    rw [mc_app, List.length_append]
    exact ho
  have ok2 : OwnK x2 base (us k).2 (xs.getD k noB).ks := row_other ok hg (rowkinds ok om (by decide))
  have g2 : Gr2 x1 x2 (us k).1.ownBlock (us k).2.ownBlock := gr2_left hg _
  have hL2 := list_gr2 h1 hk g2
  have hhere : Here x1.heap.size (us k).1 v' := by
    rcases hk2 with e | e
    · exact .inl e
    · refine .inr fun j hj => ?_
      rw [e] at hj
      cases hj
      exact Nat.le_refl _
  have hgb : base ≤ g := (hL2.lt g rfl).1
  refine ⟨list_set h1 hk g2 ho3 ok2 hhere (.inl rfl) ?_ (mk.grown_set _ _ _ _), ?_⟩
  · have hst := ((show x2.ownsRow base 99 5 (.slice (some ⟨g, 0, none⟩) xs.length c) xs.length (bcells xs us xs.length) from hL2).stored (k * 5 + 3) v').1
    unfold OwnB
    rw [show (xs.set k ⟨(xs.getD k noB).nm, (xs.getD k noB).vd, (xs.getD k noB).nx, (xs.getD k noB).ms ++ [m], (xs.getD k noB).ks⟩).length = xs.length by simp, ← bset (us := us) hk ⟨(xs.getD k noB).nm, (xs.getD k noB).vd, (xs.getD k noB).nx, (xs.getD k noB).ms ++ [m], (xs.getD k noB).ks⟩ (v', (us k).2) rfl rfl]
    obtain ⟨i0, i1, i2, i3, i4⟩ := bcells_at xs us xs.length k hk
    simp only
    rw [set_same i2]
    have i4' : ((bcells xs us xs.length).set (k * 5 + 3) v')[k * 5 + 4]? = some (us k).2 := by rw [List.getElem?_set_ne (by omega)]; exact i4
    rw [set_same i4']
    exact hst
  · exact ((hb1.mono hbx).trans ⟨g2.os, g2.tape, g2.output, g2.size, gr2_base h1.2.1 hk (Nat.le_trans hbx hb1.size) g2⟩).setCell (p := ⟨g, _, none⟩) hgb _
/-- .. keys. -/
theorem grow_keys {Q : rf.Q} {X : ByteArray} {u' : Value} {x2 : World} (h : OwnL x base (.slice (some ⟨g, 0, none⟩) xs.length c) xs us) (hk : k < xs.length) (hbx : base ≤ x.heap.size) (hW : Q.W1 = x) (hb : Q.base = base) (he : Q.e = 9) (hs : Q.s = 1) (h0 : Q.v0 = (us k).2) (hn : Q.n = (xs.getD k noB).ks.length) (hx : Q.xs = (xs.getD k noB).ks.map Value.string) (hnew : Q.news = [.string X]) (hm : rf.Mid Q u' x2) :
    OwnL (x2.setCell ⟨g, k * 5 + 4, none⟩ u') base (.slice (some ⟨g, 0, none⟩) xs.length c) (xs.set k ⟨(xs.getD k noB).nm, (xs.getD k noB).vd, (xs.getD k noB).nx, (xs.getD k noB).ms, (xs.getD k noB).ks ++ [X]⟩) (upd us k ((us k).1, u')) ∧ Below base x (x2.setCell ⟨g, k * 5 + 4, none⟩ u') := by
  obtain ⟨x1, hb1, hg, ho, hk2, ho2⟩ := hm
  rw [hW] at hb1
  rw [hb, he, hs, hn, hx, hnew] at ho
  rw [h0] at hg hk2
  have h1 := ownL_below h hb1
  obtain ⟨om, ok⟩ := h1.2.1 k hk
  have ho3 : OwnK x2 base u' ((xs.getD k noB).ks ++ [X]) := by
    unfold OwnK
    rw [List.map_append, List.length_append]
    exact ho
  have om2 : OwnM x2 base (us k).1 (xs.getD k noB).ms := row_other om hg (rowkinds om ok (by decide))
  have g2 : Gr2 x1 x2 (us k).1.ownBlock (us k).2.ownBlock := gr2_right hg _
  have hL2 := list_gr2 h1 hk g2
  have hhere : Here x1.heap.size (us k).2 u' := by
    rcases hk2 with e | e
    · exact .inl e
    · refine .inr fun j hj => ?_
      rw [e] at hj
      cases hj
      exact Nat.le_refl _
  have hgb : base ≤ g := (hL2.lt g rfl).1
  refine ⟨list_set h1 hk g2 om2 ho3 (.inl rfl) hhere ?_ (mk.grown_set _ _ _ _), ?_⟩
  · have hst := ((show x2.ownsRow base 99 5 (.slice (some ⟨g, 0, none⟩) xs.length c) xs.length (bcells xs us xs.length) from hL2).stored (k * 5 + 4) u').1
    unfold OwnB
    rw [show (xs.set k ⟨(xs.getD k noB).nm, (xs.getD k noB).vd, (xs.getD k noB).nx, (xs.getD k noB).ms, (xs.getD k noB).ks ++ [X]⟩).length = xs.length by simp, ← bset (us := us) hk ⟨(xs.getD k noB).nm, (xs.getD k noB).vd, (xs.getD k noB).nx, (xs.getD k noB).ms, (xs.getD k noB).ks ++ [X]⟩ ((us k).1, u') rfl rfl]
    obtain ⟨i0, i1, i2, i3, i4⟩ := bcells_at xs us xs.length k hk
    simp only
    rw [set_same i2, set_same i3]
    exact hst
  · exact ((hb1.mono hbx).trans ⟨g2.os, g2.tape, g2.output, g2.size, gr2_base h1.2.1 hk (Nat.le_trans hbx hb1.size) g2⟩).setCell (p := ⟨g, _, none⟩) hgb _
/-- .. the next uid. -/
theorem grow_next (h : OwnL x base (.slice (some ⟨g, 0, none⟩) xs.length c) xs us) (hk : k < xs.length) (z : Int) :
    OwnL (x.setCell ⟨g, k * 5 + 2, none⟩ (.int .i64 z)) base (.slice (some ⟨g, 0, none⟩) xs.length c) (xs.set k ⟨(xs.getD k noB).nm, (xs.getD k noB).vd, z, (xs.getD k noB).ms, (xs.getD k noB).ks⟩) (upd us k ((us k).1, (us k).2)) ∧ Below base x (x.setCell ⟨g, k * 5 + 2, none⟩ (.int .i64 z)) := by
  obtain ⟨om, ok⟩ := h.2.1 k hk
  have g2 : Gr2 x x (us k).1.ownBlock (us k).2.ownBlock := gr2_below (Below.refl _ _) _ _
  have hL2 := list_gr2 h hk g2
  have hgb : base ≤ g := (hL2.lt g rfl).1
  refine ⟨list_set h hk g2 om ok (.inl rfl) (.inl rfl) ?_ (mk.grown_set _ _ _ _), (Below.refl _ _).setCell (p := ⟨g, _, none⟩) hgb _⟩
  have hst := ((show x.ownsRow base 99 5 (.slice (some ⟨g, 0, none⟩) xs.length c) xs.length (bcells xs us xs.length) from hL2).stored (k * 5 + 2) (.int .i64 z)).1
  unfold OwnB
  rw [show (xs.set k ⟨(xs.getD k noB).nm, (xs.getD k noB).vd, z, (xs.getD k noB).ms, (xs.getD k noB).ks⟩).length = xs.length by simp, ← bset (us := us) hk ⟨(xs.getD k noB).nm, (xs.getD k noB).vd, z, (xs.getD k noB).ms, (xs.getD k noB).ks⟩ ((us k).1, (us k).2) rfl rfl]
  obtain ⟨i0, i1, i2, i3, i4⟩ := bcells_at xs us xs.length k hk
  have i3' : ((bcells xs us xs.length).set (k * 5 + 2) (.int .i64 z))[k * 5 + 3]? = some (us k).1 := by rw [List.getElem?_set_ne (by omega)]; exact i3
  have i4' : ((bcells xs us xs.length).set (k * 5 + 2) (.int .i64 z))[k * 5 + 4]? = some (us k).2 := by rw [List.getElem?_set_ne (by omega)]; exact i4
  simp only
  rw [set_same i3', set_same i4']
  exact hst
end
end Go.Proofs.YtncnbhekgkemfaaGreatDoor.sa
