/-
  impl.mutated where the box is there.
  The arms of flags and of what goes, as impl.mutated takes them.
  A region that draws its order and appends one element to a row that a field of a variable holds: what has come up of it.
  A book of keys, with what stands at a key: not 0 just at those that it was taught.
-/
import Derived.Test.YtncnbhekgkemfaaGreatDoorPkaw
import Derived.Test.YtncnbhekgkemfaaGreatDoorPkar
import Derived.Test.YtncnbhekgkemfaaGreatDoorPkaa
import Derived.Below
import Derived.WalkKit
import Derived.Test.YtncnbhekgkemfaaGreatDoorPkah

namespace Go.Proofs.YtncnbhekgkemfaaGreatDoor.bl
open Go.ChangeShapes Go.WideShapes Go.ChangeAt Go.RowKit Go.Deep Go.Joins
open st gr bx mx
set_option linter.unusedVariables false

/-- What a box's arm answers at the box's rows, from one world to another. -/
def Arm (base : Nat) (y : Bx) (p q : Value) (R : Bx → Int → Prop) (X : World) (e : Ending) (X' : World) : Prop :=
  ∃ (y' : Bx) (c : Int) (a : Option Addr) (n cp : Nat) (a' : Option Addr) (n' cp' : Nat), e = .returned (.tuple #[.agg #[.string y'.nm, .int .i64 y'.vd, .int .i64 y'.nx, .slice a n cp, .slice a' n' cp'], .int .i64 c]) ∧ R y' c ∧
    (c = 0 → OwnM X' base (.slice a n cp) y'.ms ∧ OwnK X' base (.slice a' n' cp') y'.ks ∧ Here X.heap.size p (.slice a n cp) ∧ Here X.heap.size q (.slice a' n' cp')) ∧ (c ≠ 0 → OwnM X' base p y.ms ∧ OwnK X' base q y.ks) ∧ Gr2 X X' p.ownBlock q.ownBlock

theorem here_le {N M : Nat} {v v' : Value} (h : Here N v v') (hM : M ≤ N) : Here M v v' := by
  rcases h with h | h
  · exact .inl h
  · exact .inr fun g e => Nat.le_trans hM (h g e)
theorem belowD {b : Nat} {w X : World} (h : Below b w X) : Below b w X.drew := h.drew
theorem belowA {w X : World} (h : Below w.heap.size w X) (o : Obj) : Below w.heap.size w (X.drew.alloc o) := (h.drew).alloc h.size o
/-- What is sure behind the arm, of the world it began in. -/
def Aft (base : Nat) (y : Bx) (p q : Value) (R : Bx → Int → Prop) (X : World) (y' : Bx) (c : Int) (v u : Value) (X' : World) : Prop :=
  R y' c ∧ (c = 0 → OwnM X' base v y'.ms ∧ OwnK X' base u y'.ks ∧ Here X.heap.size p v ∧ Here X.heap.size q u) ∧ (c ≠ 0 → OwnM X' base p y.ms ∧ OwnK X' base q y.ks) ∧ Gr2 X X' p.ownBlock q.ownBlock
theorem aft_drew {base : Nat} {y y' : Bx} {p q v u : Value} {R : Bx → Int → Prop} {X X' : World} {c : Int} (h1 : R y' c) (h2 : c = 0 → OwnM X' base v y'.ms ∧ OwnK X' base u y'.ks ∧ Here X.drew.heap.size p v ∧ Here X.drew.heap.size q u) (h3 : c ≠ 0 → OwnM X' base p y.ms ∧ OwnK X' base q y.ks) (h4 : Gr2 X.drew X' p.ownBlock q.ownBlock) : Aft base y p q R X y' c v u X' := ⟨h1, h2, h3, ⟨h4.os, h4.tape, h4.output, h4.size, h4.block⟩⟩
theorem aft_alloc {base : Nat} {y y' : Bx} {p q v u : Value} {R : Bx → Int → Prop} {X X' : World} {c : Int} {o : Obj} (h1 : R y' c) (h2 : c = 0 → OwnM X' base v y'.ms ∧ OwnK X' base u y'.ks ∧ Here (X.drew.alloc o).heap.size p v ∧ Here (X.drew.alloc o).heap.size q u) (h3 : c ≠ 0 → OwnM X' base p y.ms ∧ OwnK X' base q y.ks) (h4 : Gr2 (X.drew.alloc o) X' p.ownBlock q.ownBlock) : Aft base y p q R X y' c v u X' :=
  ⟨h1, fun e => ⟨(h2 e).1, (h2 e).2.1, here_le (h2 e).2.2.1 (by simp), here_le (h2 e).2.2.2 (by simp)⟩, h3, (gr2_below (w := X) (belowA (Below.refl _ X) o) _ _).trans h4⟩
/-- .. and behind a variable that is given what it answered. -/
def AftV (base : Nat) (y : Bx) (p q : Value) (R : Bx → Int → Prop) (X : World) (y' : Bx) (c : Int) (v u : Value) (G : Nat) (Y : World) : Prop := Aft base y p q R X y' c v u Y ∧ bx.Lies Y G 99 y' v u ∧ X.heap.size ≤ G
theorem aftv {base : Nat} {y y' : Bx} {p q v u : Value} {R : Bx → Int → Prop} {X X' : World} {c : Int} {G : Nat} (h : Aft base y p q R X y' c v u X') (hl : bx.Lies X' G 99 B0 (.slice none 0 0) (.slice none 0 0)) (hG : X.heap.size ≤ G) :
    AftV base y p q R X y' c v u G (put5w X' G (.string y'.nm) (.int .i64 y'.vd) (.int .i64 y'.nx) v u) := by
  obtain ⟨h1, h2, h3, h4⟩ := h
  have hput : X'.grownBy (put5w X' G (.string y'.nm) (.int .i64 y'.vd) (.int .i64 y'.nx) v u) (some G) := put5w_grown _ _ _ _ _ _ _
  refine ⟨⟨h1, fun e => ?_, fun e => ?_, ?_⟩, put5w_lies hl, hG⟩
  · obtain ⟨a, b, c, d⟩ := h2 e
    exact ⟨own_grown a hput (row_box a hl (by decide)), own_grown b hput (row_box b hl (by decide)), c, d⟩
  · obtain ⟨a, b⟩ := h3 e
    exact ⟨own_grown a hput (row_box a hl (by decide)), own_grown b hput (row_box b hl (by decide))⟩
  · exact ⟨hput.os.trans h4.os, hput.tape.trans h4.tape, hput.output.trans h4.output, Nat.le_trans h4.size hput.size, fun k hk e1 e2 => (hput.block k (Nat.lt_of_lt_of_le hk h4.size) (by intro e; cases e; omega)).trans (h4.block k hk e1 e2)⟩
theorem aft_new {base : Nat} {y y' : Bx} {p q v u : Value} {R : Bx → Int → Prop} {X X' : World} {c : Int} (h : Aft base y p q R X y' c v u X') (o : Obj) : Aft base y p q R X y' c v u (X'.alloc o) := by
  obtain ⟨h1, h2, h3, h4⟩ := h
  refine ⟨h1, fun e => ?_, fun e => ?_, h4.trans (gr2_left (World.grownBy_alloc _ _ _) _)⟩
  · obtain ⟨a, b, c, d⟩ := h2 e
    exact ⟨World.ownsRow.alloc a o, World.ownsRow.alloc b o, c, d⟩
  · obtain ⟨a, b⟩ := h3 e
    exact ⟨World.ownsRow.alloc a o, World.ownsRow.alloc b o⟩

/-- The end where the arm has a code. -/
theorem end_code {w X Y : World} {base : Nat} {L : Value} {xs : List Bx} {us : Nat → Value × Value} {k : Nat} {R : Bx → Int → Prop} {y y' : Bx} {p q v u : Value} {c : Int} (hL : OwnL X base L xs us) (hk : k < xs.length) (hy : y = xs.getD k noB) (hp : (us k).1 = p) (hq : (us k).2 = q) (hb : base ≤ w.heap.size) (hw : Below w.heap.size w X) (h : Aft base y p q R X y' c v u Y) (hc : c ≠ 0) : R y' c ∧ OwnL Y base L xs us ∧ Below base w Y := by
  obtain ⟨h1, h2, h3, h4⟩ := h
  subst hp hq hy
  have hbX : base ≤ X.heap.size := Nat.le_trans hb hw.size
  exact ⟨h1, list_kept hL hk h4 (h3 hc).1 (h3 hc).2, (hw.mono hb).trans ⟨h4.os, h4.tape, h4.output, h4.size, gr2_base hL.2.1 hk hbX h4⟩⟩
/-- The end where it has none: the list has the box. -/
theorem end_ok {w X Y : World} {base g n Lc : Nat} {xs : List Bx} {us : Nat → Value × Value} {k : Nat} {R : Bx → Int → Prop} {y y' : Bx} {p q v u : Value} (hn : n = xs.length) (hL : OwnL X base (.slice (some ⟨g, 0, none⟩) n Lc) xs us) (hk : k < xs.length) (hp : (us k).1 = p) (hq : (us k).2 = q) (hb : base ≤ w.heap.size) (hw : Below w.heap.size w X) (h : Aft base y p q R X y' 0 v u Y) :
    R y' 0 ∧ OwnL (((((Y.setCell ⟨g, k * 5, none⟩ (.string y'.nm)).setCell ⟨g, k * 5 + 1, none⟩ (.int .i64 y'.vd)).setCell ⟨g, k * 5 + 2, none⟩ (.int .i64 y'.nx)).setCell ⟨g, k * 5 + 3, none⟩ v).setCell ⟨g, k * 5 + 4, none⟩ u) base (.slice (some ⟨g, 0, none⟩) n Lc) (xs.set k y') (upd us k (v, u)) ∧ Below base w (((((Y.setCell ⟨g, k * 5, none⟩ (.string y'.nm)).setCell ⟨g, k * 5 + 1, none⟩ (.int .i64 y'.vd)).setCell ⟨g, k * 5 + 2, none⟩ (.int .i64 y'.nx)).setCell ⟨g, k * 5 + 3, none⟩ v).setCell ⟨g, k * 5 + 4, none⟩ u) := by
  obtain ⟨h1, h2, h3, h4⟩ := h
  subst hp hq hn
  obtain ⟨m1, m2, m3, m4⟩ := h2 rfl
  have hbX : base ≤ X.heap.size := Nat.le_trans hb hw.size
  have hLY : Y.ownsRow base 99 5 (.slice (some ⟨g, 0, none⟩) xs.length Lc) xs.length (bcells xs us xs.length) := list_gr2 hL hk h4
  have hgb : base ≤ g := (hLY.lt g rfl).1
  have hgr : Y.grownBy (((((Y.setCell ⟨g, k * 5, none⟩ (.string y'.nm)).setCell ⟨g, k * 5 + 1, none⟩ (.int .i64 y'.vd)).setCell ⟨g, k * 5 + 2, none⟩ (.int .i64 y'.nx)).setCell ⟨g, k * 5 + 3, none⟩ v).setCell ⟨g, k * 5 + 4, none⟩ u) (Value.slice (some ⟨g, 0, none⟩) xs.length Lc).ownBlock := ow.grown_trans (ow.grown_trans (ow.grown_trans (ow.grown_trans (mk.grown_set _ _ _ _) (mk.grown_set _ _ _ _)) (mk.grown_set _ _ _ _)) (mk.grown_set _ _ _ _)) (mk.grown_set _ _ _ _)
  refine ⟨h1, list_set hL hk h4 m1 m2 m3 m4 ?_ hgr, (((((((hw.mono hb).trans ⟨h4.os, h4.tape, h4.output, h4.size, gr2_base hL.2.1 hk hbX h4⟩).setCell (p := ⟨g, _, none⟩) hgb _).setCell (p := ⟨g, _, none⟩) hgb _).setCell (p := ⟨g, _, none⟩) hgb _).setCell (p := ⟨g, _, none⟩) hgb _).setCell (p := ⟨g, _, none⟩) hgb _)⟩
  unfold OwnB
  rw [show (xs.set k y').length = xs.length by simp, ← bcells_set hk hk y' (v, u)]
  exact (((((hLY.stored _ _).1.stored _ _).1.stored _ _).1.stored _ _).1.stored _ _).1
theorem list_cells {X Y : World} {base g n Lc : Nat} {xs : List Bx} {us : Nat → Value × Value} {k : Nat} {R : Bx → Int → Prop} {y y' : Bx} {p q v u : Value} {c : Int} (hn : n = xs.length) (hL : OwnL X base (.slice (some ⟨g, 0, none⟩) n Lc) xs us) (hk : k < xs.length) (hp : (us k).1 = p) (hq : (us k).2 = q) (h : Aft base y p q R X y' c v u Y) :
    ∃ u0 u1 u2 u3 u4, Y.cell? ⟨g, k * 5, none⟩ = some u0 ∧ Y.cell? ⟨g, k * 5 + 1, none⟩ = some u1 ∧ Y.cell? ⟨g, k * 5 + 2, none⟩ = some u2 ∧ Y.cell? ⟨g, k * 5 + 3, none⟩ = some u3 ∧ Y.cell? ⟨g, k * 5 + 4, none⟩ = some u4 ∧ ∀ j, Y.frozen? ⟨g, j, none⟩ = false := by
  obtain ⟨h1, h2, h3, h4⟩ := h
  subst hp hq hn
  have hLY : Y.ownsRow base 99 5 (.slice (some ⟨g, 0, none⟩) xs.length Lc) xs.length (bcells xs us xs.length) := list_gr2 hL hk h4
  obtain ⟨i0, i1, i2, i3, i4⟩ := bcells_at xs us xs.length k hk
  exact ⟨_, _, _, _, _, (hLY.cellAt (k * 5) (by omega)).trans i0, (hLY.cellAt (k * 5 + 1) (by omega)).trans i1, (hLY.cellAt (k * 5 + 2) (by omega)).trans i2, (hLY.cellAt (k * 5 + 3) (by omega)).trans i3, (hLY.cellAt (k * 5 + 4) (by omega)).trans i4, fun j => hLY.frozenAt j⟩

set_option maxHeartbeats 4000000 in
set_option maxRecDepth 100000 in
theorem imp_at (L : Value) (base : Nat) (xs : List Bx) (us : Nat → Value × Value) (m : mu.Mu) (iv : Value) (w : World) (h : OwnL w base L xs us) (hb : base ≤ w.heap.size) (hn : xs.length ≤ 1048576) (hiv : ∃ a n c, iv = .slice a n c) (hmk : m.k ≠ 1) (k : Nat) (hk : k < xs.length) (hp : Plc xs m.b (k : Int)) (R : Bx → Int → Prop)
    (HA : ∀ X, Below w.heap.size w X → Calls Tryz.prog 98 #[BV (xs.getD k noB) (us k).1 (us k).2, mu.MV m iv] X (Arm base (xs.getD k noB) (us k).1 (us k).2 R X)) :
    Calls Tryz.prog 67 #[L, mu.MV m iv] w fun e w' => ∃ y' c us', e = .returned (.tuple #[L, .int .i64 c]) ∧ R y' c ∧ (c = 0 → OwnL w' base L (xs.set k y') us') ∧ (c ≠ 0 → OwnL w' base L xs us) ∧ Below base w w' := by
  obtain ⟨ia, inn, ic, rfl⟩ := hiv
  obtain ⟨n, hnn⟩ : ∃ n, n = xs.length := ⟨_, rfl⟩
  have HN : Hid (n = xs.length) := hnn
  obtain ⟨g, Lc, rfl⟩ : ∃ g c, L = .slice (some ⟨g, 0, none⟩) n c := by
    rcases h.1.2 with ⟨rfl, hz⟩ | ⟨g, cap, cur, rfl, _⟩
    · omega
    · exact ⟨_, _, by rw [hnn]⟩
  obtain ⟨W, hW⟩ : ∃ W, W = w.alloc (.cells #[.int .i64 m.k, .int .i64 m.u, .int .i64 m.m, .int .i64 m.f, .string m.b, .slice ia inn ic] 104) := ⟨_, rfl⟩
  have b1 : Below w.heap.size w W := by rw [hW]; exact bx.new_below w _ _
  have k1 : mu.Lies W w.heap.size 104 m (.slice ia inn ic) := by rw [hW]; exact mu.lies_new _ _ _ _
  have HO : Hid (OwnL W base (.slice (some ⟨g, 0, none⟩) n Lc) xs us) := ownL_below h b1
  have HC : Hid (Calls Tryz.prog 61 #[.slice (some ⟨g, 0, none⟩) n Lc, .string m.b] W fun e w' => (∃ r : Int, e = .returned (.int .i64 r) ∧ Plc xs m.b r) ∧ Below W.heap.size W w') := place_any W.heap.size _ xs us m.b W (ownL_boxes HO.out) (Nat.le_refl _) hn
  have HB : Hid (Below w.heap.size w W) := b1
  have HP : Hid (Plc xs m.b (k : Int)) := hp
  have HK1 : Hid (mu.Lies W w.heap.size 104 m (.slice ia inn ic)) := k1
  have HAA : Hid (∀ X, Below w.heap.size w X → Calls Tryz.prog 98 #[BV (xs.getD k noB) (us k).1 (us k).2, mu.MV m (.slice ia inn ic)] X (Arm base (xs.getD k noB) (us k).1 (us k).2 R X)) := HA
  have d0 := k1.c0
  have d4 := k1.c4
  have hmk' : (m.k == 1) = false := by simpa using hmk
  unfold mu.MV
  clear h b1 k1 hp hmk HA hnn
  go_enter Tryz.func67, Tryz.ntmps67
  go_wp2_with (rw [← hW])
  clear hW
  refine HC.out.mono ?_
  rintro e X ⟨⟨r, rfl, hr⟩, hx⟩
  have hr1 : r = (k : Int) := plc_one hr HP.out
  subst hr1
  have HX : Hid (OwnL X base (.slice (some ⟨g, 0, none⟩) n Lc) xs us ∧ Below w.heap.size w X ∧ mu.Lies X w.heap.size 104 m (.slice ia inn ic)) := ⟨ownL_below HO.out hx, HB.out.trans (hx.mono HB.out.size), HK1.out.keep hx⟩
  clear hx HC HB d0 d4 HO HP hr HK1
  have d0 := HX.out.2.2.c0
  have d1 := HX.out.2.2.c1
  have d2 := HX.out.2.2.c2
  have d3 := HX.out.2.2.c3
  have d4 := HX.out.2.2.c4
  have d5 := HX.out.2.2.c5
  have hkn : (k : Int) < (n : Int) := by rw [HN.out]; omega
  obtain ⟨y, hy⟩ : ∃ y, y = xs.getD k noB := ⟨_, rfl⟩
  have HY : Hid (y = xs.getD k noB) := hy
  have hL : X.ownsRow base 99 5 (.slice (some ⟨g, 0, none⟩) n Lc) n (bcells xs us n) := by
    have e := HX.out.1.1
    unfold OwnB at e
    rw [← HN.out] at e
    exact e
  have hkm : k < n := by rw [HN.out]; exact hk
  obtain ⟨i0, i1, i2, i3, i4⟩ := bcells_at xs us n k hkm
  have q0 := (hL.cellAt (k * 5) (by omega)).trans i0
  have q1 := (hL.cellAt (k * 5 + 1) (by omega)).trans i1
  have q2 := (hL.cellAt (k * 5 + 2) (by omega)).trans i2
  have q3 := (hL.cellAt (k * 5 + 3) (by omega)).trans i3
  have q4 := (hL.cellAt (k * 5 + 4) (by omega)).trans i4
  rw [← hy] at q0 q1 q2
  obtain ⟨pa, pn, pc, hpp⟩ := slice_fine (own_fine (HX.out.1.2.1 k hk).1)
  obtain ⟨qa, qn, qc, hqq⟩ := slice_fine (own_fine (HX.out.1.2.1 k hk).2)
  rw [hpp] at q3
  rw [hqq] at q4
  have HU : Hid ((us k).1 = .slice pa pn pc ∧ (us k).2 = .slice qa qn qc) := ⟨hpp, hqq⟩
  clear hL i0 i1 i2 i3 i4 hy hpp hqq
  go_upto_region 6 with fail
  have HCA : Hid (∀ Z, Below w.heap.size w Z → Calls Tryz.prog 98 #[.agg #[.string y.nm, .int .i64 y.vd, .int .i64 y.nx, .slice pa pn pc, .slice qa qn qc], .agg #[.int .i64 m.k, .int .i64 m.u, .int .i64 m.m, .int .i64 m.f, .string m.b, .slice ia inn ic]] Z (Arm base y (.slice pa pn pc) (.slice qa qn qc) R Z)) := by
    have e := HAA.out
    rw [HU.out.1, HU.out.2, ← HY.out] at e
    exact e
  have HPB : Hid ((Value.slice pa pn pc).ownBlock ≠ some X.heap.size ∧ (Value.slice qa qn qc).ownBlock ≠ some X.heap.size) := by
    have e1 := (HX.out.1.2.1 k hk).1
    have e2 := (HX.out.1.2.1 k hk).2
    rw [HU.out.1] at e1
    rw [HU.out.2] at e2
    exact ⟨fun e => by have := (e1.lt _ e).2; omega, fun e => by have := (e2.lt _ e).2; omega⟩
  have hwl : w.heap.size < X.heap.size := World.block_lt_of_cell? X _ d0
  have hgl : g < X.heap.size := World.block_lt_of_cell? X _ q0
  go_region_with (first
    | (go_at_call 98; refine (HCA.out _ (belowA HX.out.2.1 _)).mono ?_; rintro e X' ⟨y', c, a, n1, cp, a', n2, cp', rfl, hR, hz, hnz, hg⟩; have HL : Hid (bx.Lies X' X.heap.size 99 B0 (.slice none 0 0) (.slice none 0 0)) := lies_gr2 (bx.lies_new X.drew 99 B0 (.slice none 0 0) (.slice none 0 0)) hg HPB.out.1 HPB.out.2; have HZ : Hid (Aft base y (.slice pa pn pc) (.slice qa qn qc) R X y' c (.slice a n1 cp) (.slice a' n2 cp') X') := aft_alloc hR hz hnz hg; clear hR hz hnz hg; have r0 : X'.cell? ⟨X.heap.size, 0, none⟩ = some (.string ⟨#[]⟩) := HL.out.c0; have r1 : X'.cell? ⟨X.heap.size, 0 + 1, none⟩ = some (.int .i64 0) := HL.out.c1; have r2 : X'.cell? ⟨X.heap.size, 0 + 2, none⟩ = some (.int .i64 0) := HL.out.c2; have r3 := HL.out.c3; have r4 := HL.out.c4; have fr := HL.out.f)
    | (go_at_call 98; refine (HCA.out _ (belowD HX.out.2.1)).mono ?_; rintro e X' ⟨y', c, a, n1, cp, a', n2, cp', rfl, hR, hz, hnz, hg⟩; have HZ : Hid (Aft base y (.slice pa pn pc) (.slice qa qn qc) R X y' c (.slice a n1 cp) (.slice a' n2 cp') X') := aft_drew hR hz hnz hg; clear hR hz hnz hg))
  all_goals (go_upto_region 7 with fail)
  all_goals (first
    | (have HV : Hid (AftV base y (.slice pa pn pc) (.slice qa qn qc) R X y' c (.slice a n1 cp) (.slice a' n2 cp') X.heap.size (put5w X' X.heap.size (.string y'.nm) (.int .i64 y'.vd) (.int .i64 y'.nx) (.slice a n1 cp) (.slice a' n2 cp'))) := aftv HZ.out HL.out (Nat.le_refl _)
       clear HL HZ r0 r1 r2 r3 r4 fr
       change Code.wp _ _ _ _ (put5w X' X.heap.size (.string y'.nm) (.int .i64 y'.vd) (.int .i64 y'.nx) (.slice a n1 cp) (.slice a' n2 cp'))
       generalize put5w _ _ _ _ _ _ _ = Y at HV ⊢
       generalize X.heap.size = G at HV ⊢)
    | (have HV : Hid (AftV base y (.slice pa pn pc) (.slice qa qn qc) R X y' c (.slice a n1 cp) (.slice a' n2 cp') X'.heap.size (X'.alloc (.cells #[.string y'.nm, .int .i64 y'.vd, .int .i64 y'.nx, .slice a n1 cp, .slice a' n2 cp'] 99))) := ⟨aft_new HZ.out _, bx.lies_new X' _ y' _ _, HZ.out.2.2.2.size⟩
       clear HZ
       generalize X'.alloc _ = Y at HV ⊢
       generalize X'.heap.size = G at HV ⊢))
  all_goals (
    obtain ⟨u0, u1, u2, u3, u4, s0, s1, s2, s3, s4, sf⟩ := list_cells HN.out HX.out.1 hk HU.out.1 HU.out.2 HV.out.1
    have c0 := HV.out.2.1.c0
    have c1 := HV.out.2.1.c1
    have c2 := HV.out.2.1.c2
    have c3 := HV.out.2.1.c3
    have c4 := HV.out.2.1.c4
    clear d0 d1 d2 d3 d4 d5 q0 q1 q2 q3 q4 HAA HCA HPB hwl hgl
    by_cases hc : c = 0
    · subst hc
      have HE := end_ok HN.out HX.out.1 hk HU.out.1 HU.out.2 hb HX.out.2.1 HV.out.1
      have HE : Hid _ := HE
      clear HV HX
      go_wp2
      go_ret2
      exact ⟨y', 0, _, rfl, HE.out.1, fun _ => HE.out.2.1, fun e => absurd rfl e, HE.out.2.2⟩
    · have HE := end_code HX.out.1 hk HY.out HU.out.1 HU.out.2 hb HX.out.2.1 HV.out.1 hc
      have HE : Hid _ := HE
      have HCC : Hid (c ≠ 0) := hc
      have hc' : (c == 0) = false := by simpa using hc
      clear HV HX hc
      go_wp2
      go_ret2
      exact ⟨y', c, us, rfl, HE.out.1, fun e => absurd e HCC.out, fun _ => HE.out.2.1, HE.out.2.2⟩)
end Go.Proofs.YtncnbhekgkemfaaGreatDoor.bl

namespace Go.Proofs.YtncnbhekgkemfaaGreatDoor.bl
open Go.ChangeShapes Go.WideShapes Go.ChangeAt Go.RowKit Go.Deep Go.Joins
open st gr bx mx
set_option linter.unusedVariables false

theorem arm_flags (y : Bx) (p q : Value) (m : mu.Mu) (iv : Value) (base : Nat) (X : World) (hm : OwnM X base p y.ms) (hk : OwnK X base q y.ks) (hiv : ∃ a n c, iv = .slice a n c) (hl : y.ms.length ≤ 30) (hr : Rising y.ms) (hmo : m.m = 1 ∨ m.m = 2 ∨ m.m = 3) (hmk : m.k = 3) :
    Calls Tryz.prog 98 #[BV y p q, mu.MV m iv] X (Arm base y p q (Wf y m) X) := by
  obtain ⟨pa, pn, pc, rfl⟩ := slice_fine (own_fine hm)
  obtain ⟨qa, qn, qc, rfl⟩ := slice_fine (own_fine hk)
  refine (mutated_flags y _ _ m iv base X hm hk hiv hl hr hmo hmk).mono ?_
  rintro e X' ⟨⟨y', rfl, hw, h1, h2⟩ | ⟨rfl, hw, h1, h2⟩, hg⟩
  · exact ⟨y', 0, pa, pn, pc, qa, qn, qc, rfl, hw, fun _ => ⟨h1, h2, .inl rfl, .inl rfl⟩, fun e => absurd rfl e, gr2_left hg _⟩
  · exact ⟨B0, 17, none, 0, 0, none, 0, 0, rfl, hw, fun e => absurd e (by decide), fun _ => ⟨h1, h2⟩, gr2_left hg _⟩
theorem arm_gone (y : Bx) (p q : Value) (m : mu.Mu) (iv : Value) (base : Nat) (X : World) (hm : OwnM X base p y.ms) (hk : OwnK X base q y.ks) (hb : base ≤ X.heap.size) (hiv : ∃ a n c, iv = .slice a n c) (hl : y.ms.length ≤ 30) (hmk : m.k = 4) :
    Calls Tryz.prog 98 #[BV y p q, mu.MV m iv] X (Arm base y p q (fun y' c => c = 0 ∧ y' = ⟨y.nm, y.vd, y.nx, kept y.ms, y.ks⟩) X) := by
  obtain ⟨pa, pn, pc, rfl⟩ := slice_fine (own_fine hm)
  obtain ⟨qa, qn, qc, rfl⟩ := slice_fine (own_fine hk)
  refine (mutated_gone y _ _ m iv base X hm hk hb hiv hl hmk).mono ?_
  rintro e X' ⟨⟨v', rfl, h1, h2, h3⟩, hg⟩
  obtain ⟨va, vn, vc, rfl⟩ := slice_fine (own_fine h1)
  exact ⟨⟨y.nm, y.vd, y.nx, kept y.ms, y.ks⟩, 0, va, vn, vc, qa, qn, qc, rfl, ⟨rfl, rfl⟩, fun _ => ⟨h1, h2, .inl h3, .inl rfl⟩, fun e => absurd rfl e, gr2_left hg _⟩
/-- The list, where a mail's flags change. -/
theorem imp_flags (L : Value) (base : Nat) (xs : List Bx) (us : Nat → Value × Value) (m : mu.Mu) (iv : Value) (w : World) (h : OwnL w base L xs us) (hb : base ≤ w.heap.size) (hn : xs.length ≤ 1048576) (hiv : ∃ a n c, iv = .slice a n c) (k : Nat) (hk : k < xs.length) (hp : Plc xs m.b (k : Int)) (hl : (xs.getD k noB).ms.length ≤ 30) (hr : Rising (xs.getD k noB).ms) (hmo : m.m = 1 ∨ m.m = 2 ∨ m.m = 3) (hmk : m.k = 3) :
    Calls Tryz.prog 67 #[L, mu.MV m iv] w fun e w' => ∃ y' c us', e = .returned (.tuple #[L, .int .i64 c]) ∧ Wf (xs.getD k noB) m y' c ∧ (c = 0 → OwnL w' base L (xs.set k y') us') ∧ (c ≠ 0 → OwnL w' base L xs us) ∧ Below base w w' :=
  imp_at L base xs us m iv w h hb hn hiv (by rw [hmk]; decide) k hk hp _ fun X hX => arm_flags _ _ _ m iv base X (ow.own_below (h.2.1 k hk).1 hX) (ow.own_below (h.2.1 k hk).2 hX) hiv hl hr hmo hmk
/-- .. and where mails go. -/
theorem imp_gone (L : Value) (base : Nat) (xs : List Bx) (us : Nat → Value × Value) (m : mu.Mu) (iv : Value) (w : World) (h : OwnL w base L xs us) (hb : base ≤ w.heap.size) (hn : xs.length ≤ 1048576) (hiv : ∃ a n c, iv = .slice a n c) (k : Nat) (hk : k < xs.length) (hp : Plc xs m.b (k : Int)) (hl : (xs.getD k noB).ms.length ≤ 30) (hmk : m.k = 4) :
    Calls Tryz.prog 67 #[L, mu.MV m iv] w fun e w' => ∃ y' c us', e = .returned (.tuple #[L, .int .i64 c]) ∧ (c = 0 ∧ y' = ⟨(xs.getD k noB).nm, (xs.getD k noB).vd, (xs.getD k noB).nx, kept (xs.getD k noB).ms, (xs.getD k noB).ks⟩) ∧ (c = 0 → OwnL w' base L (xs.set k y') us') ∧ (c ≠ 0 → OwnL w' base L xs us) ∧ Below base w w' :=
  imp_at L base xs us m iv w h hb hn hiv (by rw [hmk]; decide) k hk hp _ fun X hX => arm_gone _ _ _ m iv base X (ow.own_below (h.2.1 k hk).1 hX) (ow.own_below (h.2.1 k hk).2 hX) (Nat.le_trans hb hX.size) hiv hl hmk
end Go.Proofs.YtncnbhekgkemfaaGreatDoor.bl

namespace Go.Proofs.YtncnbhekgkemfaaGreatDoor.rf
open Go.RowKit
set_option linter.unusedVariables false

structure Q where
  V : Nat → Option Value
  W1 : World
  base : Nat
  e : Nat
  s : Nat
  v0 : Value
  n : Nat
  xs : List Value
  news : List Value
  iB : Nat
  iA : Nat
  iS : Nat
  P : Addr
/-- Behind the append. -/
def Mid (q : Q) (v' : Value) (x : World) : Prop :=
  ∃ x1, Below q.W1.heap.size q.W1 x1 ∧ x1.grownBy x q.v0.ownBlock ∧ x.ownsRow q.base q.e q.s v' (q.n + 1) (q.xs ++ q.news) ∧ (v'.ownBlock = q.v0.ownBlock ∨ v'.ownBlock = some x1.heap.size) ∧ x.ownsRow q.base q.e q.s q.v0 q.n q.xs
def J (q : Q) (D : Nat → Prop) (f : Nat → Value) (x : World) : Prop :=
  (∀ j, D j → ∀ y, q.V j = some y → f j = y) ∧ (¬ D q.iA → Below q.W1.heap.size q.W1 x) ∧
  (D q.iB → ¬ D q.iA → ∃ g, f q.iB = .slice (some ⟨g, 0, none⟩) 1 1 ∧ ∀ j u, q.news[j]? = some u → x.cell? ⟨g, j, none⟩ = some u) ∧
  (D q.iA → ¬ D q.iS → Mid q (f q.iA) x) ∧ (D q.iS → ∃ v' x2, Mid q v' x2 ∧ x = x2.setCell q.P v')
theorem vals {V : Nat → Option Value} {D : Nat → Prop} {f : Nat → Value} {i : Nat} {y : Value} (h : ∀ j, D j → ∀ z, V j = some z → f j = z) (hy : ∀ z, V i = some z → y = z) : ∀ j, (j = i ∨ D j) → ∀ z, V j = some z → rs.upd f i y j = z := by
  intro j hj z hz
  by_cases e : j = i
  · subst e
    rw [rs.upd_same]
    exact hy z hz
  · rw [rs.upd_other f i y e]
    exact h j (hj.resolve_left e) z hz
section
variable {q : Q} {D : Nat → Prop} {f : Nat → Value} {x x' : World} {i : Nat}
theorem J.start (h : Below q.W1.heap.size q.W1 x) : J q (fun _ => False) f x := ⟨fun j hj => hj.elim, fun _ => h, fun d => d.elim, fun d => d.elim, fun d => d.elim⟩
/-- An operation that leaves the world as it was. -/
theorem J.pure (y : Value) (h : J q D f x) (hy : ∀ z, q.V i = some z → y = z) (h1 : q.iB ≠ i) (h2 : q.iA ≠ i) (h3 : q.iS ≠ i) : J q (fun j => j = i ∨ D j) (rs.upd f i y) x := by
  obtain ⟨hv, ha, hb, hc, hd⟩ := h
  refine ⟨vals hv hy, fun n => ha (fun d => n (.inr d)), fun d n => ?_, fun d n => ?_, fun d => hd (d.resolve_left h3)⟩
  · rw [rs.upd_other f i y h1]; exact hb (d.resolve_left h1) (fun d => n (.inr d))
  · rw [rs.upd_other f i y h2]; exact hc (d.resolve_left h2) (fun d => n (.inr d))
/-- One ahead of the append, that makes memory. -/
theorem J.early (y : Value) (h : J q D f x) (hn : ¬ D q.iA) (hs : ¬ D q.iS) (hy : ∀ z, q.V i = some z → y = z) (h1 : q.iB ≠ i) (h2 : q.iA ≠ i) (h3 : q.iS ≠ i) (hbx : Below x.heap.size x x') : J q (fun j => j = i ∨ D j) (rs.upd f i y) x' := by
  obtain ⟨hv, ha, hb, hc, hd⟩ := h
  refine ⟨vals hv hy, fun _ => (ha hn).trans (hbx.mono (ha hn).size), fun d n => ?_, fun d => absurd (d.resolve_left h2) hn, fun d => absurd (d.resolve_left h3) hs⟩
  rw [rs.upd_other f i y h1]
  obtain ⟨g, e, hg⟩ := hb (d.resolve_left h1) hn
  exact ⟨g, e, fun j u hu => (hbx.cell (p := ⟨g, j, none⟩) (World.block_lt_of_cell? x _ (hg j u hu))).trans (hg j u hu)⟩
/-- The slice of the one element. -/
theorem J.build (g : Nat) (h : J q D f x) (hi : i = q.iB) (hn : ¬ D q.iA) (hs : ¬ D q.iS) (hV : q.V q.iB = none) (h2 : q.iA ≠ q.iB) (h3 : q.iS ≠ q.iB) (hbx : Below x.heap.size x x') (hg : ∀ j u, q.news[j]? = some u → x'.cell? ⟨g, j, none⟩ = some u) : J q (fun j => j = i ∨ D j) (rs.upd f i (.slice (some ⟨g, 0, none⟩) 1 1)) x' := by
  subst hi
  obtain ⟨hv, ha, hb, hc, hd⟩ := h
  refine ⟨vals hv (fun z hz => by rw [hV] at hz; cases hz), fun _ => (ha hn).trans (hbx.mono (ha hn).size), fun d n => ?_, fun d => absurd (d.resolve_left h2) hn, fun d => absurd (d.resolve_left h3) hs⟩
  rw [rs.upd_same]
  exact ⟨g, rfl, hg⟩
theorem J.app (v' : Value) (h : J q D f x) (hi : i = q.iA) (hn : ¬ D q.iA) (hs : ¬ D q.iS) (hV : q.V q.iA = none) (h3 : q.iS ≠ q.iA) (ho : x'.ownsRow q.base q.e q.s v' (q.n + 1) (q.xs ++ q.news)) (hg : x.grownBy x' q.v0.ownBlock) (hk : (v'.ownBlock = q.v0.ownBlock ∨ v'.ownBlock = some x.heap.size) ∧ x'.ownsRow q.base q.e q.s q.v0 q.n q.xs) : J q (fun j => j = i ∨ D j) (rs.upd f i v') x' := by
  subst hi
  obtain ⟨hv, ha, hb, hc, hd⟩ := h
  refine ⟨vals hv (fun z hz => by rw [hV] at hz; cases hz), fun n => absurd (.inl rfl) n, fun d n => absurd (.inl rfl) n, fun d n => ?_, fun d => absurd (d.resolve_left h3) hs⟩
  rw [rs.upd_same]
  exact ⟨x, ha hn, hg, ho, hk.1, hk.2⟩
theorem J.store (y : Value) (h : J q D f x) (hi : i = q.iS) (hd : D q.iA) (hs : ¬ D q.iS) (hV : q.V q.iS = none) (h2 : q.iA ≠ q.iS) : J q (fun j => j = i ∨ D j) (rs.upd f i y) (x.setCell q.P (f q.iA)) := by
  subst hi
  obtain ⟨hv, ha, hb, hc, he⟩ := h
  exact ⟨vals hv (fun z hz => by rw [hV] at hz; cases hz), fun n => absurd (.inr hd) n, fun d n => absurd (.inr hd) n, fun d n => absurd (.inl rfl) n, fun _ => ⟨f q.iA, x, hc hd hs, rfl⟩⟩
end
end Go.Proofs.YtncnbhekgkemfaaGreatDoor.rf

namespace Go.Proofs.YtncnbhekgkemfaaGreatDoor.bk
open Go.RowKit Go.Maps Go.ChangeMaps Go.WideMaps
open ky tx
set_option linter.unusedVariables false

/-- A number stands at every key, and it is not 0 just where p says so. -/
def Bk (D : DataW Unit) (p : ByteArray → Prop) : Prop := ∀ s, ∃ c : Int, D.atKey (lit s) (.lit (.int .i64 0)) = .lit (.int .i64 c) ∧ (c ≠ 0 ↔ p s)
theorem bk_iff {D : DataW Unit} {p q : ByteArray → Prop} (h : Bk D p) (hq : ∀ s, p s ↔ q s) : Bk D q := fun s => by
  obtain ⟨c, h1, h2⟩ := h s
  exact ⟨c, h1, h2.trans (hq s)⟩
theorem bk_empty : Bk (.map []) (fun _ => False) := fun s => ⟨0, by rw [atKey_of_not_has (by simp [Maps.has])], by simp⟩
theorem bk_put {D : DataW Unit} {p : ByteArray → Prop} (hD : Tidy D) (h : Bk D p) (x : ByteArray) (c : Int) (hc : c ≠ 0) : Bk (D.put (lit x) (.lit (.int .i64 c))) (fun s => p s ∨ s = x) := fun s => by
  have hkl : WideAt.IsKeyLit (lit x) := by unfold lit; simp [WideAt.IsKeyLit]
  by_cases e : s = x
  · subst e
    exact ⟨c, atKey_put_same hD.isMap hkl _ _, by simp [hc]⟩
  · obtain ⟨d, h1, h2⟩ := h s
    exact ⟨d, (atKey_put_other (fun y => e (lit_inj y)) _ _).trans h1, by simp [e, h2]⟩
theorem bk_start (ks : List ByteArray) : Bk (.map []) (fun s => ∃ j, j < 0 ∧ ks.getD j nt = s) := bk_iff bk_empty fun s => ⟨fun h => h.elim, fun ⟨j, h, _⟩ => absurd h (Nat.not_lt_zero _)⟩
theorem bk_step {D : DataW Unit} {ks : List ByteArray} {k : Nat} (hD : Tidy D) (h : Bk D (fun s => ∃ j, j < k ∧ ks.getD j nt = s)) {x : ByteArray} (hx : ks.getD k nt = x) (c : Int) (hc : c ≠ 0) : Bk (D.put (lit x) (.lit (.int .i64 c))) (fun s => ∃ j, j < k + 1 ∧ ks.getD j nt = s) := bk_iff (bk_put hD h x c hc) fun s => by
  constructor
  · rintro (⟨j, hj, e⟩ | rfl)
    · exact ⟨j, by omega, e⟩
    · exact ⟨k, by omega, hx⟩
  · rintro ⟨j, hj, e⟩
    by_cases ek : j = k
    · subst ek
      exact .inr (e.symm.trans hx)
    · exact .inl ⟨j, by omega, e⟩

set_option maxHeartbeats 2000000 in
set_option maxRecDepth 100000 in
theorem learn_vals (B n0 N : Nat) (D0 : DataW Unit) (v : Value) (ks : List ByteArray) (w : World) (hown : Own w B n0 D0) (h : TextsIn w N v ks) (hN : N ≤ B) (hs : Smalls ks) :
    Calls Tryz.prog 127 #[.map (some B), v] w fun e w' => (∃ b, e = .returned (.bool b)) ∧ (∃ D, Own w' B ks.length D ∧ Bk D (fun s => ∃ j, j < ks.length ∧ ks.getD j nt = s)) ∧ Below B w w' := by
  obtain ⟨a, cap, rfl, h⟩ := h
  obtain ⟨n, hn⟩ : ∃ n, n = ks.length := ⟨_, rfl⟩
  have HN : Hid (n = ks.length) := hn
  have HH : Hid (ks = [] ∨ ∃ b off, a = some ⟨b, off, none⟩ ∧ b < N ∧ ∀ j, j < ks.length → w.cell? ⟨b, off + j, none⟩ = some (.string (ks.getD j nt))) := h
  have HS : Hid (Smalls ks) := hs
  have hl : n ≤ 1048576 := by rw [hn]; exact hs.1
  rw [← hn]
  clear h hs hn
  go_enter Tryz.func127, Tryz.ntmps127
  go_wp2_with (refine wpList_clear_own rfl _ rfl B n0 D0 rfl hown ?_; intro w1 hown1 hturn1)
  have hb1 : Below B w w1 := (Below.refl _ _).grown hturn1.grown (Nat.le_of_lt hown.lt) (fun j hj => by cases hj; exact Nat.le_refl _)
  clear hturn1 hown
  go_loopw [10] (fun i wr => ∃ (k : Nat) (D : DataW Unit), k ≤ n ∧ i = .int .i64 k ∧ Own wr B k D ∧ Bk D (fun s => ∃ j, j < k ∧ ks.getD j nt = s) ∧ Below B w wr) (fun i _ => n - (intOf i).toNat)
  case atStart => exact ⟨0, _, Nat.zero_le _, rfl, hown1, bk_start ks, hb1⟩
  case round =>
    clear hown1 hb1
    obtain ⟨k, D, hk, rfl, hown, hinv, hbw⟩ := hrel
    have HI : Hid (Bk D (fun s => ∃ j, j < k ∧ ks.getD j nt = s)) := hinv
    clear hinv
    by_cases hlt : k < n
    · have hka : k < ks.length := by rw [← HN.out]; exact hlt
      rcases HH.out with e | ⟨b, off, rfl, hbN, hcells⟩
      · rw [e] at hka; simp at hka
      have c0 := (hbw.cell (p := ⟨b, off + k, none⟩) (Nat.lt_of_lt_of_le hbN hN)).trans (hcells k hka)
      have hsz := HS.out.2 k hka
      clear hcells hka
      generalize hx : ks.getD k nt = x at c0 hsz
      have HX : Hid (ks.getD k nt = x) := hx
      clear hx
      have hkey : keyOf Tryz.prog 9 (.string x) = some (lit x) := keyOf_string_mk Tryz.underlying9 (by unfold maxLen; omega)
      have HO : Hid (Own wr B k D) := hown
      have htd := hown.tidy law
      have HT : Hid (Tidy D) := htd
      have HWS : Hid (B ≤ wr.heap.size) := Nat.le_of_lt hown.lt
      clear htd hown
      have hlt' : (k : Int) < (n : Int) := by omega
      go_wp2_with (at_mapUpdate; refine wpList_mapUpdate_own _ rfl _ _ _ 159 rfl 9 3 law Tryz.underlying159 _ B k _ rfl HO.out (by unfold maxLen; omega) _ _ _ rfl rfl hkey _ [] (plainElem_int Tryz.underlying3 (WalkArith.wf_i64 (by omega))) ?_; intro w2 hown2 hgrow2)
      have hbw2 : Below B w w2 := hbw.grown hgrow2 HWS.out (fun j hj => by cases hj; exact Nat.le_refl _)
      clear hgrow2 c0
      go_wp2
      go_roundw
      case rel => exact ⟨k + 1, _, by omega, by go_num, hown2, bk_step HT.out HI.out HX.out _ (by omega), hbw2⟩
      case measure => simp [intOf]; omega
    · have hkn : k = n := by omega
      subst hkn
      have HF : Hid (∃ D, Own wr B k D ∧ Bk D (fun s => ∃ j, j < k ∧ ks.getD j nt = s)) := ⟨D, hown, HI.out⟩
      go_wp2_with (at_len; refine wpList_len_own _ rfl _ 159 rfl 9 3 Tryz.underlying159 _ B k D rfl hown ?_)
      go_wp2
      go_ret
      exact ⟨⟨_, rfl⟩, HF.out, hbw⟩
end Go.Proofs.YtncnbhekgkemfaaGreatDoor.bk
