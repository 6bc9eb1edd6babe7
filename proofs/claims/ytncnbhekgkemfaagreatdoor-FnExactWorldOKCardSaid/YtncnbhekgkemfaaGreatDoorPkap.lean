/-
  A world as an argument: opened, measured, copied, held against another one.
  The laws' own marks: the text of a number; rows of texts, and of entries, marked, and held against the marks.
  Rows of texts, and of entries, marked by the law's own functions, and held against the marks.
  The laws' marks, as to their shape: at every number; rows of mails and of texts, a box, and a list of boxes.
  Rows of stored mails and of texts, copied by slices.Clone into memory of their own.
-/
import Derived.Test.YtncnbhekgkemfaaGreatDoorPkan
import Derived.Test.YtncnbhekgkemfaaGreatDoorPkao
import Derived.Deep.Strs
import Derived.Lib.SmallJoins
import Derived.Test.YtncnbhekgkemfaaGreatDoorPkaa
import Derived.Test.YtncnbhekgkemfaaGreatDoorRows
import Derived.WalkKit
import Derived.WalkLawsBesides
import Derived.Below
import Derived.Test.YtncnbhekgkemfaaGreatDoorPkae
import Derived.Test.YtncnbhekgkemfaaGreatDoorPkab
import Derived.Test.YtncnbhekgkemfaaGreatDoorPkam
import Derived.Test.YtncnbhekgkemfaaGreatDoorPkag
import Derived.Laws.AppendOwn
import Derived.Laws.AppendOwnNone
import Derived.Lib.SliceRun

namespace Go.Proofs.YtncnbhekgkemfaaGreatDoor.cn
open Go.ChangeShapes Go.WideShapes Go.ChangeAt Go.RowKit Go.Deep Go.Joins
open bx (Bx BoxesAt noB)
open ow (Reads)
set_option linter.unusedVariables false

/-- A world: its engine's four cells, its connections. -/
def WV (r : Int) (d : ByteArray) (s : Int) (v c : Value) : Value := .agg #[.int .i64 r, .string d, .int .i64 s, v, c]
section
variable {H : Type} {enc : TypeId × Value → H} {w : World} {base : Nat} {spare : Nat → Bool} {held : Bool}
theorem nine_list {α : Type} {l : List α} (h : l.length = 9) : ∃ a b c d e f g i j, l = [a, b, c, d, e, f, g, i, j] := by
  match l, h with
  | [a, b, c, d, e, f, g, i, j], _ => exact ⟨a, b, c, d, e, f, g, i, j, rfl⟩
theorem cellsC : Tryz.prog.cellsOf 66 = 9 := by kernel_rfl
set_option maxRecDepth 100000 in
theorem trod_conn {fuel : Nat} {cs : List Value} {x : DataW H × List MemPlace} (h : DataW.trod enc Tryz.prog w base spare held fuel 66 cs = some x) :
    ∃ (x : Cn) (v : Value), cs = (cells x v).toList ∧ Reads .i64 w v x.vw ∧ Held x := by
  obtain ⟨y0, y1, y2, y3, n, _, hl, t0, t1, t2, t3⟩ := trod_struct4 Tryz.underlying66 h
  have hl9 : cs.length = 9 := hl.trans cellsC
  obtain ⟨c0, c1, c2, c3, c4, c5, c6, c7, c8, rfl⟩ := nine_list hl9
  have t0' : DataW.trod enc Tryz.prog w base spare held n 3 [c0] = some y0 := t0
  have t1' : DataW.trod enc Tryz.prog w base spare held n 9 [c1] = some y1 := t1
  have t2' : DataW.trod enc Tryz.prog w base spare held n 63 [c2, c3, c4, c5] = some y2 := t2
  have t3' : DataW.trod enc Tryz.prog w base spare held n 64 [c6, c7, c8] = some y3 := t3
  obtain ⟨z0, z1, z2, z3, m, _, _, s0, s1, s2, s3⟩ := trod_struct4 Tryz.underlying63 t2'
  obtain ⟨r0, r1, r2, k, _, _, p0, p1, p2⟩ := trod_struct3 Tryz.underlying64 t3'
  have s0' : DataW.trod enc Tryz.prog w base spare held m 3 [c2] = some z0 := s0
  have s1' : DataW.trod enc Tryz.prog w base spare held m 9 [c3] = some z1 := s1
  have s2' : DataW.trod enc Tryz.prog w base spare held m 4 [c4] = some z2 := s2
  have s3' : DataW.trod enc Tryz.prog w base spare held m 46 [c5] = some z3 := s3
  have p0' : DataW.trod enc Tryz.prog w base spare held k 9 [c6] = some r0 := p0
  have p1' : DataW.trod enc Tryz.prog w base spare held k 3 [c7] = some r1 := p1
  have p2' : DataW.trod enc Tryz.prog w base spare held k 4 [c8] = some r2 := p2
  obtain ⟨i0, e0, _, f0⟩ := DataW.trod_int Tryz.underlying3 t0'
  obtain ⟨i1, e1, _, f1⟩ := DataW.trod_string Tryz.underlying9 t1'
  obtain ⟨i2, e2, _, f2⟩ := DataW.trod_int Tryz.underlying3 s0'
  obtain ⟨i3, e3, _, f3⟩ := DataW.trod_string Tryz.underlying9 s1'
  obtain ⟨i4, e4, _⟩ := DataW.trod_bool Tryz.underlying4 s2'
  obtain ⟨zs, hr, hzl⟩ := im.open_ints s3'
  obtain ⟨i6, e6, _, f6⟩ := DataW.trod_string Tryz.underlying9 p0'
  obtain ⟨i7, e7, _, f7⟩ := DataW.trod_int Tryz.underlying3 p1'
  obtain ⟨i8, e8, _⟩ := DataW.trod_bool Tryz.underlying4 p2'
  simp only [List.cons.injEq, and_true] at e0 e1 e2 e3 e4 e6 e7 e8
  subst e0 e1 e2 e3 e4 e6 e7 e8
  exact ⟨⟨i0, i1, i2, i3, i4, zs, i6, i7, i8⟩, c5, rfl, hr, f1, f3, hzl, f6⟩
theorem open_conns {fuel : Nat} {v : Value} {x : DataW H × List MemPlace} (h : DataW.trod enc Tryz.prog w base spare held fuel 27 [v] = some x) :
    ∃ (xs : List Cn) (vs : Nat → Value), ConnsAt w v xs vs ∧ xs.length ≤ maxLen ∧ ∀ j, j < xs.length → Held (xs.getD j noC) := by
  rcases open_slice Tryz.underlying27 h with ⟨hc, _⟩ | ⟨a, len, cap, m, n, D, Pl, hc, _, hl, hm, hmm, _, hall⟩
  · cases hc
    exact ⟨[], fun _ => .slice none 0 0, ⟨⟨none, 0, rfl, .inl rfl⟩, fun j hj => absurd hj (Nat.not_lt_zero _)⟩, Nat.zero_le _, fun j hj => absurd hj (Nat.not_lt_zero _)⟩
  · cases hc
    have hml : len ≤ m := by rw [hmm]; split <;> omega
    have each : ∀ i, ∃ e : Cn × Value, i < len → Held e.1 ∧ Reads .i64 w e.2 e.1.vw ∧ ∀ k, k < 9 → w.cell? (a.add (i * 9 + k)) = (cells e.1 e.2)[k]? := by
      intro i
      by_cases hi : i < len
      · obtain ⟨cs', h1, h2⟩ := hall i (by omega)
        obtain ⟨x, v1, rfl, hr, hh⟩ := trod_conn h2
        rw [cellsC] at h1
        obtain ⟨_, hlen, hcell⟩ := World.cells?_some h1
        refine ⟨(x, v1), fun _ => ⟨hh, hr, fun k hk => ?_⟩⟩
        have := hcell k hk
        rw [add_add] at this
        rw [this]
        simp
      · exact ⟨(noC, .slice none 0 0), fun h => absurd h hi⟩
    obtain ⟨q, hq⟩ := Classical.axiomOfChoice each
    have hget : ∀ j, j < len → ((List.range len).map fun i => (q i).1).getD j noC = (q j).1 := by
      intro j hj
      simp [List.getD_eq_getElem?_getD, hj]
    refine ⟨(List.range len).map fun i => (q i).1, fun i => (q i).2, ⟨⟨some a, cap, by simp, ?_⟩, ?_⟩, by simp; omega, ?_⟩
    · by_cases h0 : len = 0
      · left; simp [h0]
      · right
        have c0 := (hq 0 (by omega)).2.2 0 (by omega)
        obtain ⟨b, off, spot⟩ := a
        have c0' := c0.trans (show (cells (q 0).1 (q 0).2)[0]? = some (.int .i64 (q 0).1.kd) from rfl)
        have hspot : spot = none := by simpa [Addr.add] using World.cell?_spot c0'
        subst hspot
        refine ⟨b, off, rfl, fun j hj k hk => ?_⟩
        have hj' : j < len := by simpa using hj
        have hc := (hq j hj').2.2 k hk
        have hadd : ((⟨b, off, none⟩ : Addr).add (j * 9 + k)) = ⟨b, off + j * 9 + k, none⟩ := by simp [Addr.add, Nat.add_assoc]
        rw [hget j hj']
        rw [hadd] at hc
        exact hc
    · intro j hj
      have hj' : j < len := by simpa using hj
      rw [hget j hj']
      exact (hq j hj').2.1
    · intro j hj
      have hj' : j < len := by simpa using hj
      rw [hget j hj']
      exact (hq j hj').1
theorem five_list' {α : Type} {l : List α} (h : l.length = 5) : ∃ a b c d e, l = [a, b, c, d, e] := by
  match l, h with
  | [a, b, c, d, e], _ => exact ⟨a, b, c, d, e, rfl⟩
set_option maxRecDepth 100000 in
theorem open_world {r : Reach} {b0 : Nat} {v : Value} {d : DataW H} {p : List MemPlace} (hv : Value.okWide Tryz.prog w r b0 29 v) (h : DataW.Trod enc Tryz.prog w base spare held 29 v d p) :
    ∃ (r : Int) (dd : ByteArray) (s : Int) (u c : Value) (xs : List Bx) (vs : Nat → Value × Value) (cs : List Cn) (us : Nat → Value), v = WV r dd s u c ∧ lg.In r ∧ dd.size ≤ maxLen ∧ lg.In s ∧ BoxesAt w u xs vs ∧ xs.length ≤ maxLen ∧ (∀ j, j < xs.length → bx.Held (xs.getD j noB)) ∧ ConnsAt w c cs us ∧ cs.length ≤ maxLen ∧ ∀ j, j < cs.length → Held (cs.getD j noC) := by
  obtain ⟨cs, rfl, hsz⟩ := okWide_struct Tryz.underlying29 hv
  obtain ⟨fuel, hf⟩ := h
  have hcs : (Value.agg cs).cells.toList = cs.toList := by simp [Value.cells]
  rw [hcs] at hf
  obtain ⟨x0, x1, q, _, hl, u0, u1⟩ := trod_struct2 Tryz.underlying29 hf
  have hl5 : cs.toList.length = 5 := hl.trans (by kernel_rfl)
  obtain ⟨c0, c1, c2, c3, c4, hc⟩ := five_list' hl5
  rw [hc] at u0 u1
  have u0' : DataW.trod enc Tryz.prog w base spare held q 26 [c0, c1, c2, c3] = some x0 := u0
  have u1' : DataW.trod enc Tryz.prog w base spare held q 27 [c4] = some x1 := u1
  obtain ⟨y0, y1, n, _, _, t0, t1⟩ := trod_struct2 Tryz.underlying26 u0'
  have t0' : DataW.trod enc Tryz.prog w base spare held n 23 [c0, c1, c2] = some y0 := t0
  have t1' : DataW.trod enc Tryz.prog w base spare held n 24 [c3] = some y1 := t1
  obtain ⟨z0, z1, z2, n2, _, _, s0, s1, s2⟩ := trod_struct3 Tryz.underlying23 t0'
  have s0' : DataW.trod enc Tryz.prog w base spare held n2 3 [c0] = some z0 := s0
  have s1' : DataW.trod enc Tryz.prog w base spare held n2 9 [c1] = some z1 := s1
  have s2' : DataW.trod enc Tryz.prog w base spare held n2 3 [c2] = some z2 := s2
  obtain ⟨i0, e0, _, f0⟩ := DataW.trod_int Tryz.underlying3 s0'
  obtain ⟨i1, e1, _, f1⟩ := DataW.trod_string Tryz.underlying9 s1'
  obtain ⟨i2, e2, _, f2⟩ := DataW.trod_int Tryz.underlying3 s2'
  simp only [List.cons.injEq, and_true] at e0 e1 e2
  subst e0 e1 e2
  obtain ⟨xs, vs, hat, hxl, hh⟩ := bx.open_boxes t1'
  obtain ⟨ks, us, hkt, hkl, hkh⟩ := open_conns u1'
  exact ⟨i0, i1, i2, c3, c4, xs, vs, ks, us, congrArg Value.agg (Array.toList_inj.1 hc), lg.in_of_wf f0, f1, lg.in_of_wf f2, hat, hxl, hh, hkt, hkl, hkh⟩
end
/-- A world that lies as a variable. -/
def LiesW (w : World) (b : Nat) (T : TypeId) (r : Int) (d : ByteArray) (s : Int) (v c : Value) : Prop := w.heap[b]? = some (.cells #[.int .i64 r, .string d, .int .i64 s, v, c] T (0, 0))
section
variable {w w' : World} {b : Nat} {T : TypeId} {r : Int} {d : ByteArray} {s : Int} {v c : Value}
theorem LiesW.c0 (h : LiesW w b T r d s v c) : w.cell? ⟨b, 0, none⟩ = some (.int .i64 r) := by rw [cell_of_row w _ _ _ _ _ h]; rfl
theorem LiesW.c1 (h : LiesW w b T r d s v c) : w.cell? ⟨b, 0 + 1, none⟩ = some (.string d) := by rw [cell_of_row w _ _ _ _ _ h]; rfl
theorem LiesW.c2 (h : LiesW w b T r d s v c) : w.cell? ⟨b, 0 + 2, none⟩ = some (.int .i64 s) := by rw [cell_of_row w _ _ _ _ _ h]; rfl
theorem LiesW.c3 (h : LiesW w b T r d s v c) : w.cell? ⟨b, 0 + 3, none⟩ = some v := by rw [cell_of_row w _ _ _ _ _ h]; rfl
theorem LiesW.c4 (h : LiesW w b T r d s v c) : w.cell? ⟨b, 0 + 4, none⟩ = some c := by rw [cell_of_row w _ _ _ _ _ h]; rfl
theorem LiesW.f (h : LiesW w b T r d s v c) (j : Nat) : w.frozen? ⟨b, j, none⟩ = false := frozen_of_row _ _ _ _ _ h
theorem LiesW.lt (h : LiesW w b T r d s v c) : b < w.heap.size := World.block_lt_of_cell? w _ h.c0
theorem LiesW.keep (h : LiesW w b T r d s v c) (hb : Below w.heap.size w w') : LiesW w' b T r d s v c := (hb.block b h.lt).trans h
theorem liesW_new (w : World) (T : TypeId) (r : Int) (d : ByteArray) (s : Int) (v c : Value) : LiesW (w.alloc (.cells #[.int .i64 r, .string d, .int .i64 s, v, c] T)) w.heap.size T r d s v c := by show (w.heap.push _)[w.heap.size]? = _; simp
end

set_option maxHeartbeats 2000000 in
set_option maxRecDepth 100000 in
theorem szWorld_any (r : Int) (d : ByteArray) (s : Int) (v c : Value) (xs : List Bx) (vs : Nat → Value × Value) (cs : List Cn) (us : Nat → Value) (w : World) (h : BoxesAt w v xs vs) (hd : d.size ≤ maxLen) (hl : xs.length ≤ maxLen) (hh : ∀ j, j < xs.length → bx.Held (xs.getD j noB)) (hc : ConnsAt w c cs us) (hcl : cs.length ≤ maxLen) (hch : ∀ j, j < cs.length → Held (cs.getD j noC)) :
    Calls Tryz.prog 4 #[WV r d s v c, .int .i64 1048576] w fun e w' => (∃ z : Int, e = .returned (.int .i64 z) ∧ z ≤ 1048576 ∧ -1 ≤ z ∧ (0 ≤ z → d.size ≤ 1048576 ∧ bx.Smalls xs ∧ Smalls cs)) ∧ Below w.heap.size w w' := by
  have L0 := liesW_new w 29 r d s v c
  have b0 := new_below w 29 #[.int .i64 r, .string d, .int .i64 s, v, c]
  have HZE : Hid (∀ W, Below w.heap.size w W → Calls Tryz.prog 9 #[.agg #[.int .i64 r, .string d, .int .i64 s, v], .int .i64 1048576] W fun e w' => (∃ z : Int, e = .returned (.int .i64 z) ∧ z ≤ 1048576 ∧ -1 ≤ z ∧ (0 ≤ z → d.size ≤ 1048576 ∧ bx.Smalls xs)) ∧ Below W.heap.size W w') := fun W hW => eg.szEngine_any r d s v xs vs W (bx.boxes_below h hW) hd hl hh
  have HZC : Hid (∀ (z : Int) W, 0 ≤ z → z ≤ 1048576 → Below w.heap.size w W → Calls Tryz.prog 10 #[c, .int .i64 z] W fun e w' => (∃ y : Int, e = .returned (.int .i64 y) ∧ y ≤ z ∧ -1 ≤ y ∧ (0 ≤ y → Smalls cs)) ∧ Below W.heap.size W w') := fun z W h0 h1 hW => szConnS_any c cs us z W (conns_below hc hW) h0 h1 hcl hch
  obtain ⟨⟨a, cap, rfl, _⟩, _⟩ := h
  obtain ⟨⟨a2, cap2, rfl, _⟩, _⟩ := hc
  clear hd hl hh hcl hch
  unfold WV
  go_enter Tryz.func4, Tryz.ntmps4
  go_wp2_with fail
  generalize w.alloc _ = w0 at L0 b0 ⊢
  refine (HZE.out w0 b0).mono ?_
  rintro e w1 ⟨⟨z, rfl, hz0, hz1, hz2⟩, hb1⟩
  have L1 := L0.keep hb1
  have b1 := b0.trans (hb1.mono b0.size)
  have d4 := L1.c4
  have HZ : Hid (0 ≤ z → d.size ≤ 1048576 ∧ bx.Smalls xs) := hz2
  clear L0 L1 b0 hb1 hz2 HZE
  by_cases hz : z < 0
  · go_wp2
    go_ret
    exact ⟨⟨_, rfl, by omega, by omega, fun h => by omega⟩, b1⟩
  go_wp2_with fail
  refine (HZC.out z w1 (by omega) (by omega) b1).mono ?_
  rintro e w2 ⟨⟨y, rfl, hy0, hy1, hy2⟩, hb2⟩
  have b2 := b1.trans (hb2.mono b1.size)
  have HY : Hid (0 ≤ y → Smalls cs) := hy2
  clear b1 hb2 hy2 d4 HZC
  by_cases hy : y < 0
  · go_wp2
    go_ret
    exact ⟨⟨_, rfl, by omega, by omega, fun h => by omega⟩, b2⟩
  · go_wp2
    go_ret
    exact ⟨⟨_, rfl, by omega, by omega, fun h => ⟨(HZ.out (by omega)).1, (HZ.out (by omega)).2, HY.out h⟩⟩, b2⟩

set_option maxHeartbeats 2000000 in
set_option maxRecDepth 100000 in
theorem eqWorld_any (r : Int) (d : ByteArray) (s : Int) (v u c e : Value) (xs : List Bx) (vs us : Nat → Value × Value) (cs : List Cn) (ps qs : Nat → Value) (w : World) (h1 : BoxesAt w v xs vs) (h2 : BoxesAt w u xs us) (hs : bx.Smalls xs) (g1 : ConnsAt w c cs ps) (g2 : ConnsAt w e cs qs) (hcs : Smalls cs) :
    Calls Tryz.prog 8 #[WV r d s v c, WV r d s u e] w fun e w' => e = .returned (.bool true) ∧ Below w.heap.size w w' := by
  have HA : Hid (∀ W, Below w.heap.size w W → Calls Tryz.prog 19 #[.agg #[.int .i64 r, .string d, .int .i64 s, v], .agg #[.int .i64 r, .string d, .int .i64 s, u]] W fun e w' => e = .returned (.bool true) ∧ Below W.heap.size W w') := fun W hW => eg.eqEngine_any r d s v u xs vs us W (bx.boxes_below h1 hW) (bx.boxes_below h2 hW) hs
  have HC : Hid (∀ W, Below w.heap.size w W → Calls Tryz.prog 20 #[c, e] W fun e w' => e = .returned (.bool true) ∧ Below W.heap.size W w') := fun W hW => eqConnS_any c e cs ps qs W (conns_below g1 hW) (conns_below g2 hW) hcs
  obtain ⟨⟨a, cap, rfl, _⟩, _⟩ := h1
  obtain ⟨⟨a', cap', rfl, _⟩, _⟩ := h2
  obtain ⟨⟨k, kc, rfl, _⟩, _⟩ := g1
  obtain ⟨⟨k', kc', rfl, _⟩, _⟩ := g2
  clear hs hcs
  unfold WV
  have L0 := (liesW_new w 38 r d s (.slice a xs.length cap) (.slice k cs.length kc)).keep (new_below _ 38 #[.int .i64 r, .string d, .int .i64 s, .slice a' xs.length cap', .slice k' cs.length kc'])
  have M0 := liesW_new (w.alloc (.cells #[.int .i64 r, .string d, .int .i64 s, .slice a xs.length cap, .slice k cs.length kc] 38)) 38 r d s (.slice a' xs.length cap') (.slice k' cs.length kc')
  have b0 := (new_below w 38 #[.int .i64 r, .string d, .int .i64 s, .slice a xs.length cap, .slice k cs.length kc]).alloc (by simp) (.cells #[.int .i64 r, .string d, .int .i64 s, .slice a' xs.length cap', .slice k' cs.length kc'] 38)
  rw [show (w.alloc (.cells #[.int .i64 r, .string d, .int .i64 s, .slice a xs.length cap, .slice k cs.length kc] 38)).heap.size = w.heap.size + 1 by simp] at M0
  go_enter Tryz.func8, Tryz.ntmps8
  go_wp2_with fail
  generalize World.alloc _ _ = w0 at b0 L0 M0 ⊢
  refine (HA.out w0 b0).mono ?_
  rintro e w2 ⟨rfl, hb2⟩
  have c4 := (L0.keep hb2).c4
  have d4 := (M0.keep hb2).c4
  have b3 := b0.trans (hb2.mono b0.size)
  clear b0 hb2 L0 M0 HA
  go_wp2_with fail
  refine (HC.out w2 b3).mono ?_
  rintro e w3 ⟨rfl, hb3⟩
  have b4 := b3.trans (hb3.mono b3.size)
  clear c4 d4 HC hb3 b3
  go_wp2
  go_ret
  exact ⟨rfl, b4⟩
end Go.Proofs.YtncnbhekgkemfaaGreatDoor.cn

namespace Go.Proofs.YtncnbhekgkemfaaGreatDoor.mk
open Go.RowKit
set_option linter.unusedVariables false

theorem conv_part {P : Program} {w : World} {src dst e : TypeId} {g cap : Nat} (l : List UInt8) (hs : P.underlying src = some (.slice e)) (he : P.underlying e = some (.int .u8)) (hd : P.underlying dst = some .string)
    (hc : ∀ j, j < l.length → w.cell? ⟨g, j, none⟩ = some (.int .u8 ((l.getD j 0).toNat : Int))) : (convert src dst (.slice (some ⟨g, 0, none⟩) l.length cap)).run P w = .ok (.string ⟨l.toArray⟩) w := by
  refine run_convert_bytes_back w src dst e ⟨g, 0, none⟩ cap l hs he hd (fun j hj => ?_)
  rw [show ((⟨g, 0, none⟩ : Addr).add j) = ⟨g, j, none⟩ from by simp [Addr.add]; omega, hc j hj]
  simp [List.getD_eq_getElem?_getD, hj]

/-- The digit of a number's last place. -/
def ch (k : Int) : UInt8 := UInt8.ofNat (48 + (k % 10).toNat)
/-- A number's digits ahead of a text. -/
def dgs : Nat → Int → ByteArray → ByteArray
  | 0, _, o => o
  | f + 1, k, o => if k ≤ 0 then o else dgs f (k / 10) (⟨#[ch k]⟩ ++ o)
/-- The mark of a number. -/
def mt (k : Int) : ByteArray := ⟨#[109]⟩ ++ dgs 30 k ⟨#[]⟩
theorem dgs_end {f : Nat} {k : Int} {o : ByteArray} (h : k ≤ 0) : dgs f k o = o := by
  cases f with
  | zero => rfl
  | succ f => simp [dgs, h]
theorem dgs_step {f : Nat} {k : Int} {o : ByteArray} (h : 0 < k) : dgs (f + 1) k o = dgs f (k / 10) (⟨#[ch k]⟩ ++ o) := by
  rw [dgs, if_neg (by omega)]
theorem ch_num (k : Int) (h : 0 ≤ k) : ((ch k).toNat : Int) = 48 + k % 10 := by
  unfold ch
  rw [UInt8.toNat_ofNat']
  omega
theorem fuel_pos {f : Nat} {k : Int} (h : 0 < k) (hf : k < 2 ^ f) : ∃ g, f = g + 1 := by
  cases f with
  | zero => simp at hf; omega
  | succ g => exact ⟨g, rfl⟩
theorem fuel_next {g : Nat} {k : Int} (h : 0 < k) (hf : k < 2 ^ (g + 1)) : k / 10 < 2 ^ g := by
  rw [Int.pow_succ] at hf
  generalize (2 : Int) ^ g = x at hf ⊢
  omega

theorem one_cell (w : World) (c : UInt8) : ∀ i, i < [c].length → (w.alloc (.cells #[.int .u8 (c.toNat : Int)] 5)).cell? ⟨w.heap.size, i, none⟩ = some (.int .u8 (([c].getD i 0).toNat : Int)) := by
  intro i hi
  have : i = 0 := by simpa using hi
  subst this
  exact ow.cell_new w [.int .u8 (c.toNat : Int)] 5 0 _ rfl
end Go.Proofs.YtncnbhekgkemfaaGreatDoor.mk

namespace Go.Proofs.YtncnbhekgkemfaaGreatDoor.mk
open Go.RowKit
open ky gr
set_option linter.unusedVariables false

/-- So many marks, from a number on. -/
def marks (k : Int) (n : Nat) : List ByteArray := (List.range n).map fun (i : Nat) => mt (k + (i : Int))
theorem marks_len (k : Int) (n : Nat) : (marks k n).length = n := by simp [marks]
theorem marks_get {k : Int} {n j : Nat} (h : j < n) : (marks k n).getD j nt = mt (k + (j : Int)) := by simp [marks, List.getD_eq_getElem?_getD, h]
theorem grown_set (w : World) (g j : Nat) (u : Value) : w.grownBy (w.setCell ⟨g, j, none⟩ u) (some g) :=
  ⟨rfl, rfl, rfl, by simp [World.setCell], fun i hi hr => heap_setCell_other w ⟨g, j, none⟩ i u (fun e => hr (by rw [e]))⟩
theorem grown_row {w w' : World} {r : Option Nat} (h : w.grownBy w' none) : w.grownBy w' r := ⟨h.os, h.tape, h.output, h.size, fun i hi _ => h.block i hi (by simp)⟩
def Upto (k : Int) (j : Nat) (xs : List Value) : Prop := ∀ i, i < j → xs[i]? = some (.string (mt (k + (i : Int))))
theorem upto_step {k : Int} {j : Nat} {xs : List Value} (h : Upto k j xs) (hl : j < xs.length) : Upto k (j + 1) (xs.set j (.string (mt (k + (j : Int))))) := by
  intro i hi
  by_cases e : i = j
  · subst e; rw [List.getElem?_set_self hl]
  · rw [List.getElem?_set_ne (by omega)]; exact h i (by omega)
theorem upto_all {k : Int} {n : Nat} {xs : List Value} (h : Upto k n xs) (hl : xs.length = n) : xs = (marks k n).map Value.string := by
  refine List.ext_getElem? fun i => ?_
  by_cases hi : i < n
  · rw [h i hi]; simp [marks, hi]
  · rw [List.getElem?_eq_none (by omega), List.getElem?_eq_none (by simp [marks]; omega)]


end Go.Proofs.YtncnbhekgkemfaaGreatDoor.mk

namespace Go.Proofs.YtncnbhekgkemfaaGreatDoor.mx
open Go.RowKit
open gr mk st bx
set_option linter.unusedVariables false

def Same (o o' : Option Obj) : Prop := o' = o ∨ ∃ c c' e, o = some (.cells c e (0, 0)) ∧ o' = some (.cells c' e (0, 0)) ∧ c'.size = c.size
/-- Only blocks from A up to B are written, and each keeps its kind and its size. -/
structure Mk (A B : Nat) (w w' : World) : Prop where
  os : w'.os = w.os
  tape : w'.tape = w.tape
  output : w'.output = w.output
  size : w.heap.size ≤ w'.heap.size
  block : ∀ k, k < w.heap.size → k < A ∨ B ≤ k → w'.heap[k]? = w.heap[k]?
  like : ∀ k, k < w.heap.size → Same w.heap[k]? w'.heap[k]?
theorem Mk.refl (A B : Nat) (w : World) : Mk A B w w := ⟨rfl, rfl, rfl, Nat.le_refl _, fun _ _ _ => rfl, fun _ _ => .inl rfl⟩
theorem same_trans {a b c : Option Obj} (h : Same a b) (h' : Same b c) : Same a c := by
  rcases h with rfl | ⟨x, y, e, rfl, rfl, hs⟩
  · exact h'
  · rcases h' with rfl | ⟨x', y', e', hx, rfl, hs'⟩
    · exact .inr ⟨x, y, e, rfl, rfl, hs⟩
    · cases hx
      exact .inr ⟨x, y', e, rfl, rfl, hs'.trans hs⟩
theorem Mk.trans {A B : Nat} {a b c : World} (h : Mk A B a b) (h' : Mk A B b c) : Mk A B a c :=
  ⟨h'.os.trans h.os, h'.tape.trans h.tape, h'.output.trans h.output, Nat.le_trans h.size h'.size, fun k hk hd => (h'.block k (Nat.lt_of_lt_of_le hk h.size) hd).trans (h.block k hk hd), fun k hk => same_trans (h.like k hk) (h'.like k (Nat.lt_of_lt_of_le hk h.size))⟩
theorem mk_below {A B : Nat} {w w' : World} (h : Below w.heap.size w w') : Mk A B w w' := ⟨h.os, h.tape, h.output, h.size, fun k hk _ => h.block k hk, fun k hk => .inl (h.block k hk)⟩
theorem Mk.bel {A B : Nat} {w w' : World} (h : Mk A B w w') (hA : A ≤ w.heap.size) : Below A w w' := ⟨h.os, h.tape, h.output, h.size, fun k hk => h.block k (Nat.lt_of_lt_of_le hk hA) (.inl hk)⟩
theorem mk_grown {A B : Nat} {w w' : World} {b b' e s n n' c g : Nat} {xs xs' : List Value} (h : w.grownBy w' (some g)) (o : w.ownsRow b e s (.slice (some ⟨g, 0, none⟩) n c) n xs) (o' : w'.ownsRow b' e s (.slice (some ⟨g, 0, none⟩) n' c) n' xs') (hA : A ≤ g) (hB : g < B) : Mk A B w w' := by
  refine ⟨h.os, h.tape, h.output, h.size, fun k hk hd => h.block k hk (by intro e; cases e; omega), fun k hk => ?_⟩
  by_cases ek : k = g
  · subst ek
    rcases o.2 with ⟨e, _⟩ | ⟨g1, cap, cur, e, _, hh, _, _, hz, _⟩
    · cases e
    cases e
    rcases o'.2 with ⟨e, _⟩ | ⟨g1, cap, cur', e, _, hh', _, _, hz', _⟩
    · cases e
    cases e
    exact .inr ⟨cur, cur', _, hh, hh', hz'.trans hz.symm⟩
  · exact .inl (h.block k hk (by intro e; cases e; exact ek rfl))
theorem own_like {A B : Nat} {w w' : World} {b e s n c g : Nat} (h : Mk A B w w') (o : ∃ cs, w.ownsRow b e s (.slice (some ⟨g, 0, none⟩) n c) n cs) : ∃ cs, w'.ownsRow b e s (.slice (some ⟨g, 0, none⟩) n c) n cs := by
  obtain ⟨cs, h1, h2⟩ := o
  rcases h2 with ⟨e, _⟩ | ⟨g1, cap, cur, e, hb, hh, hn, hm, hz, ht⟩
  · cases e
  cases e
  have hlt : g < w.heap.size := (Array.getElem?_eq_some_iff.1 hh).1
  rcases h.like g hlt with e | ⟨x, y, e', hx, hy, hs⟩
  · exact ⟨cs, h1, .inr ⟨g, c, cur, rfl, hb, e.trans hh, hn, hm, hz, ht⟩⟩
  · rw [hh] at hx
    cases hx
    refine ⟨y.toList.take (n * s), ?_, .inr ⟨g, c, y, rfl, hb, hy, hn, hm, hs.trans hz, rfl⟩⟩
    rw [List.length_take, Array.length_toList, hs, hz]
    exact Nat.min_eq_left (Nat.mul_le_mul_right _ hn)



end Go.Proofs.YtncnbhekgkemfaaGreatDoor.mx

namespace Go.Proofs.YtncnbhekgkemfaaGreatDoor.bx
open Go.RowKit
open st
set_option linter.unusedVariables false

/-- The cells of stored mails. -/
def mc : List St → List Value
  | [] => []
  | e :: es => .int .i64 e.u :: .int .i64 e.f :: .string e.t :: mc es
theorem mc_len : ∀ ms : List St, (mc ms).length = ms.length * 3
  | [] => rfl
  | e :: es => by simp [mc, mc_len es]; omega
theorem mc_at : ∀ (ms : List St) (j : Nat), j < ms.length → In3 (mc ms) (j * 3) (ms.getD j noS)
  | [], j, hj => by simp at hj
  | e :: es, 0, hj => ⟨rfl, rfl, rfl⟩
  | e :: es, j + 1, hj => by
    have h := mc_at es j (by simpa using hj)
    unfold In3 at h ⊢
    rw [show (j + 1) * 3 = j * 3 + 1 + 1 + 1 from by omega]
    simpa [mc] using h
theorem mc_one : ∀ (ms : List St), ∀ u ∈ mc ms, u.oneCell' = true
  | [], u, h => by simp [mc] at h
  | e :: es, u, h => by
    simp only [mc, List.mem_cons] at h
    rcases h with rfl | rfl | rfl | h
    · rfl
    · rfl
    · rfl
    · exact mc_one es u h
theorem mc_cells {w : World} {b off : Nat} {ms : List St} (h : ∀ j, j < ms.length → At3 w b (off + j * 3) (ms.getD j noS)) (j : Nat) (u : Value) (hu : (mc ms)[j]? = some u) : w.cell? ⟨b, off + j, none⟩ = some u := by
  have hj := (List.getElem?_eq_some_iff.1 hu).1
  rw [mc_len] at hj
  have hi : j / 3 < ms.length := by omega
  obtain ⟨a0, a1, a2⟩ := h (j / 3) hi
  obtain ⟨m0, m1, m2⟩ := mc_at ms (j / 3) hi
  have hr : j % 3 = 0 ∨ j % 3 = 1 ∨ j % 3 = 2 := by omega
  rcases hr with hr | hr | hr
  · have e : j = j / 3 * 3 := by omega
    rw [e] at hu ⊢
    rw [m0] at hu
    cases hu
    exact a0
  · have e : j = j / 3 * 3 + 1 := by omega
    rw [e] at hu ⊢
    rw [m1] at hu
    cases hu
    exact a1
  · have e : j = j / 3 * 3 + 2 := by omega
    rw [e] at hu ⊢
    rw [m2] at hu
    cases hu
    exact a2
/-- A row of mails that a call made. -/
def OwnM (w : World) (base : Nat) (v : Value) (ms : List St) : Prop := w.ownsRow base 110 3 v ms.length (mc ms)
def OwnK (w : World) (base : Nat) (v : Value) (ks : List ByteArray) : Prop := w.ownsRow base 9 1 v ks.length (ks.map Value.string)
theorem own_lt {w : World} {B e s n : Nat} {v : Value} {xs : List Value} (h : w.ownsRow B e s v n xs) : ∀ k, v.ownBlock = some k → k < w.heap.size := fun k hk => (h.lt k hk).2
theorem ownM_in {w : World} {B N : Nat} {v : Value} {ms : List St} (h : OwnM w B v ms) (hN : w.heap.size ≤ N) : MailsIn w N v ms := by
  rcases id h.2 with ⟨rfl, hz⟩ | ⟨g, cap, cur, rfl, _, hb, _⟩
  · have : ms = [] := List.eq_nil_of_length_eq_zero hz
    subst this
    exact ⟨none, 0, rfl, .inl rfl⟩
  · refine ⟨_, cap, rfl, .inr ⟨g, 0, rfl, Nat.lt_of_lt_of_le (Array.getElem?_eq_some_iff.1 hb).1 hN, fun j hj => ?_⟩⟩
    obtain ⟨h0, h1, h2⟩ := mc_at ms j hj
    have h' : w.ownsRow B 110 3 (.slice (some ⟨g, 0, none⟩) ms.length cap) ms.length (mc ms) := h
    refine ⟨?_, ?_, ?_⟩
    · rw [Nat.zero_add, h'.cellAt _ (by omega), h0]
    · rw [Nat.zero_add, h'.cellAt _ (by omega), h1]
    · rw [Nat.zero_add, h'.cellAt _ (by omega), h2]
theorem ownK_in {w : World} {B N : Nat} {v : Value} {ks : List ByteArray} (h : OwnK w B v ks) (hN : w.heap.size ≤ N) : tx.TextsIn w N v ks := by
  rcases id h.2 with ⟨rfl, hz⟩ | ⟨g, cap, cur, rfl, _, hb, _⟩
  · have : ks = [] := List.eq_nil_of_length_eq_zero hz
    subst this
    exact ⟨none, 0, rfl, .inl rfl⟩
  · refine ⟨_, cap, rfl, .inr ⟨g, 0, rfl, Nat.lt_of_lt_of_le (Array.getElem?_eq_some_iff.1 hb).1 hN, fun j hj => ?_⟩⟩
    have h' : w.ownsRow B 9 1 (.slice (some ⟨g, 0, none⟩) ks.length cap) ks.length (ks.map Value.string) := h
    rw [Nat.zero_add, h'.cellAt _ (by omega)]
    simp [List.getD_eq_getElem?_getD, hj]
/-- A slice that is nil, or lies in memory. -/
def Fine (v : Value) : Prop := v = .slice none 0 0 ∨ ∃ ad n c, v = .slice (some ad) n c
theorem own_fine {w : World} {B e s n : Nat} {v : Value} {xs : List Value} (h : w.ownsRow B e s v n xs) : Fine v := by
  rcases h.2 with ⟨rfl, _⟩ | ⟨g, cap, cur, rfl, _⟩
  · exact .inl rfl
  · exact .inr ⟨_, _, _, rfl⟩
theorem infoT : (Tryz.prog.info? 9).map (fun i => (i.zero, i.size, i.bytes)) = some (some (.string ⟨#[]⟩), 1, 16) := by kernel_rfl
theorem src_mails {w : World} {N : Nat} {ad : Addr} {n c : Nat} {ms : List St} (h : MailsIn w N (.slice (some ad) n c) ms) : n = ms.length ∧ ∀ j u, (mc ms)[j]? = some u → w.cell? (ad.add j) = some u := by
  obtain ⟨a, cap, e, h⟩ := h
  cases e
  refine ⟨rfl, fun j u hu => ?_⟩
  rcases h with h | ⟨b, off, e, _, h⟩
  · rw [h] at hu; simp [mc] at hu
  · cases e
    rw [show ((⟨b, off, none⟩ : Addr).add j) = ⟨b, off + j, none⟩ from by simp [Addr.add]]
    exact mc_cells h j u hu
theorem src_texts {w : World} {N : Nat} {ad : Addr} {n c : Nat} {ks : List ByteArray} (h : tx.TextsIn w N (.slice (some ad) n c) ks) : n = ks.length ∧ ∀ j u, (ks.map Value.string)[j]? = some u → w.cell? (ad.add j) = some u := by
  obtain ⟨a, cap, e, h⟩ := h
  cases e
  refine ⟨rfl, fun j u hu => ?_⟩
  rcases h with h | ⟨b, off, e, _, h⟩
  · rw [h] at hu; simp at hu
  · cases e
    rw [show ((⟨b, off, none⟩ : Addr).add j) = ⟨b, off + j, none⟩ from by simp [Addr.add]]
    have hj : j < ks.length := by
      have := (List.getElem?_eq_some_iff.1 hu).1
      simpa using this
    rw [h j hj, ← hu]
    simp [List.getD_eq_getElem?_getD, hj]
theorem str_one (ks : List ByteArray) : ∀ u ∈ ks.map Value.string, u.oneCell' = true := by
  intro u hu
  obtain ⟨b, _, rfl⟩ := List.mem_map.1 hu
  rfl


/-- An append of what a slice holds, nil or not. -/
theorem wpList_append_any {P : Program} {w : World} {ops : Array Oper} {rest : List Oper} {o : Oper} {a : Act} {Q : Exit → Act → World → Prop} (hgd : o.guard = none) (s x : Operand) (t : TypeId)
    (ho : o.op = .call { callee := .builtin .append, args := #[s, x], argTypes := #[t, t] })
    (base : Nat) (e : TypeId) (i : TypeInfo) (z : Value) (size bytes : Nat) (ht : P.underlying t = some (.slice e)) (hi : P.info? e = some i) (hz : i.zero = some z)
    (hsize : i.size = size) (hby : i.bytes = bytes) (hzs : z.cells.size = size) (hsz : 0 < size)
    (v : Value) (n : Nat) (xs : List Value) (hs : a.eval s = v) (hown : w.ownsRow base e size v n xs)
    (y : Value) (m : Nat) (news : List Value) (hx : a.eval x = y) (hy : (y = .slice none 0 0 ∧ m = 0 ∧ news = []) ∨ ∃ ad c, y = .slice (some ad) m c ∧ news.length = m * size ∧ ∀ j u, news[j]? = some u → w.cell? (ad.add j) = some u) (h1 : ∀ u ∈ news, u.oneCell' = true)
    (h63 : n + m ≤ maxLen) (hbytes : (n + m) * bytes ≤ 140737488355328) (hbase : base ≤ w.heap.size)
    (h : ∀ v' w', w'.ownsRow base e size v' (n + m) (xs ++ news) → w.grownBy w' v.ownBlock → wpList P ops Q rest (a.put o.dst v') w') : wpList P ops Q (o :: rest) a w := by
  rcases hy with ⟨rfl, rfl, rfl⟩ | ⟨ad, c, rfl, hl, hn⟩
  · refine wpList_append_own_none hgd s x t ho base e i size ht hi v n xs hs hown hx (h v w ?_ (ow.grown_refl _ _))
    rw [List.append_nil]
    exact hown
  · exact wpList_append_own w hgd s x t ho base e i z size bytes ht hi hz hsize hby hzs hsz v n xs hs hown ad m c news hx hl hn h1 h63 hbytes hbase (fun v' w' a b _ => h v' w' a b)
theorem mails_src {w : World} {N : Nat} {v : Value} {ms : List St} (h : MailsIn w N v ms) (hv : Fine v) : (v = .slice none 0 0 ∧ ms.length = 0 ∧ mc ms = []) ∨ ∃ ad c, v = .slice (some ad) ms.length c ∧ (mc ms).length = ms.length * 3 ∧ ∀ j u, (mc ms)[j]? = some u → w.cell? (ad.add j) = some u := by
  rcases hv with rfl | ⟨ad, n, c, rfl⟩
  · obtain ⟨a, cap, e, _⟩ := h
    simp only [Value.slice.injEq] at e
    have : ms = [] := List.eq_nil_of_length_eq_zero e.2.1.symm
    subst this
    exact .inl ⟨rfl, rfl, rfl⟩
  · obtain ⟨rfl, hs⟩ := src_mails h
    exact .inr ⟨ad, c, rfl, mc_len ms, hs⟩
theorem texts_src {w : World} {N : Nat} {v : Value} {ks : List ByteArray} (h : tx.TextsIn w N v ks) (hv : Fine v) : (v = .slice none 0 0 ∧ ks.length = 0 ∧ ks.map Value.string = []) ∨ ∃ ad c, v = .slice (some ad) ks.length c ∧ (ks.map Value.string).length = ks.length * 1 ∧ ∀ j u, (ks.map Value.string)[j]? = some u → w.cell? (ad.add j) = some u := by
  rcases hv with rfl | ⟨ad, n, c, rfl⟩
  · obtain ⟨a, cap, e, _⟩ := h
    simp only [Value.slice.injEq] at e
    have : ks = [] := List.eq_nil_of_length_eq_zero e.2.1.symm
    subst this
    exact .inl ⟨rfl, rfl, rfl⟩
  · obtain ⟨rfl, hs⟩ := src_texts h
    exact .inr ⟨ad, c, rfl, by simp, hs⟩
end Go.Proofs.YtncnbhekgkemfaaGreatDoor.bx
