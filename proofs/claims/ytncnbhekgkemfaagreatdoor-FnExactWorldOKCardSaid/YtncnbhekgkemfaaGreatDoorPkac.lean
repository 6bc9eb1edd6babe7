/-
  Connections as rows: measured by the law's own functions; as an argument, opened.
  Both ImapOK functions, both NewImap functions, the marks of a session whose view is empty.
  Items as rows of pairs of texts: read by the law's own measure, copy and comparison.
  The laws' own copy of items, and their comparison of items that are the same.
  Items as an argument, opened.
-/
import Derived.Test.YtncnbhekgkemfaaGreatDoorPkab
import Derived.Deep.Fields
import Derived.Test.YtncnbhekgkemfaaGreatDoorRows
import Derived.Test.YtncnbhekgkemfaaGreatDoorPkaa
import Derived.WalkKit
import Derived.WalkLawsBesides
import Derived.Below
import Derived.BigRegion
import Derived.ProofKit
import Derived.OpenShut
import Derived.ChangeOld
import Derived.Lib.SmallJoins
import Derived.Deep.SlicePairs

namespace Go.Proofs.YtncnbhekgkemfaaGreatDoor.cn
open Go.ChangeShapes Go.WideShapes Go.ChangeAt Go.RowKit Go.Deep Go.Joins
open im (Im)
open ow (Reads)
set_option linter.unusedVariables false

structure Cn where
  kd : Int
  bf : ByteArray
  st : Int
  bx : ByteArray
  ro : Bool
  vw : List Int
  g : ByteArray
  n : Int
  o : Bool
def Cn.im (x : Cn) : Im := ⟨x.st, x.bx, x.ro, x.vw⟩
def noC : Cn := ⟨0, ⟨#[]⟩, 0, ⟨#[]⟩, false, [], ⟨#[]⟩, 0, false⟩
def cells (x : Cn) (v : Value) : Array Value := #[.int .i64 x.kd, .string x.bf, .int .i64 x.st, .string x.bx, .bool x.ro, v, .string x.g, .int .i64 x.n, .bool x.o]
def CV (x : Cn) (v : Value) : Value := .agg (cells x v)
def Held (x : Cn) : Prop := x.bf.size ≤ maxLen ∧ x.bx.size ≤ maxLen ∧ x.vw.length ≤ maxLen ∧ x.g.size ≤ maxLen
def Small (x : Cn) : Prop := x.bf.size ≤ 1048576 ∧ x.bx.size ≤ 1048576 ∧ x.vw.length ≤ 1048576 ∧ x.g.size ≤ 1048576
/-- A list of numbers that lies in a block behind R. -/
def View (w : World) (R : Nat) (v : Value) (zs : List Int) : Prop :=
  ∃ (a : Option Addr) (cap : Nat), v = .slice a zs.length cap ∧ (zs = [] ∨ ∃ b off, a = some ⟨b, off, none⟩ ∧ R < b ∧ ∀ j, j < zs.length → w.cell? ⟨b, off + j, none⟩ = some (.int .i64 (zs.getD j 0)))
theorem view_reads {w : World} {R : Nat} {v : Value} {zs : List Int} (h : View w R v zs) : Reads .i64 w v zs := by
  obtain ⟨a, cap, rfl, h⟩ := h
  refine ⟨a, cap, rfl, ?_⟩
  rcases h with h | ⟨b, off, rfl, _, h⟩
  · exact .inl h
  · exact .inr ⟨b, off, rfl, h⟩
theorem view_below {w w' : World} {R : Nat} {v : Value} {zs : List Int} (h : View w R v zs) (hb : Below w.heap.size w w') : View w' R v zs := by
  obtain ⟨a, cap, rfl, h⟩ := h
  refine ⟨a, cap, rfl, ?_⟩
  rcases h with h | ⟨b, off, rfl, hR, h⟩
  · exact .inl h
  · exact .inr ⟨b, off, rfl, hR, fun j hj => (hb.cell (p := ⟨b, off + j, none⟩) (World.block_lt_of_cell? w _ (h j hj))).trans (h j hj)⟩
theorem view_set {w : World} {R : Nat} {v : Value} {zs : List Int} (h : View w R v zs) (j : Nat) (u : Value) : View (w.setCell ⟨R, j, none⟩ u) R v zs := by
  obtain ⟨a, cap, rfl, h⟩ := h
  refine ⟨a, cap, rfl, ?_⟩
  rcases h with h | ⟨b, off, rfl, hR, h⟩
  · exact .inl h
  · refine .inr ⟨b, off, rfl, hR, fun i hi => ?_⟩
    rw [← h i hi]
    simp only [World.cell?, heap_setCell_other w ⟨R, j, none⟩ b u (Nat.ne_of_gt hR)]
theorem view_own {w : World} {base e n R : Nat} {v : Value} {zs : List Int} (h : w.ownsRow base e 1 v n (zs.map (Value.int .i64))) (hR : R < base) : View w R v zs := by
  have hr := ow.reads_own h
  obtain ⟨a, cap, rfl, hc⟩ := hr
  refine ⟨a, cap, rfl, ?_⟩
  rcases hc with hc | ⟨b, off, rfl, hc⟩
  · exact .inl hc
  · refine .inr ⟨b, off, rfl, ?_, hc⟩
    have := (h.lt b rfl).1
    omega
theorem view_hi {w w' : World} {R : Nat} {v : Value} {zs : List Int} (h : View w R v zs) (hw : ∀ q, R ≤ q → w'.heap[q]? = w.heap[q]?) : View w' R v zs := by
  obtain ⟨a, cap, rfl, h⟩ := h
  refine ⟨a, cap, rfl, ?_⟩
  rcases h with h | ⟨b, off, rfl, hR, h⟩
  · exact .inl h
  · refine .inr ⟨b, off, rfl, hR, fun i hi => ?_⟩
    rw [← h i hi]
    simp only [World.cell?, hw b (Nat.le_of_lt hR)]
/-- The nine cells of a connection. -/
def At9 (w : World) (b o : Nat) (x : Cn) (v : Value) : Prop := ∀ k, k < 9 → w.cell? ⟨b, o + k, none⟩ = (cells x v)[k]?
theorem At9.keep {w w' : World} {n b o : Nat} {x : Cn} {v : Value} (h : At9 w b o x v) (hb : Below n w w') (hn : b < n) : At9 w' b o x v := fun k hk => (hb.cell (p := ⟨b, o + k, none⟩) hn).trans (h k hk)
theorem At9.lt {w : World} {b o : Nat} {x : Cn} {v : Value} (h : At9 w b o x v) : b < w.heap.size := World.block_lt_of_cell? w _ ((h 0 (by omega)).trans (show (cells x v)[0]? = some (.int .i64 x.kd) from rfl))
/-- A slice of connections with their lists. -/
def ConnsAt (w : World) (v : Value) (xs : List Cn) (vs : Nat → Value) : Prop :=
  (∃ a cap, v = .slice a xs.length cap ∧ (xs = [] ∨ ∃ b off, a = some ⟨b, off, none⟩ ∧ ∀ j, j < xs.length → At9 w b (off + j * 9) (xs.getD j noC) (vs j))) ∧ ∀ j, j < xs.length → Reads .i64 w (vs j) (xs.getD j noC).vw
theorem conns_below {w w' : World} {v : Value} {xs : List Cn} {vs : Nat → Value} (h : ConnsAt w v xs vs) (hb : Below w.heap.size w w') : ConnsAt w' v xs vs := by
  obtain ⟨⟨a, cap, rfl, h⟩, h2⟩ := h
  refine ⟨⟨a, cap, rfl, ?_⟩, fun j hj => im.reads_below (h2 j hj) hb⟩
  rcases h with h | ⟨b, off, rfl, h⟩
  · exact .inl h
  · exact .inr ⟨b, off, rfl, fun j hj => (h j hj).keep hb (h j hj).lt⟩
/-- Connections whose row and lists lie in blocks from R on are as they were where those blocks are. -/
theorem conns_hi {w w' : World} {R n c : Nat} {xs : List Cn} {vs : Nat → Value} (h : ConnsAt w (.slice (some ⟨R, 0, none⟩) n c) xs vs) (hv : ∀ j, j < xs.length → View w R (vs j) (xs.getD j noC).vw) (hw : ∀ q, R ≤ q → w'.heap[q]? = w.heap[q]?) : ConnsAt w' (.slice (some ⟨R, 0, none⟩) n c) xs vs := by
  obtain ⟨⟨a, cap, e, h⟩, h2⟩ := h
  refine ⟨⟨a, cap, e, ?_⟩, fun j hj => view_reads (view_hi (hv j hj) hw)⟩
  rcases h with h | ⟨b, off, rfl, h⟩
  · exact .inl h
  · cases e
    refine .inr ⟨R, 0, rfl, fun j hj k hk => ?_⟩
    rw [← h j hj k hk]
    simp only [World.cell?, hw R (Nat.le_refl _)]
def Smalls (xs : List Cn) : Prop := xs.length ≤ 1048576 ∧ ∀ j, j < xs.length → Small (xs.getD j noC)
def SmallsTo (xs : List Cn) (k : Nat) : Prop := xs.length ≤ 1048576 ∧ ∀ j, j < k → Small (xs.getD j noC)
/-- A connection that lies as a variable. -/
def Lies (w : World) (b : Nat) (T : TypeId) (x : Cn) (v : Value) : Prop := w.heap[b]? = some (.cells (cells x v) T (0, 0))
theorem Lies.c {w : World} {b : Nat} {T : TypeId} {x : Cn} {v : Value} (h : Lies w b T x v) (k : Nat) : w.cell? ⟨b, k, none⟩ = (cells x v)[k]? := by rw [cell_of_row w _ _ _ _ _ h]
theorem Lies.f {w : World} {b : Nat} {T : TypeId} {x : Cn} {v : Value} (h : Lies w b T x v) (k : Nat) : w.frozen? ⟨b, k, none⟩ = false := frozen_of_row _ _ _ _ _ h
theorem Lies.lt {w : World} {b : Nat} {T : TypeId} {x : Cn} {v : Value} (h : Lies w b T x v) : b < w.heap.size := World.block_lt_of_cell? w _ ((h.c 0).trans (show (cells x v)[0]? = some (.int .i64 x.kd) from rfl))
theorem Lies.keep {w w' : World} {b : Nat} {T : TypeId} {x : Cn} {v : Value} (h : Lies w b T x v) (hb : Below w.heap.size w w') : Lies w' b T x v := (hb.block b h.lt).trans h
theorem lies_new (w : World) (T : TypeId) (x : Cn) (v : Value) : Lies (w.alloc (.cells (cells x v) T)) w.heap.size T x v := by show (w.heap.push _)[w.heap.size]? = _; simp
theorem new_below (w : World) (T : TypeId) (cs : Array Value) : Below w.heap.size w (w.alloc (.cells cs T)) := (Below.refl _ _).alloc (Nat.le_refl _) _

set_option maxHeartbeats 1000000 in
theorem szImap_gen (x : Im) (v : Value) (left : Int) (w : World) (h : Reads .i64 w v x.vw) (h0 : 0 ≤ left) (h1 : left ≤ 1048576) (hl : x.vw.length ≤ maxLen) (hb : x.bx.size ≤ maxLen) :
    Calls Tryz.prog 46 #[im.IV x v, .int .i64 left] w fun e w' => (∃ z : Int, e = .returned (.int .i64 z) ∧ z ≤ left ∧ -1 ≤ z ∧ (0 ≤ z → x.vw.length ≤ 1048576 ∧ x.bx.size ≤ 1048576)) ∧ Below w.heap.size w w' := by
  have L0 := im.lies_new w 63 x v
  have hbw := im.new_below w 63 #[.int .i64 x.st, .string x.bx, .bool x.ro, v]
  have HR : Hid (Reads .i64 (w.alloc (.cells #[.int .i64 x.st, .string x.bx, .bool x.ro, v] 63)) v x.vw) := im.reads_below h hbw
  obtain ⟨a, cap, rfl, _⟩ := h
  obtain ⟨st, bx, ro, vw⟩ := x
  unfold im.IV
  simp only at *
  have hb' : bx.size ≤ 9223372036854775807 := hb
  by_cases g0 : left - (bx.size : Int) < 0
  · go_enter Tryz.func46, Tryz.ntmps46
    go_wp2
    go_ret
    exact ⟨⟨-1, rfl, by omega, by omega, by omega⟩, hbw⟩
  go_enter Tryz.func46, Tryz.ntmps46
  go_wp2_with fail
  refine (im.szInts_any _ vw _ _ HR.out (by omega) (by omega) hl).mono ?_
  rintro e w1 ⟨⟨z, rfl, hz0, hz1, hz2⟩, rfl⟩
  by_cases hz : z < 0
  · go_wp2
    go_ret
    exact ⟨⟨-1, rfl, by omega, by omega, by omega⟩, hbw⟩
  · go_wp2
    go_ret
    exact ⟨⟨z, rfl, by omega, by omega, fun _ => ⟨hz2 (by omega), by omega⟩⟩, hbw⟩
theorem szNntp_any (g : ByteArray) (n : Int) (o : Bool) (left : Int) (w : World) (h0 : 0 ≤ left) (h1 : left ≤ 1048576) (hg : g.size ≤ maxLen) :
    Calls Tryz.prog 47 #[.agg #[.string g, .int .i64 n, .bool o], .int .i64 left] w fun e w' => (∃ z : Int, e = .returned (.int .i64 z) ∧ z ≤ left ∧ -1 ≤ z ∧ (0 ≤ z → g.size ≤ 1048576)) ∧ Below w.heap.size w w' := by
  have hbw := new_below w 64 #[.string g, .int .i64 n, .bool o]
  have hb' : g.size ≤ 9223372036854775807 := hg
  by_cases g0 : left - (g.size : Int) < 0
  · go_enter Tryz.func47, Tryz.ntmps47
    go_wp2
    go_ret
    exact ⟨⟨-1, rfl, by omega, by omega, by omega⟩, hbw⟩
  · go_enter Tryz.func47, Tryz.ntmps47
    go_wp2
    go_ret
    exact ⟨⟨_, rfl, by omega, by omega, by omega⟩, hbw⟩
set_option maxHeartbeats 2000000 in
set_option maxRecDepth 100000 in
theorem szConn_any (x : Cn) (v : Value) (left : Int) (w : World) (h : Reads .i64 w v x.vw) (h0 : 0 ≤ left) (h1 : left ≤ 1048576) (hh : Held x) :
    Calls Tryz.prog 23 #[CV x v, .int .i64 left] w fun e w' => (∃ z : Int, e = .returned (.int .i64 z) ∧ z ≤ left ∧ -1 ≤ z ∧ (0 ≤ z → Small x)) ∧ Below w.heap.size w w' := by
  have L0 := lies_new w 66 x v
  have b0 := new_below w 66 (cells x v)
  obtain ⟨hh1, hh2, hh3, hh4⟩ := hh
  have HR : Hid (Reads .i64 (w.alloc (.cells (cells x v) 66)) v x.vw) := im.reads_below h b0
  obtain ⟨a, cap, rfl, _⟩ := h
  have HS : Hid (∀ (y : Int) W u, Reads .i64 W u x.vw → 0 ≤ y → y ≤ 1048576 → Calls Tryz.prog 46 #[.agg #[.int .i64 x.st, .string x.bx, .bool x.ro, u], .int .i64 y] W fun e w' => (∃ z : Int, e = .returned (.int .i64 z) ∧ z ≤ y ∧ -1 ≤ z ∧ (0 ≤ z → x.vw.length ≤ 1048576 ∧ x.bx.size ≤ 1048576)) ∧ Below W.heap.size W w') := fun y W u h1 h2 h3 => szImap_gen x.im u y W h1 h2 h3 hh3 hh2
  have hb' : x.bf.size ≤ 9223372036854775807 := hh1
  have H4 : Hid (x.g.size ≤ maxLen) := hh4
  clear hh1 hh2 hh3 hh4
  unfold CV cells at *
  obtain ⟨kd, bf, st, bx, ro, vw, g, n, o⟩ := x
  simp only at *
  by_cases g0 : left - (bf.size : Int) < 0
  · clear L0 HR HS
    go_enter Tryz.func23, Tryz.ntmps23
    go_wp2
    go_ret
    exact ⟨⟨-1, rfl, by omega, by omega, by omega⟩, b0⟩
  go_enter Tryz.func23, Tryz.ntmps23
  go_wp2_with fail
  generalize w.alloc _ = w0 at L0 b0 HR ⊢
  have HL0 : Hid (Lies w0 w.heap.size 66 ⟨kd, bf, st, bx, ro, vw, g, n, o⟩ (.slice a vw.length cap)) := L0
  clear L0
  refine (HS.out _ w0 _ HR.out (by omega) (by omega)).mono ?_
  rintro e w1 ⟨⟨z, rfl, hz0, hz1, hz2⟩, hb1⟩
  have L1 := HL0.out.keep hb1
  have b1 := b0.trans (hb1.mono b0.size)
  have c6 := L1.c 6
  have c7 := L1.c 7
  have c8 := L1.c 8
  have HZ : Hid (0 ≤ z → vw.length ≤ 1048576 ∧ bx.size ≤ 1048576) := hz2
  clear hz2 hb1 b0 L1 HL0 HR HS
  by_cases hz : z < 0
  · go_wp2
    go_ret
    exact ⟨⟨-1, rfl, by omega, by omega, by omega⟩, b1⟩
  simp only [cells] at c6 c7 c8
  go_wp2_with fail
  refine (szNntp_any g n o z w1 (by omega) (by omega) H4.out).mono ?_
  rintro e w2 ⟨⟨y, rfl, hy0, hy1, hy2⟩, hb2⟩
  have b2 := b1.trans (hb2.mono b1.size)
  have HY : Hid (0 ≤ y → g.size ≤ 1048576) := hy2
  clear hy2 hb2 b1 c6 c7 c8
  by_cases hy : y < 0
  · go_wp2
    go_ret
    exact ⟨⟨-1, rfl, by omega, by omega, by omega⟩, b2⟩
  · go_wp2
    go_ret
    exact ⟨⟨y, rfl, by omega, by omega, fun _ => ⟨by show bf.size ≤ 1048576; omega, (HZ.out (by omega)).2, (HZ.out (by omega)).1, HY.out (by omega)⟩⟩, b2⟩
set_option maxHeartbeats 2000000 in
set_option maxRecDepth 100000 in
theorem szConnS_any (v : Value) (xs : List Cn) (vs : Nat → Value) (left : Int) (w : World) (h : ConnsAt w v xs vs) (h0 : 0 ≤ left) (h1 : left ≤ 1048576) (hl : xs.length ≤ maxLen) (hs : ∀ j, j < xs.length → Held (xs.getD j noC)) :
    Calls Tryz.prog 10 #[v, .int .i64 left] w fun e w' => (∃ z : Int, e = .returned (.int .i64 z) ∧ z ≤ left ∧ -1 ≤ z ∧ (0 ≤ z → Smalls xs)) ∧ Below w.heap.size w w' := by
  have HALL : Hid (∀ W, Below w.heap.size w W → ConnsAt W v xs vs) := fun W hW => conns_below h hW
  obtain ⟨⟨a, cap, rfl, hc⟩, _⟩ := h
  obtain ⟨n, hn⟩ : ∃ n, n = xs.length := ⟨_, rfl⟩
  have HN : Hid (n = xs.length) := hn
  have HH : Hid (xs = [] ∨ ∃ b off, a = some ⟨b, off, none⟩ ∧ ∀ j, j < xs.length → At9 w b (off + j * 9) (xs.getD j noC) (vs j)) := hc
  have HS : Hid (∀ j, j < xs.length → Held (xs.getD j noC)) := hs
  rw [← hn] at hl HALL ⊢
  clear hc hs hn
  unfold maxLen at hl
  by_cases g0 : left - (n : Int) < 0
  · go_enter Tryz.func10, Tryz.ntmps10
    go_wp2
    go_ret
    exact ⟨⟨-1, rfl, by omega, by omega, by omega⟩, Below.refl _ _⟩
  go_enter Tryz.func10, Tryz.ntmps10
  go_wp2
  go_loopw [1, 5] (fun z i wr => ∃ (k : Nat) (y : Int), k ≤ n ∧ 0 ≤ y ∧ y ≤ left ∧ z = .int .i64 y ∧ i = .int .i64 k ∧ SmallsTo xs k ∧ Below w.heap.size w wr) (fun _ i _ => n - (intOf i).toNat)
  case atStart => exact ⟨0, left - (n : Int), Nat.zero_le _, by omega, by omega, rfl, rfl, ⟨by rw [← HN.out]; omega, fun j hj => absurd hj (Nat.not_lt_zero _)⟩, Below.refl _ _⟩
  case round =>
    obtain ⟨k, y, hk, hy0, hy1, rfl, rfl, hsm, hbw⟩ := hrel
    have HSM : Hid (SmallsTo xs k) := hsm
    clear hsm
    by_cases hlt : k < n
    · have hka : k < xs.length := by rw [← HN.out]; exact hlt
      rcases HH.out with e | ⟨b, off, rfl, hcells⟩
      · rw [e] at hka; simp at hka
      have hat := (hcells k hka).keep hbw (hcells k hka).lt
      have hrw := (HALL.out wr hbw).2 k hka
      have hhd := HS.out k hka
      clear hcells hka
      generalize hx : xs.getD k noC = x at hat hhd hrw
      have HX : Hid (xs.getD k noC = x) := hx
      generalize vs k = q at hat hrw
      have c0 := hat 0 (by omega)
      have c1 := hat 1 (by omega)
      have c2 := hat 2 (by omega)
      have c3 := hat 3 (by omega)
      have c4 := hat 4 (by omega)
      have c5 := hat 5 (by omega)
      have c6 := hat 6 (by omega)
      have c7 := hat 7 (by omega)
      have c8 := hat 8 (by omega)
      clear hx hat
      have HRW : Hid (Reads .i64 wr q x.vw) := hrw
      have HHD : Hid (Held x) := hhd
      have HSZ : Hid (∀ u, Reads .i64 wr u x.vw → Calls Tryz.prog 23 #[.agg (cells x u), .int .i64 y] wr fun e w' => (∃ z : Int, e = .returned (.int .i64 z) ∧ z ≤ y ∧ -1 ≤ z ∧ (0 ≤ z → Small x)) ∧ Below wr.heap.size wr w') := fun u hu => szConn_any x u y wr hu hy0 (by omega) hhd
      obtain ⟨a2, cap2, rfl, _⟩ := hrw
      clear hhd
      obtain ⟨kd, bf, st, bx, ro, vw, g, m, o⟩ := x
      simp only [cells, Nat.add_zero] at c0 c1 c2 c3 c4 c5 c6 c7 c8 HSZ
      go_wp2_with fail
      refine (HSZ.out _ HRW.out).mono ?_
      rintro e w2 ⟨⟨z, rfl, hz0, hz1, hz2⟩, hb2⟩
      have HZ : Hid (0 ≤ z → Small ⟨kd, bf, st, bx, ro, vw, g, m, o⟩) := hz2
      clear hz2 HRW HHD c0 c1 c2 c3 c4 c5 c6 c7 c8 HSZ
      by_cases hz : z < 0
      · go_wp2
        go_ret
        exact ⟨⟨-1, rfl, by omega, by omega, by omega⟩, hbw.trans (hb2.mono hbw.size)⟩
      · go_wp2
        go_roundw
        case rel => exact ⟨k + 1, z, by omega, by omega, by omega, rfl, by go_num, ⟨HSM.out.1, fun j hj => by by_cases hjk : j = k; subst hjk; rw [HX.out]; exact HZ.out (by omega); exact HSM.out.2 j (by omega)⟩, hbw.trans (hb2.mono hbw.size)⟩
        case measure => simp [intOf]; omega
    · go_wp2
      go_ret
      exact ⟨⟨y, rfl, by omega, by omega, fun _ => ⟨HSM.out.1, fun j hj => HSM.out.2 j (by have := HN.out; omega)⟩⟩, hbw⟩
end Go.Proofs.YtncnbhekgkemfaaGreatDoor.cn

namespace Go.Proofs.YtncnbhekgkemfaaGreatDoor.im
open Go.ChangeShapes Go.WideShapes Go.ChangeAt Go.RowKit Go.Deep Go.Joins
open ow (Reads Says says_yes says_no)
open vi nm
set_option linter.unusedVariables false

theorem empty_list {s : ByteArray} (h : s.size = 0) : s.toList.isEmpty = true := by rw [Lib.size_eq] at h; rw [Lib.toList_data, List.isEmpty_iff]; exact List.eq_nil_of_length_eq_zero h
theorem full_list {s : ByteArray} (h : ¬ s.size = 0) : s.toList.isEmpty = false := by
  rw [Lib.size_eq] at h
  rw [Lib.toList_data, Bool.eq_false_iff]
  intro e
  rw [List.isEmpty_iff] at e
  exact h (by rw [e]; rfl)

/-- A session that selects no box is right. -/
def Bare (x : Im) : Prop := x.bx.size = 0 ∧ x.ro = false ∧ x.vw.length = 0
/-- What makes a session right. -/
def Right (x : Im) : Prop := (x.st = 3 ∧ IsName x.bx ∧ IsV x.vw) ∨ ((0 ≤ x.st ∧ x.st ≤ 2) ∧ Bare x)

set_option maxHeartbeats 2000000 in
set_option maxRecDepth 100000 in
theorem impl_iok (x : Im) (v : Value) (w : World) (h : Reads .i64 w v x.vw) (hn : x.vw.length ≤ 1048576) (hb : x.bx.size ≤ 1048576) :
    Calls Tryz.prog 35 #[IV x v] w fun e w' => Says (Right x) e ∧ Below w.heap.size w w' := by
  have hbw := new_below w 48 #[.int .i64 x.st, .string x.bx, .bool x.ro, v]
  have HR : Hid (Reads .i64 (w.alloc (.cells #[.int .i64 x.st, .string x.bx, .bool x.ro, v] 48)) v x.vw) := reads_below h hbw
  obtain ⟨a, cap, rfl, _⟩ := h
  obtain ⟨st, bx, ro, vw⟩ := x
  unfold IV
  simp only at *
  by_cases h3 : st = 3
  · subst h3
    go_enter Tryz.func35, Tryz.ntmps35
    go_wp2_with fail
    refine (implName_any bx _ hb).mono ?_
    rintro e w1 ⟨⟨bn, rfl, hbn⟩, rfl⟩
    have HBN : Hid (bn = true ↔ IsName bx) := hbn
    clear hbn
    cases bn
    · go_wp2
      go_ret
      exact ⟨says_no (fun y => by rcases y with ⟨_, y, _⟩ | ⟨y, _⟩; exact absurd (HBN.out.2 y) (by simp); have := y.2; simp at this), hbw⟩
    go_wp2_with fail
    refine (impl_view _ vw _ HR.out hn).mono ?_
    rintro e w1 ⟨⟨bv, rfl, hbv⟩, rfl⟩
    have HBV : Hid (bv = true ↔ IsV vw) := hbv
    clear hbv
    go_wp2
    go_ret
    refine ⟨⟨bv, rfl, ?_⟩, hbw⟩
    rw [HBV.out]
    exact ⟨fun y => .inl ⟨rfl, HBN.out.1 (by trivial), y⟩, fun y => by rcases y with ⟨_, _, y⟩ | ⟨y, _⟩; exact y; have := y.2; simp at this⟩
  have e3 : (st == 3) = false := beq_eq_false_iff_ne.2 h3
  by_cases hr : 0 ≤ st ∧ st ≤ 2
  · have HNo : Hid (¬ (st = 3)) := h3
    by_cases g0 : bx.size = 0
    · have q0 := empty_list g0
      cases ro
      · by_cases g2 : vw.length = 0
        · have q2 : ((vw.length : Int) == 0) = true := beq_iff_eq.2 (by omega)
          have HF : Hid (Right ⟨st, bx, false, vw⟩) := .inr ⟨hr, g0, rfl, g2⟩
          clear h3 g0 g2
          obtain rfl | rfl | rfl : st = 0 ∨ st = 1 ∨ st = 2 := by omega
          all_goals
            clear hr e3
            go_enter Tryz.func35, Tryz.ntmps35
            go_wp2
            go_ret
            exact ⟨says_yes HF.out, hbw⟩
        · have q2 : ((vw.length : Int) == 0) = false := beq_eq_false_iff_ne.2 (by omega)
          have HF : Hid (¬ Right ⟨st, bx, false, vw⟩) := fun y => by rcases y with ⟨y, _⟩ | ⟨_, _, _, y⟩; exact h3 y; exact g2 y
          clear h3 g0 g2
          obtain rfl | rfl | rfl : st = 0 ∨ st = 1 ∨ st = 2 := by omega
          all_goals
            clear hr e3
            go_enter Tryz.func35, Tryz.ntmps35
            go_wp2
            go_ret
            exact ⟨says_no HF.out, hbw⟩
      · have HF : Hid (¬ Right ⟨st, bx, true, vw⟩) := fun y => by rcases y with ⟨y, _⟩ | ⟨_, _, y, _⟩; exact h3 y; cases y
        clear h3 g0
        obtain rfl | rfl | rfl : st = 0 ∨ st = 1 ∨ st = 2 := by omega
        all_goals
          clear hr e3
          go_enter Tryz.func35, Tryz.ntmps35
          go_wp2
          go_ret
          exact ⟨says_no HF.out, hbw⟩
    · have q0 := full_list g0
      have HF : Hid (¬ Right ⟨st, bx, ro, vw⟩) := fun y => by rcases y with ⟨y, _⟩ | ⟨_, y, _⟩; exact h3 y; exact g0 y
      clear h3 g0
      obtain rfl | rfl | rfl : st = 0 ∨ st = 1 ∨ st = 2 := by omega
      all_goals
        clear hr e3
        go_enter Tryz.func35, Tryz.ntmps35
        go_wp2
        go_ret
        exact ⟨says_no HF.out, hbw⟩
  · have e0 : (st == 0) = false := beq_eq_false_iff_ne.2 (by omega)
    have e1 : (st == 1) = false := beq_eq_false_iff_ne.2 (by omega)
    have e2 : (st == 2) = false := beq_eq_false_iff_ne.2 (by omega)
    have HF : Hid (¬ Right ⟨st, bx, ro, vw⟩) := fun y => by rcases y with ⟨y, _⟩ | ⟨y, _⟩; exact h3 y; exact hr y
    clear h3 hr
    go_enter Tryz.func35, Tryz.ntmps35
    go_wp2
    go_ret
    exact ⟨says_no HF.out, hbw⟩

set_option maxHeartbeats 2000000 in
set_option maxRecDepth 100000 in
theorem spec_iok (x : Im) (v : Value) (w : World) (h : Reads .i64 w v x.vw) (hn : x.vw.length ≤ 1048576) (hb : x.bx.size ≤ 1048576) :
    Calls Tryz.prog 29 #[IV x v] w fun e w' => Says (Right x) e ∧ Below w.heap.size w w' := by
  have L0 := lies_new w 48 x v
  have hbw := new_below w 48 #[.int .i64 x.st, .string x.bx, .bool x.ro, v]
  have HR : Hid (Reads .i64 (w.alloc (.cells #[.int .i64 x.st, .string x.bx, .bool x.ro, v] 48)) v x.vw) := reads_below h hbw
  obtain ⟨a, cap, rfl, _⟩ := h
  obtain ⟨st, bx, ro, vw⟩ := x
  unfold IV
  simp only at *
  by_cases hr : 0 ≤ st ∧ st ≤ 3
  case neg =>
    have e0 : decide (0 ≤ st ∧ st ≤ 3) = false := decide_eq_false hr
    have HF : Hid (¬ Right ⟨st, bx, ro, vw⟩) := fun y => by rcases y with ⟨y, _⟩ | ⟨y, _⟩ <;> simp only at y <;> omega
    clear hr
    go_enter Tryz.func29, Tryz.ntmps29
    go_wp2_with (go_at_call 48; refine (in_any _ _ _ _).mono ?_; rintro e w' ⟨rfl, rfl⟩; rw [e0])
    go_ret
    exact ⟨says_no HF.out, hbw⟩
  have e0 : decide (0 ≤ st ∧ st ≤ 3) = true := decide_eq_true hr
  go_enter Tryz.func29, Tryz.ntmps29
  go_wp2_with fail
  generalize w.alloc _ = w0 at L0 hbw HR ⊢
  refine (in_any _ _ _ _).mono ?_
  rintro e w' ⟨rfl, h⟩
  have h := h.symm
  subst h
  rw [e0]
  have c3 := L0.c3
  go_wp2_with fail
  refine (spec_view _ vw _ HR.out hn).mono ?_
  rintro e w1 ⟨⟨bv, rfl, hbv⟩, q, rfl⟩
  have HBV : Hid (bv = true ↔ IsV vw) := hbv
  have L1 : Lies (w0.drewN q) w.heap.size 48 ⟨st, bx, ro, vw⟩ (.slice a vw.length cap) := L0.keep (below_drewN (Below.refl _ _) q)
  have b1 := below_drewN hbw q
  clear hbv L0 hbw c3 HR e0
  generalize w0.drewN q = w1 at L1 b1 ⊢
  have c0 := L1.c0
  have c1 := L1.c1
  have c2 := L1.c2
  have c3 := L1.c3
  simp only at c0 c1 c2
  cases bv
  · have HF : Hid (¬ Right ⟨st, bx, ro, vw⟩) := fun y => by
      have hv : ¬ IsV vw := fun z => absurd (HBV.out.2 z) (by simp)
      rcases y with ⟨_, _, y⟩ | ⟨_, _, _, y⟩
      · exact hv y
      · exact hv (fun j hj => absurd hj (by simp only at y; omega))
    go_wp2
    go_ret
    exact ⟨says_no HF.out, b1⟩
  by_cases h3 : st = 3
  · subst h3
    go_wp2_with fail
    refine (specName_any bx _ hb).mono ?_
    rintro e w2 ⟨⟨bn, rfl, hbn⟩, rfl⟩
    have HBN : Hid (bn = true ↔ IsName bx) := hbn
    clear hbn
    go_wp2
    go_ret
    refine ⟨⟨bn, rfl, ?_⟩, b1⟩
    rw [HBN.out]
    exact ⟨fun y => .inl ⟨rfl, y, HBV.out.1 (by trivial)⟩, fun y => by rcases y with ⟨_, y, _⟩ | ⟨y, _⟩; exact y; have := y.2; simp at this⟩
  have e3 : (st == 3) = false := beq_eq_false_iff_ne.2 h3
  by_cases g0 : bx.size = 0
  · have q0 := empty_list g0
    cases ro
    · by_cases g2 : vw.length = 0
      · have q2 : ((vw.length : Int) == 0) = true := beq_iff_eq.2 (by omega)
        have HF : Hid (Right ⟨st, bx, false, vw⟩) := .inr ⟨⟨hr.1, (by have := hr.2; simp only; omega)⟩, g0, rfl, g2⟩
        clear h3 g0 g2 hr
        go_wp2
        go_ret
        exact ⟨says_yes HF.out, b1⟩
      · have q2 : ((vw.length : Int) == 0) = false := beq_eq_false_iff_ne.2 (by omega)
        have HF : Hid (¬ Right ⟨st, bx, false, vw⟩) := fun y => by rcases y with ⟨y, _⟩ | ⟨_, _, _, y⟩; exact h3 y; exact g2 y
        clear h3 g0 g2 hr
        go_wp2
        go_ret
        exact ⟨says_no HF.out, b1⟩
    · have HF : Hid (¬ Right ⟨st, bx, true, vw⟩) := fun y => by rcases y with ⟨y, _⟩ | ⟨_, _, y, _⟩; exact h3 y; cases y
      clear h3 g0 hr
      go_wp2
      go_ret
      exact ⟨says_no HF.out, b1⟩
  · have q0 := full_list g0
    have HF : Hid (¬ Right ⟨st, bx, ro, vw⟩) := fun y => by rcases y with ⟨y, _⟩ | ⟨_, y, _⟩; exact h3 y; exact g0 y
    clear h3 g0 hr
    go_wp2
    go_ret
    exact ⟨says_no HF.out, b1⟩

end Go.Proofs.YtncnbhekgkemfaaGreatDoor.im

namespace Go.Proofs.YtncnbhekgkemfaaGreatDoor.it
open Go.RowKit
set_option linter.unusedVariables false

abbrev Pr := ByteArray × ByteArray
def no : Pr := (⟨#[]⟩, ⟨#[]⟩)
/-- A slice of attributes. -/
def AttrsAt (w : World) (v : Value) (ps : List Pr) : Prop :=
  ∃ a cap, v = .slice a ps.length cap ∧ (ps = [] ∨ ∃ b off, a = some ⟨b, off, none⟩ ∧ ∀ j, j < ps.length → w.cell? ⟨b, off + j * 2, none⟩ = some (.string (ps.getD j no).1) ∧ w.cell? ⟨b, off + j * 2 + 1, none⟩ = some (.string (ps.getD j no).2))
theorem at_below {w w' : World} {v : Value} {ps : List Pr} (h : AttrsAt w v ps) (hb : Below w.heap.size w w') : AttrsAt w' v ps := by
  obtain ⟨a, cap, rfl, h⟩ := h
  refine ⟨a, cap, rfl, ?_⟩
  rcases h with h | ⟨b, off, rfl, h⟩
  · exact .inl h
  · refine .inr ⟨b, off, rfl, fun j hj => ?_⟩
    obtain ⟨h0, h1⟩ := h j hj
    have hl := World.block_lt_of_cell? w _ h0
    exact ⟨(hb.cell (p := ⟨b, off + j * 2, none⟩) hl).trans h0, (hb.cell (p := ⟨b, off + j * 2 + 1, none⟩) hl).trans h1⟩

/-- Attributes of a size that a law takes. -/
def Small (ps : List Pr) : Prop := ps.length ≤ 1048576 ∧ ∀ j, j < ps.length → (ps.getD j no).1.size ≤ 1048576 ∧ (ps.getD j no).2.size ≤ 1048576
def SmallTo (ps : List Pr) (k : Nat) : Prop := ps.length ≤ 1048576 ∧ ∀ j, j < k → (ps.getD j no).1.size ≤ 1048576 ∧ (ps.getD j no).2.size ≤ 1048576

end Go.Proofs.YtncnbhekgkemfaaGreatDoor.it

namespace Go.Proofs.YtncnbhekgkemfaaGreatDoor.it
open Go.RowKit
set_option linter.unusedVariables false

theorem infoAt : (Tryz.prog.info? 136).map (fun i => (i.zero, i.size, i.bytes)) = some (some (.agg #[.string ⟨#[]⟩, .string ⟨#[]⟩]), 2, 32) := by kernel_rfl

def Lay (ps : List Pr) (k : Nat) (xs : List Value) : Prop := ∀ j, j < k → xs[j * 2]? = some (.string (ps.getD j no).1) ∧ xs[j * 2 + 1]? = some (.string (ps.getD j no).2)
theorem lay_step {ps : List Pr} {k : Nat} {xs : List Value} (h : Lay ps k xs) (hl : k * 2 + 1 < xs.length) {a b : ByteArray} (ha : (ps.getD k no).1 = a) (hb : (ps.getD k no).2 = b) : Lay ps (k + 1) ((xs.set (k * 2) (.string a)).set (k * 2 + 1) (.string b)) := by
  intro j hj
  by_cases e : j = k
  · subst e
    rw [ha, hb]
    refine ⟨?_, ?_⟩
    · rw [List.getElem?_set_ne (by omega), List.getElem?_set_self (by omega)]
    · rw [List.getElem?_set_self (by rw [List.length_set]; omega)]
  · obtain ⟨h0, h1⟩ := h j (by omega)
    refine ⟨?_, ?_⟩
    · rw [List.getElem?_set_ne (by omega), List.getElem?_set_ne (by omega)]; exact h0
    · rw [List.getElem?_set_ne (by omega), List.getElem?_set_ne (by omega)]; exact h1
theorem attrs_lay {w : World} {base e g n cap : Nat} {ps : List Pr} {xs : List Value} (hn : n = ps.length) (h : w.ownsRow base e 2 (.slice (some ⟨g, 0, none⟩) n cap) n xs) (hl : Lay ps n xs) : AttrsAt w (.slice (some ⟨g, 0, none⟩) n cap) ps := by
  subst hn
  refine ⟨_, cap, rfl, .inr ⟨g, 0, rfl, fun j hj => ?_⟩⟩
  obtain ⟨h0, h1⟩ := hl j hj
  refine ⟨?_, ?_⟩
  · rw [Nat.zero_add, h.cellAt (j * 2) (by omega), h0]
  · rw [Nat.zero_add, h.cellAt (j * 2 + 1) (by omega), h1]

open gr
end Go.Proofs.YtncnbhekgkemfaaGreatDoor.it

namespace Go.Proofs.YtncnbhekgkemfaaGreatDoor.it
open Go.ChangeShapes Go.WideShapes Go.ChangeAt Go.RowKit Go.Joins Go.Deep
set_option linter.unusedVariables false

def str : Value → ByteArray
  | .string s => s
  | _ => ⟨#[]⟩
section
variable {H : Type} {enc : TypeId × Value → H} {w : World} {base : Nat} {spare : Nat → Bool} {held : Bool}
end
end Go.Proofs.YtncnbhekgkemfaaGreatDoor.it
