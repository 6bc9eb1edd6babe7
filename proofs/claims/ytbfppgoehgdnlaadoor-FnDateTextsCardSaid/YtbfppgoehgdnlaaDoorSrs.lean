/-
  Contracts of the laws' drawn stamps: a source over a code, a stamp out of it, and a choice out of some.
-/
import Derived.Test.YtbfppgoehgdnlaaDoorSrc
namespace Go.Proofs.YtbfppgoehgdnlaaDoor.sr
open Go.RowKit
set_option linter.unusedVariables false

/-- Bytes that came in: a slice of them, each from 0 to 255. -/
def Bytes (w : World) (a : Option Addr) (len : Nat) : Prop :=
  len ≤ 1048576 ∧ (len = 0 ∨ ∃ cb off, a = some ⟨cb, off, none⟩ ∧ ∀ j, j < len → ∃ z : Int, 0 ≤ z ∧ z ≤ 255 ∧ w.cell? ⟨cb, off + j, none⟩ = some (.int .u8 z))
theorem bytes_below {w w' : World} {a : Option Addr} {len : Nat} (h : Bytes w a len) (hb : Below w.heap.size w w') : Bytes w' a len := by
  obtain ⟨hl, h⟩ := h
  refine ⟨hl, ?_⟩
  rcases h with h | ⟨cb, off, rfl, hc⟩
  · exact .inl h
  · refine .inr ⟨cb, off, rfl, fun j hj => ?_⟩
    obtain ⟨z, z0, z1, hz⟩ := hc j hj
    exact ⟨z, z0, z1, (hb.cell (p := ⟨cb, off + j, none⟩) (World.block_lt_of_cell? w _ hz)).trans hz⟩
/-- The world with a new source. -/
def started (w : World) (a : Option Addr) (len cap : Nat) : World := w.alloc (.cells #[.slice a len cap, .int .i64 0, .int .i64 ((len : Int) % 1000)] 74)
theorem src_started (w : World) (a : Option Addr) (len cap : Nat) : Src (started w a len cap) w.heap.size a len cap 0 ((len : Int) % 1000) := by
  show (w.heap.push _)[w.heap.size]? = _
  simp
theorem code_started {w : World} {a : Option Addr} {len cap : Nat} (h : Bytes w a len) : Code (started w a len cap) w.heap.size a len := by
  obtain ⟨hl, h⟩ := h
  refine ⟨hl, ?_⟩
  rcases h with h | ⟨cb, off, rfl, hc⟩
  · exact .inl h
  · by_cases h0 : len = 0
    · exact .inl h0
    obtain ⟨z, _, _, hz⟩ := hc 0 (by omega)
    have hlt : cb < w.heap.size := World.block_lt_of_cell? w _ hz
    refine .inr ⟨cb, off, rfl, hlt, fun j hj => ?_⟩
    obtain ⟨z, z0, z1, hz⟩ := hc j hj
    have hb : Below w.heap.size w (started w (some ⟨cb, off, none⟩) len cap) := (Below.refl _ _).alloc (Nat.le_refl _) _
    exact ⟨z, z0, z1, (hb.cell (p := ⟨cb, off + j, none⟩) hlt).trans hz⟩

set_option maxHeartbeats 1000000 in
theorem source_any (w : World) (a : Option Addr) (len cap : Nat) (h : len ≤ 1048576) :
    Calls Tryd.prog 48 #[.slice a len cap] w fun e w' => e = .returned (.pointer (some ⟨w.heap.size, 0, none⟩)) ∧ w' = started w a len cap := by
  go_enter Tryd.func48, Tryd.ntmps48
  go_wp2
  go_ret
  exact ⟨rfl, rfl⟩

theorem grown_alloc (w : World) (o : Obj) : w.grownBy (w.alloc o) none := ⟨rfl, rfl, rfl, by simp, fun k hk _ => Below.heap_alloc _ _ _ hk⟩
theorem grown_none {w w1 w2 : World} {row : Option Nat} (h1 : w.grownBy w1 row) (h2 : w1.grownBy w2 none) : w.grownBy w2 row :=
  ⟨h2.os.trans h1.os, h2.tape.trans h1.tape, h2.output.trans h1.output, Nat.le_trans h1.size h2.size, fun i hi hr => (h2.block i (Nat.lt_of_lt_of_le hi h1.size) (by simp)).trans (h1.block i hi hr)⟩
/-- A stamp. -/
def StampIs (e : Ending) : Prop := ∃ n : Int, e = .returned (.int .i64 n) ∧ 0 ≤ n ∧ n ≤ 4102444799

set_option maxHeartbeats 2000000 in
set_option maxRecDepth 100000 in
theorem drawn_any (w : World) (b : Nat) (a : Option Addr) (len cap : Nat) (sd : Int) (hs : Src w b a len cap 0 sd) (hc : Code w b a len) (s0 : 0 ≤ sd) (s1 : sd < 2147483648) :
    Calls Tryd.prog 49 #[.pointer (some ⟨b, 0, none⟩)] w fun e w' => StampIs e ∧ w.grownBy w' (some b) := by
  go_enter Tryd.func49, Tryd.ntmps49
  go_wp2_with fail
  refine (next_any _ b a len cap 0 sd 1000000 hs hc (by omega) (by omega) s0 s1 (by omega) (by omega)).mono ?_
  rintro e w1 ⟨r, at1, sd1, rfl, r0, r1, a0, a1, d0, d1, hs1, hg1⟩
  have hc1 := code_keep hc hg1
  go_wp2_with fail
  refine (next_any _ b a len cap at1 sd1 1000000 hs1 hc1 (by omega) (by omega) d0 d1 (by omega) (by omega)).mono ?_
  rintro e w2 ⟨q, at2, sd2, rfl, q0, q1, a2, a3, d2, d3, hs2, hg2⟩
  have hc2 := code_keep hc1 hg2
  have hg12 := ow.grown_trans hg1 hg2
  have hlt : b < w2.heap.size := (Array.getElem?_eq_some_iff.1 hs2).1
  clear hs hc hs1 hc1 hg1 hg2
  go_wp2_with fail
  have ga := grown_alloc w2 (.cells #[.int .i64 (r * 4102), .int .i64 (q * 4000 + 86399), .int .i64 0, .int .i64 4102444799, .int .i64 951782400, .int .i64 1709164800] 3)
  have hnew : (w2.alloc (.cells #[.int .i64 (r * 4102), .int .i64 (q * 4000 + 86399), .int .i64 0, .int .i64 4102444799, .int .i64 951782400, .int .i64 1709164800] 3)).heap[w2.heap.size]? = some (.cells #[.int .i64 (r * 4102), .int .i64 (q * 4000 + 86399), .int .i64 0, .int .i64 4102444799, .int .i64 951782400, .int .i64 1709164800] 3) := by
    show (w2.heap.push _)[w2.heap.size]? = _
    simp
  have hs3 := src_keep hs2 ga (by simp)
  have hc3 := code_keep' hc2 ga (fun k e => by cases e)
  have hlt3 : w2.heap.size < (w2.alloc (.cells #[.int .i64 (r * 4102), .int .i64 (q * 4000 + 86399), .int .i64 0, .int .i64 4102444799, .int .i64 951782400, .int .i64 1709164800] 3)).heap.size := by simp
  have hg3 := grown_none hg12 ga
  clear ga hs2 hc2 hg12
  generalize w2.alloc _ = w3 at hnew hs3 hc3 hg3 hlt3 ⊢
  refine (next_any _ b a len cap at2 sd2 6 hs3 hc3 (by omega) (by omega) d2 d3 (by omega) (by omega)).mono ?_
  rintro e w4 ⟨p, at4, sd4, rfl, p0, p1, a4, a5, d4, d5, hs4, hg4⟩
  have hcells : w4.heap[w2.heap.size]? = some (.cells #[.int .i64 (r * 4102), .int .i64 (q * 4000 + 86399), .int .i64 0, .int .i64 4102444799, .int .i64 951782400, .int .i64 1709164800] 3) := by
    rw [hg4.block _ hlt3 (by simp; omega)]
    exact hnew
  have HG : Hid (w.grownBy w4 (some b)) := ow.grown_trans hg3 hg4
  clear hs3 hc3 hnew hg3 hg4 hs4 hlt3
  have hp : p = 0 ∨ p = 1 ∨ p = 2 ∨ p = 3 ∨ p = 4 ∨ p = 5 := by omega
  have hcell : ∀ (j : Nat) (v : Int), ([r * 4102, q * 4000 + 86399, 0, 4102444799, 951782400, 1709164800] : List Int)[j]? = some v → w4.cell? ⟨w2.heap.size, j, none⟩ = some (.int .i64 v) := by
    intro j v hv
    rw [cell_of_row _ _ _ _ _ _ hcells]
    match j, hv with
    | 0, hv => cases hv; rfl
    | 1, hv => cases hv; rfl
    | 2, hv => cases hv; rfl
    | 3, hv => cases hv; rfl
    | 4, hv => cases hv; rfl
    | 5, hv => cases hv; rfl
    | j + 6, hv => simp at hv
  clear hcells
  rcases hp with rfl | rfl | rfl | rfl | rfl | rfl
  · have c := hcell 0 _ rfl
    clear hcell
    go_wp2
    go_ret
    exact ⟨⟨_, rfl, by omega, by omega⟩, HG.out⟩
  · have c := hcell 1 _ rfl
    clear hcell
    go_wp2
    go_ret
    exact ⟨⟨_, rfl, by omega, by omega⟩, HG.out⟩
  · have c := hcell 2 _ rfl
    clear hcell
    go_wp2
    go_ret
    exact ⟨⟨_, rfl, by omega, by omega⟩, HG.out⟩
  · have c := hcell 3 _ rfl
    clear hcell
    go_wp2
    go_ret
    exact ⟨⟨_, rfl, by omega, by omega⟩, HG.out⟩
  · have c := hcell 4 _ rfl
    clear hcell
    go_wp2
    go_ret
    exact ⟨⟨_, rfl, by omega, by omega⟩, HG.out⟩
  · have c := hcell 5 _ rfl
    clear hcell
    go_wp2
    go_ret
    exact ⟨⟨_, rfl, by omega, by omega⟩, HG.out⟩

set_option maxHeartbeats 1000000 in
theorem stampOf_any (w : World) (a : Option Addr) (len cap : Nat) (h : Bytes w a len) :
    Calls Tryd.prog 16 #[.slice a len cap] w fun e w' => StampIs e ∧ Below w.heap.size w w' := by
  have hl := h.1
  go_enter Tryd.func16, Tryd.ntmps16
  go_wp2_with fail
  refine (source_any _ a len cap hl).mono ?_
  rintro e w1 ⟨rfl, rfl⟩
  have hs := src_started w a len cap
  have hc := code_started (cap := cap) h
  have hb : Below w.heap.size w (started w a len cap) := (Below.refl _ _).alloc (Nat.le_refl _) _
  generalize started w a len cap = w1 at hs hc hb ⊢
  go_wp2_with fail
  refine (drawn_any _ _ a len cap _ hs hc (by omega) (by omega)).mono ?_
  rintro e w2 ⟨⟨n, rfl, n0, n1⟩, hg⟩
  have HH : Hid (Below w.heap.size w w2) := Below.grown hb hg hb.size (fun k e => Nat.le_of_eq (Option.some.inj e))
  clear hg hb hs hc h
  go_wp2
  go_ret
  exact ⟨⟨n, rfl, n0, n1⟩, HH.out⟩
/-- A number from 0 to n - 1. -/
def Chosen (n : Int) (e : Ending) : Prop := ∃ r : Int, e = .returned (.int .i64 r) ∧ 0 ≤ r ∧ r ≤ n - 1

set_option maxHeartbeats 2000000 in
set_option maxRecDepth 100000 in
theorem at_any (w : World) (a : Option Addr) (len cap : Nat) (i n : Int) (h : Bytes w a len) (i0 : 0 ≤ i) (i1 : i ≤ 100000) (n1 : 2 ≤ n) (n2 : n ≤ 100000) :
    Calls Tryd.prog 17 #[.slice a len cap, .int .i64 i, .int .i64 n] w fun e w' => Chosen n e ∧ ∃ m, w' = w.drewN m := by
  obtain ⟨hl, h⟩ := h
  by_cases h0 : len = 0
  · subst h0
    clear h
    go_enter Tryd.func17, Tryd.ntmps17
    go_wp2
    go_ret
    exact ⟨⟨_, rfl, Int.emod_nonneg _ (by omega), by have := Int.emod_lt_of_pos (i * 7) (show 0 < n by omega); omega⟩, 0, rfl⟩
  rcases h with h | ⟨cb, off, rfl, hc⟩
  · exact absurd h h0
  have hlp : (0 : Int) < (len : Int) := by omega
  have hne : ((len : Int) == 0) = false := beq_eq_false_iff_ne.2 (by omega)
  have m0 := Int.emod_nonneg i (show (len : Int) ≠ 0 by omega)
  have m1 := Int.emod_lt_of_pos i hlp
  have p0 := Int.emod_nonneg (i + 1) (show (len : Int) ≠ 0 by omega)
  have p1 := Int.emod_lt_of_pos (i + 1) hlp
  obtain ⟨x, x0, x1, hx⟩ := hc (i % (len : Int)).toNat (by omega)
  obtain ⟨y, y0, y1, hy⟩ := hc ((i + 1) % (len : Int)).toNat (by omega)
  have q0 : 0 ≤ i / (len : Int) := Int.ediv_nonneg i0 (by omega)
  have q1 : i / (len : Int) ≤ i := Int.ediv_le_self _ i0
  clear hc h0
  go_enter Tryd.func17, Tryd.ntmps17
  go_wp2
  go_quiet (fail)
  go_wp2
  go_ret
  exact ⟨⟨_, rfl, Int.emod_nonneg _ (by omega), by have := Int.emod_lt_of_pos (x * 31 + y + i / (len : Int)) (show 0 < n by omega); omega⟩, nq, rfl⟩
end Go.Proofs.YtbfppgoehgdnlaaDoor.sr
