/-
  Contracts of the laws' drawn inputs: a source over a code, a drawn right text of a code, and a choice out of some.
-/
import Derived.Test.YtpbmofofigkpjaaDoorSrt
namespace Go.Proofs.YtpbmofofigkpjaaDoor.sr
open Go.RowKit
open Go.Proofs.YtpbmofofigkpjaaDoor.ut (scB inB encB cellsOf)
set_option linter.unusedVariables false

/-- Bytes that came in: a slice of them, each from 0 to 255. -/
def Bytes (w : World) (a : Option Addr) (len : Nat) : Prop :=
  len ≤ 1048576 ∧ (len = 0 ∨ ∃ cb off, a = some ⟨cb, off, none⟩ ∧ ∀ j, j < len → ∃ z : Int, 0 ≤ z ∧ z ≤ 255 ∧ w.cell? ⟨cb, off + j, none⟩ = some (.int .u8 z))
theorem bytes_below {w w' : World} {a : Option Addr} {len : Nat} (h : Bytes w a len) (hb : Below w.heap.size w w') : Bytes w' a len := by
  obtain ⟨hl, h⟩ := h
  refine ⟨hl, ?_⟩
  rcases h with h | ⟨cb, off, rfl, hc⟩
  · exact .inl h
  · refine .inr ⟨cb, off, rfl, fun j hj => ?_⟩
    obtain ⟨z, z0, z1, hz⟩ := hc j hj
    exact ⟨z, z0, z1, (hb.cell (p := ⟨cb, off + j, none⟩) (World.block_lt_of_cell? w _ hz)).trans hz⟩
/-- The world with a new source. -/
def started (w : World) (a : Option Addr) (len cap : Nat) : World := w.alloc (.cells #[.slice a len cap, .int .i64 0, .int .i64 ((len : Int) % 1000)] 67)
theorem src_started (w : World) (a : Option Addr) (len cap : Nat) : Src (started w a len cap) w.heap.size a len cap 0 ((len : Int) % 1000) := by
  show (w.heap.push _)[w.heap.size]? = _
  simp
theorem code_started {w : World} {a : Option Addr} {len cap : Nat} (h : Bytes w a len) : Code (started w a len cap) w.heap.size a len := by
  obtain ⟨hl, h⟩ := h
  refine ⟨hl, ?_⟩
  rcases h with h | ⟨cb, off, rfl, hc⟩
  · exact .inl h
  · by_cases h0 : len = 0
    · exact .inl h0
    obtain ⟨z, _, _, hz⟩ := hc 0 (by omega)
    have hlt : cb < w.heap.size := World.block_lt_of_cell? w _ hz
    refine .inr ⟨cb, off, rfl, hlt, fun j hj => ?_⟩
    obtain ⟨z, z0, z1, hz⟩ := hc j hj
    have hb : Below w.heap.size w (started w (some ⟨cb, off, none⟩) len cap) := (Below.refl _ _).alloc (Nat.le_refl _) _
    exact ⟨z, z0, z1, (hb.cell (p := ⟨cb, off + j, none⟩) hlt).trans hz⟩

set_option maxHeartbeats 1000000 in
theorem source_any (w : World) (a : Option Addr) (len cap : Nat) (h : len ≤ 1048576) :
    Calls Tryd.prog 25 #[.slice a len cap] w fun e w' => e = .returned (.pointer (some ⟨w.heap.size, 0, none⟩)) ∧ w' = started w a len cap := by
  go_enter Tryd.func25, Tryd.ntmps25
  go_wp2
  go_ret
  exact ⟨rfl, rfl⟩

/-- A right text of at most eleven runes. -/
def TextIs (e : Ending) : Prop := ∃ zs : List Int, e = .returned (.string ⟨(zs.flatMap encB).toArray⟩) ∧ zs.length ≤ 11 ∧ ∀ r ∈ zs, scB r = true

set_option maxHeartbeats 1000000 in
theorem textOf_any (w : World) (a : Option Addr) (len cap : Nat) (h : Bytes w a len) :
    Calls Tryd.prog 14 #[.slice a len cap] w fun e w' => TextIs e ∧ Below w.heap.size w w' := by
  have hl := h.1
  go_enter Tryd.func14, Tryd.ntmps14
  go_wp2_with fail
  refine (source_any _ a len cap hl).mono ?_
  rintro e w1 ⟨rfl, rfl⟩
  have hs := src_started w a len cap
  have hc := code_started (cap := cap) h
  have hb : Below w.heap.size w (started w a len cap) := (Below.refl _ _).alloc (Nat.le_refl _) _
  generalize started w a len cap = w1 at hs hc hb ⊢
  go_wp2_with fail
  refine (text_any _ _ a len cap 0 _ hs hc (by omega) (by omega) (by omega) (by omega)).mono ?_
  rintro e w2 ⟨zs, at2, sd2, rfl, hz, hall, _, _, _, _, _, hg⟩
  have HH : Hid (Below w.heap.size w w2) := Below.grown hb hg hb.size (fun k e => Nat.le_of_eq (Option.some.inj e))
  have HALL : Hid (∀ r ∈ zs, scB r = true) := hall
  clear hg hb hs hc hall h
  go_wp2
  go_ret
  exact ⟨⟨zs, rfl, hz, HALL.out⟩, HH.out⟩

/-- A number from 0 to n - 1. -/
def Chosen (n : Int) (e : Ending) : Prop := ∃ r : Int, e = .returned (.int .i64 r) ∧ 0 ≤ r ∧ r ≤ n - 1

set_option maxHeartbeats 2000000 in
set_option maxRecDepth 100000 in
theorem at_any (w : World) (a : Option Addr) (len cap : Nat) (i n : Int) (h : Bytes w a len) (i0 : 0 ≤ i) (i1 : i ≤ 100000) (n1 : 2 ≤ n) (n2 : n ≤ 100000) :
    Calls Tryd.prog 20 #[.slice a len cap, .int .i64 i, .int .i64 n] w fun e w' => Chosen n e ∧ ∃ m, w' = w.drewN m := by
  obtain ⟨hl, h⟩ := h
  by_cases h0 : len = 0
  · subst h0
    clear h
    go_enter Tryd.func20, Tryd.ntmps20
    go_wp2
    go_ret
    exact ⟨⟨_, rfl, Int.emod_nonneg _ (by omega), by have := Int.emod_lt_of_pos (i * 7) (show 0 < n by omega); omega⟩, 0, rfl⟩
  rcases h with h | ⟨cb, off, rfl, hc⟩
  · exact absurd h h0
  have hlp : (0 : Int) < (len : Int) := by omega
  have hne : ((len : Int) == 0) = false := beq_eq_false_iff_ne.2 (by omega)
  have m0 := Int.emod_nonneg i (show (len : Int) ≠ 0 by omega)
  have m1 := Int.emod_lt_of_pos i hlp
  have p0 := Int.emod_nonneg (i + 1) (show (len : Int) ≠ 0 by omega)
  have p1 := Int.emod_lt_of_pos (i + 1) hlp
  obtain ⟨x, x0, x1, hx⟩ := hc (i % (len : Int)).toNat (by omega)
  obtain ⟨y, y0, y1, hy⟩ := hc ((i + 1) % (len : Int)).toNat (by omega)
  have q0 : 0 ≤ i / (len : Int) := Int.ediv_nonneg i0 (by omega)
  have q1 : i / (len : Int) ≤ i := Int.ediv_le_self _ i0
  clear hc h0
  go_enter Tryd.func20, Tryd.ntmps20
  go_wp2
  go_quiet (fail)
  go_wp2
  go_ret
  exact ⟨⟨_, rfl, Int.emod_nonneg _ (by omega), by have := Int.emod_lt_of_pos (x * 31 + y + i / (len : Int)) (show 0 < n by omega); omega⟩, nq, rfl⟩
end Go.Proofs.YtpbmofofigkpjaaDoor.sr
