/-
  Contracts of the laws' drawn inputs: a source over a code, a drawn right text of a code, and a choice out of some.
-/
import Derived.Test.YtlnocoppljldbaaSrt
namespace Go.Proofs.Ytlnocoppljldbaa.sr
open Go.RowKit
open Go.Proofs.Ytlnocoppljldbaa.ut (scB inB encB cellsOf)
set_option linter.unusedVariables false

/-- Bytes that came in: a slice of them, each from 0 to 255. -/
def Bytes (w : World) (a : Option Addr) (len : Nat) : Prop :=
  len ≤ 1048576 ∧ (len = 0 ∨ ∃ cb off, a = some ⟨cb, off, none⟩ ∧ ∀ j, j < len → ∃ z : Int, 0 ≤ z ∧ z ≤ 255 ∧ w.cell? ⟨cb, off + j, none⟩ = some (.int .u8 z))
theorem bytes_below {w w' : World} {a : Option Addr} {len : Nat} (h : Bytes w a len) (hb : Below w.heap.size w w') : Bytes w' a len := by
  obtain ⟨hl, h⟩ := h
  refine ⟨hl, ?_⟩
  rcases h with h | ⟨cb, off, rfl, hc⟩
  · exact .inl h
  · refine .inr ⟨cb, off, rfl, fun j hj => ?_⟩
    obtain ⟨z, z0, z1, hz⟩ := hc j hj
    exact ⟨z, z0, z1, (hb.cell (p := ⟨cb, off + j, none⟩) (World.block_lt_of_cell? w _ hz)).trans hz⟩
/-- The world with a new source. -/
def started (w : World) (a : Option Addr) (len cap : Nat) : World := w.alloc (.cells #[.slice a len cap, .int .i64 0, .int .i64 ((len : Int) % 1000)] 67)
theorem src_started (w : World) (a : Option Addr) (len cap : Nat) : Src (started w a len cap) w.heap.size a len cap 0 ((len : Int) % 1000) := by
  show (w.heap.push _)[w.heap.size]? = _
  simp
theorem code_started {w : World} {a : Option Addr} {len cap : Nat} (h : Bytes w a len) : Code (started w a len cap) w.heap.size a len := by
  obtain ⟨hl, h⟩ := h
  refine ⟨hl, ?_⟩
  rcases h with h | ⟨cb, off, rfl, hc⟩
  · exact .inl h
  · by_cases h0 : len = 0
    · exact .inl h0
    obtain ⟨z, _, _, hz⟩ := hc 0 (by omega)
    have hlt : cb < w.heap.size := World.block_lt_of_cell? w _ hz
    refine .inr ⟨cb, off, rfl, hlt, fun j hj => ?_⟩
    obtain ⟨z, z0, z1, hz⟩ := hc j hj
    have hb : Below w.heap.size w (started w (some ⟨cb, off, none⟩) len cap) := (Below.refl _ _).alloc (Nat.le_refl _) _
    exact ⟨z, z0, z1, (hb.cell (p := ⟨cb, off + j, none⟩) hlt).trans hz⟩

set_option maxHeartbeats 1000000 in
theorem source_any (w : World) (a : Option Addr) (len cap : Nat) (h : len ≤ 1048576) :
    Calls Try.prog 26 #[.slice a len cap] w fun e w' => e = .returned (.pointer (some ⟨w.heap.size, 0, none⟩)) ∧ w' = started w a len cap := by
  go_enter Try.func26, Try.ntmps26
  go_wp2
  go_ret
  exact ⟨rfl, rfl⟩

/-- A right text of at most eleven runes. -/
def TextIs (e : Ending) : Prop := ∃ zs : List Int, e = .returned (.string ⟨(zs.flatMap encB).toArray⟩) ∧ zs.length ≤ 11 ∧ ∀ r ∈ zs, scB r = true

set_option maxHeartbeats 1000000 in
theorem textOf_any (w : World) (a : Option Addr) (len cap : Nat) (h : Bytes w a len) :
    Calls Try.prog 8 #[.slice a len cap] w fun e w' => TextIs e ∧ Below w.heap.size w w' := by
  have hl := h.1
  go_enter Try.func8, Try.ntmps8
  go_wp2_with fail
  refine (source_any _ a len cap hl).mono ?_
  rintro e w1 ⟨rfl, rfl⟩
  have hs := src_started w a len cap
  have hc := code_started (cap := cap) h
  have hb : Below w.heap.size w (started w a len cap) := (Below.refl _ _).alloc (Nat.le_refl _) _
  generalize started w a len cap = w1 at hs hc hb ⊢
  go_wp2_with fail
  refine (text_any _ _ a len cap 0 _ hs hc (by omega) (by omega) (by omega) (by omega)).mono ?_
  rintro e w2 ⟨zs, at2, sd2, rfl, hz, hall, _, _, _, _, _, hg⟩
  have HH : Hid (Below w.heap.size w w2) := Below.grown hb hg hb.size (fun k e => Nat.le_of_eq (Option.some.inj e))
  have HALL : Hid (∀ r ∈ zs, scB r = true) := hall
  clear hg hb hs hc hall h
  go_wp2
  go_ret
  exact ⟨⟨zs, rfl, hz, HALL.out⟩, HH.out⟩
end Go.Proofs.Ytlnocoppljldbaa.sr
