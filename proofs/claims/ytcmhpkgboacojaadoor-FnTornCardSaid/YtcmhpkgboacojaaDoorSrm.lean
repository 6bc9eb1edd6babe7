/-
  Contracts of the laws' drawn inputs: a source over a code.
-/
import Derived.Test.YtcmhpkgboacojaaDoorSrb
namespace Go.Proofs.YtcmhpkgboacojaaDoor.sr
open Go.RowKit
set_option linter.unusedVariables false

/-- Bytes that came in: a slice of them, each from 0 to 255. -/
def Bytes (w : World) (a : Option Addr) (len : Nat) : Prop :=
  len ≤ 2097152 ∧ (len = 0 ∨ ∃ cb off, a = some ⟨cb, off, none⟩ ∧ ∀ j, j < len → ∃ z : Int, 0 ≤ z ∧ z ≤ 255 ∧ w.cell? ⟨cb, off + j, none⟩ = some (.int .u8 z))
theorem bytes_below {w w' : World} {a : Option Addr} {len : Nat} (h : Bytes w a len) (hb : Below w.heap.size w w') : Bytes w' a len := by
  obtain ⟨hl, h⟩ := h
  refine ⟨hl, ?_⟩
  rcases h with h | ⟨cb, off, rfl, hc⟩
  · exact .inl h
  · refine .inr ⟨cb, off, rfl, fun j hj => ?_⟩
    obtain ⟨z, z0, z1, hz⟩ := hc j hj
    exact ⟨z, z0, z1, (hb.cell (p := ⟨cb, off + j, none⟩) (World.block_lt_of_cell? w _ hz)).trans hz⟩
/-- The world with a new source. -/
def started (w : World) (a : Option Addr) (len cap : Nat) : World := w.alloc (.cells #[.slice a len cap, .int .i64 0, .int .i64 ((len : Int) % 1000)] 73)
theorem src_started (w : World) (a : Option Addr) (len cap : Nat) : Src (started w a len cap) w.heap.size a len cap 0 ((len : Int) % 1000) := by
  show (w.heap.push _)[w.heap.size]? = _
  simp
theorem code_started {w : World} {a : Option Addr} {len cap : Nat} (h : Bytes w a len) : Code (started w a len cap) w.heap.size a len := by
  obtain ⟨hl, h⟩ := h
  refine ⟨hl, ?_⟩
  rcases h with h | ⟨cb, off, rfl, hc⟩
  · exact .inl h
  · by_cases h0 : len = 0
    · exact .inl h0
    obtain ⟨z, _, _, hz⟩ := hc 0 (by omega)
    have hlt : cb < w.heap.size := World.block_lt_of_cell? w _ hz
    refine .inr ⟨cb, off, rfl, hlt, fun j hj => ?_⟩
    obtain ⟨z, z0, z1, hz⟩ := hc j hj
    have hb : Below w.heap.size w (started w (some ⟨cb, off, none⟩) len cap) := (Below.refl _ _).alloc (Nat.le_refl _) _
    exact ⟨z, z0, z1, (hb.cell (p := ⟨cb, off + j, none⟩) hlt).trans hz⟩

set_option maxHeartbeats 1000000 in
theorem source_any (w : World) (a : Option Addr) (len cap : Nat) (h : len ≤ 2097152) :
    Calls Tryd.prog 36 #[.slice a len cap] w fun e w' => e = .returned (.pointer (some ⟨w.heap.size, 0, none⟩)) ∧ w' = started w a len cap := by
  go_enter Tryd.func36, Tryd.ntmps36
  go_wp2
  go_ret
  exact ⟨rfl, rfl⟩
end Go.Proofs.YtcmhpkgboacojaaDoor.sr
