/-
  Bytes that a law is handed, and the small numbers that it takes out of them.
-/
import Derived.Test.YtcflfejdpjphjaaDoorRows
import Derived.ProofKit
import Derived.WalkKit
import Derived.WalkLawsBesides
import Derived.OpenShut
import Derived.Below
import Derived.BigQuiet
import Derived.Deep.QuietTactic
namespace Go.Proofs.YtcflfejdpjphjaaDoor.ag
open Go.RowKit
set_option linter.unusedVariables false
def Bytes (w : World) (a : Option Addr) (len : Nat) : Prop :=
  len ≤ 1048576 ∧ (len = 0 ∨ ∃ cb off, a = some ⟨cb, off, none⟩ ∧ ∀ j, j < len → ∃ z : Int, 0 ≤ z ∧ z ≤ 255 ∧ w.cell? ⟨cb, off + j, none⟩ = some (.int .u8 z))
theorem bytes_below {w w' : World} {a : Option Addr} {len : Nat} (h : Bytes w a len) (hb : Below w.heap.size w w') : Bytes w' a len := by
  obtain ⟨hl, h⟩ := h
  refine ⟨hl, ?_⟩
  rcases h with h | ⟨cb, off, rfl, hc⟩
  · exact .inl h
  · refine .inr ⟨cb, off, rfl, fun j hj => ?_⟩
    obtain ⟨z, z0, z1, hz⟩ := hc j hj
    exact ⟨z, z0, z1, (hb.cell (p := ⟨cb, off + j, none⟩) (World.block_lt_of_cell? w _ hz)).trans hz⟩
/-- A slice of numbers that came in: nil, or a row of cells. -/
def IsRow (k : IntKind) (w : World) (a : Option Addr) (len cap : Nat) (zs : List Int) : Prop :=
  (a = none ∧ len = 0 ∧ cap = 0 ∧ zs = []) ∨
  ∃ x, a = some x ∧ len ≤ cap ∧ cap ≤ maxLen ∧ zs.length = cap ∧ (∀ i, i < zs.length → w.cell? (x.add i) = some (.int k (zs.getD i 0))) ∧ ∀ n ∈ zs, (Lit.int k n).wf = true
theorem row_bytes {w : World} {a : Option Addr} {len cap : Nat} {zs : List Int} (h : IsRow .u8 w a len cap zs) (hl : len ≤ 1048576) : Bytes w a len := by
  refine ⟨by omega, ?_⟩
  rcases h with ⟨rfl, rfl, rfl, rfl⟩ | ⟨x, rfl, hlc, hm, hz, hcell, hwz⟩
  · exact .inl rfl
  · by_cases h0 : len = 0
    · exact .inl h0
    · right
      obtain ⟨b, off, spot⟩ := x
      have hc := hcell 0 (by omega)
      have hspot : spot = none := by simpa [Addr.add] using World.cell?_spot hc
      subst hspot
      refine ⟨b, off, rfl, fun j hj => ?_⟩
      have hj2 : j < zs.length := by omega
      have hb := bounds_u8 (hwz (zs.getD j 0) (by rw [List.getD_eq_getElem?_getD, List.getElem?_eq_getElem hj2]; exact List.getElem_mem hj2))
      refine ⟨zs.getD j 0, hb.1, hb.2, ?_⟩
      rw [← hcell j hj2]
      congr 1
      simp [Addr.add]
set_option maxHeartbeats 2000000 in
set_option maxRecDepth 100000 in
theorem at_any (w : World) (a : Option Addr) (len cap : Nat) (i n : Nat) (h : Bytes w a len) (hl : len ≤ 1048576) (hi : i ≤ 1000000) (hn : 2 ≤ n) (hn2 : n ≤ 90) :
    Calls Tryd.prog 9 #[.slice a len cap, .int .i64 i, .int .i64 n] w fun e w' => (∃ z : Int, e = .returned (.int .i64 z) ∧ 0 ≤ z ∧ z < n) ∧ Below w.heap.size w w' := by
  by_cases h0 : len = 0
  · subst h0
    clear h
    go_enter Tryd.func9, Tryd.ntmps9
    go_wp2
    go_ret
    exact ⟨⟨_, rfl, Int.emod_nonneg _ (by omega), Int.emod_lt_of_pos _ (by omega)⟩, Below.refl _ _⟩
  · obtain ⟨_, h | ⟨cb, off, rfl, hc⟩⟩ := h
    · exact absurd h h0
    have hp1 : i % len < len := Nat.mod_lt _ (by omega)
    have hq1 : (i + 1) % len < len := Nat.mod_lt _ (by omega)
    have e1 : ((i : Int) % (len : Int)) = ((i % len : Nat) : Int) := rfl
    have e2 : (((i : Int) + 1) % (len : Int)) = (((i + 1) % len : Nat) : Int) := rfl
    have e3 : ((i : Int) / (len : Int)) = ((i / len : Nat) : Int) := rfl
    have hr1 : i / len ≤ i := Nat.div_le_self _ _
    obtain ⟨z1, a1, a2, c1⟩ := hc (i % len) hp1
    obtain ⟨z2, a3, a4, c2⟩ := hc ((i + 1) % len) hq1
    generalize i % len = p at hp1 e1 c1
    generalize (i + 1) % len = q at hq1 e2 c2
    generalize i / len = r at hr1 e3
    have hz : ((len : Int) == 0) = false := beq_eq_false_iff_ne.2 (by omega)
    clear hc
    go_enter Tryd.func9, Tryd.ntmps9
    go_wp2_with fail
    go_quiet (fail)
    go_wp2
    go_ret
    exact ⟨⟨_, rfl, Int.emod_nonneg _ (by omega), Int.emod_lt_of_pos _ (by omega)⟩, ⟨rfl, rfl, rfl, Nat.le_refl _, fun _ _ => rfl⟩⟩
end Go.Proofs.YtcflfejdpjphjaaDoor.ag
