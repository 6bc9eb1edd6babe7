/-
  The contract of the laws' small numbers out of bytes.
-/
import Derived.Test.YtcmhpkgboacojaaDoorLgv
import Derived.BigQuiet
import Derived.Deep.QuietTactic
namespace Go.Proofs.YtcmhpkgboacojaaDoor.lg
open Go.RowKit
set_option linter.unusedVariables false

set_option maxHeartbeats 2000000 in
set_option maxRecDepth 100000 in
theorem at_any (w : World) (a : Option Addr) (len cap : Nat) (i n : Nat) (h : sr.Bytes w a len) (hl : len ≤ 1048576) (hi : i ≤ 9) (hn : 2 ≤ n) (hn2 : n ≤ 90) :
    Calls Tryd.prog 24 #[.slice a len cap, .int .i64 i, .int .i64 n] w fun e w' => (∃ z : Int, e = .returned (.int .i64 z) ∧ 0 ≤ z ∧ z < n) ∧ Below w.heap.size w w' := by
  by_cases h0 : len = 0
  · subst h0
    clear h
    go_enter Tryd.func24, Tryd.ntmps24
    go_wp2
    go_ret
    exact ⟨⟨_, rfl, Int.emod_nonneg _ (by omega), Int.emod_lt_of_pos _ (by omega)⟩, Below.refl _ _⟩
  · obtain ⟨_, h | ⟨cb, off, rfl, hc⟩⟩ := h
    · exact absurd h h0
    have hp1 : i % len < len := Nat.mod_lt _ (by omega)
    have hq1 : (i + 1) % len < len := Nat.mod_lt _ (by omega)
    have e1 : ((i : Int) % (len : Int)) = ((i % len : Nat) : Int) := rfl
    have e2 : (((i : Int) + 1) % (len : Int)) = (((i + 1) % len : Nat) : Int) := rfl
    have e3 : ((i : Int) / (len : Int)) = ((i / len : Nat) : Int) := rfl
    have hr1 : i / len ≤ i := Nat.div_le_self _ _
    obtain ⟨z1, a1, a2, c1⟩ := hc (i % len) hp1
    obtain ⟨z2, a3, a4, c2⟩ := hc ((i + 1) % len) hq1
    generalize i % len = p at hp1 e1 c1
    generalize (i + 1) % len = q at hq1 e2 c2
    generalize i / len = r at hr1 e3
    have hz : ((len : Int) == 0) = false := beq_eq_false_iff_ne.2 (by omega)
    clear hc
    go_enter Tryd.func24, Tryd.ntmps24
    go_wp2_with fail
    go_quiet (fail)
    go_wp2
    go_ret
    exact ⟨⟨_, rfl, Int.emod_nonneg _ (by omega), Int.emod_lt_of_pos _ (by omega)⟩, ⟨rfl, rfl, rfl, Nat.le_refl _, fun _ _ => rfl⟩⟩
end Go.Proofs.YtcmhpkgboacojaaDoor.lg
