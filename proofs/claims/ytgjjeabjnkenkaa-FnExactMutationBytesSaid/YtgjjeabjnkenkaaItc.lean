/-
  Items as an argument, opened.
-/
import Derived.Test.YtgjjeabjnkenkaaIta
import Derived.WalkKit
import Derived.ProofKit
import Derived.OpenShut
import Derived.ChangeOld
import Derived.Below
import Derived.Lib.SmallJoins
import Derived.Deep.SlicePairs
namespace Go.Proofs.Ytgjjeabjnkenkaa.it
open Go.ChangeShapes Go.WideShapes Go.ChangeAt Go.RowKit Go.Joins Go.Deep
set_option linter.unusedVariables false

def str : Value → ByteArray
  | .string s => s
  | _ => ⟨#[]⟩
section
variable {H : Type} {enc : TypeId × Value → H} {w : World} {base : Nat} {spare : Nat → Bool} {held : Bool}
theorem open_attrs {fuel : Nat} {v : Value} {x : DataW H × List MemPlace} (h : DataW.trod enc Try.prog w base spare held fuel 23 [v] = some x) :
    ∃ ps : List Pr, AttrsAt w v ps ∧ ps.length ≤ maxLen ∧ ∀ j, j < ps.length → (ps.getD j no).1.size ≤ maxLen ∧ (ps.getD j no).2.size ≤ maxLen := by
  rcases open_slice_pairs Try.underlying23 Try.underlying87 (by kernel_rfl) rfl rfl (by kernel_rfl) (by kernel_rfl) h with ⟨hc, _⟩ | ⟨a, len, cap, m, k, V0, V1, D0, D1, P0, P1, hc, _, hl, hm, hmm, _, hall⟩
  · cases hc
    exact ⟨[], ⟨none, 0, rfl, .inl rfl⟩, Nat.zero_le _, fun j hj => absurd hj (Nat.not_lt_zero _)⟩
  · cases hc
    have hml : len ≤ m := by rw [hmm]; split <;> omega
    have hstr : ∀ i, i < len → ∃ s t : ByteArray, V0 i = .string s ∧ V1 i = .string t ∧ s.size ≤ maxLen ∧ t.size ≤ maxLen ∧ w.cell? (a.add (i * 2)) = some (.string s) ∧ w.cell? (a.add (i * 2 + 1)) = some (.string t) := by
      intro i hi
      obtain ⟨h0, h1, t0, t1⟩ := hall i (by omega)
      obtain ⟨s, e0, _, s0⟩ := DataW.trod_string Try.underlying9 t0
      obtain ⟨t, e1, _, s1⟩ := DataW.trod_string Try.underlying9 t1
      simp only [List.cons.injEq, and_true] at e0 e1
      exact ⟨s, t, e0, e1, s0, s1, by rw [h0, e0], by rw [h1, e1]⟩
    have hget : ∀ j, j < len → ((List.range len).map fun i => (str (V0 i), str (V1 i))).getD j no = (str (V0 j), str (V1 j)) := by
      intro j hj
      simp [List.getD_eq_getElem?_getD, hj]
    refine ⟨(List.range len).map fun i => (str (V0 i), str (V1 i)), ⟨some a, cap, by simp, ?_⟩, by simp; omega, ?_⟩
    · by_cases h0 : len = 0
      · left; simp [h0]
      · right
        obtain ⟨s, t, e0, e1, s0, s1, c0, c1⟩ := hstr 0 (by omega)
        obtain ⟨b, off, spot⟩ := a
        have hspot : spot = none := by simpa [Addr.add] using World.cell?_spot c0
        subst hspot
        refine ⟨b, off, rfl, fun j hj => ?_⟩
        have hj' : j < len := by simpa using hj
        obtain ⟨s, t, e0, e1, s0, s1, c0, c1⟩ := hstr j hj'
        rw [hget j hj', e0, e1]
        rw [show ((⟨b, off, none⟩ : Addr).add (j * 2)) = ⟨b, off + j * 2, none⟩ from by simp [Addr.add]] at c0
        rw [show ((⟨b, off, none⟩ : Addr).add (j * 2 + 1)) = ⟨b, off + j * 2 + 1, none⟩ from by simp [Addr.add, Nat.add_assoc]] at c1
        exact ⟨c0, c1⟩
    · intro j hj
      have hj' : j < len := by simpa using hj
      obtain ⟨s, t, e0, e1, s0, s1, c0, c1⟩ := hstr j hj'
      rw [hget j hj', e0, e1]
      exact ⟨s0, s1⟩
end
end Go.Proofs.Ytgjjeabjnkenkaa.it
