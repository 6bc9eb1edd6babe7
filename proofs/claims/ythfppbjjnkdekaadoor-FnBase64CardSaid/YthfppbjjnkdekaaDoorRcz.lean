/-
  A plain fact on reading base 64: what is read without a code is of a text that is just its own.
-/
import Derived.Test.YthfppbjjnkdekaaDoorIde
namespace Go.Proofs.YthfppbjjnkdekaaDoor.b6
set_option linter.unusedVariables false
theorem rc_zero {s : ByteArray} (h : rc s = 0) : s.size ≤ 65536 ∧ (⟨(enc (rl s)).toArray⟩ : ByteArray) = s := by
  unfold rc at h
  split at h
  · rename_i hl
    split at h
    · rename_i hd
      obtain ⟨o, ho⟩ := Option.isSome_iff_exists.1 hd
      have e1 := (rl_some hl ho).1
      rw [e1, enc_dec ho]
      exact ⟨hl, by cases s; simp⟩
    · exact absurd h (by decide)
  · exact absurd h (by decide)
end Go.Proofs.YthfppbjjnkdekaaDoor.b6
