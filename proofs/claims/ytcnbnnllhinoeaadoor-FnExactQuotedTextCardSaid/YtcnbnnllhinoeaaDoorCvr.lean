/-
  Plain facts on bytes that a call reads: as a text.
-/
import Derived.Test.YtcnbnnllhinoeaaDoorArg
namespace Go.Proofs.YtcnbnnllhinoeaaDoor.ag
open Go.RowKit
set_option linter.unusedVariables false

theorem conv {w : World} {v : Value} {l : List UInt8} (h : ow.Reads .u8 w v (b6.bz l)) : (convert 22 9 v).run Tryd.prog w = .ok (.string ⟨l.toArray⟩) w := by
  obtain ⟨a, cap, rfl, h⟩ := h
  rw [b6.bz_len] at h ⊢
  by_cases h0 : l = []
  · subst h0
    rw [run_convert_bytes_string w 22 9 5 _ _ _ Tryd.underlying22 Tryd.underlying5 Tryd.underlying9]
    cases a <;> rfl
  · rcases h with e | ⟨b, off, rfl, hc⟩
    · exact absurd (List.eq_nil_of_length_eq_zero (by have := congrArg List.length e; rwa [b6.bz_len] at this)) h0
    · refine run_convert_bytes_back w 22 9 5 ⟨b, off, none⟩ cap l Tryd.underlying22 Tryd.underlying5 Tryd.underlying9 (fun j hj => ?_)
      rw [show ((⟨b, off, none⟩ : Addr).add j) = ⟨b, off + j, none⟩ from by simp [Addr.add], hc j hj, b6.bz_at]
      simp [List.getD_eq_getElem?_getD, hj]
end Go.Proofs.YtcnbnnllhinoeaaDoor.ag
