/-
  Plain facts on a text that is the bytes of some runes: both RunesOf functions answer those runes, both TextOfRunes functions that text.
-/
import Derived.Test.YthndloempbcflaaFlf
import Derived.Test.YthndloempbcflaaRuw
import Derived.Test.YthndloempbcflaaRew
namespace Go.Proofs.Ythndloempbcflaa.ut
open Go.RowKit
set_option linter.unusedVariables false

theorem runes_flat (zs : List Int) (hz : Runes zs) (hl : zs.length ≤ 4096) : ∀ zs' c, RunesAre (mk (zs.flatMap encB)) zs' c → zs = zs' ∧ c = 0 := by
  intro zs' c h
  have hlen := flat_len zs
  rcases h with ⟨a, _, _⟩ | ⟨_, a, _, _⟩ | ⟨_, _, rfl, n, hn, rfl⟩
  · rw [mk_size] at a; omega
  · exact absurd (right_flat zs hz) a
  · have : n = zs.length := pos_inj _ (hn.trans (pos_flat_end zs hz).symm)
    subst this
    rw [runesL_flat zs hz _ (Nat.le_refl _), List.take_length]
    exact ⟨rfl, rfl⟩
theorem text_flat (zs : List Int) (hz : Runes zs) (hl : zs.length ≤ 4096) : ∀ e, TextRet zs e → e = .returned (.tuple #[.string ⟨(zs.flatMap encB).toArray⟩, .int .i64 0]) := by
  intro e h
  rcases h with ⟨a, _⟩ | ⟨_, ⟨j, hj, hf⟩, _⟩ | ⟨_, _, rfl⟩
  · omega
  · exfalso
    have := hz (zs.getD j 0) (by rw [List.getD_eq_getElem?_getD, List.getElem?_eq_getElem hj]; exact List.getElem_mem hj)
    rw [hf] at this
    cases this
  · rfl
theorem rep_ok {s : ByteArray} {e : Ending} (h : RepRet s e) (hs : s.size ≤ 65536) : ∃ n, pos s n = s.size ∧ e = .returned (.tuple #[.string ⟨(fixL s n).toArray⟩, .int .i64 0]) := by
  rcases h with ⟨a, _⟩ | ⟨_, n, hn, rfl⟩
  · omega
  · exact ⟨n, hn, rfl⟩
end Go.Proofs.Ythndloempbcflaa.ut
