/-
  The contract of the specification's MailEntry.
-/
import Derived.Test.YtadfdfmebdcfgaaGreatDoorPkbf
import Derived.Test.YtadfdfmebdcfgaaGreatDoorPkbg
import Derived.Test.YtadfdfmebdcfgaaGreatDoorPkbj
import Derived.Test.YtadfdfmebdcfgaaGreatDoorPkbk
import Derived.Deep.RegionHeld

namespace Go.Proofs.YtadfdfmebdcfgaaGreatDoor.me
open Go.RowKit
open fa fo ml
open rq (upd upd_same upd_other)
set_option linter.unusedVariables false

def nt : ByteArray := ⟨#[]⟩
theorem con_body {T : ByteArray} (he : ml.Ends T.data.toList) (h : 2 ≤ T.size) (h65 : T.size ≤ 65536) : con T = match qu.uq (T.extract 0 (T.size - 2)).data.toList with | some o => (⟨(lfp.lfr o).toArray⟩, true) | none => (⟨#[]⟩, false) := by
  obtain ⟨x, hx⟩ : ∃ x, T.data.toList = x ++ nl := by
    rcases he with e | e
    · rw [Lib.size_eq, e] at h; cases h
    · exact e
  have hend : ended T = true := by
    unfold ended Lib.hasSuffix
    rw [List.isSuffixOf_iff_suffix, hx]
    exact List.suffix_append x nl
  have hq : quoted T = T.extract 0 (T.size - 2) := by
    have hl : T.size = x.length + 2 := by rw [Lib.size_eq, hx, List.length_append]; rfl
    have h1 : (T.extract 0 (T.size - 2)).data.toList = x := by
      rw [ByteArray.data_extract, Array.toList_extract, hx, hl]
      simp
    have h2 : (quoted T).data.toList = x := by
      show Lib.trimSuffix T.data.toList lfp.cr = x
      unfold Lib.trimSuffix
      rw [show Lib.hasSuffix T.data.toList lfp.cr = true from hend, if_pos rfl, hx]
      simp [lfp.cr, nl]
    exact ByteArray.ext (Array.toList_inj.1 (h2.trans h1.symm))
  have hs2 : (quoted T).size ≤ 65536 := Nat.le_trans (quoted_len T) h65
  rw [← hq]
  cases hu : qu.uq (quoted T).data.toList with
  | none =>
    rw [con_no]
    rintro ⟨_, h⟩
    unfold qu.uc at h
    rw [if_pos hs2, hu] at h
    cases h
  | some o =>
    rw [con_yes hend (by unfold qu.uc; rw [if_pos hs2, hu]; rfl)]
    unfold qu.ul
    rw [if_pos hs2, hu]
    rfl
theorem hasAll_all {ps : List Pr} {xs : List ByteArray} (hl : xs.length = 5) (h : ∀ j, j < 5 → find ps (names.getD j nt) = some (xs.getD j nt)) : hasAll ps names = true := by
  unfold hasAll
  rw [List.all_eq_true]
  intro nm hnm
  obtain ⟨j, hj, rfl⟩ := List.mem_iff_getElem.1 hnm
  have hj5 : j < 5 := hj
  have := h j hj5
  rw [List.getD_eq_getElem?_getD, List.getElem?_eq_getElem hj] at this
  simp only [Option.getD_some] at this
  rw [this]
  rfl

section
variable {ps : List Pr} {gv cv : Nat} {x0 x2 x3 x4 : ByteArray} {bv : Value} {st : Int} {C : ByteArray} {Wb j i : Nat} {f : Nat → Value} {w w' : World}
end

end Go.Proofs.YtadfdfmebdcfgaaGreatDoor.me
