/-
  The contract of the specification's reading of one word.
-/
import Derived.Test.YtpbmofofigkpjaaDoorDcw
import Derived.BigRegion
namespace Go.Proofs.YtpbmofofigkpjaaDoor.hd
open Go.RowKit
set_option linter.unusedVariables false

theorem has_pre (l : List UInt8) (h : 10 ≤ l.length) : Lib.hasPrefix l head = (l.take 10 == head) := by
  unfold Lib.hasPrefix
  rw [Bool.eq_iff_iff, List.isPrefixOf_iff_prefix, List.prefix_iff_eq_take, beq_iff_eq]
  exact ⟨fun h => h.symm, fun h => h.symm⟩
theorem has_suf (l : List UInt8) (h : 2 ≤ l.length) : Lib.hasSuffix l tail = (l.drop (l.length - 2) == tail) := by
  unfold Lib.hasSuffix
  rw [Bool.eq_iff_iff, List.isSuffixOf_iff_suffix, List.suffix_iff_eq_drop, beq_iff_eq]
  exact ⟨fun h => h.symm, fun h => h.symm⟩
theorem pre_short {l : List UInt8} (h : l.length < 12) : ∀ y, ¬ Coded l y := fun y x => by
  have h1 := List.IsPrefix.length_le (List.isPrefixOf_iff_prefix.1 x.1)
  have h2 := List.IsSuffix.length_le (List.isSuffixOf_iff_suffix.1 x.2.1)
  simp [head, tail] at h1 h2
  omega

theorem bdrew {B : Nat} {a w : World} (h : Below B a w) (n : Nat) : Below B a (w.drewN n) := ⟨h.os, h.tape, h.output, h.size, h.block⟩
theorem ext_list (s : ByteArray) (a b : Nat) : (s.extract a b).data.toList = (s.data.toList.drop a).take (b - a) := by rw [← Lib.toList_data, Lib.extract_toList]
theorem pre_at (s : ByteArray) (h : 12 ≤ s.size) : ((s.extract 0 10).toList == [61, 63, 117, 116, 102, 45, 56, 63, 66, 63]) = Lib.hasPrefix s.data.toList head := by
  rw [has_pre _ (by rw [← Lib.size_eq]; omega), Lib.toList_data, ext_list]
  rfl
theorem suf_at (s : ByteArray) (h : 12 ≤ s.size) : ((s.extract (s.size - 2) s.size).toList == [63, 61]) = Lib.hasSuffix (s.data.toList.drop 10) tail := by
  have hl := Lib.size_eq s
  rw [has_suf _ (by rw [List.length_drop]; omega), Lib.toList_data, ext_list, List.length_drop, List.drop_drop]
  rw [show 10 + (s.data.toList.length - 10 - 2) = s.size - 2 from by omega, List.take_of_length_le (by rw [List.length_drop]; omega)]
  rfl
theorem mid_at (s : ByteArray) (h : 12 ≤ s.size) : (s.extract 10 (s.size - 2)).data.toList = mid s.data.toList := by
  rw [ext_list]
  unfold mid
  rw [List.length_drop, ← Lib.size_eq]
  congr 1

end Go.Proofs.YtpbmofofigkpjaaDoor.hd
