/-
  Contracts of the program's quoted text.
-/
import Derived.Test.YtinnnfkhiigjpaaPkap
import Derived.Test.YtinnnfkhiigjpaaPkah
import Derived.Laws.BitsAll
import Derived.Deep.DeepCutAuto
import Derived.Deep.Cut
import Derived.Deep.CutRange
import Derived.BigRegion

namespace Go.Proofs.Ytinnnfkhiigjpaa.qu
open Go.RowKit
set_option linter.unusedVariables false


theorem js13 : ∀ c : UInt8, ((c.toNat : Int) == 61) = (c == 61) := fun c => b6.byte_all (p := fun c => ((c.toNat : Int) == 61) = (c == 61)) (by decide +kernel) c
theorem js32 : ∀ c : UInt8, ((c.toNat : Int) == 32) = (c == 32) := fun c => b6.byte_all (p := fun c => ((c.toNat : Int) == 32) = (c == 32)) (by decide +kernel) c

theorem and15 (x : Nat) (h : x < 256) : bits .and .u8 (x : Int) 15 = ((x % 16 : Nat) : Int) := by
  have := bits_mask .u8 8 (by decide) wraps_u8 4 (by decide) (x : Int) (by omega) (by omega)
  have e : ((2 : Int) ^ 4 - 1) = 15 := by decide
  rw [e] at this
  rw [this]
  omega
theorem conv_new (w : World) (l : List UInt8) (hl : l.length ≤ 1000) : (convert 22 9 (.slice (some ⟨w.heap.size, 0, none⟩) l.length l.length)).run Try.prog (w.alloc (.cells (Lib.byteCells l).toArray 5)) = .ok (.string ⟨l.toArray⟩) (w.alloc (.cells (Lib.byteCells l).toArray 5)) := by
  refine ow.conv_bytes (base := w.heap.size) (n := l.length) (e := 5) l ⟨by simp, .inr ⟨w.heap.size, l.length, (Lib.byteCells l).toArray, rfl, Nat.le_refl _, heap_alloc_new w _, Nat.le_refl _, by unfold maxLen; omega, by simp [Lib.byteCells_length], ?_⟩⟩ Try.underlying22 Try.underlying5 Try.underlying9
  rw [Nat.mul_one]
  exact List.take_of_length_le (Nat.le_of_eq (Lib.byteCells_length l))


theorem ext_drop (r : ByteArray) (p : Nat) (h : p ≤ r.size) : (r.extract p r.size).data.toList = r.data.toList.drop p := by
  rw [Lib.extract_data]
  exact List.take_of_length_le (by rw [List.length_drop]; exact Nat.le_refl _)
theorem ext_size (r : ByteArray) (p : Nat) (h : p ≤ r.size) : (r.extract p r.size).size = r.size - p := by
  have : (r.extract p r.size).size = (r.extract p r.size).data.toList.length := rfl
  rw [this, ext_drop r p h, List.length_drop]
  rfl
theorem str_first (s : ByteArray) (hj : 0 < s.size) (wx : World) : (Instr.index 9 (.string s) (.int .i64 0)).run Try.prog wx = .ok (.int .u8 ((s.data.toList.getD 0 0).toNat : Int)) wx := by
  have hc : s.data.toList.getD 0 0 = s[0]'hj := by
    rw [List.getD_eq_getElem?_getD, Array.getElem?_toList, Array.getElem?_eq_getElem (show 0 < s.data.size from hj)]
    rfl
  rw [run_index_string wx 9 s .i64 0 Try.underlying9, dif_pos ⟨by omega, by omega⟩, hc]
  rfl
/-- The size of a text. -/
def sz (v : Value) : Nat := match v with
  | .string s => s.size
  | _ => 0
theorem prefix_crlf (s : ByteArray) : Lib.hasPrefix s.data.toList (⟨#[13, 10]⟩ : ByteArray).data.toList = crlf s.data.toList := by
  unfold Lib.hasPrefix
  match h : s.data.toList with
  | [] => rfl
  | [a] => simp [crlf, List.isPrefixOf]
  | a :: b :: r =>
    rw [Bool.eq_iff_iff, List.isPrefixOf_iff_prefix, crlf_iff]
    constructor
    · rintro ⟨t, ht⟩
      exact ⟨t, ht.symm⟩
    · rintro ⟨t, ht⟩
      exact ⟨t, ht.symm⟩

end Go.Proofs.Ytinnnfkhiigjpaa.qu
