/-
  Plain facts on quoted text: what a law asks of each of its characters, byte by byte.
-/
import Derived.Test.YtpbmofofigkpjaaDoorQug
import Derived.Test.YtpbmofofigkpjaaDoorLop
namespace Go.Proofs.YtpbmofofigkpjaaDoor.qu
set_option linter.unusedVariables false

theorem at_list (T : ByteArray) (k : Nat) (h : k < T.size) : T.data.toList.getD k 0 = T[k] := by
  rw [List.getD_eq_getElem?_getD, List.getElem?_eq_getElem (by simpa using h)]
  rfl
theorem int_of {a b : UInt8} (h : a = b) : ((a.toNat : Nat) : Int) = (b.toNat : Int) := by rw [h]
theorem ne_of {a b : UInt8} (h : a ≠ b) : ((a.toNat : Nat) : Int) ≠ (b.toNat : Int) := fun e => h (UInt8.toNat_inj.1 (Int.ofNat.inj e))
theorem of_int {a b : UInt8} (h : ((a.toNat : Nat) : Int) = (b.toNat : Int)) : a = b := UInt8.toNat_inj.1 (Int.ofNat.inj h)
/-- A character of a quoted text. -/
def Char (T : ByteArray) (k : Nat) (h : k < T.size) : Prop :=
  (((T[k]'h).toNat : Int) = 13 ∧ ∃ h1 : k + 1 < T.size, ((T[k + 1]'h1).toNat : Int) = 10) ∨
  (((T[k]'h).toNat : Int) = 10 ∧ ∃ j, ∃ e : k = j + 1, ((T[j]'(by omega)).toNat : Int) = 13) ∨
  (32 ≤ ((T[k]'h).toNat : Int) ∧ ((T[k]'h).toNat : Int) ≤ 126 ∧ (((T[k]'h).toNat : Int) = 32 → ∃ h1 : k + 1 < T.size, ((T[k + 1]'h1).toNat : Int) ≠ 13))
theorem char_qt {T : ByteArray} {l : List UInt8} (hT : T.data.toList = qt 0 l) (k : Nat) (h : k < T.size) : Char T k h := by
  have hl : (qt 0 l).length = T.size := by rw [← hT]; exact (Lib.size_eq T).symm
  obtain ⟨h1, h2⟩ := okay_qt l k (by omega)
  rw [← hT] at h1 h2
  rw [at_list T k h] at h1 h2
  rcases h1 with h1 | ⟨x, y, z⟩ | ⟨x, y, z⟩
  · refine .inr (.inr ⟨by have := h1.1; omega, by have := h1.2; omega, fun e => ?_⟩)
    obtain ⟨p, q⟩ := h2 (of_int (b := 32) e)
    have p' : k + 1 < T.size := by rw [Lib.size_eq]; exact p
    rw [at_list T (k + 1) p'] at q
    exact ⟨p', ne_of (b := 13) q⟩
  · have p' : k + 1 < T.size := by rw [Lib.size_eq]; exact y
    rw [at_list T (k + 1) p'] at z
    exact .inl ⟨int_of (b := 13) x, p', int_of (b := 10) z⟩
  · obtain ⟨j, rfl⟩ : ∃ j, k = j + 1 := ⟨k - 1, by omega⟩
    rw [show j + 1 - 1 = j from by omega, at_list T j (by omega)] at z
    exact .inr (.inl ⟨int_of (b := 10) x, j, rfl, int_of (b := 13) z⟩)
end Go.Proofs.YtpbmofofigkpjaaDoor.qu
