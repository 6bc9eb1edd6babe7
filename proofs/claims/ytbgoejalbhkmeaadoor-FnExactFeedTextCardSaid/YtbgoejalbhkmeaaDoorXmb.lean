/-
  Contracts of both XmlNameOK functions: whether a text is a name of XML.
-/
import Derived.Test.YtbgoejalbhkmeaaDoorXma
import Derived.Lib.Strings
namespace Go.Proofs.YtbgoejalbhkmeaaDoor.xm
open Go.RowKit
set_option linter.unusedVariables false

def gon (c : UInt8) : Bool := gonB (c.toNat : Int)
/-- A list of bytes is a name of XML. -/
def okName (l : List UInt8) : Bool := decide (1 ≤ l.length ∧ l.length ≤ 40) && letB ((l.getD 0 0).toNat : Int) && l.all gon

theorem take_snoc (s : ByteArray) (k : Nat) (h : k < s.size) : s.data.toList.take (k + 1) = s.data.toList.take k ++ [s[k]] := by
  have hl : k < s.data.toList.length := by rw [← Lib.size_eq]; exact h
  rw [List.take_succ_eq_append_getElem hl]
  rfl
theorem take_all (s : ByteArray) (k : Nat) (h : s.size ≤ k) : s.data.toList.take k = s.data.toList := List.take_of_length_le (by rw [← Lib.size_eq]; exact h)
theorem all_step {s : ByteArray} {p : UInt8 → Bool} {k : Nat} (h : k < s.size) (ha : (s.data.toList.take k).all p = true) (hp : p s[k] = true) : (s.data.toList.take (k + 1)).all p = true := by
  rw [take_snoc s k h, List.all_append, ha]; simp [hp]
theorem all_no {s : ByteArray} {p : UInt8 → Bool} {k : Nat} (h : k < s.size) (hp : p s[k] = false) : s.data.toList.all p = false := by
  cases hc : s.data.toList.all p
  · rfl
  · have hm : s[k] ∈ s.data.toList := by
      have hl : k < s.data.toList.length := by rw [← Lib.size_eq]; exact h
      have : s[k] = s.data.toList[k] := rfl
      rw [this]; exact List.getElem_mem hl
    rw [List.all_eq_true.1 hc _ hm] at hp; cases hp
theorem head_at (s : ByteArray) (h : 0 < s.size) : s.data.toList.getD 0 0 = s[0] := by
  have hl : 0 < s.data.toList.length := by rw [← Lib.size_eq]; exact h
  rw [List.getD_eq_getElem?_getD, List.getElem?_eq_getElem hl]
  rfl
theorem no_size {s : ByteArray} (h : s.size = 0 ∨ 40 < s.size) : okName s.data.toList = false := by
  have : ¬ (1 ≤ s.data.toList.length ∧ s.data.toList.length ≤ 40) := by rw [← Lib.size_eq]; omega
  unfold okName; rw [decide_eq_false this]; rfl
theorem no_head {s : ByteArray} (h : 0 < s.size) (hb : letB ((s[0]'h).toNat : Int) = false) : okName s.data.toList = false := by
  unfold okName; rw [head_at s h, hb]; simp
theorem no_byte {s : ByteArray} {k : Nat} (h : k < s.size) (hb : gon s[k] = false) : okName s.data.toList = false := by
  unfold okName; rw [all_no h hb]; simp
theorem yes_name {s : ByteArray} (h0 : 0 < s.size) (h1 : s.size ≤ 40) (hb : letB ((s[0]'h0).toNat : Int) = true) (ha : s.data.toList.all gon = true) : okName s.data.toList = true := by
  have : 1 ≤ s.data.toList.length ∧ s.data.toList.length ≤ 40 := by rw [← Lib.size_eq]; omega
  unfold okName; rw [head_at s h0, hb, ha]; simp only [this]; rfl

end Go.Proofs.YtbgoejalbhkmeaaDoor.xm
