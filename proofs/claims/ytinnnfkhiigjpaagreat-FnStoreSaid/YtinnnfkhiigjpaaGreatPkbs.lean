/-
  Plain facts on the texts that an entry is drawn out of: each is right as a field, or as a content.
  Plain facts on reading quoted text, step by step.
  Plain facts on quoted text: bytes are read back from it.
  Plain facts on quoted text: its lines have at most 76 characters, from 32 to 126, and no blank at an end.
  Plain facts on the longest line of a text: its pieces between ends of lines.
-/
import Derived.Test.YtinnnfkhiigjpaaGreatPkbj
import Derived.Test.YtinnnfkhiigjpaaGreatPkbn
import Derived.Lib.IndexMore
import Derived.Lib.IndexLaws

namespace Go.Proofs.YtinnnfkhiigjpaaGreat.en
open Go.RowKit
set_option linter.unusedVariables false
/-- Whether no rune of XML stands at a place. -/
def xbadB (s : ByteArray) (k : Nat) : Bool := decide (Utf8.decode s k = (65533, 1)) || !xm.xr ((Utf8.decode s k).1 : Int)
theorem xbadB_no {s : ByteArray} {k : Nat} (h : xbadB s k = false) : ¬ xm.xbad s k := by
  unfold xbadB at h
  rw [Bool.or_eq_false_iff] at h
  rintro (h1 | h1)
  · exact of_decide_eq_false h.1 h1
  · rw [h1] at h; cases h.2
/-- Whether a text is n runes of XML. -/
def allGood (s : ByteArray) (n : Nat) : Bool := decide (ut.pos s n = s.size) && (List.range n).all fun m => !xbadB s (ut.pos s m)
theorem good_of {s : ByteArray} {n : Nat} (h : allGood s n = true) : xm.GoodTo s s.size := by
  unfold allGood at h
  rw [Bool.and_eq_true, List.all_eq_true] at h
  refine ⟨n, (of_decide_eq_true h.1).symm, Nat.le_refl _, fun m hm => ?_, .inl rfl⟩
  have := h.2 m (List.mem_range.2 hm)
  rw [Bool.not_eq_true'] at this
  exact xbadB_no this
theorem fld_of {s : ByteArray} (n : Nat) (h : (decide (s.size ≤ 200) && allGood s n && decide (li.line s.data.toList = s.data.toList)) = true) : fld s = true := by
  simp only [Bool.and_eq_true] at h
  exact ow.dt ⟨of_decide_eq_true h.1.1, good_of h.1.2, of_decide_eq_true h.2⟩
theorem ofx_of {s : ByteArray} (n : Nat) (h : (decide (s.size ≤ 1000) && allGood s n) = true) : ofx s 1000 = true := by
  simp only [Bool.and_eq_true] at h
  exact ow.dt ⟨of_decide_eq_true h.1, good_of h.2⟩
/-- The names, titles and links that are drawn. -/
def idL : List ByteArray := [⟨#[105, 100, 49]⟩, ⟨#[105, 100, 50]⟩, ⟨#[105, 100, 51]⟩, ⟨#[117, 114, 110, 58, 120, 32, 38, 32, 121]⟩, ⟨#[105, 100, 32, 195, 164]⟩]
def fldL : List ByteArray := [⟨#[]⟩, ⟨#[116, 105, 116, 108, 101]⟩, ⟨#[97, 32, 38, 32, 98]⟩, ⟨#[195, 164, 195, 182, 32, 226, 130, 172]⟩, ⟨#[60, 120, 62]⟩, ⟨#[111, 110, 101, 32, 116, 119, 111]⟩, ⟨#[61, 63, 117, 116, 102, 45, 56, 63, 81, 63, 120, 63, 61]⟩, ⟨#[240, 159, 152, 128]⟩]
theorem idL_ok : ∀ s ∈ idL, fld s = true ∧ s.size ≠ 0 := by
  intro s hs
  simp only [idL, List.mem_cons, List.not_mem_nil, or_false] at hs
  rcases hs with rfl | rfl | rfl | rfl | rfl
  · exact ⟨fld_of 3 (by decide +kernel), by decide⟩
  · exact ⟨fld_of 3 (by decide +kernel), by decide⟩
  · exact ⟨fld_of 3 (by decide +kernel), by decide⟩
  · exact ⟨fld_of 9 (by decide +kernel), by decide⟩
  · exact ⟨fld_of 4 (by decide +kernel), by decide⟩
theorem fldL_ok : ∀ s ∈ fldL, fld s = true := by
  intro s hs
  simp only [fldL, List.mem_cons, List.not_mem_nil, or_false] at hs
  rcases hs with rfl | rfl | rfl | rfl | rfl | rfl | rfl | rfl
  · exact fld_of 0 (by decide +kernel)
  · exact fld_of 5 (by decide +kernel)
  · exact fld_of 5 (by decide +kernel)
  · exact fld_of 4 (by decide +kernel)
  · exact fld_of 3 (by decide +kernel)
  · exact fld_of 7 (by decide +kernel)
  · exact fld_of 13 (by decide +kernel)
  · exact fld_of 1 (by decide +kernel)
def linkL : List ByteArray := [⟨#[]⟩, ⟨#[104, 116, 116, 112, 58, 47, 47, 97, 47, 98, 63, 99, 61, 100, 38, 101]⟩, ⟨#[108, 105, 110, 107]⟩]
def conL : List ByteArray := [⟨#[]⟩, ⟨#[116, 101, 120, 116]⟩, ⟨#[116, 119, 111, 10, 108, 105, 110, 101, 115, 10]⟩, ⟨#[97, 13, 98, 13, 10]⟩, ⟨#[46, 10, 46, 46, 10]⟩, ⟨#[195, 164, 32, 60, 98, 62]⟩, ⟨#[116, 114, 97, 105, 108, 105, 110, 103, 32, 10, 61, 32, 120]⟩, ⟨#[48, 49, 50, 51, 52, 53, 54, 55, 56, 57, 48, 49, 50, 51, 52, 53, 54, 55, 56, 57, 48, 49, 50, 51, 52, 53, 54, 55, 56, 57, 48, 49, 50, 51, 52, 53, 54, 55, 56, 57, 48, 49, 50, 51, 52, 53, 54, 55, 56, 57, 48, 49, 50, 51, 52, 53, 54, 55, 56, 57, 48, 49, 50, 51, 52, 53, 54, 55, 56, 57, 48, 49, 50, 51, 52, 53, 54, 55, 56, 57, 48, 49, 50, 51, 52, 53, 54, 55, 56, 57, 48]⟩]
theorem linkL_ok : ∀ s ∈ linkL, fld s = true := by
  intro s hs
  simp only [linkL, List.mem_cons, List.not_mem_nil, or_false] at hs
  rcases hs with rfl | rfl | rfl
  · exact fld_of 0 (by decide +kernel)
  · exact fld_of 16 (by decide +kernel)
  · exact fld_of 4 (by decide +kernel)
theorem conL_ok : ∀ s ∈ conL, ofx s 1000 = true := by
  intro s hs
  simp only [conL, List.mem_cons, List.not_mem_nil, or_false] at hs
  rcases hs with rfl | rfl | rfl | rfl | rfl | rfl | rfl | rfl
  · exact ofx_of 0 (by decide +kernel)
  · exact ofx_of 4 (by decide +kernel)
  · exact ofx_of 10 (by decide +kernel)
  · exact ofx_of 5 (by decide +kernel)
  · exact ofx_of 5 (by decide +kernel)
  · exact ofx_of 5 (by decide +kernel)
  · exact ofx_of 13 (by decide +kernel)
  · exact ofx_of 91 (by decide +kernel)
/-- An entry that is drawn is right. -/
theorem drawn_ok {i t l a c : ByteArray} {d : Int} (hi : i ∈ idL) (ht : t ∈ fldL) (hl : l ∈ linkL) (ha : a ∈ fldL) (hc : c ∈ conL) (d0 : 0 ≤ d) (d1 : d ≤ 4102444799) : eok ⟨i, t, l, a, d, c⟩ = true := by
  obtain ⟨h1, h2⟩ := idL_ok i hi
  have h3 : stamp d = true := decide_eq_true ⟨d0, d1⟩
  simp [eok, h1, h2, h3, fldL_ok t ht, linkL_ok l hl, fldL_ok a ha, conL_ok c hc]
end Go.Proofs.YtinnnfkhiigjpaaGreat.en

namespace Go.Proofs.YtinnnfkhiigjpaaGreat.qu
set_option linter.unusedVariables false

/-- The value of a digit, -1 of what is none. -/
def hv (c : UInt8) : Int := if 48 ≤ c.toNat ∧ c.toNat ≤ 57 then (c.toNat : Int) - 48 else if 65 ≤ c.toNat ∧ c.toNat ≤ 70 then (c.toNat : Int) - 55 else -1
def soft (l : List UInt8) : Bool := l.head? == some 61 && crlf l.tail
/-- What the beginning stands for, and how many bytes say it. -/
def fq (l : List UInt8) : Option (List UInt8 × Nat) :=
  if soft l then some ([], 3)
  else if crlf l then some ([13, 10], 2)
  else if l.getD 0 0 = 61 then (if l.length < 3 ∨ hv (l.getD 1 0) < 0 ∨ hv (l.getD 2 0) < 0 then none else some ([UInt8.ofNat ((hv (l.getD 1 0)).toNat * 16 + (hv (l.getD 2 0)).toNat)], 3))
  else if 32 ≤ (l.getD 0 0).toNat ∧ (l.getD 0 0).toNat ≤ 126 then some ([l.getD 0 0], 1)
  else none
/-- The bytes of a quoted text; the number bounds the steps. -/
def uqn : Nat → List UInt8 → Option (List UInt8)
  | _, [] => some []
  | 0, _ => none
  | n + 1, l => (fq l).bind fun p => (uqn n (l.drop p.2)).map (p.1 ++ ·)
def uq (l : List UInt8) : Option (List UInt8) := uqn l.length l

def uc (s : ByteArray) : Int := if s.size ≤ 65536 then (if (uq s.data.toList).isSome then 0 else 3) else 2
end Go.Proofs.YtinnnfkhiigjpaaGreat.qu

namespace Go.Proofs.YtinnnfkhiigjpaaGreat.qu
set_option linter.unusedVariables false

end Go.Proofs.YtinnnfkhiigjpaaGreat.qu

namespace Go.Proofs.YtinnnfkhiigjpaaGreat.qu
set_option linter.unusedVariables false

end Go.Proofs.YtinnnfkhiigjpaaGreat.qu

namespace Go.Proofs.YtinnnfkhiigjpaaGreat.ln
open Go
set_option linter.unusedVariables false

end Go.Proofs.YtinnnfkhiigjpaaGreat.ln
