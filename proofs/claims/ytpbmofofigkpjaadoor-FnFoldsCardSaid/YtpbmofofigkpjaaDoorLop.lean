/-
  Plain facts on the longest line of a text: its pieces between ends of lines.
-/
import Derived.Test.YtpbmofofigkpjaaDoorQul
import Derived.Lib.IndexMore
import Derived.Lib.IndexLaws
namespace Go.Proofs.YtpbmofofigkpjaaDoor.ln
open Go
set_option linter.unusedVariables false

def cr : List UInt8 := [13, 10]
theorem pre_iff {l : List UInt8} : cr.isPrefixOf l = qu.crlf l := by
  unfold cr qu.crlf
  match l with
  | [] => rfl
  | [a] => simp [List.isPrefixOf]
  | a :: b :: r =>
    rw [Bool.eq_iff_iff]
    simp only [List.isPrefixOf, Bool.and_eq_true, beq_iff_eq, List.head?_cons, List.tail_cons, Option.some.injEq, Bool.and_true]
    exact ⟨fun h => ⟨h.1.symm, h.2.symm⟩, fun h => ⟨h.1.symm, h.2.symm⟩⟩
theorem all_of : ∀ (l : List UInt8) (w b : Nat), w ≤ b → Lib.index l cr = -1 → qu.llw w b l = max b (w + l.length)
  | [], w, b, hw, _ => by rw [qu.llw_nil, List.length_nil]; omega
  | c :: r, w, b, hw, h => by
    rw [Lib.index] at h
    by_cases hp : cr.isPrefixOf (c :: r) = true
    · rw [if_pos hp] at h
      cases h
    · rw [if_neg hp] at h
      have h1 : Lib.index r cr = -1 := by
        by_cases h1 : Lib.index r cr = -1
        · exact h1
        · rw [if_neg (by simpa using h1)] at h
          have := Lib.index_ge r cr
          omega
      rw [pre_iff] at hp
      rw [qu.llw_no (by simpa using hp), all_of r (w + 1) _ (by omega) h1, List.length_cons]
      omega
theorem first_of : ∀ (l : List UInt8) (w b i : Nat), w ≤ b → Lib.index l cr = i → qu.llw w b l = qu.llw 0 (max b (w + i)) (l.drop (i + 2))
  | [], w, b, i, hw, h => by simp [Lib.index, cr] at h
  | c :: r, w, b, i, hw, h => by
    rw [Lib.index] at h
    by_cases hp : cr.isPrefixOf (c :: r) = true
    · rw [if_pos hp] at h
      obtain rfl : i = 0 := by omega
      rw [pre_iff] at hp
      obtain ⟨q, hq⟩ := qu.crlf_iff.1 hp
      rw [hq, qu.llw_crlf]
      simp only [List.drop_succ_cons, List.drop_zero]
      rw [show max b (w + 0) = b from by omega]
    · rw [if_neg hp] at h
      by_cases h1 : Lib.index r cr = -1
      · rw [if_pos (by rw [h1]; rfl)] at h
        omega
      · rw [if_neg (by simpa using h1)] at h
        have := Lib.index_ge r cr
        obtain ⟨j, rfl⟩ : ∃ j, i = j + 1 := ⟨i - 1, by omega⟩
        rw [pre_iff] at hp
        rw [qu.llw_no (by simpa using hp), first_of r (w + 1) _ j (by omega) (by omega), show j + 1 + 2 = j + 2 + 1 from by omega, List.drop_succ_cons]
        congr 1
        omega
theorem more : ∀ (l : List UInt8) (f : Bool) (w b c : Nat), qu.llS f w (max b c) l = max b (qu.llS f w c l)
  | [], f, w, b, c => by rw [qu.llS, qu.llS]
  | x :: r, true, w, b, c => by rw [qu.llS, qu.llS, more r]
  | x :: r, false, w, b, c => by
    rw [qu.llS, qu.llS]
    split
    · rw [more r]
    · rw [Nat.max_assoc, more r]
def ll (l : List UInt8) : Nat := qu.llw 0 0 l
theorem ll_all {l : List UInt8} (h : Lib.index l cr = -1) : ll l = l.length := by
  unfold ll
  rw [all_of l 0 0 (Nat.le_refl _) h]
  omega
theorem ll_first {l : List UInt8} {i : Nat} (h : Lib.index l cr = i) : ll l = max i (ll (l.drop (i + 2))) := by
  unfold ll
  rw [first_of l 0 0 i (Nat.le_refl _) h]
  have := more (l.drop (i + 2)) false 0 i 0
  unfold qu.llw
  rw [← this]
  congr 1
  omega
/-- The longest of some texts. -/
def mx (xs : List ByteArray) : Nat := xs.foldl (fun m x => max m x.size) 0
theorem mx_snoc (xs : List ByteArray) (x : ByteArray) : mx (xs ++ [x]) = max (mx xs) x.size := by simp [mx]
end Go.Proofs.YtpbmofofigkpjaaDoor.ln
