/-
  Plain facts on quoted text: what a line's bytes come to, step by step.
  Contracts of the program's quoted text.
-/
import Derived.Test.YtinnnfkhiigjpaaGreatPkbg
import Derived.Test.YtinnnfkhiigjpaaGreatPkbf
import Derived.Laws.BitsAll
import Derived.Deep.DeepCutAuto
import Derived.Deep.Cut
import Derived.Deep.CutRange
import Derived.BigRegion

namespace Go.Proofs.YtinnnfkhiigjpaaGreat.qu
set_option linter.unusedVariables false

/-- The end of a line stands here. -/
def crlf (l : List UInt8) : Bool := l.head? == some 13 && l.tail.head? == some 10
/-- The byte ahead of this is the last one of its line. -/
def lastb (r : List UInt8) : Bool := r.isEmpty || crlf r
def hx (n : Nat) : UInt8 := tb.digs.getD n 0
def plain (c : UInt8) (la : Bool) : Bool := (decide (33 ≤ c.toNat) && decide (c.toNat ≤ 126) && c != 61) || (c == 32 && !la)
def form (c : UInt8) (la : Bool) : List UInt8 := if plain c la then [c] else [61, hx (c.toNat / 16), hx (c.toNat % 16)]
def lim (la : Bool) : Nat := if la then 76 else 75
/-- The quoted text of bytes, behind w characters of a line; of an end of line the second byte is passed by. -/
def qtS : Bool → Nat → List UInt8 → List UInt8
  | _, _, [] => []
  | true, _, _ :: r => qtS false 0 r
  | false, w, c :: r => if crlf (c :: r) then 13 :: 10 :: qtS true 0 r
    else if lim (lastb r) < w + (form c (lastb r)).length then 61 :: 13 :: 10 :: (form c (lastb r) ++ qtS false (form c (lastb r)).length r)
    else form c (lastb r) ++ qtS false (w + (form c (lastb r)).length) r
def qt (w : Nat) (l : List UInt8) : List UInt8 := qtS false w l

theorem qt_nil (w : Nat) : qt w [] = [] := by rw [qt, qtS]
theorem qt_crlf (w : Nat) (r : List UInt8) : qt w (13 :: 10 :: r) = 13 :: 10 :: qt 0 r := by
  rw [qt, qtS, if_pos (by simp [crlf]), qtS, qt]
theorem qt_soft {w : Nat} {c : UInt8} {r : List UInt8} (h : crlf (c :: r) = false) (h2 : lim (lastb r) < w + (form c (lastb r)).length) : qt w (c :: r) = 61 :: 13 :: 10 :: (form c (lastb r) ++ qt (form c (lastb r)).length r) := by
  rw [qt, qtS, if_neg (by rw [h]; decide), if_pos h2, qt]
theorem qt_on {w : Nat} {c : UInt8} {r : List UInt8} (h : crlf (c :: r) = false) (h2 : ¬ lim (lastb r) < w + (form c (lastb r)).length) : qt w (c :: r) = form c (lastb r) ++ qt (w + (form c (lastb r)).length) r := by
  rw [qt, qtS, if_neg (by rw [h]; decide), if_neg h2, qt]
theorem form_len (c : UInt8) (la : Bool) : 1 ≤ (form c la).length ∧ (form c la).length ≤ 3 := by
  unfold form
  split <;> simp
theorem crlf_iff {l : List UInt8} : crlf l = true ↔ ∃ r, l = 13 :: 10 :: r := by
  match l with
  | [] => simp [crlf]
  | [a] => simp [crlf]
  | a :: b :: r => simp [crlf]
theorem crlf_at (l : List UInt8) (i : Nat) : crlf (l.drop i) = (l.getD i 0 == 13 && l.getD (i + 1) 0 == 10) := by
  by_cases h : i < l.length
  · rw [b6.drop_cons h]
    by_cases h2 : i + 1 < l.length
    · rw [b6.drop_cons h2]
      simp [crlf]
    · rw [List.drop_eq_nil_of_le (i := i + 1) (by omega)]
      have e : l.getD (i + 1) 0 = 0 := by rw [List.getD_eq_getElem?_getD, List.getElem?_eq_none (by omega)]; rfl
      rw [e]
      simp [crlf]
  · rw [List.drop_eq_nil_of_le (by omega)]
    have e : l.getD i 0 = 0 := by rw [List.getD_eq_getElem?_getD, List.getElem?_eq_none (by omega)]; rfl
    rw [e]
    simp [crlf]
theorem last_at (l : List UInt8) (i : Nat) : lastb (l.drop i) = (decide (l.length ≤ i) || (l.getD i 0 == 13 && l.getD (i + 1) 0 == 10)) := by
  unfold lastb
  rw [crlf_at]
  congr 1
  by_cases h : l.length ≤ i
  · rw [List.drop_eq_nil_of_le h]
    simp [h]
  · rw [b6.drop_cons (by omega)]
    simp [h]
theorem at_crlf {l : List UInt8} {i w : Nat} (h : crlf (l.drop i) = true) : qt w (l.drop i) = [13, 10] ++ qt 0 (l.drop (i + 2)) := by
  obtain ⟨r, hr⟩ := crlf_iff.1 h
  have e : l.drop (i + 2) = r := by rw [← List.drop_drop, hr]; rfl
  rw [hr, qt_crlf, e]
  rfl
theorem at_soft {l : List UInt8} {i w : Nat} {la : Bool} {f : List UInt8} (hi : i < l.length) (h : crlf (l.drop i) = false) (hla : la = lastb (l.drop (i + 1))) (hf : f = form (l.getD i 0) la) (h2 : lim la < w + f.length) : qt w (l.drop i) = ([61, 13, 10] ++ f) ++ qt f.length (l.drop (i + 1)) := by
  subst hla hf
  rw [b6.drop_cons hi] at h ⊢
  rw [qt_soft h h2]
  simp
theorem at_on {l : List UInt8} {i w : Nat} {la : Bool} {f : List UInt8} (hi : i < l.length) (h : crlf (l.drop i) = false) (hla : la = lastb (l.drop (i + 1))) (hf : f = form (l.getD i 0) la) (h2 : ¬ lim la < w + f.length) : qt w (l.drop i) = f ++ qt (w + f.length) (l.drop (i + 1)) := by
  subst hla hf
  rw [b6.drop_cons hi] at h ⊢
  rw [qt_on h h2]
theorem grow {q p : List UInt8} {l : List UInt8} {i j w w' : Nat} (h : q ++ qt w (l.drop i) = qt 0 l) (e : qt w (l.drop i) = p ++ qt w' (l.drop j)) : (q ++ p) ++ qt w' (l.drop j) = qt 0 l := by
  rw [List.append_assoc, ← e, h]
theorem qt_len_n : ∀ (n : Nat) (w : Nat) (l : List UInt8), l.length ≤ n → (qt w l).length ≤ 6 * l.length := by
  intro n
  induction n with
  | zero =>
    intro w l h
    obtain rfl : l = [] := List.eq_nil_of_length_eq_zero (by omega)
    rw [qt_nil]
    simp
  | succ n ih =>
    intro w l h
    match l, h with
    | [], _ => rw [qt_nil]; simp
    | c :: r, h =>
      have hr : r.length ≤ n := by simp at h; omega
      by_cases hc : crlf (c :: r) = true
      · obtain ⟨r', hr'⟩ := crlf_iff.1 hc
        obtain ⟨rfl, rfl⟩ := List.cons.inj hr'
        rw [qt_crlf]
        have := ih 0 r' (by simp at hr; omega)
        simp
        omega
      · have hcf : crlf (c :: r) = false := by simpa using hc
        have hf := form_len c (lastb r)
        by_cases h2 : lim (lastb r) < w + (form c (lastb r)).length
        · rw [qt_soft hcf h2]
          have := ih (form c (lastb r)).length r hr
          simp
          omega
        · rw [qt_on hcf h2]
          have := ih (w + (form c (lastb r)).length) r hr
          simp
          omega
theorem qt_len (w : Nat) (l : List UInt8) : (qt w l).length ≤ 6 * l.length := qt_len_n l.length w l (Nat.le_refl _)
end Go.Proofs.YtinnnfkhiigjpaaGreat.qu

namespace Go.Proofs.YtinnnfkhiigjpaaGreat.qu
open Go.RowKit
set_option linter.unusedVariables false

theorem conv_new (w : World) (l : List UInt8) (hl : l.length ≤ 1000) : (convert 22 9 (.slice (some ⟨w.heap.size, 0, none⟩) l.length l.length)).run Tryz.prog (w.alloc (.cells (Lib.byteCells l).toArray 5)) = .ok (.string ⟨l.toArray⟩) (w.alloc (.cells (Lib.byteCells l).toArray 5)) := by
  refine ow.conv_bytes (base := w.heap.size) (n := l.length) (e := 5) l ⟨by simp, .inr ⟨w.heap.size, l.length, (Lib.byteCells l).toArray, rfl, Nat.le_refl _, heap_alloc_new w _, Nat.le_refl _, by unfold maxLen; omega, by simp [Lib.byteCells_length], ?_⟩⟩ Tryz.underlying22 Tryz.underlying5 Tryz.underlying9
  rw [Nat.mul_one]
  exact List.take_of_length_le (Nat.le_of_eq (Lib.byteCells_length l))

end Go.Proofs.YtinnnfkhiigjpaaGreat.qu
