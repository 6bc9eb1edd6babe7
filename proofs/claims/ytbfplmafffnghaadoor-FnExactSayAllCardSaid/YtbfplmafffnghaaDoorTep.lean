/-
  Where a command ends: facts.
-/
import Derived.Test.YtbfplmafffnghaaDoorLip
import Derived.Lib.IndexMore
namespace Go.Proofs.YtbfplmafffnghaaDoor.te
open Go.RowKit
open nu li
set_option linter.unusedVariables false

/-- An end of a line stands there. -/
def CR (l : List UInt8) (j : Nat) : Prop := l[j]? = some 13 ∧ l[j + 1]? = some 10
theorem occ2 (l : List UInt8) (j : Nat) : Lib.occAt l [13, 10] j = true ↔ CR l j := by
  unfold Lib.occAt CR
  have e0 : l[j]? = (l.drop j)[0]? := by rw [List.getElem?_drop]; rfl
  have e1 : l[j + 1]? = (l.drop j)[1]? := by rw [List.getElem?_drop]
  rw [e0, e1]
  generalize l.drop j = d
  match d with
  | [] => simp
  | [a] => simp [List.isPrefixOf]
  | a :: b :: t =>
    simp [List.isPrefixOf]
    constructor
    · rintro ⟨rfl, rfl⟩; exact ⟨rfl, rfl⟩
    · rintro ⟨rfl, rfl⟩; exact ⟨rfl, rfl⟩
theorem cr_drop (w : List UInt8) (f j : Nat) : CR (w.drop f) j ↔ CR w (f + j) := by
  unfold CR
  rw [List.getElem?_drop, List.getElem?_drop]
  rfl
theorem idx_no {w : List UInt8} {f : Nat} (h : ∀ j, f ≤ j → ¬ CR w j) : Lib.index (w.drop f) [13, 10] = -1 := by
  refine Lib.index_none fun j _ => ?_
  rw [← Bool.not_eq_true, occ2, cr_drop]
  exact h _ (by omega)
theorem idx_here {w : List UInt8} {f k : Nat} (hf : f ≤ k) (h : ∀ j, f ≤ j → j < k → ¬ CR w j) (hk : CR w k) : Lib.index (w.drop f) [13, 10] = ((k - f : Nat) : Int) := by
  have hkl : k < w.length := by
    rcases Nat.lt_or_ge k w.length with g | g
    · exact g
    · have := hk.1
      rw [List.getElem?_eq_none g] at this
      cases this
  refine Lib.index_first (by rw [List.length_drop]; omega) ?_ fun j hj => ?_
  · rw [occ2, cr_drop, show f + (k - f) = k by omega]
    exact hk
  · rw [← Bool.not_eq_true, occ2, cr_drop]
    exact h _ (by omega) (by omega)
theorem lit_one {l : List UInt8} {n m : Nat} (h : LitIs l n) (h' : LitIs l m) : n = m := by
  obtain ⟨u, e, _⟩ := h
  obtain ⟨u', e', _⟩ := h'
  rw [e] at e'
  obtain ⟨_, x⟩ := split_last 123 e' (dig_ne n) (dig_ne m)
  exact dec_inj (List.append_cancel_right x)
theorem lit_small {l : List UInt8} {n : Nat} (h : LitIs l n) : n < 1000000 := by
  obtain ⟨u, _, h6⟩ := h
  have := Lib.lt_pow_nDigits n
  rw [Lib.decDigits_length] at h6
  exact Nat.lt_of_lt_of_le this (Nat.pow_le_pow_right (by decide) h6)
/-- Where the first command of a window ends, from a place on: at e (0), too far (4), nowhere (-1). -/
def Tk : Nat → List UInt8 → Nat → Int → Nat → Prop
  | 0, _, _, _, _ => False
  | k + 1, w, f, c, e => (Lib.index (w.drop f) [13, 10] = -1 ∧ c = -1 ∧ e = 0) ∨
      ∃ i : Nat, Lib.index (w.drop f) [13, 10] = i ∧ (((∀ n, ¬ LitIs ((w.drop f).take i) n) ∧ c = 0 ∧ e = f + i) ∨
        ∃ n, LitIs ((w.drop f).take i) n ∧ ((4000 < f + i + 2 + n ∧ c = 4 ∧ e = 0) ∨ (f + i + 2 + n ≤ 4000 ∧ Tk k w (f + i + 2 + n) c e)))
theorem tk_one : ∀ {k k' : Nat} {w : List UInt8} {f : Nat} {c c' : Int} {e e' : Nat}, Tk k w f c e → Tk k' w f c' e' → c = c' ∧ e = e'
  | 0, _, _, _, _, _, _, _, h, _ => absurd h id
  | _ + 1, 0, _, _, _, _, _, _, _, h => absurd h id
  | k + 1, k' + 1, w, f, c, c', e, e', h, h' => by
    rcases h with ⟨h1, rfl, rfl⟩ | ⟨i, h1, h⟩ <;> rcases h' with ⟨g1, rfl, rfl⟩ | ⟨i', g1, h'⟩
    · exact ⟨rfl, rfl⟩
    · rw [h1] at g1; omega
    · rw [g1] at h1; omega
    · have : i = i' := by rw [h1] at g1; omega
      subst this
      rcases h with ⟨h2, rfl, rfl⟩ | ⟨n, h2, h⟩ <;> rcases h' with ⟨g2, rfl, rfl⟩ | ⟨n', g2, h'⟩
      · exact ⟨rfl, rfl⟩
      · exact absurd g2 (h2 n')
      · exact absurd h2 (g2 n)
      · have := lit_one h2 g2
        subst this
        rcases h with ⟨h3, rfl, rfl⟩ | ⟨h3, h⟩ <;> rcases h' with ⟨g3, rfl, rfl⟩ | ⟨g3, h'⟩
        · exact ⟨rfl, rfl⟩
        · omega
        · omega
        · exact tk_one h h'
/-- What follows from a place is what follows from the beginning. -/
def Lk (w : List UInt8) (f : Nat) : Prop := ∀ c e k, Tk k w f c e → ∃ k', Tk k' w 0 c e
theorem lk_zero (w : List UInt8) : Lk w 0 := fun c e k h => ⟨k, h⟩
theorem lk_next {w : List UInt8} {f i n : Nat} (h : Lk w f) (hi : Lib.index (w.drop f) [13, 10] = i) (hn : LitIs ((w.drop f).take i) n) (hf : f + i + 2 + n ≤ 4000) : Lk w (f + i + 2 + n) := fun c e k g => h c e (k + 1) (.inr ⟨i, hi, .inr ⟨n, hn, .inr ⟨hf, g⟩⟩⟩)
theorem lk_none {w : List UInt8} {f : Nat} (h : Lk w f) (hi : Lib.index (w.drop f) [13, 10] = -1) : ∃ k, Tk k w 0 (-1) 0 := h _ _ 1 (.inl ⟨hi, rfl, rfl⟩)
theorem lk_ok {w : List UInt8} {f i : Nat} (h : Lk w f) (hi : Lib.index (w.drop f) [13, 10] = i) (hn : ∀ n, ¬ LitIs ((w.drop f).take i) n) : ∃ k, Tk k w 0 0 (f + i) := h _ _ 1 (.inr ⟨i, hi, .inl ⟨hn, rfl, rfl⟩⟩)
theorem lk_far {w : List UInt8} {f i n : Nat} (h : Lk w f) (hi : Lib.index (w.drop f) [13, 10] = i) (hn : LitIs ((w.drop f).take i) n) (hf : 4000 < f + i + 2 + n) : ∃ k, Tk k w 0 4 0 := h _ _ 1 (.inr ⟨i, hi, .inr ⟨n, hn, .inl ⟨hf, rfl, rfl⟩⟩⟩)
/-- Where a command ends, and the code. -/
def EndIs (l : List UInt8) (v : Nat) (code : Int) : Prop := ∃ c e, (∃ k, Tk k (l.take 4002) 0 c e) ∧ ((c = 0 ∧ v = e ∧ code = 0) ∨ (c = 4 ∧ v = 0 ∧ code = 4) ∨ (c = -1 ∧ v = 0 ∧ 4002 < l.length ∧ code = 4) ∨ (c = -1 ∧ v = 0 ∧ l.length ≤ 4002 ∧ code = 18))
theorem end_one {l : List UInt8} {v v' : Nat} {c c' : Int} (h : EndIs l v c) (h' : EndIs l v' c') : v = v' ∧ c = c' := by
  obtain ⟨a, e, ⟨k, h1⟩, h2⟩ := h
  obtain ⟨a', e', ⟨k', g1⟩, g2⟩ := h'
  obtain ⟨rfl, rfl⟩ := tk_one h1 g1
  rcases h2 with ⟨x1, x2, x3⟩ | ⟨x1, x2, x3⟩ | ⟨x1, x2, x4, x3⟩ | ⟨x1, x2, x4, x3⟩ <;> rcases g2 with ⟨y1, y2, y3⟩ | ⟨y1, y2, y3⟩ | ⟨y1, y2, y4, y3⟩ | ⟨y1, y2, y4, y3⟩ <;> first | exact ⟨by omega, by omega⟩ | (exfalso; omega)
/-- What is taken off a buffer. -/
def TakeRet (l : List UInt8) (e : Ending) : Prop := ∃ (v : Nat) (code : Int), EndIs l v code ∧ ((code = 0 ∧ v + 2 ≤ l.length ∧ e = .returned (.tuple #[.string ⟨(l.take v).toArray⟩, .string ⟨(l.drop (v + 2)).toArray⟩, .int .i64 0])) ∨ (code ≠ 0 ∧ e = .returned (.tuple #[.string ⟨#[]⟩, .string ⟨l.toArray⟩, .int .i64 code])))
theorem cr_take {l : List UInt8} {j : Nat} (h : j + 1 < 4002) : CR (l.take 4002) j ↔ CR l j := by
  unfold CR
  rw [List.getElem?_take_of_lt (by omega), List.getElem?_take_of_lt (by omega)]
theorem cr_len {w : List UInt8} {j : Nat} (h : CR w j) : j + 1 < w.length := by
  rcases Nat.lt_or_ge (j + 1) w.length with g | g
  · exact g
  · have := h.2
    rw [List.getElem?_eq_none g] at this
    cases this
theorem idx_room {w : List UInt8} {f i : Nat} (h : Lib.index (w.drop f) [13, 10] = i) : f + i + 2 ≤ w.length := by
  have := Lib.index_room (w.drop f) [13, 10] (by omega)
  rw [h, List.length_drop] at this
  simp at this
  omega
theorem cut_no {l : List UInt8} (h : Lib.index l [13, 10] = -1) : Lib.cut l [13, 10] = (l, [], false) := by
  unfold Lib.cut
  rw [h]
  rfl
theorem cut_yes {l : List UInt8} {i : Nat} (h : Lib.index l [13, 10] = i) : Lib.cut l [13, 10] = (l.take i, l.drop (i + 2), true) := by
  unfold Lib.cut
  rw [h, if_pos (by omega)]
  simp
end Go.Proofs.YtbfplmafffnghaaDoor.te
