/-
  Contracts of impl.isRight and of the specification's ValidText: whether a text is right, and of at most 65536 bytes.
  Contracts of impl.cutPlace and of both CutRunes functions: the longest beginning that ends where a rune does and has at most n bytes.
  Plain facts on base 64: the text of bytes, the reading of a text, that each leads back to the other.
  Plain facts on a field's value: which texts are safe there, and its words.
  Plain facts on encoded words: what a text is encoded to, and what words say.
-/
import Derived.Test.YtinnnfkhiigjpaaGreatPkba
import Derived.Test.YtinnnfkhiigjpaaGreatPkbc
import Derived.Test.YtinnnfkhiigjpaaGreatRows
import Derived.WalkKit
import Derived.WalkLawsBesides
import Derived.Test.YtinnnfkhiigjpaaGreatPkaf
import Derived.Lib.Fields
import Derived.Lib.FieldsLaws
import Derived.Lib.Strings
import Derived.Lib.IndexMore
import Derived.Lib.IndexLaws

namespace Go.Proofs.YtinnnfkhiigjpaaGreat.ut
open Go.RowKit
set_option linter.unusedVariables false

end Go.Proofs.YtinnnfkhiigjpaaGreat.ut

namespace Go.Proofs.YtinnnfkhiigjpaaGreat.ut
open Go.RowKit
set_option linter.unusedVariables false

/-- The place at which a text is cut: a rune's beginning, or the end, not beyond n, the next one beyond it. -/
def CutAt (s : ByteArray) (n : Int) (k : Nat) : Prop := ∃ j, k = pos s j ∧ k ≤ s.size ∧ (k : Int) ≤ n ∧ (n < (pos s (j + 1) : Int) ∨ s.size ≤ k)

theorem cut_one {s : ByteArray} {n : Int} {k k' : Nat} (h : CutAt s n k) (h' : CutAt s n k') : k = k' := by
  have key : ∀ {j j' : Nat}, j < j' → pos s j' ≤ s.size → (pos s j' : Int) ≤ n → (n < (pos s (j + 1) : Int) ∨ s.size ≤ pos s j) → pos s j = pos s j' := by
    intro j j' hlt hle hn hx
    have h1 := pos_mono s (j + 1) (j' - (j + 1))
    rw [show j + 1 + (j' - (j + 1)) = j' from by omega] at h1
    have h2 := pos_mono s j (j' - j)
    rw [show j + (j' - j) = j' from by omega] at h2
    omega
  obtain ⟨j, rfl, a1, a2, a3⟩ := h
  obtain ⟨j', rfl, b1, b2, b3⟩ := h'
  rcases Nat.lt_trichotomy j j' with e | e | e
  · exact key e b1 b2 a3
  · rw [e]
  · exact (key e a1 a2 b3).symm

theorem clone_any (s : ByteArray) (w : World) (hs : s.size ≤ 1048576) :
    Calls Tryz.prog 63 #[.string s] w fun e w' => e = .returned (.string s) ∧ Below w.heap.size w w' := by
  go_enter Tryz.func63, Tryz.ntmps63
  go_wp2_with fail
  refine (Tryz.stringslite_Clone s _ (by omega)).mono ?_
  rintro e w' ⟨rfl, hb⟩
  go_wp2
  go_ret
  exact ⟨rfl, hb⟩
end Go.Proofs.YtinnnfkhiigjpaaGreat.ut

namespace Go.Proofs.YtinnnfkhiigjpaaGreat.b6
set_option linter.unusedVariables false

def alpha : List UInt8 := [65, 66, 67, 68, 69, 70, 71, 72, 73, 74, 75, 76, 77, 78, 79, 80, 81, 82, 83, 84, 85, 86, 87, 88, 89, 90, 97, 98, 99, 100, 101, 102, 103, 104, 105, 106, 107, 108, 109, 110, 111, 112, 113, 114, 115, 116, 117, 118, 119, 120, 121, 122, 48, 49, 50, 51, 52, 53, 54, 55, 56, 57, 43, 47]
def vals : List Int := [(-1), (-1), (-1), (-1), (-1), (-1), (-1), (-1), (-1), (-1), (-1), (-1), (-1), (-1), (-1), (-1), (-1), (-1), (-1), (-1), (-1), (-1), (-1), (-1), (-1), (-1), (-1), (-1), (-1), (-1), (-1), (-1), (-1), (-1), (-1), (-1), (-1), (-1), (-1), (-1), (-1), (-1), (-1), 62, (-1), (-1), (-1), 63, 52, 53, 54, 55, 56, 57, 58, 59, 60, 61, (-1), (-1), (-1), (-1), (-1), (-1), (-1), 0, 1, 2, 3, 4, 5, 6, 7, 8, 9, 10, 11, 12, 13, 14, 15, 16, 17, 18, 19, 20, 21, 22, 23, 24, 25, (-1), (-1), (-1), (-1), (-1), (-1), 26, 27, 28, 29, 30, 31, 32, 33, 34, 35, 36, 37, 38, 39, 40, 41, 42, 43, 44, 45, 46, 47, 48, 49, 50, 51, (-1), (-1), (-1), (-1), (-1)]
/-- The character of six bits. -/
def L (n : Nat) : UInt8 := alpha.getD n 0
/-- The six bits of a character, -1 of one that has none. -/
def V (c : UInt8) : Int := vals.getD c.toNat (-1)

theorem V_L_all : ∀ n : Fin 64, V (L n.val) = (n.val : Int) := by decide +kernel
theorem V_L (n : Nat) (h : n < 64) : V (L n) = (n : Int) := V_L_all ⟨n, h⟩
theorem byte_all {p : UInt8 → Prop} (h : ∀ n : Fin 256, p (UInt8.ofNat n.val)) (c : UInt8) : p c := by
  have := h ⟨c.toNat, c.toNat_lt⟩
  simpa using this
theorem L_ne_pad_all : ∀ n : Fin 64, L n.val ≠ 61 := by decide +kernel
theorem L_ne_pad (n : Nat) (h : n < 64) : L n ≠ 61 := L_ne_pad_all ⟨n, h⟩

/-- The text of bytes. -/
def enc : List UInt8 → List UInt8
  | [] => []
  | [a] => [L (a.toNat / 4), L (a.toNat % 4 * 16), 61, 61]
  | [a, b] => [L (a.toNat / 4), L (a.toNat % 4 * 16 + b.toNat / 16), L (b.toNat % 16 * 4), 61]
  | a :: b :: c :: r => L (a.toNat / 4) :: L (a.toNat % 4 * 16 + b.toNat / 16) :: L (b.toNat % 16 * 4 + c.toNat / 64) :: L (c.toNat % 64) :: enc r

theorem enc_len : ∀ (n : Nat) (l : List UInt8), l.length ≤ n → (enc l).length = (l.length + 2) / 3 * 4 := by
  intro n
  induction n with
  | zero =>
    intro l h
    obtain rfl : l = [] := List.eq_nil_of_length_eq_zero (by omega)
    rfl
  | succ n ih =>
    intro l h
    match l, h with
    | [], _ => rfl
    | [a], _ => simp [enc]
    | [a, b], _ => simp [enc]
    | a :: b :: c :: r, h =>
      have := ih r (by simp at h; omega)
      simp only [enc, List.length_cons, this]
      omega
theorem enc_length (l : List UInt8) : (enc l).length = (l.length + 2) / 3 * 4 := enc_len l.length l (Nat.le_refl _)

/-- The value of a group of four. -/
def num (a b c d : UInt8) : Nat := (((V a).toNat * 64 + (V b).toNat) * 64 + (V c).toNat) * 64 + (V d).toNat
def by2 (n : Nat) : UInt8 := UInt8.ofNat (n / 65536)
def by1 (n : Nat) : UInt8 := UInt8.ofNat (n / 256)
def by0 (n : Nat) : UInt8 := UInt8.ofNat n
/-- The reading of a text, group by group. -/
def dec : List UInt8 → Option (List UInt8)
  | a :: b :: c :: d :: r =>
    if V a < 0 ∨ V b < 0 then none
    else if r = [] ∧ c = 61 ∧ d = 61 then (if (V b).toNat % 16 = 0 then some [by2 (num a b 65 65)] else none)
    else if V c < 0 then none
    else if r = [] ∧ d = 61 then (if (V c).toNat % 4 = 0 then some [by2 (num a b c 65), by1 (num a b c 65)] else none)
    else if V d < 0 then none
    else (dec r).map fun x => by2 (num a b c d) :: by1 (num a b c d) :: by0 (num a b c d) :: x
  | [] => some []
  | _ => none

theorem VA : V 65 = 0 := by decide +kernel

theorem dec_enc_n : ∀ (n : Nat) (l : List UInt8), l.length ≤ n → dec (enc l) = some l := by
  intro n
  induction n with
  | zero =>
    intro l h
    obtain rfl : l = [] := List.eq_nil_of_length_eq_zero (by omega)
    rfl
  | succ n ih =>
    intro l h
    match l, h with
    | [], _ => rfl
    | [a], _ =>
      have ha := a.toNat_lt
      have e1 := V_L (a.toNat / 4) (by omega)
      have e2 := V_L (a.toNat % 4 * 16) (by omega)
      simp only [enc, dec]
      rw [if_neg (by rw [e1, e2]; omega), if_pos (by simp), if_pos (by rw [e2]; omega)]
      congr 2
      apply UInt8.toNat_inj.1
      simp only [by2, num, e1, e2, VA, UInt8.toNat_ofNat', Int.toNat_natCast, Int.toNat_zero]
      omega
    | [a, b], _ =>
      have ha := a.toNat_lt
      have hb := b.toNat_lt
      have e1 := V_L (a.toNat / 4) (by omega)
      have e2 := V_L (a.toNat % 4 * 16 + b.toNat / 16) (by omega)
      have e3 := V_L (b.toNat % 16 * 4) (by omega)
      simp only [enc, dec]
      rw [if_neg (by rw [e1, e2]; omega), if_neg (fun h => L_ne_pad _ (by omega) h.2.1), if_neg (by rw [e3]; omega), if_pos (by simp), if_pos (by rw [e3]; omega)]
      congr 2
      · apply UInt8.toNat_inj.1
        simp only [by2, num, e1, e2, e3, VA, UInt8.toNat_ofNat', Int.toNat_natCast, Int.toNat_zero]
        omega
      · congr 1
        apply UInt8.toNat_inj.1
        simp only [by1, num, e1, e2, e3, VA, UInt8.toNat_ofNat', Int.toNat_natCast, Int.toNat_zero]
        omega
    | a :: b :: c :: r, h =>
      have ha := a.toNat_lt
      have hb := b.toNat_lt
      have hc := c.toNat_lt
      have e1 := V_L (a.toNat / 4) (by omega)
      have e2 := V_L (a.toNat % 4 * 16 + b.toNat / 16) (by omega)
      have e3 := V_L (b.toNat % 16 * 4 + c.toNat / 64) (by omega)
      have e4 := V_L (c.toNat % 64) (by omega)
      simp only [enc, dec]
      rw [if_neg (by rw [e1, e2]; omega), if_neg (fun h => L_ne_pad _ (by omega) h.2.1), if_neg (by rw [e3]; omega), if_neg (fun h => L_ne_pad _ (by omega) h.2), if_neg (by rw [e4]; omega), ih r (by simp at h; omega)]
      simp only [Option.map_some]
      congr 2
      · apply UInt8.toNat_inj.1
        simp only [by2, num, e1, e2, e3, e4, UInt8.toNat_ofNat', Int.toNat_natCast]
        omega
      · congr 1
        · apply UInt8.toNat_inj.1
          simp only [by1, num, e1, e2, e3, e4, UInt8.toNat_ofNat', Int.toNat_natCast]
          omega
        · congr 1
          apply UInt8.toNat_inj.1
          simp only [by0, num, e1, e2, e3, e4, UInt8.toNat_ofNat', Int.toNat_natCast]
          omega
/-- Bytes are read back from their text. -/
theorem dec_enc (l : List UInt8) : dec (enc l) = some l := dec_enc_n l.length l (Nat.le_refl _)

end Go.Proofs.YtinnnfkhiigjpaaGreat.b6

namespace Go.Proofs.YtinnnfkhiigjpaaGreat.hd
open Go
set_option linter.unusedVariables false

/-- How many characters the word has that is being read, behind one more; none where the text is not safe. -/
def step (o : Option Nat) (c : UInt8) : Option Nat := o.bind fun w =>
  if c.toNat < 32 ∨ 126 < c.toNat then none else if c.toNat = 32 then (if w = 0 then none else some 0) else if 200 ≤ w then none else some (w + 1)
def wid (l : List UInt8) : Option Nat := l.foldl step (some 0)
/-- A text is safe as a field's value. -/
def Safe (l : List UInt8) : Prop := l.length ≤ 2000 ∧ (l = [] ∨ ∃ w, wid l = some w ∧ 0 < w)

theorem fold_none : ∀ l : List UInt8, l.foldl step none = none
  | [] => rfl
  | c :: l => by rw [List.foldl_cons]; exact fold_none l
theorem wid_snoc (l : List UInt8) (c : UInt8) : wid (l ++ [c]) = step (wid l) c := by simp [wid]
theorem take_snoc (s : ByteArray) (k : Nat) (h : k < s.size) : s.data.toList.take (k + 1) = s.data.toList.take k ++ [s[k]] := by
  rw [List.take_succ_eq_append_getElem (by simpa using h)]; rfl
theorem wid_at (s : ByteArray) (k : Nat) (h : k < s.size) : wid (s.data.toList.take (k + 1)) = step (wid (s.data.toList.take k)) s[k] := by
  rw [take_snoc s k h, wid_snoc]
theorem take_all (s : ByteArray) (k : Nat) (h : s.size ≤ k) : s.data.toList.take k = s.data.toList := List.take_of_length_le (by rw [← Lib.size_eq]; exact h)
theorem bad_at {s : ByteArray} {k w : Nat} (h : k < s.size) (hw : wid (s.data.toList.take k) = some w) (hb : step (some w) s[k] = none) : ¬ Safe s.data.toList := by
  rintro ⟨_, h0 | ⟨w', hw', _⟩⟩
  · have : s.size = 0 := by rw [Lib.size_eq, h0]; rfl
    omega
  · have e : wid s.data.toList = (s.data.toList.drop (k + 1)).foldl step (wid (s.data.toList.take (k + 1))) := by
      unfold wid
      rw [← List.foldl_append, List.take_append_drop]
    rw [wid_at s k h, hw, hb, fold_none] at e
    rw [e] at hw'
    cases hw'
theorem big {s : ByteArray} (h : 2000 < s.size) : ¬ Safe s.data.toList := fun x => by have := x.1; rw [← Lib.size_eq] at this; omega
theorem good {s : ByteArray} {w : Nat} (h : s.size ≤ 2000) (hw : wid s.data.toList = some w) (hp : s.size = 0 ∨ 0 < w) : Safe s.data.toList := by
  refine ⟨by rw [← Lib.size_eq]; exact h, ?_⟩
  rcases hp with h0 | h0
  · exact .inl (List.eq_nil_of_length_eq_zero (by rw [← Lib.size_eq]; exact h0))
  · exact .inr ⟨w, hw, h0⟩
theorem endBad {s : ByteArray} (h0 : s.size ≠ 0) (hw : wid s.data.toList = some 0) : ¬ Safe s.data.toList := by
  rintro ⟨_, h1 | ⟨w', hw', h1⟩⟩
  · have : s.size = 0 := by rw [Lib.size_eq, h1]; rfl
    omega
  · rw [hw] at hw'
    cases hw'
    omega
theorem st_bad {c : UInt8} {w : Nat} (h : (c.toNat : Int) < 32 ∨ 126 < (c.toNat : Int)) : step (some w) c = none := by
  show (if c.toNat < 32 ∨ 126 < c.toNat then none else _) = none
  rw [if_pos (by omega)]
theorem st_sp0 {c : UInt8} (h : (c.toNat : Int) = 32) : step (some 0) c = none := by
  show (if c.toNat < 32 ∨ 126 < c.toNat then none else if c.toNat = 32 then (if (0 : Nat) = 0 then none else some 0) else _) = none
  rw [if_neg (by omega), if_pos (by omega), if_pos rfl]
theorem st_sp {c : UInt8} {w : Nat} (h : (c.toNat : Int) = 32) (hw : w ≠ 0) : step (some w) c = some 0 := by
  show (if c.toNat < 32 ∨ 126 < c.toNat then none else if c.toNat = 32 then (if w = 0 then none else some 0) else _) = some 0
  rw [if_neg (by omega), if_pos (by omega), if_neg hw]
theorem st_ch {c : UInt8} {w : Nat} (h1 : 32 ≤ (c.toNat : Int)) (h2 : (c.toNat : Int) ≤ 126) (h3 : (c.toNat : Int) ≠ 32) (hw : w < 200) : step (some w) c = some (w + 1) := by
  show (if c.toNat < 32 ∨ 126 < c.toNat then none else if c.toNat = 32 then (if w = 0 then none else some 0) else if 200 ≤ w then none else some (w + 1)) = some (w + 1)
  rw [if_neg (by omega), if_neg (by omega), if_neg (by omega)]
theorem st_long {c : UInt8} {w : Nat} (h3 : (c.toNat : Int) ≠ 32) (hw : 200 ≤ w) : step (some w) c = none := by
  show (if c.toNat < 32 ∨ 126 < c.toNat then none else if c.toNat = 32 then (if w = 0 then none else some 0) else if 200 ≤ w then none else some (w + 1)) = none
  split
  · rfl
  · rw [if_neg (by omega)]
theorem wid_le (l : List UInt8) : ∀ w w', w ≤ 200 → l.foldl step (some w) = some w' → w' ≤ 200 := by
  induction l with
  | nil => intro w w' h e; cases e; exact h
  | cons c l ih =>
    intro w w' h e
    rw [List.foldl_cons] at e
    cases hs : step (some w) c with
    | none => rw [hs, fold_none] at e; cases e
    | some v =>
      rw [hs] at e
      refine ih v w' ?_ e
      have : (if c.toNat < 32 ∨ 126 < c.toNat then none else if c.toNat = 32 then (if w = 0 then none else some 0) else if 200 ≤ w then none else some (w + 1)) = some v := hs
      split at this
      · cases this
      · split at this
        · split at this
          · cases this
          · cases this; omega
        · split at this
          · cases this
          · cases this; omega
theorem width_le {l : List UInt8} {w : Nat} (h : wid l = some w) : w ≤ 200 := wid_le l 0 w (by omega) h

/-- The parts of a text at each blank. -/
def cutGo : List UInt8 → List UInt8 → List (List UInt8)
  | cur, [] => [cur]
  | cur, b :: l => if b.toNat = 32 then cur :: cutGo [] l else cutGo (cur ++ [b]) l
/-- The lines of a folded field behind its colon. -/
def foldGo : Bool → Nat → List (List UInt8) → List UInt8
  | _, _, [] => []
  | first, width, x :: r => if first = false ∧ 78 < width + 1 + x.length then [13, 10, 32] ++ x ++ foldGo false (1 + x.length) r else [32] ++ x ++ foldGo false (width + 1 + x.length) r
/-- A folded field. -/
def foldL (name value : List UInt8) : List UInt8 := name ++ [58] ++ foldGo true (name.length + 1) (cutGo [] value) ++ [13, 10]
theorem foldGo_yes {width : Nat} {x : List UInt8} (r : List (List UInt8)) (h : 78 < width + 1 + x.length) : foldGo false width (x :: r) = [13, 10, 32] ++ x ++ foldGo false (1 + x.length) r := by
  rw [foldGo, if_pos ⟨rfl, h⟩]
theorem foldGo_no {first : Bool} {width : Nat} {x : List UInt8} (r : List (List UInt8)) (h : first = true ∨ width + 1 + x.length ≤ 78) : foldGo first width (x :: r) = [32] ++ x ++ foldGo false (width + 1 + x.length) r := by
  rw [foldGo, if_neg]
  rintro ⟨h1, h2⟩
  rcases h with h | h
  · rw [h] at h1; cases h1
  · omega
/-- All parts of a text together are no longer than it. -/
theorem cutGo_len : ∀ (l cur : List UInt8), ((cutGo cur l).map List.length).sum + (cutGo cur l).length = cur.length + l.length + 1
  | [], cur => by simp [cutGo]
  | b :: l, cur => by
    rw [cutGo]
    split
    · have := cutGo_len l []
      simp at this ⊢
      omega
    · have := cutGo_len l (cur ++ [b])
      simp at this ⊢
      omega
theorem cutGo_mem : ∀ (l cur x : List UInt8), x ∈ cutGo cur l → x.length ≤ cur.length + l.length
  | [], cur, x, h => by simp [cutGo] at h; subst h; simp
  | b :: l, cur, x, h => by
    rw [cutGo] at h
    split at h
    · rcases List.mem_cons.1 h with rfl | h
      · simp
      · have := cutGo_mem l [] x h
        simp at this ⊢
        omega
    · have := cutGo_mem l (cur ++ [b]) x h
      simp at this ⊢
      omega
end Go.Proofs.YtinnnfkhiigjpaaGreat.hd

namespace Go.Proofs.YtinnnfkhiigjpaaGreat.hd
open Go
set_option linter.unusedVariables false

def head : List UInt8 := [61, 63, 117, 116, 102, 45, 56, 63, 66, 63]
def tail : List UInt8 := [63, 61]
def wordL (l : List UInt8) : List UInt8 := head ++ b6.enc l ++ tail
def sep (out : List UInt8) : List UInt8 := if out = [] then [] else [32]
/-- What is left of a text, encoded in at most n words behind what is out, comes to r. -/
def Ends : Nat → ByteArray → List UInt8 → List UInt8 → Prop
  | 0, t, out, r => t.size = 0 ∧ r = out
  | n + 1, t, out, r => (t.size = 0 ∧ r = out) ∨ (t.size ≠ 0 ∧ ∃ k, ut.CutAt t 45 k ∧ Ends n (t.extract k t.size) (out ++ sep out ++ wordL (t.extract 0 k).data.toList) r)
def EndsAny (t : ByteArray) (out r : List UInt8) : Prop := ∃ n, Ends n t out r
theorem ends_nil {t : ByteArray} (out : List UInt8) (h : t.size = 0) : EndsAny t out out := ⟨0, h, rfl⟩
theorem ends_step {t : ByteArray} {out r : List UInt8} {k : Nat} (h : t.size ≠ 0) (hk : ut.CutAt t 45 k) (he : EndsAny (t.extract k t.size) (out ++ sep out ++ wordL (t.extract 0 k).data.toList) r) : EndsAny t out r := by
  obtain ⟨n, hn⟩ := he
  exact ⟨n + 1, .inr ⟨h, k, hk, hn⟩⟩

/-- A word is an encoded one, and says y. -/
def Coded (x y : List UInt8) : Prop := Lib.hasPrefix x head = true ∧ Lib.hasSuffix (x.drop 10) tail = true ∧ b6.dec ((x.drop 10).take ((x.drop 10).length - 2)) = some y ∧ y ≠ [] ∧ ut.Right ⟨y.toArray⟩
theorem coded_one {x y y' : List UInt8} (h : Coded x y) (h' : Coded x y') : y = y' := by
  have := h.2.2.1.symm.trans h'.2.2.1
  cases this
  rfl
/-- What words say, one behind another. -/
def Dec : Bool → Bool → List (List UInt8) → List UInt8 → Prop
  | _, _, [], out => out = []
  | f, was, x :: r, out => (∃ y o, Coded x y ∧ Dec false true r o ∧ out = (if f || was then [] else [32]) ++ y ++ o) ∨ ((∀ y, ¬ Coded x y) ∧ ∃ o, Dec false false r o ∧ out = (if f then [] else [32]) ++ x ++ o)
theorem dec_one : ∀ (ws : List (List UInt8)) (f was : Bool) (o o' : List UInt8), Dec f was ws o → Dec f was ws o' → o = o'
  | [], f, was, o, o', h, h' => by rw [show o = [] from h, show o' = [] from h']
  | x :: r, f, was, o, o', h, h' => by
    rcases h with ⟨y, p, hc, hd, rfl⟩ | ⟨hc, p, hd, rfl⟩
    · rcases h' with ⟨y', p', hc', hd', rfl⟩ | ⟨hc', _⟩
      · rw [coded_one hc hc', dec_one r false true p p' hd hd']
      · exact absurd hc (hc' y)
    · rcases h' with ⟨y', p', hc', hd', rfl⟩ | ⟨hc', p', hd', rfl⟩
      · exact absurd hc' (hc y')
      · rw [dec_one r false false p p' hd hd']
theorem dec_code {f was : Bool} {x y : List UInt8} {r : List (List UInt8)} {o : List UInt8} (h : Coded x y) (hd : Dec false true r o) : Dec f was (x :: r) ((if f || was then [] else [32]) ++ y ++ o) := .inl ⟨y, o, h, hd, rfl⟩
/-- Where a text has the sign of an encoded word. -/
theorem index_no : ∀ (l sub : List UInt8), sub ≠ [] → Lib.index l sub = -1 → ∀ j, Lib.occAt l sub j = false
  | [], sub, hs, h, j => by
    unfold Lib.occAt
    rw [List.drop_nil]
    cases sub with
    | nil => exact absurd rfl hs
    | cons a b => rfl
  | b :: l, sub, hs, h, j => by
    rw [Lib.index] at h
    split at h
    · cases h
    · rename_i h0
      split at h
      · rename_i h1
        have ih := index_no l sub hs (by simpa using h1)
        cases j with
        | zero => unfold Lib.occAt; rw [List.drop_zero]; exact Bool.eq_false_iff.2 h0
        | succ j => exact ih j
      · rename_i h1
        have := Lib.index_ge l sub
        have h2 : Lib.index l sub ≠ -1 := by simpa using h1
        omega
def sign : List UInt8 := [61, 63]
theorem occ_sign (l : List UInt8) (j : Nat) : Lib.occAt l sign j = true ↔ l[j]? = some 61 ∧ l[j + 1]? = some 63 := by
  unfold Lib.occAt sign
  rw [show l[j]? = (l.drop j)[0]? from by simp, show l[j + 1]? = (l.drop j)[1]? from by simp]
  match l.drop j with
  | [] => simp
  | [a] => simp
  | a :: b :: r =>
    simp only [List.isPrefixOf, List.getElem?_cons_zero, List.getElem?_cons_succ, Bool.and_true, Bool.and_eq_true, beq_iff_eq, Option.some.injEq]
    exact ⟨fun h => ⟨h.1.symm, h.2.symm⟩, fun h => ⟨h.1.symm, h.2.symm⟩⟩
theorem contains_iff (l : List UInt8) : Lib.contains l sign = true ↔ ∃ j : Nat, l[j]? = some 61 ∧ l[j + 1]? = some 63 := by
  unfold Lib.contains
  rw [decide_eq_true_iff]
  constructor
  · intro h
    by_cases hx : ∃ j : Nat, l[j]? = some 61 ∧ l[j + 1]? = some 63
    · exact hx
    · have : Lib.index l sign = -1 := Lib.index_none (fun j _ => by
        cases ho : Lib.occAt l sign j with
        | false => rfl
        | true => exact absurd ⟨j, (occ_sign l j).1 ho⟩ hx)
      omega
  · rintro ⟨j, hj⟩
    have h1 := Lib.index_ge l sign
    by_cases h2 : Lib.index l sign = -1
    · have := index_no l sign (by simp [sign]) h2 j
      rw [(occ_sign l j).2 hj] at this
      cases this
    · omega
/-- A text that stays as it is. -/
def Plain (l : List UInt8) : Prop := Safe l ∧ Lib.contains l sign = false
end Go.Proofs.YtinnnfkhiigjpaaGreat.hd
