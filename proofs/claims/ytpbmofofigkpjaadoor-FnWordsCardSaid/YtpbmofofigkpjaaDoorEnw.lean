/-
  Plain facts on encoded words: what a text is encoded to, and what words say.
-/
import Derived.Test.YtpbmofofigkpjaaDoorCuw
import Derived.Test.YtpbmofofigkpjaaDoorBsf
import Derived.Test.YtpbmofofigkpjaaDoorHdf
import Derived.Lib.IndexMore
import Derived.Lib.IndexLaws
namespace Go.Proofs.YtpbmofofigkpjaaDoor.hd
open Go
set_option linter.unusedVariables false

def head : List UInt8 := [61, 63, 117, 116, 102, 45, 56, 63, 66, 63]
def tail : List UInt8 := [63, 61]
def wordL (l : List UInt8) : List UInt8 := head ++ b6.enc l ++ tail
def sep (out : List UInt8) : List UInt8 := if out = [] then [] else [32]
/-- What is left of a text, encoded in at most n words behind what is out, comes to r. -/
def Ends : Nat → ByteArray → List UInt8 → List UInt8 → Prop
  | 0, t, out, r => t.size = 0 ∧ r = out
  | n + 1, t, out, r => (t.size = 0 ∧ r = out) ∨ (t.size ≠ 0 ∧ ∃ k, ut.CutAt t 45 k ∧ Ends n (t.extract k t.size) (out ++ sep out ++ wordL (t.extract 0 k).data.toList) r)
def EndsAny (t : ByteArray) (out r : List UInt8) : Prop := ∃ n, Ends n t out r
theorem ends_nil {t : ByteArray} (out : List UInt8) (h : t.size = 0) : EndsAny t out out := ⟨0, h, rfl⟩
theorem ends_step {t : ByteArray} {out r : List UInt8} {k : Nat} (h : t.size ≠ 0) (hk : ut.CutAt t 45 k) (he : EndsAny (t.extract k t.size) (out ++ sep out ++ wordL (t.extract 0 k).data.toList) r) : EndsAny t out r := by
  obtain ⟨n, hn⟩ := he
  exact ⟨n + 1, .inr ⟨h, k, hk, hn⟩⟩
theorem ends_one : ∀ (n n' : Nat) (t : ByteArray) (out r r' : List UInt8), Ends n t out r → Ends n' t out r' → r = r'
  | 0, 0, t, out, r, r', h, h' => by rw [h.2, h'.2]
  | 0, n' + 1, t, out, r, r', h, h' => by
    rcases h' with h' | h'
    · rw [h.2, h'.2]
    · exact absurd h.1 h'.1
  | n + 1, 0, t, out, r, r', h, h' => by
    rcases h with h | h
    · rw [h.2, h'.2]
    · exact absurd h'.1 h.1
  | n + 1, n' + 1, t, out, r, r', h, h' => by
    rcases h with h | ⟨h0, k, hk, h⟩
    · rcases h' with h' | h'
      · rw [h.2, h'.2]
      · exact absurd h.1 h'.1
    · rcases h' with h' | ⟨_, k', hk', h'⟩
      · exact absurd h'.1 h0
      · obtain rfl := ut.cut_one hk hk'
        exact ends_one n n' _ _ r r' h h'
theorem ends_same {t : ByteArray} {out r r' : List UInt8} (h : EndsAny t out r) (h' : EndsAny t out r') : r = r' := by
  obtain ⟨n, h⟩ := h
  obtain ⟨n', h'⟩ := h'
  exact ends_one n n' t out r r' h h'

/-- A word is an encoded one, and says y. -/
def Coded (x y : List UInt8) : Prop := Lib.hasPrefix x head = true ∧ Lib.hasSuffix (x.drop 10) tail = true ∧ b6.dec ((x.drop 10).take ((x.drop 10).length - 2)) = some y ∧ y ≠ [] ∧ ut.Right ⟨y.toArray⟩
theorem coded_one {x y y' : List UInt8} (h : Coded x y) (h' : Coded x y') : y = y' := by
  have := h.2.2.1.symm.trans h'.2.2.1
  cases this
  rfl
/-- What words say, one behind another. -/
def Dec : Bool → Bool → List (List UInt8) → List UInt8 → Prop
  | _, _, [], out => out = []
  | f, was, x :: r, out => (∃ y o, Coded x y ∧ Dec false true r o ∧ out = (if f || was then [] else [32]) ++ y ++ o) ∨ ((∀ y, ¬ Coded x y) ∧ ∃ o, Dec false false r o ∧ out = (if f then [] else [32]) ++ x ++ o)
theorem dec_one : ∀ (ws : List (List UInt8)) (f was : Bool) (o o' : List UInt8), Dec f was ws o → Dec f was ws o' → o = o'
  | [], f, was, o, o', h, h' => by rw [show o = [] from h, show o' = [] from h']
  | x :: r, f, was, o, o', h, h' => by
    rcases h with ⟨y, p, hc, hd, rfl⟩ | ⟨hc, p, hd, rfl⟩
    · rcases h' with ⟨y', p', hc', hd', rfl⟩ | ⟨hc', _⟩
      · rw [coded_one hc hc', dec_one r false true p p' hd hd']
      · exact absurd hc (hc' y)
    · rcases h' with ⟨y', p', hc', hd', rfl⟩ | ⟨hc', p', hd', rfl⟩
      · exact absurd hc' (hc y')
      · rw [dec_one r false false p p' hd hd']
theorem dec_code {f was : Bool} {x y : List UInt8} {r : List (List UInt8)} {o : List UInt8} (h : Coded x y) (hd : Dec false true r o) : Dec f was (x :: r) ((if f || was then [] else [32]) ++ y ++ o) := .inl ⟨y, o, h, hd, rfl⟩
theorem dec_plain {f was : Bool} {x : List UInt8} {r : List (List UInt8)} {o : List UInt8} (h : ∀ y, ¬ Coded x y) (hd : Dec false false r o) : Dec f was (x :: r) ((if f then [] else [32]) ++ x ++ o) := .inr ⟨h, o, hd, rfl⟩
/-- The words of the empty text. -/
theorem dec_empty {o : List UInt8} : Dec true false (cutGo [] []) o ↔ o = [] := by
  have hno : ∀ y, ¬ Coded [] y := fun y h => by have := h.1; simp [Lib.hasPrefix, head] at this
  constructor
  · intro h
    rcases h with ⟨y, p, hc, _⟩ | ⟨_, p, hd, hp⟩
    · exact absurd hc (hno y)
    · rw [hp, show p = [] from hd]; rfl
  · rintro rfl
    exact .inr ⟨hno, [], rfl, rfl⟩
/-- Where a text has the sign of an encoded word. -/
theorem index_no : ∀ (l sub : List UInt8), sub ≠ [] → Lib.index l sub = -1 → ∀ j, Lib.occAt l sub j = false
  | [], sub, hs, h, j => by
    unfold Lib.occAt
    rw [List.drop_nil]
    cases sub with
    | nil => exact absurd rfl hs
    | cons a b => rfl
  | b :: l, sub, hs, h, j => by
    rw [Lib.index] at h
    split at h
    · cases h
    · rename_i h0
      split at h
      · rename_i h1
        have ih := index_no l sub hs (by simpa using h1)
        cases j with
        | zero => unfold Lib.occAt; rw [List.drop_zero]; exact Bool.eq_false_iff.2 h0
        | succ j => exact ih j
      · rename_i h1
        have := Lib.index_ge l sub
        have h2 : Lib.index l sub ≠ -1 := by simpa using h1
        omega
def sign : List UInt8 := [61, 63]
theorem occ_sign (l : List UInt8) (j : Nat) : Lib.occAt l sign j = true ↔ l[j]? = some 61 ∧ l[j + 1]? = some 63 := by
  unfold Lib.occAt sign
  rw [show l[j]? = (l.drop j)[0]? from by simp, show l[j + 1]? = (l.drop j)[1]? from by simp]
  match l.drop j with
  | [] => simp
  | [a] => simp
  | a :: b :: r =>
    simp only [List.isPrefixOf, List.getElem?_cons_zero, List.getElem?_cons_succ, Bool.and_true, Bool.and_eq_true, beq_iff_eq, Option.some.injEq]
    exact ⟨fun h => ⟨h.1.symm, h.2.symm⟩, fun h => ⟨h.1.symm, h.2.symm⟩⟩
theorem contains_iff (l : List UInt8) : Lib.contains l sign = true ↔ ∃ j : Nat, l[j]? = some 61 ∧ l[j + 1]? = some 63 := by
  unfold Lib.contains
  rw [decide_eq_true_iff]
  constructor
  · intro h
    by_cases hx : ∃ j : Nat, l[j]? = some 61 ∧ l[j + 1]? = some 63
    · exact hx
    · have : Lib.index l sign = -1 := Lib.index_none (fun j _ => by
        cases ho : Lib.occAt l sign j with
        | false => rfl
        | true => exact absurd ⟨j, (occ_sign l j).1 ho⟩ hx)
      omega
  · rintro ⟨j, hj⟩
    have h1 := Lib.index_ge l sign
    by_cases h2 : Lib.index l sign = -1
    · have := index_no l sign (by simp [sign]) h2 j
      rw [(occ_sign l j).2 hj] at this
      cases this
    · omega
/-- A text that stays as it is. -/
def Plain (l : List UInt8) : Prop := Safe l ∧ Lib.contains l sign = false
end Go.Proofs.YtpbmofofigkpjaaDoor.hd
