/-
  Plain facts on a field's value: which texts are safe there, and its words.
-/
import Derived.Lib.Fields
import Derived.Lib.FieldsLaws
import Derived.Lib.Strings
namespace Go.Proofs.YtejmfffapkmjoaaDoor.hd
open Go
set_option linter.unusedVariables false

/-- How many characters the word has that is being read, behind one more; none where the text is not safe. -/
def step (o : Option Nat) (c : UInt8) : Option Nat := o.bind fun w =>
  if c.toNat < 32 ∨ 126 < c.toNat then none else if c.toNat = 32 then (if w = 0 then none else some 0) else if 200 ≤ w then none else some (w + 1)
def wid (l : List UInt8) : Option Nat := l.foldl step (some 0)
/-- A text is safe as a field's value. -/
def Safe (l : List UInt8) : Prop := l.length ≤ 2000 ∧ (l = [] ∨ ∃ w, wid l = some w ∧ 0 < w)

theorem fold_none : ∀ l : List UInt8, l.foldl step none = none
  | [] => rfl
  | c :: l => by rw [List.foldl_cons]; exact fold_none l
theorem wid_snoc (l : List UInt8) (c : UInt8) : wid (l ++ [c]) = step (wid l) c := by simp [wid]
theorem take_snoc (s : ByteArray) (k : Nat) (h : k < s.size) : s.data.toList.take (k + 1) = s.data.toList.take k ++ [s[k]] := by
  rw [List.take_succ_eq_append_getElem (by simpa using h)]; rfl
theorem wid_at (s : ByteArray) (k : Nat) (h : k < s.size) : wid (s.data.toList.take (k + 1)) = step (wid (s.data.toList.take k)) s[k] := by
  rw [take_snoc s k h, wid_snoc]
theorem take_all (s : ByteArray) (k : Nat) (h : s.size ≤ k) : s.data.toList.take k = s.data.toList := List.take_of_length_le (by rw [← Lib.size_eq]; exact h)
theorem bad_at {s : ByteArray} {k w : Nat} (h : k < s.size) (hw : wid (s.data.toList.take k) = some w) (hb : step (some w) s[k] = none) : ¬ Safe s.data.toList := by
  rintro ⟨_, h0 | ⟨w', hw', _⟩⟩
  · have : s.size = 0 := by rw [Lib.size_eq, h0]; rfl
    omega
  · have e : wid s.data.toList = (s.data.toList.drop (k + 1)).foldl step (wid (s.data.toList.take (k + 1))) := by
      unfold wid
      rw [← List.foldl_append, List.take_append_drop]
    rw [wid_at s k h, hw, hb, fold_none] at e
    rw [e] at hw'
    cases hw'
theorem big {s : ByteArray} (h : 2000 < s.size) : ¬ Safe s.data.toList := fun x => by have := x.1; rw [← Lib.size_eq] at this; omega
theorem good {s : ByteArray} {w : Nat} (h : s.size ≤ 2000) (hw : wid s.data.toList = some w) (hp : s.size = 0 ∨ 0 < w) : Safe s.data.toList := by
  refine ⟨by rw [← Lib.size_eq]; exact h, ?_⟩
  rcases hp with h0 | h0
  · exact .inl (List.eq_nil_of_length_eq_zero (by rw [← Lib.size_eq]; exact h0))
  · exact .inr ⟨w, hw, h0⟩
theorem endBad {s : ByteArray} (h0 : s.size ≠ 0) (hw : wid s.data.toList = some 0) : ¬ Safe s.data.toList := by
  rintro ⟨_, h1 | ⟨w', hw', h1⟩⟩
  · have : s.size = 0 := by rw [Lib.size_eq, h1]; rfl
    omega
  · rw [hw] at hw'
    cases hw'
    omega
theorem st_bad {c : UInt8} {w : Nat} (h : (c.toNat : Int) < 32 ∨ 126 < (c.toNat : Int)) : step (some w) c = none := by
  show (if c.toNat < 32 ∨ 126 < c.toNat then none else _) = none
  rw [if_pos (by omega)]
theorem st_sp0 {c : UInt8} (h : (c.toNat : Int) = 32) : step (some 0) c = none := by
  show (if c.toNat < 32 ∨ 126 < c.toNat then none else if c.toNat = 32 then (if (0 : Nat) = 0 then none else some 0) else _) = none
  rw [if_neg (by omega), if_pos (by omega), if_pos rfl]
theorem st_sp {c : UInt8} {w : Nat} (h : (c.toNat : Int) = 32) (hw : w ≠ 0) : step (some w) c = some 0 := by
  show (if c.toNat < 32 ∨ 126 < c.toNat then none else if c.toNat = 32 then (if w = 0 then none else some 0) else _) = some 0
  rw [if_neg (by omega), if_pos (by omega), if_neg hw]
theorem st_ch {c : UInt8} {w : Nat} (h1 : 32 ≤ (c.toNat : Int)) (h2 : (c.toNat : Int) ≤ 126) (h3 : (c.toNat : Int) ≠ 32) (hw : w < 200) : step (some w) c = some (w + 1) := by
  show (if c.toNat < 32 ∨ 126 < c.toNat then none else if c.toNat = 32 then (if w = 0 then none else some 0) else if 200 ≤ w then none else some (w + 1)) = some (w + 1)
  rw [if_neg (by omega), if_neg (by omega), if_neg (by omega)]
theorem st_long {c : UInt8} {w : Nat} (h3 : (c.toNat : Int) ≠ 32) (hw : 200 ≤ w) : step (some w) c = none := by
  show (if c.toNat < 32 ∨ 126 < c.toNat then none else if c.toNat = 32 then (if w = 0 then none else some 0) else if 200 ≤ w then none else some (w + 1)) = none
  split
  · rfl
  · rw [if_neg (by omega)]
theorem wid_le (l : List UInt8) : ∀ w w', w ≤ 200 → l.foldl step (some w) = some w' → w' ≤ 200 := by
  induction l with
  | nil => intro w w' h e; cases e; exact h
  | cons c l ih =>
    intro w w' h e
    rw [List.foldl_cons] at e
    cases hs : step (some w) c with
    | none => rw [hs, fold_none] at e; cases e
    | some v =>
      rw [hs] at e
      refine ih v w' ?_ e
      have : (if c.toNat < 32 ∨ 126 < c.toNat then none else if c.toNat = 32 then (if w = 0 then none else some 0) else if 200 ≤ w then none else some (w + 1)) = some v := hs
      split at this
      · cases this
      · split at this
        · split at this
          · cases this
          · cases this; omega
        · split at this
          · cases this
          · cases this; omega
theorem width_le {l : List UInt8} {w : Nat} (h : wid l = some w) : w ≤ 200 := wid_le l 0 w (by omega) h

/-- The parts of a text at each blank. -/
def cutGo : List UInt8 → List UInt8 → List (List UInt8)
  | cur, [] => [cur]
  | cur, b :: l => if b.toNat = 32 then cur :: cutGo [] l else cutGo (cur ++ [b]) l
theorem isSp_blank {b : UInt8} (h : b.toNat = 32) : Lib.isSp b = true := by
  have : b = 32 := by rw [← UInt8.toNat_inj]; exact h
  subst this; rfl
theorem isSp_sign : ∀ n : Fin 256, 32 < n.val → n.val ≤ 126 → Lib.isSp (UInt8.ofNat n.val) = false := by decide +kernel
theorem isSp_not {b : UInt8} (h : 32 < b.toNat) (h' : b.toNat ≤ 126) : Lib.isSp b = false := by
  have := isSp_sign ⟨b.toNat, b.toNat_lt⟩ h h'
  simpa using this
/-- One step, taken apart. -/
theorem step_cases {w v : Nat} {c : UInt8} (h : step (some w) c = some v) : (c.toNat = 32 ∧ w ≠ 0 ∧ v = 0) ∨ (32 < c.toNat ∧ c.toNat ≤ 126 ∧ w < 200 ∧ v = w + 1) := by
  have : (if c.toNat < 32 ∨ 126 < c.toNat then none else if c.toNat = 32 then (if w = 0 then none else some 0) else if 200 ≤ w then none else some (w + 1)) = some v := h
  split at this
  · cases this
  · split at this
    · split at this
      · cases this
      · cases this; exact .inl ⟨‹_›, ‹_›, rfl⟩
    · split at this
      · cases this
      · cases this; exact .inr ⟨by omega, by omega, by omega, rfl⟩
/-- The words of a safe text are its parts. -/
theorem fields_cut : ∀ (l cur : List UInt8) (w w' : Nat), cur.length = w → l.foldl step (some w) = some w' → 0 < w' → Lib.fieldsGo cur l = cutGo cur l
  | [], cur, w, w', hc, h, hp => by
    cases h
    have : cur ≠ [] := fun e => by rw [e] at hc; simp at hc; omega
    simp [Lib.fieldsGo, cutGo, this]
  | c :: l, cur, w, w', hc, h, hp => by
    rw [List.foldl_cons] at h
    cases hs : step (some w) c with
    | none => rw [hs, fold_none] at h; cases h
    | some v =>
      rw [hs] at h
      rcases step_cases hs with ⟨h1, h2, rfl⟩ | ⟨h1, h2, h3, rfl⟩
      · have : cur ≠ [] := fun e => by rw [e] at hc; simp at hc; omega
        rw [Lib.fieldsGo_end cur c l (isSp_blank h1) this, cutGo, if_pos h1, fields_cut l [] 0 w' rfl h hp]
      · rw [Lib.fieldsGo_more cur c l (isSp_not h1 h2), cutGo, if_neg (by omega)]
        exact fields_cut l (cur ++ [c]) (w + 1) w' (by simp [hc]) h hp
/-- The words of a text as the program reckons them. -/
def words (l : List UInt8) : List (List UInt8) := if l = [] then [] else cutGo [] l
theorem fields_safe {l : List UInt8} (h : Safe l) : Lib.fields l = words l := by
  rcases h with ⟨_, rfl | ⟨w, hw, hp⟩⟩
  · rfl
  · have hne : l ≠ [] := fun e => by subst e; cases hw; omega
    rw [words, if_neg hne]
    exact fields_cut l [] 0 w rfl hw hp
theorem ascii {l : List UInt8} (h : Safe l) : ∀ b ∈ l, 32 ≤ b.toNat ∧ b.toNat ≤ 126 := by
  have key : ∀ (l : List UInt8) (w w' : Nat), l.foldl step (some w) = some w' → ∀ b ∈ l, 32 ≤ b.toNat ∧ b.toNat ≤ 126 := by
    intro l
    induction l with
    | nil => intro w w' _ b hb; cases hb
    | cons c l ih =>
      intro w w' h b hb
      rw [List.foldl_cons] at h
      cases hs : step (some w) c with
      | none => rw [hs, fold_none] at h; cases h
      | some v =>
        rw [hs] at h
        rcases List.mem_cons.1 hb with rfl | hb
        · rcases step_cases hs with ⟨h1, _⟩ | ⟨h1, h2, _⟩ <;> omega
        · exact ih v w' h b hb
  rcases h with ⟨_, rfl | ⟨w, hw, hp⟩⟩
  · intro b hb; cases hb
  · exact key l 0 w hw
/-- The lines of a folded field behind its colon. -/
def foldGo : Bool → Nat → List (List UInt8) → List UInt8
  | _, _, [] => []
  | first, width, x :: r => if first = false ∧ 78 < width + 1 + x.length then [13, 10, 32] ++ x ++ foldGo false (1 + x.length) r else [32] ++ x ++ foldGo false (width + 1 + x.length) r
/-- A folded field. -/
def foldL (name value : List UInt8) : List UInt8 := name ++ [58] ++ foldGo true (name.length + 1) (cutGo [] value) ++ [13, 10]
theorem foldGo_yes {width : Nat} {x : List UInt8} (r : List (List UInt8)) (h : 78 < width + 1 + x.length) : foldGo false width (x :: r) = [13, 10, 32] ++ x ++ foldGo false (1 + x.length) r := by
  rw [foldGo, if_pos ⟨rfl, h⟩]
theorem foldGo_no {first : Bool} {width : Nat} {x : List UInt8} (r : List (List UInt8)) (h : first = true ∨ width + 1 + x.length ≤ 78) : foldGo first width (x :: r) = [32] ++ x ++ foldGo false (width + 1 + x.length) r := by
  rw [foldGo, if_neg]
  rintro ⟨h1, h2⟩
  rcases h with h | h
  · rw [h] at h1; cases h1
  · omega
theorem cutGo_ne (l cur : List UInt8) : cutGo cur l ≠ [] := by
  induction l generalizing cur with
  | nil => simp [cutGo]
  | cons b l ih =>
    rw [cutGo]
    split
    · simp
    · exact ih _
/-- All parts of a text together are no longer than it. -/
theorem cutGo_len : ∀ (l cur : List UInt8), ((cutGo cur l).map List.length).sum + (cutGo cur l).length = cur.length + l.length + 1
  | [], cur => by simp [cutGo]
  | b :: l, cur => by
    rw [cutGo]
    split
    · have := cutGo_len l []
      simp at this ⊢
      omega
    · have := cutGo_len l (cur ++ [b])
      simp at this ⊢
      omega
theorem cutGo_mem : ∀ (l cur x : List UInt8), x ∈ cutGo cur l → x.length ≤ cur.length + l.length
  | [], cur, x, h => by simp [cutGo] at h; subst h; simp
  | b :: l, cur, x, h => by
    rw [cutGo] at h
    split at h
    · rcases List.mem_cons.1 h with rfl | h
      · simp
      · have := cutGo_mem l [] x h
        simp at this ⊢
        omega
    · have := cutGo_mem l (cur ++ [b]) x h
      simp at this ⊢
      omega
end Go.Proofs.YtejmfffapkmjoaaDoor.hd
