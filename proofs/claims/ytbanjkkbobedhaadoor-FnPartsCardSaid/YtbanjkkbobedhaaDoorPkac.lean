/-
  The contract of the program's fieldSize: how many bytes the first field of a header has.
  Plain facts on a field's value: which texts are safe there, and its words.
  Plain facts on unfolding: ends of lines ahead of blanks are taken away; the parts of a field.
-/
import Derived.Test.YtbanjkkbobedhaaDoorPkaa
import Derived.Test.YtbanjkkbobedhaaDoorPkab
import Derived.Lib.Fields
import Derived.Lib.FieldsLaws
import Derived.Lib.Strings
import Derived.Lib.ReplaceLaws
import Derived.Lib.IndexLaws

namespace Go.Proofs.YtbanjkkbobedhaaDoor.ml
open Go.RowKit
set_option linter.unusedVariables false

theorem ext_list (s : ByteArray) (a b : Nat) : (s.extract a b).data.toList = (s.data.toList.drop a).take (b - a) := by rw [← Lib.toList_data, Lib.extract_toList]
theorem ext_tail (s : ByteArray) (a : Nat) : (s.extract a s.size).data.toList = s.data.toList.drop a := by
  rw [ext_list, List.take_of_length_le (by rw [List.length_drop, ← Lib.size_eq]; omega)]
theorem ext_front (s : ByteArray) (b : Nat) : (s.extract 0 b).data.toList = s.data.toList.take b := by rw [ext_list]; rfl
theorem ext_size (s : ByteArray) (a b : Nat) (h : b ≤ s.size) : (s.extract a b).size = b - a := by
  rw [Lib.size_eq, ext_list, List.length_take, List.length_drop, ← Lib.size_eq]; omega
theorem has_blank (l : B) : Lib.hasPrefix l [32] = decide (l.head? = some 32) := by
  unfold Lib.hasPrefix
  match l with
  | [] => rfl
  | c :: r =>
    rw [Bool.eq_iff_iff]
    simp only [List.isPrefixOf, Bool.and_true, beq_iff_eq, List.head?_cons, decide_eq_true_iff, Option.some.injEq]
    exact eq_comm
theorem blank_ne {l : B} (h : l.head? = some 32) : l ≠ [] := fun e => by rw [e] at h; cases h

set_option maxHeartbeats 2000000 in
set_option maxRecDepth 100000 in
theorem fieldSize_any (s : ByteArray) (w : World) (m : Int) (hm : w.cell? ⟨0, 0, none⟩ = some (.int .i64 m)) (hs : s.size ≤ 65536) (hE : Ends s.data.toList) (h0 : s.data.toList ≠ []) :
    Calls Tryd.prog 57 #[.string s] w fun e w' => (∃ p : Nat, e = .returned (.int .i64 p) ∧ Seek s.data.toList p ∧ (s.data.toList.drop p).head? ≠ some 32) ∧ ∃ n, w' = w.drewN n := by
  have HMX : Hid (∀ n, (w.drewN n).cell? ⟨0, 0, none⟩ = some (.int .i64 m)) := fun n => hm
  obtain ⟨i, hi⟩ := index_some hE h0 (ends_len hE)
  have hC := Tryd.strings_Index s ⟨#[13, 10]⟩ m w (by omega) hm
  rw [show (⟨#[13, 10]⟩ : ByteArray).data.toList = nl from rfl, hi] at hC
  have hsk := seek_first hi
  have hlen := seek_le hsk
  rw [← Lib.size_eq] at hlen
  have HS0 : Hid (Seek s.data.toList (i + 2)) := hsk
  have HE : Hid (Ends s.data.toList) := hE
  have HC : Hid (Calls Tryd.prog 34 #[.string s, .string ⟨#[13, 10]⟩] w fun e w' => e = .returned (.int .i64 (i : Int)) ∧ w' = w) := hC
  clear hC hi hsk hE h0 hm
  go_enter Tryd.func57, Tryd.ntmps57
  go_wp2_with fail
  refine HC.out.mono ?_
  rintro e w1 ⟨rfl, rfl⟩
  go_wp2
  go_loopw [3] (fun q wr => ∃ p n : Nat, q = .int .i64 p ∧ p ≤ s.size ∧ Seek s.data.toList p ∧ wr = w1.drewN n) (fun q _ => s.size - (intOf q).toNat)
  case atStart => exact ⟨i + 2, 0, by go_num, hlen, HS0.out, rfl⟩
  case round =>
    obtain ⟨p, n, rfl, hp, hsk, rfl⟩ := hrel
    clear HC HS0 hlen
    have hp' : (p : Int) ≤ (s.size : Int) := by omega
    have hp0 : (0 : Int) ≤ (p : Int) := by omega
    have HH := Tryd.strings_HasPrefix (s.extract p s.size) ⟨#[32]⟩ (w1.drewN n)
    rw [show (⟨#[32]⟩ : ByteArray).data.toList = [32] from rfl, ext_tail, has_blank] at HH
    by_cases hb : (s.data.toList.drop p).head? = some 32
    · rw [decide_eq_true hb] at HH
      have hE2 := seek_ends hsk HE.out
      obtain ⟨j, hj⟩ := index_some hE2 (blank_ne hb) (ends_len hE2)
      have hnx := seek_next hsk hb hj
      have hle := seek_le hnx
      rw [← Lib.size_eq] at hle
      have HI := Tryd.strings_Index (s.extract p s.size) ⟨#[13, 10]⟩ m (w1.drewN n) (by rw [ext_size _ _ _ (Nat.le_refl _)]; omega) (HMX.out n)
      rw [show (⟨#[13, 10]⟩ : ByteArray).data.toList = nl from rfl, ext_tail, hj] at HI
      have HI' : Hid (Calls Tryd.prog 34 #[.string (s.extract p s.size), .string ⟨#[13, 10]⟩] (w1.drewN n) fun e w' => e = .returned (.int .i64 (j : Int)) ∧ w' = w1.drewN n) := HI
      have HN : Hid (Seek s.data.toList (p + (j + 2))) := hnx
      have HH' : Hid (Calls Tryd.prog 73 #[.string (s.extract p s.size), .string ⟨#[32]⟩] (w1.drewN n) fun e w' => e = .returned (.bool true) ∧ w' = w1.drewN n) := HH
      clear HI HH hnx hsk hb hE2 hj
      go_wp2_with fail
      refine HH'.out.mono ?_
      rintro e w2 ⟨rfl, rfl⟩
      go_wp2_with fail
      refine HI'.out.mono ?_
      rintro e w2 ⟨rfl, rfl⟩
      go_wp2
      go_roundw
      case rel => exact ⟨p + (j + 2), n, by go_num, hle, HN.out, rfl⟩
      case measure => simp [intOf]; omega
    · rw [decide_eq_false hb] at HH
      have HB : Hid (¬ (s.data.toList.drop p).head? = some 32) := hb
      have HK : Hid (Seek s.data.toList p) := hsk
      have HH' : Hid (Calls Tryd.prog 73 #[.string (s.extract p s.size), .string ⟨#[32]⟩] (w1.drewN n) fun e w' => e = .returned (.bool false) ∧ w' = w1.drewN n) := HH
      clear HH hsk hb
      go_wp2_with fail
      refine HH'.out.mono ?_
      rintro e w2 ⟨rfl, rfl⟩
      go_wp2
      go_ret
      exact ⟨⟨p, rfl, HK.out, HB.out⟩, n, rfl⟩
end Go.Proofs.YtbanjkkbobedhaaDoor.ml

namespace Go.Proofs.YtbanjkkbobedhaaDoor.hd
open Go
set_option linter.unusedVariables false

/-- How many characters the word has that is being read, behind one more; none where the text is not safe. -/
def step (o : Option Nat) (c : UInt8) : Option Nat := o.bind fun w =>
  if c.toNat < 32 ∨ 126 < c.toNat then none else if c.toNat = 32 then (if w = 0 then none else some 0) else if 200 ≤ w then none else some (w + 1)
def wid (l : List UInt8) : Option Nat := l.foldl step (some 0)
/-- A text is safe as a field's value. -/
def Safe (l : List UInt8) : Prop := l.length ≤ 2000 ∧ (l = [] ∨ ∃ w, wid l = some w ∧ 0 < w)

theorem fold_none : ∀ l : List UInt8, l.foldl step none = none
  | [] => rfl
  | c :: l => by rw [List.foldl_cons]; exact fold_none l
theorem wid_snoc (l : List UInt8) (c : UInt8) : wid (l ++ [c]) = step (wid l) c := by simp [wid]
theorem take_snoc (s : ByteArray) (k : Nat) (h : k < s.size) : s.data.toList.take (k + 1) = s.data.toList.take k ++ [s[k]] := by
  rw [List.take_succ_eq_append_getElem (by simpa using h)]; rfl
theorem wid_at (s : ByteArray) (k : Nat) (h : k < s.size) : wid (s.data.toList.take (k + 1)) = step (wid (s.data.toList.take k)) s[k] := by
  rw [take_snoc s k h, wid_snoc]
theorem take_all (s : ByteArray) (k : Nat) (h : s.size ≤ k) : s.data.toList.take k = s.data.toList := List.take_of_length_le (by rw [← Lib.size_eq]; exact h)
theorem bad_at {s : ByteArray} {k w : Nat} (h : k < s.size) (hw : wid (s.data.toList.take k) = some w) (hb : step (some w) s[k] = none) : ¬ Safe s.data.toList := by
  rintro ⟨_, h0 | ⟨w', hw', _⟩⟩
  · have : s.size = 0 := by rw [Lib.size_eq, h0]; rfl
    omega
  · have e : wid s.data.toList = (s.data.toList.drop (k + 1)).foldl step (wid (s.data.toList.take (k + 1))) := by
      unfold wid
      rw [← List.foldl_append, List.take_append_drop]
    rw [wid_at s k h, hw, hb, fold_none] at e
    rw [e] at hw'
    cases hw'
theorem big {s : ByteArray} (h : 2000 < s.size) : ¬ Safe s.data.toList := fun x => by have := x.1; rw [← Lib.size_eq] at this; omega
theorem good {s : ByteArray} {w : Nat} (h : s.size ≤ 2000) (hw : wid s.data.toList = some w) (hp : s.size = 0 ∨ 0 < w) : Safe s.data.toList := by
  refine ⟨by rw [← Lib.size_eq]; exact h, ?_⟩
  rcases hp with h0 | h0
  · exact .inl (List.eq_nil_of_length_eq_zero (by rw [← Lib.size_eq]; exact h0))
  · exact .inr ⟨w, hw, h0⟩
theorem endBad {s : ByteArray} (h0 : s.size ≠ 0) (hw : wid s.data.toList = some 0) : ¬ Safe s.data.toList := by
  rintro ⟨_, h1 | ⟨w', hw', h1⟩⟩
  · have : s.size = 0 := by rw [Lib.size_eq, h1]; rfl
    omega
  · rw [hw] at hw'
    cases hw'
    omega
theorem st_bad {c : UInt8} {w : Nat} (h : (c.toNat : Int) < 32 ∨ 126 < (c.toNat : Int)) : step (some w) c = none := by
  show (if c.toNat < 32 ∨ 126 < c.toNat then none else _) = none
  rw [if_pos (by omega)]
theorem st_sp0 {c : UInt8} (h : (c.toNat : Int) = 32) : step (some 0) c = none := by
  show (if c.toNat < 32 ∨ 126 < c.toNat then none else if c.toNat = 32 then (if (0 : Nat) = 0 then none else some 0) else _) = none
  rw [if_neg (by omega), if_pos (by omega), if_pos rfl]
theorem st_sp {c : UInt8} {w : Nat} (h : (c.toNat : Int) = 32) (hw : w ≠ 0) : step (some w) c = some 0 := by
  show (if c.toNat < 32 ∨ 126 < c.toNat then none else if c.toNat = 32 then (if w = 0 then none else some 0) else _) = some 0
  rw [if_neg (by omega), if_pos (by omega), if_neg hw]
theorem st_ch {c : UInt8} {w : Nat} (h1 : 32 ≤ (c.toNat : Int)) (h2 : (c.toNat : Int) ≤ 126) (h3 : (c.toNat : Int) ≠ 32) (hw : w < 200) : step (some w) c = some (w + 1) := by
  show (if c.toNat < 32 ∨ 126 < c.toNat then none else if c.toNat = 32 then (if w = 0 then none else some 0) else if 200 ≤ w then none else some (w + 1)) = some (w + 1)
  rw [if_neg (by omega), if_neg (by omega), if_neg (by omega)]
theorem st_long {c : UInt8} {w : Nat} (h3 : (c.toNat : Int) ≠ 32) (hw : 200 ≤ w) : step (some w) c = none := by
  show (if c.toNat < 32 ∨ 126 < c.toNat then none else if c.toNat = 32 then (if w = 0 then none else some 0) else if 200 ≤ w then none else some (w + 1)) = none
  split
  · rfl
  · rw [if_neg (by omega)]
theorem wid_le (l : List UInt8) : ∀ w w', w ≤ 200 → l.foldl step (some w) = some w' → w' ≤ 200 := by
  induction l with
  | nil => intro w w' h e; cases e; exact h
  | cons c l ih =>
    intro w w' h e
    rw [List.foldl_cons] at e
    cases hs : step (some w) c with
    | none => rw [hs, fold_none] at e; cases e
    | some v =>
      rw [hs] at e
      refine ih v w' ?_ e
      have : (if c.toNat < 32 ∨ 126 < c.toNat then none else if c.toNat = 32 then (if w = 0 then none else some 0) else if 200 ≤ w then none else some (w + 1)) = some v := hs
      split at this
      · cases this
      · split at this
        · split at this
          · cases this
          · cases this; omega
        · split at this
          · cases this
          · cases this; omega
theorem width_le {l : List UInt8} {w : Nat} (h : wid l = some w) : w ≤ 200 := wid_le l 0 w (by omega) h

/-- The parts of a text at each blank. -/
def cutGo : List UInt8 → List UInt8 → List (List UInt8)
  | cur, [] => [cur]
  | cur, b :: l => if b.toNat = 32 then cur :: cutGo [] l else cutGo (cur ++ [b]) l
theorem isSp_blank {b : UInt8} (h : b.toNat = 32) : Lib.isSp b = true := by
  have : b = 32 := by rw [← UInt8.toNat_inj]; exact h
  subst this; rfl
theorem isSp_sign : ∀ n : Fin 256, 32 < n.val → n.val ≤ 126 → Lib.isSp (UInt8.ofNat n.val) = false := by decide +kernel
theorem isSp_not {b : UInt8} (h : 32 < b.toNat) (h' : b.toNat ≤ 126) : Lib.isSp b = false := by
  have := isSp_sign ⟨b.toNat, b.toNat_lt⟩ h h'
  simpa using this
/-- One step, taken apart. -/
theorem step_cases {w v : Nat} {c : UInt8} (h : step (some w) c = some v) : (c.toNat = 32 ∧ w ≠ 0 ∧ v = 0) ∨ (32 < c.toNat ∧ c.toNat ≤ 126 ∧ w < 200 ∧ v = w + 1) := by
  have : (if c.toNat < 32 ∨ 126 < c.toNat then none else if c.toNat = 32 then (if w = 0 then none else some 0) else if 200 ≤ w then none else some (w + 1)) = some v := h
  split at this
  · cases this
  · split at this
    · split at this
      · cases this
      · cases this; exact .inl ⟨‹_›, ‹_›, rfl⟩
    · split at this
      · cases this
      · cases this; exact .inr ⟨by omega, by omega, by omega, rfl⟩
/-- The words of a safe text are its parts. -/
theorem fields_cut : ∀ (l cur : List UInt8) (w w' : Nat), cur.length = w → l.foldl step (some w) = some w' → 0 < w' → Lib.fieldsGo cur l = cutGo cur l
  | [], cur, w, w', hc, h, hp => by
    cases h
    have : cur ≠ [] := fun e => by rw [e] at hc; simp at hc; omega
    simp [Lib.fieldsGo, cutGo, this]
  | c :: l, cur, w, w', hc, h, hp => by
    rw [List.foldl_cons] at h
    cases hs : step (some w) c with
    | none => rw [hs, fold_none] at h; cases h
    | some v =>
      rw [hs] at h
      rcases step_cases hs with ⟨h1, h2, rfl⟩ | ⟨h1, h2, h3, rfl⟩
      · have : cur ≠ [] := fun e => by rw [e] at hc; simp at hc; omega
        rw [Lib.fieldsGo_end cur c l (isSp_blank h1) this, cutGo, if_pos h1, fields_cut l [] 0 w' rfl h hp]
      · rw [Lib.fieldsGo_more cur c l (isSp_not h1 h2), cutGo, if_neg (by omega)]
        exact fields_cut l (cur ++ [c]) (w + 1) w' (by simp [hc]) h hp
/-- The words of a text as the program reckons them. -/
def words (l : List UInt8) : List (List UInt8) := if l = [] then [] else cutGo [] l
theorem fields_safe {l : List UInt8} (h : Safe l) : Lib.fields l = words l := by
  rcases h with ⟨_, rfl | ⟨w, hw, hp⟩⟩
  · rfl
  · have hne : l ≠ [] := fun e => by subst e; cases hw; omega
    rw [words, if_neg hne]
    exact fields_cut l [] 0 w rfl hw hp
theorem ascii {l : List UInt8} (h : Safe l) : ∀ b ∈ l, 32 ≤ b.toNat ∧ b.toNat ≤ 126 := by
  have key : ∀ (l : List UInt8) (w w' : Nat), l.foldl step (some w) = some w' → ∀ b ∈ l, 32 ≤ b.toNat ∧ b.toNat ≤ 126 := by
    intro l
    induction l with
    | nil => intro w w' _ b hb; cases hb
    | cons c l ih =>
      intro w w' h b hb
      rw [List.foldl_cons] at h
      cases hs : step (some w) c with
      | none => rw [hs, fold_none] at h; cases h
      | some v =>
        rw [hs] at h
        rcases List.mem_cons.1 hb with rfl | hb
        · rcases step_cases hs with ⟨h1, _⟩ | ⟨h1, h2, _⟩ <;> omega
        · exact ih v w' h b hb
  rcases h with ⟨_, rfl | ⟨w, hw, hp⟩⟩
  · intro b hb; cases hb
  · exact key l 0 w hw
/-- The lines of a folded field behind its colon. -/
def foldGo : Bool → Nat → List (List UInt8) → List UInt8
  | _, _, [] => []
  | first, width, x :: r => if first = false ∧ 78 < width + 1 + x.length then [13, 10, 32] ++ x ++ foldGo false (1 + x.length) r else [32] ++ x ++ foldGo false (width + 1 + x.length) r
/-- A folded field. -/
def foldL (name value : List UInt8) : List UInt8 := name ++ [58] ++ foldGo true (name.length + 1) (cutGo [] value) ++ [13, 10]
theorem foldGo_yes {width : Nat} {x : List UInt8} (r : List (List UInt8)) (h : 78 < width + 1 + x.length) : foldGo false width (x :: r) = [13, 10, 32] ++ x ++ foldGo false (1 + x.length) r := by
  rw [foldGo, if_pos ⟨rfl, h⟩]
theorem foldGo_no {first : Bool} {width : Nat} {x : List UInt8} (r : List (List UInt8)) (h : first = true ∨ width + 1 + x.length ≤ 78) : foldGo first width (x :: r) = [32] ++ x ++ foldGo false (width + 1 + x.length) r := by
  rw [foldGo, if_neg]
  rintro ⟨h1, h2⟩
  rcases h with h | h
  · rw [h] at h1; cases h1
  · omega
theorem cutGo_ne (l cur : List UInt8) : cutGo cur l ≠ [] := by
  induction l generalizing cur with
  | nil => simp [cutGo]
  | cons b l ih =>
    rw [cutGo]
    split
    · simp
    · exact ih _
/-- All parts of a text together are no longer than it. -/
theorem cutGo_len : ∀ (l cur : List UInt8), ((cutGo cur l).map List.length).sum + (cutGo cur l).length = cur.length + l.length + 1
  | [], cur => by simp [cutGo]
  | b :: l, cur => by
    rw [cutGo]
    split
    · have := cutGo_len l []
      simp at this ⊢
      omega
    · have := cutGo_len l (cur ++ [b])
      simp at this ⊢
      omega
theorem cutGo_mem : ∀ (l cur x : List UInt8), x ∈ cutGo cur l → x.length ≤ cur.length + l.length
  | [], cur, x, h => by simp [cutGo] at h; subst h; simp
  | b :: l, cur, x, h => by
    rw [cutGo] at h
    split at h
    · rcases List.mem_cons.1 h with rfl | h
      · simp
      · have := cutGo_mem l [] x h
        simp at this ⊢
        omega
    · have := cutGo_mem l (cur ++ [b]) x h
      simp at this ⊢
      omega
end Go.Proofs.YtbanjkkbobedhaaDoor.hd

namespace Go.Proofs.YtbanjkkbobedhaaDoor.uf
open Go
set_option linter.unusedVariables false

/-- A text without its ends of lines that a blank follows; none where a byte 13 stands elsewhere. -/
def unf : Bool → List UInt8 → Option (List UInt8)
  | _, [] => some []
  | true, _ :: r => unf false r
  | false, c :: r => if c = 13 then (if r.head? = some 10 ∧ r.tail.head? = some 32 then unf true r else none) else (unf false r).map (c :: ·)
def fw : List UInt8 := [13, 10, 32]
/-- Each end of line with the blank behind it, replaced by a blank. -/
def rep : Nat → List UInt8 → List UInt8
  | _, [] => []
  | n + 1, _ :: r => rep n r
  | 0, c :: r => if fw.isPrefixOf (c :: r) then 32 :: rep 2 r else c :: rep 0 r

theorem pre_iff {c : UInt8} {r : List UInt8} : fw.isPrefixOf (c :: r) = true ↔ c = 13 ∧ r.head? = some 10 ∧ r.tail.head? = some 32 := by
  unfold fw
  match r with
  | [] => simp
  | [a] => simp
  | a :: b :: q =>
    simp only [List.isPrefixOf, Bool.and_eq_true, beq_iff_eq, List.head?_cons, List.tail_cons, Option.some.injEq, and_true]
    exact ⟨fun h => ⟨h.1.symm, h.2.1.symm, h.2.2.symm⟩, fun h => ⟨h.1.symm, h.2.1.symm, h.2.2.symm⟩⟩
theorem rep_fw (r : List UInt8) : rep 0 (13 :: 10 :: 32 :: r) = 32 :: rep 0 r := by
  rw [rep, if_pos (by simp [fw])]
  rfl
theorem unf_fw (r : List UInt8) : unf false (13 :: 10 :: 32 :: r) = (unf false r).map (32 :: ·) := by
  rw [unf, if_pos rfl, if_pos (by simp), unf, unf, if_neg (by decide)]
theorem shape {c : UInt8} {r : List UInt8} (h : fw.isPrefixOf (c :: r) = true) : ∃ q, c :: r = 13 :: 10 :: 32 :: q := by
  obtain ⟨rfl, h1, h2⟩ := pre_iff.1 h
  match r, h1, h2 with
  | a :: b :: q, h1, h2 =>
    cases h1
    cases h2
    exact ⟨q, rfl⟩
  | [a], h1, h2 => simp at h2
/-- What is replaced is what is unfolded; where nothing can be unfolded a byte 13 stays. -/
theorem unf_rep : ∀ (n : Nat) (x : List UInt8), x.length ≤ n → (∀ v, unf false x = some v → rep 0 x = v) ∧ (unf false x = none → 13 ∈ rep 0 x)
  | 0, x, h => by
    obtain rfl : x = [] := List.eq_nil_of_length_eq_zero (by omega)
    exact ⟨fun v h => (by cases h; rfl), fun h => (by cases h)⟩
  | n + 1, [], h => ⟨fun v h => (by cases h; rfl), fun h => (by cases h)⟩
  | n + 1, c :: r, h => by
    by_cases hp : fw.isPrefixOf (c :: r) = true
    · obtain ⟨q, hq⟩ := shape hp
      rw [hq] at h ⊢
      have ih := unf_rep n q (by simp at h; omega)
      rw [unf_fw, rep_fw]
      constructor
      · intro v hv
        cases hu : unf false q with
        | none => rw [hu] at hv; cases hv
        | some u => rw [hu] at hv; cases hv; rw [ih.1 u hu]
      · intro hv
        cases hu : unf false q with
        | none => exact List.mem_cons_of_mem _ (ih.2 hu)
        | some u => rw [hu] at hv; cases hv
    · have ih := unf_rep n r (by simp at h; omega)
      rw [rep, if_neg hp, unf]
      by_cases hc : c = 13
      · rw [if_pos hc, if_neg (fun x => hp (pre_iff.2 ⟨hc, x⟩))]
        exact ⟨fun v h => (by cases h), fun _ => (by rw [hc]; exact List.mem_cons_self)⟩
      · rw [if_neg hc]
        constructor
        · intro v hv
          cases hu : unf false r with
          | none => rw [hu] at hv; cases hv
          | some u => rw [hu] at hv; cases hv; rw [ih.1 u hu]
        · intro hv
          cases hu : unf false r with
          | none => exact List.mem_cons_of_mem _ (ih.2 hu)
          | some u => rw [hu] at hv; cases hv
theorem rep_hit : ∀ (x : List UInt8) (i : Nat), Lib.index x fw = i → rep 0 x = x.take i ++ [32] ++ rep 0 (x.drop (i + 3))
  | [], i, h => by simp [Lib.index, fw] at h
  | c :: r, i, h => by
    rw [Lib.index] at h
    by_cases hp : fw.isPrefixOf (c :: r) = true
    · rw [if_pos hp] at h
      obtain rfl : i = 0 := by omega
      obtain ⟨q, hq⟩ := shape hp
      rw [hq, rep_fw]
      rfl
    · rw [if_neg hp] at h
      have hge := Lib.index_ge r fw
      by_cases h1 : Lib.index r fw = -1
      · rw [if_pos (by rw [h1]; rfl)] at h
        omega
      · rw [if_neg (by simpa using h1)] at h
        obtain ⟨j, rfl⟩ : ∃ j, i = j + 1 := ⟨i - 1, by omega⟩
        rw [rep, if_neg hp, rep_hit r j (by omega)]
        simp [Nat.add_right_comm j 1 3]
theorem rep_miss : ∀ (x : List UInt8), Lib.index x fw = -1 → rep 0 x = x
  | [], h => rfl
  | c :: r, h => by
    rw [Lib.index] at h
    by_cases hp : fw.isPrefixOf (c :: r) = true
    · rw [if_pos hp] at h
      cases h
    · rw [if_neg hp] at h
      by_cases h1 : Lib.index r fw = -1
      · rw [rep, if_neg hp, rep_miss r h1]
      · rw [if_neg (by simpa using h1)] at h
        have := Lib.index_ge r fw
        omega
theorem repK : ∀ (n : Nat) (x : List UInt8), x.length ≤ n → Lib.replaceK fw [32] (Lib.count x fw) x = rep 0 x
  | n, x, hn => by
    by_cases h : Lib.index x fw = -1
    · rw [Lib.count_miss h, rep_miss x h]
      rfl
    · obtain ⟨i, hi⟩ : ∃ i : Nat, Lib.index x fw = i := ⟨(Lib.index x fw).toNat, by have := Lib.index_ge x fw; omega⟩
      have hr := Lib.index_room x fw (by rw [hi]; omega)
      rw [hi] at hr
      match n with
      | 0 => simp [fw] at hr; omega
      | n + 1 =>
        have hc := Lib.count_hit (s := x) (sub := fw) (i := i) (by simp [fw]) hi
        rw [hc, Nat.add_comm, Lib.replaceK_hit _ _ _ _ i hi, rep_hit x i hi]
        rw [show fw.length = 3 from rfl, repK n (x.drop (i + 3)) (by rw [List.length_drop]; simp [fw] at hr; omega)]
theorem replaceAll_rep (x : List UInt8) : Lib.replaceAll x fw [32] = rep 0 x := by
  unfold Lib.replaceAll Lib.replace Lib.replaceNum
  rw [if_neg (by simp [fw]), if_pos (.inl (by decide))]
  exact repK x.length x (Nat.le_refl _)
theorem safe_no13 {l : List UInt8} (h : 13 ∈ l) : ¬ hd.Safe l := fun x => by have := hd.ascii x 13 h; simp at this
/-- The program's value is safe just if the text can be unfolded to a safe one. -/
theorem value_iff (x : List UInt8) : hd.Safe (Lib.replaceAll x fw [32]) ↔ ∃ v, unf false x = some v ∧ hd.Safe v := by
  rw [replaceAll_rep]
  have h := unf_rep x.length x (Nat.le_refl _)
  cases hu : unf false x with
  | none => exact ⟨fun hs => absurd hs (safe_no13 (h.2 hu)), fun ⟨v, hv, _⟩ => by cases hv⟩
  | some v =>
    rw [h.1 v hu]
    exact ⟨fun hs => ⟨v, rfl, hs⟩, fun ⟨v', hv, hs⟩ => by cases hv; exact hs⟩
theorem value_eq {x v : List UInt8} (h : unf false x = some v) : Lib.replaceAll x fw [32] = v := by rw [replaceAll_rep]; exact (unf_rep x.length x (Nat.le_refl _)).1 v h

theorem rep_len : ∀ (n : Nat) (x : List UInt8), x.length ≤ n → (rep 0 x).length ≤ x.length
  | 0, x, h => by
    obtain rfl : x = [] := List.eq_nil_of_length_eq_zero (by omega)
    exact Nat.le_refl _
  | n + 1, [], h => Nat.le_refl _
  | n + 1, c :: r, h => by
    by_cases hp : fw.isPrefixOf (c :: r) = true
    · obtain ⟨q, hq⟩ := shape hp
      rw [hq] at h ⊢
      have ih := rep_len n q (by simp at h; omega)
      rw [rep_fw]
      simp
      omega
    · have ih := rep_len n r (by simp at h; omega)
      rw [rep, if_neg hp]
      simp
      omega
/-- A field's name and what is behind its colon and blank, without the end of its line. -/
def Parts (l nm x : List UInt8) : Prop := l = nm ++ (58 :: 32 :: (x ++ [13, 10])) ∧ 58 ∉ nm
theorem colon_one : ∀ (a a' b b' : List UInt8), 58 ∉ a → 58 ∉ a' → a ++ 58 :: b = a' ++ 58 :: b' → a = a' ∧ b = b'
  | [], [], b, b', _, _, h => by cases h; exact ⟨rfl, rfl⟩
  | [], y :: a', b, b', _, h2, h => by cases h; exact absurd (List.mem_cons_self) h2
  | y :: a, [], b, b', h1, _, h => by cases h; exact absurd (List.mem_cons_self) h1
  | y :: a, z :: a', b, b', h1, h2, h => by
    simp only [List.cons_append, List.cons.injEq] at h
    have := colon_one a a' b b' (fun m => h1 (List.mem_cons_of_mem _ m)) (fun m => h2 (List.mem_cons_of_mem _ m)) h.2
    exact ⟨by rw [h.1, this.1], this.2⟩
theorem parts_one {l nm x nm' x' : List UInt8} (h : Parts l nm x) (h' : Parts l nm' x') : nm = nm' ∧ x = x' := by
  have h1 := colon_one _ _ _ _ h.2 h'.2 (h.1.symm.trans h'.1)
  refine ⟨h1.1, ?_⟩
  have h2 : x ++ [13, 10] = x' ++ [13, 10] := (List.cons.inj h1.2).2
  exact List.append_cancel_right h2
/-- A text is a field of this name and value. -/
def Field (IsName : ByteArray → Prop) (l nm v : List UInt8) : Prop := ∃ x, Parts l nm x ∧ IsName ⟨nm.toArray⟩ ∧ unf false x = some v ∧ hd.Safe v
theorem field_one {P : ByteArray → Prop} {l nm v nm' v' : List UInt8} (h : Field P l nm v) (h' : Field P l nm' v') : nm = nm' ∧ v = v' := by
  obtain ⟨x, hx, _, hu, _⟩ := h
  obtain ⟨x', hx', _, hu', _⟩ := h'
  obtain ⟨rfl, rfl⟩ := parts_one hx hx'
  rw [hu] at hu'
  cases hu'
  exact ⟨rfl, rfl⟩
end Go.Proofs.YtbanjkkbobedhaaDoor.uf
