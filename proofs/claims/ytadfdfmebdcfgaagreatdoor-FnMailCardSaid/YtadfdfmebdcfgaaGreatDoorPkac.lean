/-
  The contract of the program's MailOK.
  The contract of the program's fieldSize: how many bytes the first field of a header has.
  Plain facts on a field's value: which texts are safe there, and its words.
  Plain facts on unfolding: ends of lines ahead of blanks are taken away; the parts of a field.
  Contracts of both SafeValue functions: whether a text is safe as a field's value.
-/
import Derived.Test.YtadfdfmebdcfgaaGreatDoorPkab
import Derived.Test.YtadfdfmebdcfgaaGreatDoorPkaa
import Derived.Lib.Fields
import Derived.Lib.FieldsLaws
import Derived.Lib.Strings
import Derived.Lib.ReplaceLaws
import Derived.Lib.IndexLaws
import Derived.Test.YtadfdfmebdcfgaaGreatDoorRows
import Derived.WalkKit
import Derived.WalkLawsBesides

namespace Go.Proofs.YtadfdfmebdcfgaaGreatDoor.ml
open Go.RowKit
set_option linter.unusedVariables false

theorem mk_list (r : ByteArray) : r = ⟨r.data.toList.toArray⟩ := by cases r; simp
theorem isEmpty_no {l : List UInt8} (h : l ≠ []) : l.isEmpty = false := by cases l; exact absurd rfl h; rfl
theorem cut_hit {l : List UInt8} {i : Nat} (h : Lib.index l nl = i) : Lib.cut l nl = (l.take i, l.drop (i + 2), true) := by
  unfold Lib.cut
  rw [if_pos (by rw [h]; omega), h]
  rfl
theorem cut_miss {l : List UInt8} (h : Lib.index l nl = -1) : Lib.cut l nl = (l, [], false) := by
  unfold Lib.cut
  rw [if_neg (by rw [h]; decide)]

set_option maxHeartbeats 2000000 in
set_option maxRecDepth 100000 in
theorem impl_mok (s : ByteArray) (w : World) (m : Int) (hm : w.cell? ⟨4, 0, none⟩ = some (.int .i64 m)) (hs : s.size ≤ 1048576) :
    Calls Tryz.prog 11 #[.string s] w fun e w' => e = .returned (.bool (decide (s.size ≤ 65536) && mok 0 s.data.toList)) ∧ ∃ n, w' = w.drewN n := by
  by_cases hl : s.size ≤ 65536
  case neg =>
    have hl' : (65536 : Int) < (s.size : Int) := by omega
    rw [decide_eq_false hl, Bool.false_and]
    clear hm
    go_enter Tryz.func11, Tryz.ntmps11
    go_wp2
    go_ret
    exact ⟨rfl, 0, rfl⟩
  have hl' : (s.size : Int) ≤ 65536 := by omega
  rw [decide_eq_true hl, Bool.true_and]
  obtain ⟨R, hR⟩ : ∃ R, R = mok 0 s.data.toList := ⟨_, rfl⟩
  rw [← hR]
  have HR : Hid (R = mok 0 s.data.toList) := hR
  have HMX : Hid (∀ n, (w.drewN n).cell? ⟨4, 0, none⟩ = some (.int .i64 m)) := fun n => hm
  clear hR hm
  go_enter Tryz.func11, Tryz.ntmps11
  go_wp2
  go_loopw [0] (fun t wr => ∃ (r : ByteArray) (n : Nat), t = .string r ∧ r.size ≤ 65536 ∧ wr = w.drewN n ∧ R = mok 0 r.data.toList) (fun t _ => (match t with | .string r => r.size | _ => 0))
  case atStart => exact ⟨s, 0, rfl, hl, rfl, HR.out⟩
  case round =>
    obtain ⟨r, n, rfl, hrl, rfl, hm⟩ := hrel
    have HM : Hid (R = mok 0 r.data.toList) := hm
    clear hm
    by_cases h0 : r.data.toList = []
    · have hr0 : r = ⟨#[]⟩ := by rw [mk_list r, h0]
      subst hr0
      have HE : Hid (R = true) := (show R = true by rw [HM.out]; rfl)
      go_wp2
      go_ret
      exact ⟨by rw [HE.out]; rfl, n, rfl⟩
    have he : r.toList.isEmpty = false := by rw [Lib.toList_data]; exact isEmpty_no h0
    have hC := (Tryz.strings_Cut r ⟨#[13, 10]⟩ m (w.drewN n) (by omega) (HMX.out n))
    rw [show (⟨#[13, 10]⟩ : ByteArray).data.toList = nl from rfl] at hC
    rcases Lib.index_spec r.data.toList nl with ⟨hi, _⟩ | ⟨i, hi, hil, _⟩
    · rw [cut_miss hi] at hC
      have HE : Hid (R = false) := (show R = false by rw [HM.out]; exact mok_none _ _ hi (.inr h0))
      have HC : Hid (Calls Tryz.prog 30 #[.string r, .string ⟨#[13, 10]⟩] (w.drewN n) fun e w' => e = .returned (.tuple #[.string r, .string ⟨#[]⟩, .bool false]) ∧ ∃ q, w' = (w.drewN n).drewN q) := (show Calls _ _ _ _ _ from hC.mono fun e w' ⟨h1, h2⟩ => ⟨by rw [h1, ← mk_list], h2⟩)
      clear hC hi h0
      go_wp2_with fail
      refine HC.out.mono ?_
      rintro e w1 ⟨rfl, q, rfl⟩
      go_wp2
      go_ret
      exact ⟨by rw [HE.out]; rfl, n + q, by first | rfl | exact drewN_add _ _ _⟩
    · have hroom := Lib.index_room r.data.toList nl (by rw [hi]; omega)
      rw [hi, ← Lib.size_eq] at hroom
      have hroom' : i + 2 ≤ r.size := by have : nl.length = 2 := rfl; omega
      rw [cut_hit hi] at hC
      obtain ⟨A, hA⟩ : ∃ A : ByteArray, A = ⟨(r.data.toList.take i).toArray⟩ := ⟨_, rfl⟩
      obtain ⟨B, hB⟩ : ∃ B : ByteArray, B = ⟨(r.data.toList.drop (i + 2)).toArray⟩ := ⟨_, rfl⟩
      have hAl : A.data.toList = r.data.toList.take i := by rw [hA]
      have hBl : B.data.toList = r.data.toList.drop (i + 2) := by rw [hB]
      have hAs : A.size = i := by rw [Lib.size_eq, hAl, List.length_take, ← Lib.size_eq]; omega
      have hBs : B.size = r.size - (i + 2) := by rw [Lib.size_eq, hBl, List.length_drop, ← Lib.size_eq]
      rw [← hA, ← hB] at hC
      have hz := mok_zero hi
      rw [← hAl, ← hBl] at hz
      have hline : lineOK A.data.toList = decide (good A.data.toList = true ∧ i ≤ 998) := by
        rw [lineOK, ← Lib.size_eq, hAs]
        cases good A.data.toList <;> simp
      rw [← hline] at hz
      have HZ : Hid (R = (lineOK A.data.toList && mok 0 B.data.toList)) := (show R = _ by rw [HM.out]; exact hz)
      have HC : Hid (Calls Tryz.prog 30 #[.string r, .string ⟨#[13, 10]⟩] (w.drewN n) fun e w' => e = .returned (.tuple #[.string A, .string B, .bool true]) ∧ ∃ q, w' = (w.drewN n).drewN q) := hC
      have hAm : A.size ≤ maxLen := by unfold maxLen; omega
      clear hC hi hA hB hAl hBl hz hline h0
      cases hLO : lineOK A.data.toList with
      | false =>
        have HE : Hid (R = false) := (show R = false by rw [HZ.out, hLO]; rfl)
        have HLI : Hid (∀ W, Calls Tryz.prog 31 #[.string A] W fun e w' => e = .returned (.bool false) ∧ w' = W) := fun W => by have := line_any A W hAm; rwa [hLO] at this
        clear hLO
        go_wp2_with fail
        refine HC.out.mono ?_
        rintro e w1 ⟨rfl, q, rfl⟩
        go_wp2_with (go_at_call 31; refine (HLI.out _).mono ?_; rintro e w' ⟨rfl, rfl⟩)
        go_ret
        exact ⟨by rw [HE.out]; rfl, n + q, by first | rfl | exact drewN_add _ _ _⟩
      | true =>
        have HE : Hid (R = mok 0 B.data.toList) := (show R = _ by rw [HZ.out, hLO]; rfl)
        have HLI : Hid (∀ W, Calls Tryz.prog 31 #[.string A] W fun e w' => e = .returned (.bool true) ∧ w' = W) := fun W => by have := line_any A W hAm; rwa [hLO] at this
        clear hLO
        go_wp2_with fail
        refine HC.out.mono ?_
        rintro e w1 ⟨rfl, q, rfl⟩
        go_wp2_with (go_at_call 31; refine (HLI.out _).mono ?_; rintro e w' ⟨rfl, rfl⟩)
        go_roundw
        case rel => exact ⟨B, n + q, rfl, by omega, by first | rfl | exact drewN_add _ _ _, HE.out⟩
        case measure => simp; omega
end Go.Proofs.YtadfdfmebdcfgaaGreatDoor.ml

namespace Go.Proofs.YtadfdfmebdcfgaaGreatDoor.ml
open Go.RowKit
set_option linter.unusedVariables false

theorem ext_list (s : ByteArray) (a b : Nat) : (s.extract a b).data.toList = (s.data.toList.drop a).take (b - a) := by rw [← Lib.toList_data, Lib.extract_toList]
theorem ext_tail (s : ByteArray) (a : Nat) : (s.extract a s.size).data.toList = s.data.toList.drop a := by
  rw [ext_list, List.take_of_length_le (by rw [List.length_drop, ← Lib.size_eq]; omega)]
theorem ext_front (s : ByteArray) (b : Nat) : (s.extract 0 b).data.toList = s.data.toList.take b := by rw [ext_list]; rfl
theorem ext_size (s : ByteArray) (a b : Nat) (h : b ≤ s.size) : (s.extract a b).size = b - a := by
  rw [Lib.size_eq, ext_list, List.length_take, List.length_drop, ← Lib.size_eq]; omega
theorem has_blank (l : B) : Lib.hasPrefix l [32] = decide (l.head? = some 32) := by
  unfold Lib.hasPrefix
  match l with
  | [] => rfl
  | c :: r =>
    rw [Bool.eq_iff_iff]
    simp only [List.isPrefixOf, Bool.and_true, beq_iff_eq, List.head?_cons, decide_eq_true_iff, Option.some.injEq]
    exact eq_comm
theorem blank_ne {l : B} (h : l.head? = some 32) : l ≠ [] := fun e => by rw [e] at h; cases h

set_option maxHeartbeats 2000000 in
set_option maxRecDepth 100000 in
theorem fieldSize_any (s : ByteArray) (w : World) (m : Int) (hm : w.cell? ⟨4, 0, none⟩ = some (.int .i64 m)) (hs : s.size ≤ 65536) (hE : Ends s.data.toList) (h0 : s.data.toList ≠ []) :
    Calls Tryz.prog 116 #[.string s] w fun e w' => (∃ p : Nat, e = .returned (.int .i64 p) ∧ Seek s.data.toList p ∧ (s.data.toList.drop p).head? ≠ some 32) ∧ ∃ n, w' = w.drewN n := by
  have HMX : Hid (∀ n, (w.drewN n).cell? ⟨4, 0, none⟩ = some (.int .i64 m)) := fun n => hm
  obtain ⟨i, hi⟩ := index_some hE h0 (ends_len hE)
  have hC := Tryz.strings_Index s ⟨#[13, 10]⟩ m w (by omega) hm
  rw [show (⟨#[13, 10]⟩ : ByteArray).data.toList = nl from rfl, hi] at hC
  have hsk := seek_first hi
  have hlen := seek_le hsk
  rw [← Lib.size_eq] at hlen
  have HS0 : Hid (Seek s.data.toList (i + 2)) := hsk
  have HE : Hid (Ends s.data.toList) := hE
  have HC : Hid (Calls Tryz.prog 65 #[.string s, .string ⟨#[13, 10]⟩] w fun e w' => e = .returned (.int .i64 (i : Int)) ∧ w' = w) := hC
  clear hC hi hsk hE h0 hm
  go_enter Tryz.func116, Tryz.ntmps116
  go_wp2_with fail
  refine HC.out.mono ?_
  rintro e w1 ⟨rfl, rfl⟩
  go_wp2
  go_loopw [3] (fun q wr => ∃ p n : Nat, q = .int .i64 p ∧ p ≤ s.size ∧ Seek s.data.toList p ∧ wr = w1.drewN n) (fun q _ => s.size - (intOf q).toNat)
  case atStart => exact ⟨i + 2, 0, by go_num, hlen, HS0.out, rfl⟩
  case round =>
    obtain ⟨p, n, rfl, hp, hsk, rfl⟩ := hrel
    clear HC HS0 hlen
    have hp' : (p : Int) ≤ (s.size : Int) := by omega
    have hp0 : (0 : Int) ≤ (p : Int) := by omega
    have HH := Tryz.strings_HasPrefix (s.extract p s.size) ⟨#[32]⟩ (w1.drewN n)
    rw [show (⟨#[32]⟩ : ByteArray).data.toList = [32] from rfl, ext_tail, has_blank] at HH
    by_cases hb : (s.data.toList.drop p).head? = some 32
    · rw [decide_eq_true hb] at HH
      have hE2 := seek_ends hsk HE.out
      obtain ⟨j, hj⟩ := index_some hE2 (blank_ne hb) (ends_len hE2)
      have hnx := seek_next hsk hb hj
      have hle := seek_le hnx
      rw [← Lib.size_eq] at hle
      have HI := Tryz.strings_Index (s.extract p s.size) ⟨#[13, 10]⟩ m (w1.drewN n) (by rw [ext_size _ _ _ (Nat.le_refl _)]; omega) (HMX.out n)
      rw [show (⟨#[13, 10]⟩ : ByteArray).data.toList = nl from rfl, ext_tail, hj] at HI
      have HI' : Hid (Calls Tryz.prog 65 #[.string (s.extract p s.size), .string ⟨#[13, 10]⟩] (w1.drewN n) fun e w' => e = .returned (.int .i64 (j : Int)) ∧ w' = w1.drewN n) := HI
      have HN : Hid (Seek s.data.toList (p + (j + 2))) := hnx
      have HH' : Hid (Calls Tryz.prog 94 #[.string (s.extract p s.size), .string ⟨#[32]⟩] (w1.drewN n) fun e w' => e = .returned (.bool true) ∧ w' = w1.drewN n) := HH
      clear HI HH hnx hsk hb hE2 hj
      go_wp2_with fail
      refine HH'.out.mono ?_
      rintro e w2 ⟨rfl, rfl⟩
      go_wp2_with fail
      refine HI'.out.mono ?_
      rintro e w2 ⟨rfl, rfl⟩
      go_wp2
      go_roundw
      case rel => exact ⟨p + (j + 2), n, by go_num, hle, HN.out, rfl⟩
      case measure => simp [intOf]; omega
    · rw [decide_eq_false hb] at HH
      have HB : Hid (¬ (s.data.toList.drop p).head? = some 32) := hb
      have HK : Hid (Seek s.data.toList p) := hsk
      have HH' : Hid (Calls Tryz.prog 94 #[.string (s.extract p s.size), .string ⟨#[32]⟩] (w1.drewN n) fun e w' => e = .returned (.bool false) ∧ w' = w1.drewN n) := HH
      clear HH hsk hb
      go_wp2_with fail
      refine HH'.out.mono ?_
      rintro e w2 ⟨rfl, rfl⟩
      go_wp2
      go_ret
      exact ⟨⟨p, rfl, HK.out, HB.out⟩, n, rfl⟩
end Go.Proofs.YtadfdfmebdcfgaaGreatDoor.ml

namespace Go.Proofs.YtadfdfmebdcfgaaGreatDoor.hd
open Go
set_option linter.unusedVariables false

/-- How many characters the word has that is being read, behind one more; none where the text is not safe. -/
def step (o : Option Nat) (c : UInt8) : Option Nat := o.bind fun w =>
  if c.toNat < 32 ∨ 126 < c.toNat then none else if c.toNat = 32 then (if w = 0 then none else some 0) else if 200 ≤ w then none else some (w + 1)
def wid (l : List UInt8) : Option Nat := l.foldl step (some 0)
/-- A text is safe as a field's value. -/
def Safe (l : List UInt8) : Prop := l.length ≤ 2000 ∧ (l = [] ∨ ∃ w, wid l = some w ∧ 0 < w)

theorem fold_none : ∀ l : List UInt8, l.foldl step none = none
  | [] => rfl
  | c :: l => by rw [List.foldl_cons]; exact fold_none l
theorem wid_snoc (l : List UInt8) (c : UInt8) : wid (l ++ [c]) = step (wid l) c := by simp [wid]
theorem take_snoc (s : ByteArray) (k : Nat) (h : k < s.size) : s.data.toList.take (k + 1) = s.data.toList.take k ++ [s[k]] := by
  rw [List.take_succ_eq_append_getElem (by simpa using h)]; rfl
theorem wid_at (s : ByteArray) (k : Nat) (h : k < s.size) : wid (s.data.toList.take (k + 1)) = step (wid (s.data.toList.take k)) s[k] := by
  rw [take_snoc s k h, wid_snoc]
theorem take_all (s : ByteArray) (k : Nat) (h : s.size ≤ k) : s.data.toList.take k = s.data.toList := List.take_of_length_le (by rw [← Lib.size_eq]; exact h)
theorem bad_at {s : ByteArray} {k w : Nat} (h : k < s.size) (hw : wid (s.data.toList.take k) = some w) (hb : step (some w) s[k] = none) : ¬ Safe s.data.toList := by
  rintro ⟨_, h0 | ⟨w', hw', _⟩⟩
  · have : s.size = 0 := by rw [Lib.size_eq, h0]; rfl
    omega
  · have e : wid s.data.toList = (s.data.toList.drop (k + 1)).foldl step (wid (s.data.toList.take (k + 1))) := by
      unfold wid
      rw [← List.foldl_append, List.take_append_drop]
    rw [wid_at s k h, hw, hb, fold_none] at e
    rw [e] at hw'
    cases hw'
theorem big {s : ByteArray} (h : 2000 < s.size) : ¬ Safe s.data.toList := fun x => by have := x.1; rw [← Lib.size_eq] at this; omega
theorem good {s : ByteArray} {w : Nat} (h : s.size ≤ 2000) (hw : wid s.data.toList = some w) (hp : s.size = 0 ∨ 0 < w) : Safe s.data.toList := by
  refine ⟨by rw [← Lib.size_eq]; exact h, ?_⟩
  rcases hp with h0 | h0
  · exact .inl (List.eq_nil_of_length_eq_zero (by rw [← Lib.size_eq]; exact h0))
  · exact .inr ⟨w, hw, h0⟩
theorem endBad {s : ByteArray} (h0 : s.size ≠ 0) (hw : wid s.data.toList = some 0) : ¬ Safe s.data.toList := by
  rintro ⟨_, h1 | ⟨w', hw', h1⟩⟩
  · have : s.size = 0 := by rw [Lib.size_eq, h1]; rfl
    omega
  · rw [hw] at hw'
    cases hw'
    omega
theorem st_bad {c : UInt8} {w : Nat} (h : (c.toNat : Int) < 32 ∨ 126 < (c.toNat : Int)) : step (some w) c = none := by
  show (if c.toNat < 32 ∨ 126 < c.toNat then none else _) = none
  rw [if_pos (by omega)]
theorem st_sp0 {c : UInt8} (h : (c.toNat : Int) = 32) : step (some 0) c = none := by
  show (if c.toNat < 32 ∨ 126 < c.toNat then none else if c.toNat = 32 then (if (0 : Nat) = 0 then none else some 0) else _) = none
  rw [if_neg (by omega), if_pos (by omega), if_pos rfl]
theorem st_sp {c : UInt8} {w : Nat} (h : (c.toNat : Int) = 32) (hw : w ≠ 0) : step (some w) c = some 0 := by
  show (if c.toNat < 32 ∨ 126 < c.toNat then none else if c.toNat = 32 then (if w = 0 then none else some 0) else _) = some 0
  rw [if_neg (by omega), if_pos (by omega), if_neg hw]
theorem st_ch {c : UInt8} {w : Nat} (h1 : 32 ≤ (c.toNat : Int)) (h2 : (c.toNat : Int) ≤ 126) (h3 : (c.toNat : Int) ≠ 32) (hw : w < 200) : step (some w) c = some (w + 1) := by
  show (if c.toNat < 32 ∨ 126 < c.toNat then none else if c.toNat = 32 then (if w = 0 then none else some 0) else if 200 ≤ w then none else some (w + 1)) = some (w + 1)
  rw [if_neg (by omega), if_neg (by omega), if_neg (by omega)]
theorem st_long {c : UInt8} {w : Nat} (h3 : (c.toNat : Int) ≠ 32) (hw : 200 ≤ w) : step (some w) c = none := by
  show (if c.toNat < 32 ∨ 126 < c.toNat then none else if c.toNat = 32 then (if w = 0 then none else some 0) else if 200 ≤ w then none else some (w + 1)) = none
  split
  · rfl
  · rw [if_neg (by omega)]
theorem wid_le (l : List UInt8) : ∀ w w', w ≤ 200 → l.foldl step (some w) = some w' → w' ≤ 200 := by
  induction l with
  | nil => intro w w' h e; cases e; exact h
  | cons c l ih =>
    intro w w' h e
    rw [List.foldl_cons] at e
    cases hs : step (some w) c with
    | none => rw [hs, fold_none] at e; cases e
    | some v =>
      rw [hs] at e
      refine ih v w' ?_ e
      have : (if c.toNat < 32 ∨ 126 < c.toNat then none else if c.toNat = 32 then (if w = 0 then none else some 0) else if 200 ≤ w then none else some (w + 1)) = some v := hs
      split at this
      · cases this
      · split at this
        · split at this
          · cases this
          · cases this; omega
        · split at this
          · cases this
          · cases this; omega
theorem width_le {l : List UInt8} {w : Nat} (h : wid l = some w) : w ≤ 200 := wid_le l 0 w (by omega) h

/-- The parts of a text at each blank. -/
def cutGo : List UInt8 → List UInt8 → List (List UInt8)
  | cur, [] => [cur]
  | cur, b :: l => if b.toNat = 32 then cur :: cutGo [] l else cutGo (cur ++ [b]) l
theorem isSp_blank {b : UInt8} (h : b.toNat = 32) : Lib.isSp b = true := by
  have : b = 32 := by rw [← UInt8.toNat_inj]; exact h
  subst this; rfl
theorem isSp_sign : ∀ n : Fin 256, 32 < n.val → n.val ≤ 126 → Lib.isSp (UInt8.ofNat n.val) = false := by decide +kernel
theorem isSp_not {b : UInt8} (h : 32 < b.toNat) (h' : b.toNat ≤ 126) : Lib.isSp b = false := by
  have := isSp_sign ⟨b.toNat, b.toNat_lt⟩ h h'
  simpa using this
/-- One step, taken apart. -/
theorem step_cases {w v : Nat} {c : UInt8} (h : step (some w) c = some v) : (c.toNat = 32 ∧ w ≠ 0 ∧ v = 0) ∨ (32 < c.toNat ∧ c.toNat ≤ 126 ∧ w < 200 ∧ v = w + 1) := by
  have : (if c.toNat < 32 ∨ 126 < c.toNat then none else if c.toNat = 32 then (if w = 0 then none else some 0) else if 200 ≤ w then none else some (w + 1)) = some v := h
  split at this
  · cases this
  · split at this
    · split at this
      · cases this
      · cases this; exact .inl ⟨‹_›, ‹_›, rfl⟩
    · split at this
      · cases this
      · cases this; exact .inr ⟨by omega, by omega, by omega, rfl⟩
/-- The words of a safe text are its parts. -/
theorem fields_cut : ∀ (l cur : List UInt8) (w w' : Nat), cur.length = w → l.foldl step (some w) = some w' → 0 < w' → Lib.fieldsGo cur l = cutGo cur l
  | [], cur, w, w', hc, h, hp => by
    cases h
    have : cur ≠ [] := fun e => by rw [e] at hc; simp at hc; omega
    simp [Lib.fieldsGo, cutGo, this]
  | c :: l, cur, w, w', hc, h, hp => by
    rw [List.foldl_cons] at h
    cases hs : step (some w) c with
    | none => rw [hs, fold_none] at h; cases h
    | some v =>
      rw [hs] at h
      rcases step_cases hs with ⟨h1, h2, rfl⟩ | ⟨h1, h2, h3, rfl⟩
      · have : cur ≠ [] := fun e => by rw [e] at hc; simp at hc; omega
        rw [Lib.fieldsGo_end cur c l (isSp_blank h1) this, cutGo, if_pos h1, fields_cut l [] 0 w' rfl h hp]
      · rw [Lib.fieldsGo_more cur c l (isSp_not h1 h2), cutGo, if_neg (by omega)]
        exact fields_cut l (cur ++ [c]) (w + 1) w' (by simp [hc]) h hp
/-- The words of a text as the program reckons them. -/
def words (l : List UInt8) : List (List UInt8) := if l = [] then [] else cutGo [] l
theorem fields_safe {l : List UInt8} (h : Safe l) : Lib.fields l = words l := by
  rcases h with ⟨_, rfl | ⟨w, hw, hp⟩⟩
  · rfl
  · have hne : l ≠ [] := fun e => by subst e; cases hw; omega
    rw [words, if_neg hne]
    exact fields_cut l [] 0 w rfl hw hp
theorem ascii {l : List UInt8} (h : Safe l) : ∀ b ∈ l, 32 ≤ b.toNat ∧ b.toNat ≤ 126 := by
  have key : ∀ (l : List UInt8) (w w' : Nat), l.foldl step (some w) = some w' → ∀ b ∈ l, 32 ≤ b.toNat ∧ b.toNat ≤ 126 := by
    intro l
    induction l with
    | nil => intro w w' _ b hb; cases hb
    | cons c l ih =>
      intro w w' h b hb
      rw [List.foldl_cons] at h
      cases hs : step (some w) c with
      | none => rw [hs, fold_none] at h; cases h
      | some v =>
        rw [hs] at h
        rcases List.mem_cons.1 hb with rfl | hb
        · rcases step_cases hs with ⟨h1, _⟩ | ⟨h1, h2, _⟩ <;> omega
        · exact ih v w' h b hb
  rcases h with ⟨_, rfl | ⟨w, hw, hp⟩⟩
  · intro b hb; cases hb
  · exact key l 0 w hw
/-- The lines of a folded field behind its colon. -/
def foldGo : Bool → Nat → List (List UInt8) → List UInt8
  | _, _, [] => []
  | first, width, x :: r => if first = false ∧ 78 < width + 1 + x.length then [13, 10, 32] ++ x ++ foldGo false (1 + x.length) r else [32] ++ x ++ foldGo false (width + 1 + x.length) r
/-- A folded field. -/
def foldL (name value : List UInt8) : List UInt8 := name ++ [58] ++ foldGo true (name.length + 1) (cutGo [] value) ++ [13, 10]
theorem foldGo_yes {width : Nat} {x : List UInt8} (r : List (List UInt8)) (h : 78 < width + 1 + x.length) : foldGo false width (x :: r) = [13, 10, 32] ++ x ++ foldGo false (1 + x.length) r := by
  rw [foldGo, if_pos ⟨rfl, h⟩]
theorem foldGo_no {first : Bool} {width : Nat} {x : List UInt8} (r : List (List UInt8)) (h : first = true ∨ width + 1 + x.length ≤ 78) : foldGo first width (x :: r) = [32] ++ x ++ foldGo false (width + 1 + x.length) r := by
  rw [foldGo, if_neg]
  rintro ⟨h1, h2⟩
  rcases h with h | h
  · rw [h] at h1; cases h1
  · omega
/-- All parts of a text together are no longer than it. -/
theorem cutGo_len : ∀ (l cur : List UInt8), ((cutGo cur l).map List.length).sum + (cutGo cur l).length = cur.length + l.length + 1
  | [], cur => by simp [cutGo]
  | b :: l, cur => by
    rw [cutGo]
    split
    · have := cutGo_len l []
      simp at this ⊢
      omega
    · have := cutGo_len l (cur ++ [b])
      simp at this ⊢
      omega
theorem cutGo_mem : ∀ (l cur x : List UInt8), x ∈ cutGo cur l → x.length ≤ cur.length + l.length
  | [], cur, x, h => by simp [cutGo] at h; subst h; simp
  | b :: l, cur, x, h => by
    rw [cutGo] at h
    split at h
    · rcases List.mem_cons.1 h with rfl | h
      · simp
      · have := cutGo_mem l [] x h
        simp at this ⊢
        omega
    · have := cutGo_mem l (cur ++ [b]) x h
      simp at this ⊢
      omega
end Go.Proofs.YtadfdfmebdcfgaaGreatDoor.hd

namespace Go.Proofs.YtadfdfmebdcfgaaGreatDoor.uf
open Go
set_option linter.unusedVariables false

/-- A text without its ends of lines that a blank follows; none where a byte 13 stands elsewhere. -/
def unf : Bool → List UInt8 → Option (List UInt8)
  | _, [] => some []
  | true, _ :: r => unf false r
  | false, c :: r => if c = 13 then (if r.head? = some 10 ∧ r.tail.head? = some 32 then unf true r else none) else (unf false r).map (c :: ·)
def fw : List UInt8 := [13, 10, 32]
/-- Each end of line with the blank behind it, replaced by a blank. -/
def rep : Nat → List UInt8 → List UInt8
  | _, [] => []
  | n + 1, _ :: r => rep n r
  | 0, c :: r => if fw.isPrefixOf (c :: r) then 32 :: rep 2 r else c :: rep 0 r

theorem pre_iff {c : UInt8} {r : List UInt8} : fw.isPrefixOf (c :: r) = true ↔ c = 13 ∧ r.head? = some 10 ∧ r.tail.head? = some 32 := by
  unfold fw
  match r with
  | [] => simp
  | [a] => simp
  | a :: b :: q =>
    simp only [List.isPrefixOf, Bool.and_eq_true, beq_iff_eq, List.head?_cons, List.tail_cons, Option.some.injEq, and_true]
    exact ⟨fun h => ⟨h.1.symm, h.2.1.symm, h.2.2.symm⟩, fun h => ⟨h.1.symm, h.2.1.symm, h.2.2.symm⟩⟩
theorem rep_fw (r : List UInt8) : rep 0 (13 :: 10 :: 32 :: r) = 32 :: rep 0 r := by
  rw [rep, if_pos (by simp [fw])]
  rfl
theorem unf_fw (r : List UInt8) : unf false (13 :: 10 :: 32 :: r) = (unf false r).map (32 :: ·) := by
  rw [unf, if_pos rfl, if_pos (by simp), unf, unf, if_neg (by decide)]
theorem shape {c : UInt8} {r : List UInt8} (h : fw.isPrefixOf (c :: r) = true) : ∃ q, c :: r = 13 :: 10 :: 32 :: q := by
  obtain ⟨rfl, h1, h2⟩ := pre_iff.1 h
  match r, h1, h2 with
  | a :: b :: q, h1, h2 =>
    cases h1
    cases h2
    exact ⟨q, rfl⟩
  | [a], h1, h2 => simp at h2
/-- What is replaced is what is unfolded; where nothing can be unfolded a byte 13 stays. -/
theorem unf_rep : ∀ (n : Nat) (x : List UInt8), x.length ≤ n → (∀ v, unf false x = some v → rep 0 x = v) ∧ (unf false x = none → 13 ∈ rep 0 x)
  | 0, x, h => by
    obtain rfl : x = [] := List.eq_nil_of_length_eq_zero (by omega)
    exact ⟨fun v h => (by cases h; rfl), fun h => (by cases h)⟩
  | n + 1, [], h => ⟨fun v h => (by cases h; rfl), fun h => (by cases h)⟩
  | n + 1, c :: r, h => by
    by_cases hp : fw.isPrefixOf (c :: r) = true
    · obtain ⟨q, hq⟩ := shape hp
      rw [hq] at h ⊢
      have ih := unf_rep n q (by simp at h; omega)
      rw [unf_fw, rep_fw]
      constructor
      · intro v hv
        cases hu : unf false q with
        | none => rw [hu] at hv; cases hv
        | some u => rw [hu] at hv; cases hv; rw [ih.1 u hu]
      · intro hv
        cases hu : unf false q with
        | none => exact List.mem_cons_of_mem _ (ih.2 hu)
        | some u => rw [hu] at hv; cases hv
    · have ih := unf_rep n r (by simp at h; omega)
      rw [rep, if_neg hp, unf]
      by_cases hc : c = 13
      · rw [if_pos hc, if_neg (fun x => hp (pre_iff.2 ⟨hc, x⟩))]
        exact ⟨fun v h => (by cases h), fun _ => (by rw [hc]; exact List.mem_cons_self)⟩
      · rw [if_neg hc]
        constructor
        · intro v hv
          cases hu : unf false r with
          | none => rw [hu] at hv; cases hv
          | some u => rw [hu] at hv; cases hv; rw [ih.1 u hu]
        · intro hv
          cases hu : unf false r with
          | none => exact List.mem_cons_of_mem _ (ih.2 hu)
          | some u => rw [hu] at hv; cases hv
theorem rep_hit : ∀ (x : List UInt8) (i : Nat), Lib.index x fw = i → rep 0 x = x.take i ++ [32] ++ rep 0 (x.drop (i + 3))
  | [], i, h => by simp [Lib.index, fw] at h
  | c :: r, i, h => by
    rw [Lib.index] at h
    by_cases hp : fw.isPrefixOf (c :: r) = true
    · rw [if_pos hp] at h
      obtain rfl : i = 0 := by omega
      obtain ⟨q, hq⟩ := shape hp
      rw [hq, rep_fw]
      rfl
    · rw [if_neg hp] at h
      have hge := Lib.index_ge r fw
      by_cases h1 : Lib.index r fw = -1
      · rw [if_pos (by rw [h1]; rfl)] at h
        omega
      · rw [if_neg (by simpa using h1)] at h
        obtain ⟨j, rfl⟩ : ∃ j, i = j + 1 := ⟨i - 1, by omega⟩
        rw [rep, if_neg hp, rep_hit r j (by omega)]
        simp [Nat.add_right_comm j 1 3]
theorem rep_miss : ∀ (x : List UInt8), Lib.index x fw = -1 → rep 0 x = x
  | [], h => rfl
  | c :: r, h => by
    rw [Lib.index] at h
    by_cases hp : fw.isPrefixOf (c :: r) = true
    · rw [if_pos hp] at h
      cases h
    · rw [if_neg hp] at h
      by_cases h1 : Lib.index r fw = -1
      · rw [rep, if_neg hp, rep_miss r h1]
      · rw [if_neg (by simpa using h1)] at h
        have := Lib.index_ge r fw
        omega
theorem repK : ∀ (n : Nat) (x : List UInt8), x.length ≤ n → Lib.replaceK fw [32] (Lib.count x fw) x = rep 0 x
  | n, x, hn => by
    by_cases h : Lib.index x fw = -1
    · rw [Lib.count_miss h, rep_miss x h]
      rfl
    · obtain ⟨i, hi⟩ : ∃ i : Nat, Lib.index x fw = i := ⟨(Lib.index x fw).toNat, by have := Lib.index_ge x fw; omega⟩
      have hr := Lib.index_room x fw (by rw [hi]; omega)
      rw [hi] at hr
      match n with
      | 0 => simp [fw] at hr; omega
      | n + 1 =>
        have hc := Lib.count_hit (s := x) (sub := fw) (i := i) (by simp [fw]) hi
        rw [hc, Nat.add_comm, Lib.replaceK_hit _ _ _ _ i hi, rep_hit x i hi]
        rw [show fw.length = 3 from rfl, repK n (x.drop (i + 3)) (by rw [List.length_drop]; simp [fw] at hr; omega)]
theorem replaceAll_rep (x : List UInt8) : Lib.replaceAll x fw [32] = rep 0 x := by
  unfold Lib.replaceAll Lib.replace Lib.replaceNum
  rw [if_neg (by simp [fw]), if_pos (.inl (by decide))]
  exact repK x.length x (Nat.le_refl _)
theorem safe_no13 {l : List UInt8} (h : 13 ∈ l) : ¬ hd.Safe l := fun x => by have := hd.ascii x 13 h; simp at this
/-- The program's value is safe just if the text can be unfolded to a safe one. -/
theorem value_iff (x : List UInt8) : hd.Safe (Lib.replaceAll x fw [32]) ↔ ∃ v, unf false x = some v ∧ hd.Safe v := by
  rw [replaceAll_rep]
  have h := unf_rep x.length x (Nat.le_refl _)
  cases hu : unf false x with
  | none => exact ⟨fun hs => absurd hs (safe_no13 (h.2 hu)), fun ⟨v, hv, _⟩ => by cases hv⟩
  | some v =>
    rw [h.1 v hu]
    exact ⟨fun hs => ⟨v, rfl, hs⟩, fun ⟨v', hv, hs⟩ => by cases hv; exact hs⟩
theorem value_eq {x v : List UInt8} (h : unf false x = some v) : Lib.replaceAll x fw [32] = v := by rw [replaceAll_rep]; exact (unf_rep x.length x (Nat.le_refl _)).1 v h

theorem rep_len : ∀ (n : Nat) (x : List UInt8), x.length ≤ n → (rep 0 x).length ≤ x.length
  | 0, x, h => by
    obtain rfl : x = [] := List.eq_nil_of_length_eq_zero (by omega)
    exact Nat.le_refl _
  | n + 1, [], h => Nat.le_refl _
  | n + 1, c :: r, h => by
    by_cases hp : fw.isPrefixOf (c :: r) = true
    · obtain ⟨q, hq⟩ := shape hp
      rw [hq] at h ⊢
      have ih := rep_len n q (by simp at h; omega)
      rw [rep_fw]
      simp
      omega
    · have ih := rep_len n r (by simp at h; omega)
      rw [rep, if_neg hp]
      simp
      omega
/-- A field's name and what is behind its colon and blank, without the end of its line. -/
def Parts (l nm x : List UInt8) : Prop := l = nm ++ (58 :: 32 :: (x ++ [13, 10])) ∧ 58 ∉ nm
theorem colon_one : ∀ (a a' b b' : List UInt8), 58 ∉ a → 58 ∉ a' → a ++ 58 :: b = a' ++ 58 :: b' → a = a' ∧ b = b'
  | [], [], b, b', _, _, h => by cases h; exact ⟨rfl, rfl⟩
  | [], y :: a', b, b', _, h2, h => by cases h; exact absurd (List.mem_cons_self) h2
  | y :: a, [], b, b', h1, _, h => by cases h; exact absurd (List.mem_cons_self) h1
  | y :: a, z :: a', b, b', h1, h2, h => by
    simp only [List.cons_append, List.cons.injEq] at h
    have := colon_one a a' b b' (fun m => h1 (List.mem_cons_of_mem _ m)) (fun m => h2 (List.mem_cons_of_mem _ m)) h.2
    exact ⟨by rw [h.1, this.1], this.2⟩
theorem parts_one {l nm x nm' x' : List UInt8} (h : Parts l nm x) (h' : Parts l nm' x') : nm = nm' ∧ x = x' := by
  have h1 := colon_one _ _ _ _ h.2 h'.2 (h.1.symm.trans h'.1)
  refine ⟨h1.1, ?_⟩
  have h2 : x ++ [13, 10] = x' ++ [13, 10] := (List.cons.inj h1.2).2
  exact List.append_cancel_right h2
/-- A text is a field of this name and value. -/
def Field (IsName : ByteArray → Prop) (l nm v : List UInt8) : Prop := ∃ x, Parts l nm x ∧ IsName ⟨nm.toArray⟩ ∧ unf false x = some v ∧ hd.Safe v
theorem field_one {P : ByteArray → Prop} {l nm v nm' v' : List UInt8} (h : Field P l nm v) (h' : Field P l nm' v') : nm = nm' ∧ v = v' := by
  obtain ⟨x, hx, _, hu, _⟩ := h
  obtain ⟨x', hx', _, hu', _⟩ := h'
  obtain ⟨rfl, rfl⟩ := parts_one hx hx'
  rw [hu] at hu'
  cases hu'
  exact ⟨rfl, rfl⟩
end Go.Proofs.YtadfdfmebdcfgaaGreatDoor.uf

namespace Go.Proofs.YtadfdfmebdcfgaaGreatDoor.sv
open Go.RowKit
set_option linter.unusedVariables false

def Says (p : Prop) (e : Ending) : Prop := ∃ b : Bool, e = .returned (.bool b) ∧ (b = true ↔ p)
theorem says_no {p : Prop} (h : ¬ p) : Says p (.returned (.bool false)) := ⟨false, rfl, fun x => (by cases x), fun x => absurd x h⟩
theorem says_yes {p : Prop} (h : p) : Says p (.returned (.bool true)) := ⟨true, rfl, fun _ => h, fun _ => rfl⟩
theorem says_true {p : Prop} {e : Ending} (h : Says p e) (hp : p) : e = .returned (.bool true) := by
  obtain ⟨b, rfl, hb⟩ := h
  rw [hb.2 hp]
theorem says_false {p : Prop} {e : Ending} (h : Says p e) (hp : ¬ p) : e = .returned (.bool false) := by
  obtain ⟨b, rfl, hb⟩ := h
  cases b
  · rfl
  · exact absurd (hb.1 rfl) hp

set_option maxHeartbeats 1000000 in
set_option maxRecDepth 100000 in
theorem impl_any (s : ByteArray) (w : World) (hs : s.size ≤ maxLen) :
    Calls Tryz.prog 103 #[.string s] w fun e w' => Says (hd.Safe s.data.toList) e ∧ w' = w := by
  unfold maxLen at hs
  by_cases h4 : 2000 < s.size
  · have h4' : (2000 : Int) < (s.size : Int) := by omega
    go_enter Tryz.func103, Tryz.ntmps103
    go_wp2
    go_ret
    exact ⟨says_no (hd.big h4), rfl⟩
  have h4' : (s.size : Int) ≤ 2000 := by omega
  have hz : (s.toList == []) = decide (s.size = 0) := by
    rw [Bool.eq_iff_iff, beq_iff_eq, decide_eq_true_iff]
    constructor
    · intro h; have := Lib.size_eq s; rw [← Lib.toList_data, h] at this; exact this
    · intro h; have := Lib.size_eq s; rw [h] at this; rw [Lib.toList_data]; exact List.eq_nil_of_length_eq_zero this.symm
  have HZ : Hid ((s.toList == []) = decide (s.size = 0)) := hz
  clear hz
  go_enter Tryz.func103, Tryz.ntmps103
  go_wp2
  go_loop [3, 11] (fun t i => ∃ k wd : Nat, k ≤ s.size ∧ i = .int .i64 k ∧ t = .int .i64 wd ∧ hd.wid (s.data.toList.take k) = some wd) (fun _ i => s.size - (intOf i).toNat)
  case atStart => exact ⟨0, 0, Nat.zero_le _, rfl, rfl, rfl⟩
  case round =>
    obtain ⟨k, wd, hk, rfl, rfl, hg⟩ := hrel
    have hw := hd.width_le hg
    have hw' : (wd : Int) ≤ 200 := by omega
    have HG : Hid (hd.wid (s.data.toList.take k) = some wd) := hg
    clear hg
    by_cases hlt : k < s.size
    · have HN : Hid (∀ o, hd.step (some wd) (s[k]'hlt) = o → hd.wid (s.data.toList.take (k + 1)) = o) := fun o ho => by rw [hd.wid_at s k hlt, HG.out]; exact ho
      by_cases c1 : ((s[k]'hlt).toNat : Int) < 32
      · go_wp2
        go_ret
        exact ⟨says_no (hd.bad_at hlt HG.out (hd.st_bad (.inl c1))), rfl⟩
      have d1 : decide (((s[k]'hlt).toNat : Int) < 32) = false := decide_eq_false c1
      by_cases c2 : 126 < ((s[k]'hlt).toNat : Int)
      · go_wp2
        go_ret
        exact ⟨says_no (hd.bad_at hlt HG.out (hd.st_bad (.inr c2))), rfl⟩
      have d2 : decide (126 < ((s[k]'hlt).toNat : Int)) = false := decide_eq_false c2
      by_cases c3 : ((s[k]'hlt).toNat : Int) = 32
      · have d3 : (((s[k]'hlt).toNat : Int) != 32) = false := by rw [bne_eq_false_iff_eq]; exact c3
        have HC : Hid (((s[k]'hlt).toNat : Int) = 32) := c3
        clear c3 c1 c2
        by_cases c4 : wd = 0
        · have d4 : ((wd : Int) == 0) = true := beq_iff_eq.2 (by omega)
          have H4 : Hid (wd = 0) := c4
          clear c4
          go_wp2
          go_ret
          exact ⟨says_no (hd.bad_at hlt HG.out (by rw [H4.out]; exact hd.st_sp0 HC.out)), rfl⟩
        · have d4 : ((wd : Int) == 0) = false := beq_eq_false_iff_ne.2 (by omega)
          go_wp2
          go_round
          case rel => exact ⟨k + 1, 0, by omega, by go_num, rfl, HN.out _ (hd.st_sp HC.out c4)⟩
          case measure => simp [intOf]; omega
      · have d3 : (((s[k]'hlt).toNat : Int) != 32) = true := by rw [bne_iff_ne]; exact c3
        by_cases c4 : 200 ≤ wd
        · have d4 : (200 : Int) < (wd : Int) + 1 := by omega
          go_wp2
          go_ret
          exact ⟨says_no (hd.bad_at hlt HG.out (hd.st_long c3 c4)), rfl⟩
        · have d4 : (wd : Int) + 1 ≤ 200 := by omega
          go_wp2
          go_round
          case rel => exact ⟨k + 1, wd + 1, by omega, by go_num, by go_num, HN.out _ (hd.st_ch (by omega) (by omega) c3 (by omega))⟩
          case measure => simp [intOf]; omega
    · have HA : Hid (hd.wid s.data.toList = some wd) := by have := HG.out; rw [hd.take_all s k (by omega)] at this; exact this
      by_cases c0 : s.size = 0
      · have e0 : (s.toList == []) = true := by rw [HZ.out]; exact decide_eq_true c0
        go_wp2
        go_ret
        exact ⟨says_yes (hd.good (by omega) HA.out (.inl c0)), rfl⟩
      · have e0 : (s.toList == []) = false := by rw [HZ.out]; exact decide_eq_false c0
        by_cases c4 : wd = 0
        · have d4 : decide (0 < wd) = false := decide_eq_false (by omega)
          have H4 : Hid (wd = 0) := c4
          clear c4
          go_wp2
          go_ret
          exact ⟨says_no (hd.endBad c0 (by have := HA.out; rw [H4.out] at this; exact this)), rfl⟩
        · have d4 : decide (0 < wd) = true := decide_eq_true (by omega)
          go_wp2
          go_ret
          exact ⟨says_yes (hd.good (by omega) HA.out (.inr (by omega))), rfl⟩

def inB (n a b : Int) : Bool := decide (a ≤ n ∧ n ≤ b)
set_option maxHeartbeats 400000 in
theorem in_any (n a b : Int) (w : World) : Calls Tryz.prog 55 #[.int .i64 n, .int .i64 a, .int .i64 b] w fun e w' => e = .returned (.bool (inB n a b)) ∧ w' = w := by
  by_cases h : a ≤ n
  · go_enter Tryz.func55, Tryz.ntmps55
    go_wp2
    all_goals (go_ret; exact ⟨by simp [inB, h], rfl⟩)
  · have h' : decide (a ≤ n) = false := decide_eq_false h
    go_enter Tryz.func55, Tryz.ntmps55
    go_wp2
    all_goals (go_ret; exact ⟨by rw [show inB n a b = false from decide_eq_false (by omega)]; rfl, rfl⟩)
theorem in_yes {n a b : Int} (h : a ≤ n) (h' : n ≤ b) : inB n a b = true := decide_eq_true ⟨h, h'⟩
theorem in_no {n a b : Int} (h : n < a ∨ b < n) : inB n a b = false := decide_eq_false (by omega)

set_option maxHeartbeats 1000000 in
set_option maxRecDepth 100000 in
theorem spec_any (s : ByteArray) (w : World) (hs : s.size ≤ maxLen) :
    Calls Tryz.prog 157 #[.string s] w fun e w' => Says (hd.Safe s.data.toList) e ∧ w' = w := by
  unfold maxLen at hs
  by_cases h9 : 65536 < s.size
  · have b9 : (65536 : Int) < (s.size : Int) := by omega
    go_enter Tryz.func157, Tryz.ntmps157
    go_wp2
    go_ret
    exact ⟨says_no (hd.big (by omega)), rfl⟩
  have b9 : (s.size : Int) ≤ 65536 := by omega
  by_cases h4 : 2000 < s.size
  · have h4' : (2000 : Int) < (s.size : Int) := by omega
    go_enter Tryz.func157, Tryz.ntmps157
    go_wp2
    go_ret
    exact ⟨says_no (hd.big h4), rfl⟩
  have h4' : (s.size : Int) ≤ 2000 := by omega
  go_enter Tryz.func157, Tryz.ntmps157
  go_wp2
  go_loop [3, 4] (fun t i => ∃ k wd : Nat, k ≤ s.size ∧ i = .int .i64 k ∧ t = .int .i64 wd ∧ hd.wid (s.data.toList.take k) = some wd ∧ (wd = 0 → k = 0 ∨ k < s.size)) (fun _ i => s.size - (intOf i).toNat)
  case atStart => exact ⟨0, 0, Nat.zero_le _, rfl, rfl, rfl, fun _ => .inl rfl⟩
  case round =>
    obtain ⟨k, wd, hk, rfl, rfl, hg, hq⟩ := hrel
    have hw := hd.width_le hg
    have hw' : (wd : Int) ≤ 200 := by omega
    have HG : Hid (hd.wid (s.data.toList.take k) = some wd) := hg
    have HQ : Hid (wd = 0 → k = 0 ∨ k < s.size) := hq
    clear hg hq
    by_cases hlt : k < s.size
    · have u : ((s[k]'hlt).toNat : Int) ≤ 255 := by have := (s[k]'hlt).toNat_lt; omega
      have HN : Hid (∀ o, hd.step (some wd) (s[k]'hlt) = o → hd.wid (s.data.toList.take (k + 1)) = o) := fun o ho => by rw [hd.wid_at s k hlt, HG.out]; exact ho
      by_cases c1 : ((s[k]'hlt).toNat : Int) < 32 ∨ 126 < ((s[k]'hlt).toNat : Int)
      · have b2 : inB ((s[k]'hlt).toNat : Int) 32 126 = false := in_no c1
        have HC : Hid (((s[k]'hlt).toNat : Int) < 32 ∨ 126 < ((s[k]'hlt).toNat : Int)) := c1
        clear c1
        go_wp2_with (go_at_call 55; refine (in_any _ _ _ _).mono ?_; rintro e w' ⟨rfl, rfl⟩)
        go_ret
        exact ⟨says_no (hd.bad_at hlt HG.out (hd.st_bad HC.out)), rfl⟩
      have b2 : inB ((s[k]'hlt).toNat : Int) 32 126 = true := in_yes (by omega) (by omega)
      have c1' : 32 ≤ ((s[k]'hlt).toNat : Int) := by omega
      have c2' : ((s[k]'hlt).toNat : Int) ≤ 126 := by omega
      clear c1
      by_cases c3 : ((s[k]'hlt).toNat : Int) = 32
      · have d3 : (((s[k]'hlt).toNat : Int) != 32) = false := by rw [bne_eq_false_iff_eq]; exact c3
        have HC : Hid (((s[k]'hlt).toNat : Int) = 32) := c3
        clear c3 c1' c2'
        by_cases c4 : wd = 0
        · have d4 : ((wd : Int) == 0) = true := beq_iff_eq.2 (by omega)
          have H4 : Hid (wd = 0) := c4
          clear c4
          go_wp2_with (go_at_call 55; refine (in_any _ _ _ _).mono ?_; rintro e w' ⟨rfl, rfl⟩)
          go_ret
          exact ⟨says_no (hd.bad_at hlt HG.out (by rw [H4.out]; exact hd.st_sp0 HC.out)), rfl⟩
        · have d4 : ((wd : Int) == 0) = false := beq_eq_false_iff_ne.2 (by omega)
          by_cases c5 : k + 1 = s.size
          · have d5 : ((k : Int) + 1 == (s.size : Int)) = true := beq_iff_eq.2 (by omega)
            have H5 : Hid (k + 1 = s.size) := c5
            clear c5
            go_wp2_with (go_at_call 55; refine (in_any _ _ _ _).mono ?_; rintro e w' ⟨rfl, rfl⟩)
            go_ret
            exact ⟨says_no (hd.endBad (by omega) (by have := HN.out _ (hd.st_sp HC.out c4); rw [hd.take_all s (k + 1) (by have := H5.out; omega)] at this; exact this)), rfl⟩
          · have d5 : ((k : Int) + 1 == (s.size : Int)) = false := beq_eq_false_iff_ne.2 (by omega)
            go_wp2_with (go_at_call 55; refine (in_any _ _ _ _).mono ?_; rintro e w' ⟨rfl, rfl⟩)
            go_round
            case rel => exact ⟨k + 1, 0, by omega, by go_num, rfl, HN.out _ (hd.st_sp HC.out c4), fun _ => .inr (by omega)⟩
            case measure => simp [intOf]; omega
      · have d3 : (((s[k]'hlt).toNat : Int) != 32) = true := by rw [bne_iff_ne]; exact c3
        by_cases c4 : 200 ≤ wd
        · have d4 : (200 : Int) < (wd : Int) + 1 := by omega
          go_wp2_with (go_at_call 55; refine (in_any _ _ _ _).mono ?_; rintro e w' ⟨rfl, rfl⟩)
          go_ret
          exact ⟨says_no (hd.bad_at hlt HG.out (hd.st_long c3 c4)), rfl⟩
        · have d4 : (wd : Int) + 1 ≤ 200 := by omega
          go_wp2_with (go_at_call 55; refine (in_any _ _ _ _).mono ?_; rintro e w' ⟨rfl, rfl⟩)
          go_round
          case rel => exact ⟨k + 1, wd + 1, by omega, by go_num, by go_num, HN.out _ (hd.st_ch (by omega) (by omega) c3 (by omega)), fun h => by omega⟩
          case measure => simp [intOf]; omega
    · have HA : Hid (hd.wid s.data.toList = some wd) := by have := HG.out; rw [hd.take_all s k (by omega)] at this; exact this
      go_wp2
      go_ret
      exact ⟨says_yes (hd.good (by omega) HA.out (by have := HQ.out; omega)), rfl⟩
end Go.Proofs.YtadfdfmebdcfgaaGreatDoor.sv
