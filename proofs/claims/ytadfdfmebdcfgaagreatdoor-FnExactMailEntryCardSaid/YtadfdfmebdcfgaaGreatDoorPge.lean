/-
  Contracts of the program's and of the specification's reading of one word: whether it is an encoded one, and what it says.
  The contract of the specification's reading of one word.
  Contracts of both SafeValue functions: whether a text is safe as a field's value.
  Contracts of both DecodeWords functions: what the words of a safe value say.
  The contract of the program's DecodeWords, and the specification's.
  The contract of the program's (header).plain: what a field's value says.
  The contract of impl.RuneSize: how many bytes a rune has, 0 of no rune.
  Contracts of both HeaderNameOK functions: whether a text is a field's name.
-/
import Derived.Test.YtadfdfmebdcfgaaGreatDoorPgb
import Derived.Test.YtadfdfmebdcfgaaGreatDoorPgd
import Derived.Test.YtadfdfmebdcfgaaGreatDoorShf
import Derived.Deep.QuietTactic
import Derived.BigQuiet
import Derived.BigRegion
import Derived.Test.YtadfdfmebdcfgaaGreatDoorHdf
import Derived.Test.YtadfdfmebdcfgaaGreatDoorRows
import Derived.WalkKit
import Derived.WalkLawsBesides
import Derived.Test.YtadfdfmebdcfgaaGreatDoorCtl
import Derived.Test.YtadfdfmebdcfgaaGreatDoorPga
import Derived.Test.YtadfdfmebdcfgaaGreatDoorUtw

namespace Go.Proofs.YtadfdfmebdcfgaaGreatDoor.hd
open Go.RowKit
set_option linter.unusedVariables false

def hB : ByteArray := ⟨#[61, 63, 117, 116, 102, 45, 56, 63, 66, 63]⟩
def tB : ByteArray := ⟨#[63, 61]⟩
theorem hB_list : (⟨#[61, 63, 117, 116, 102, 45, 56, 63, 66, 63]⟩ : ByteArray).data.toList = head := rfl
theorem tB_list : (⟨#[63, 61]⟩ : ByteArray).data.toList = tail := rfl
theorem bytes_self (s : ByteArray) : s = ⟨s.data.toList.toArray⟩ := by
  apply ByteArray.ext
  simp
/-- What is between the ends of a word. -/
def mid (l : List UInt8) : List UInt8 := (l.drop 10).take ((l.drop 10).length - 2)
theorem mid_len (l : List UInt8) : (mid l).length ≤ l.length := by
  unfold mid
  rw [List.length_take, List.length_drop]
  omega
theorem not_pre {l : List UInt8} (h : Lib.hasPrefix l head = false) : ∀ y, ¬ Coded l y := fun y x => by have := x.1; rw [h] at this; cases this
theorem not_suf {l : List UInt8} (h : Lib.hasSuffix (l.drop 10) tail = false) : ∀ y, ¬ Coded l y := fun y x => by have := x.2.1; rw [h] at this; cases this
theorem not_dec {l : List UInt8} (h : b6.dec (mid l) = none) : ∀ y, ¬ Coded l y := fun y x => by have := x.2.2.1; rw [show (l.drop 10).take ((l.drop 10).length - 2) = mid l from rfl, h] at this; cases this
theorem not_val {l p : List UInt8} (h : b6.dec (mid l) = some p) (hp : p = [] ∨ ¬ ut.Right ⟨p.toArray⟩) : ∀ y, ¬ Coded l y := fun y x => by
  have h1 : b6.dec (mid l) = some y := x.2.2.1
  rw [h] at h1
  cases h1
  rcases hp with hp | hp
  · exact x.2.2.2.1 hp
  · exact hp x.2.2.2.2
theorem is_coded {l p : List UInt8} (h1 : Lib.hasPrefix l head = true) (h2 : Lib.hasSuffix (l.drop 10) tail = true) (h : b6.dec (mid l) = some p) (hp : p ≠ []) (hr : ut.Right ⟨p.toArray⟩) : Coded l p := ⟨h1, h2, h, hp, hr⟩

/-- What the program says of a word. -/
def WordIs (x y : List UInt8) (b : Bool) : Prop := (b = true ∧ Coded x y) ∨ (b = false ∧ y = x ∧ ∀ z, ¬ Coded x z)

set_option maxHeartbeats 2000000 in
set_option maxRecDepth 100000 in
theorem implWord_any (s : ByteArray) (w : World) (hT : tb.TV w) (hs : s.size ≤ 2000) :
    Calls Tryz.prog 172 #[.string s] w fun e w' => (∃ (y : List UInt8) (b : Bool), e = .returned (.tuple #[.string ⟨y.toArray⟩, .bool b]) ∧ WordIs s.data.toList y b) ∧ Below w.heap.size w w' := by
  go_enter Tryz.func172, Tryz.ntmps172
  go_wp2_with fail
  refine (Tryz.strings_CutPrefix s _ _).mono ?_
  rintro e w' ⟨rfl, rfl⟩
  rw [hB_list]
  cases hp : Lib.hasPrefix s.data.toList head with
  | false =>
    have HP : Hid (Lib.hasPrefix s.data.toList head = false) := hp
    rw [show Lib.trimPrefix s.data.toList head = s.data.toList from by unfold Lib.trimPrefix; rw [hp]; rfl]
    rw [← bytes_self s]
    clear hp
    go_wp2_with fail
    refine (Tryz.strings_CutSuffix s _ _ (by omega)).mono ?_
    rintro e w2 ⟨rfl, rfl⟩
    go_wp2
    go_ret2
    exact ⟨⟨s.data.toList, false, by rw [← bytes_self s]; rfl, .inr ⟨rfl, rfl, not_pre HP.out⟩⟩, Below.refl _ _⟩
  | true =>
    have HP : Hid (Lib.hasPrefix s.data.toList head = true) := hp
    rw [show Lib.trimPrefix s.data.toList head = s.data.toList.drop 10 from by unfold Lib.trimPrefix; rw [hp]; rfl]
    clear hp
    obtain ⟨c, hc⟩ : ∃ c : ByteArray, c = ⟨(s.data.toList.drop 10).toArray⟩ := ⟨_, rfl⟩
    have hcl : c.data.toList = s.data.toList.drop 10 := by rw [hc]
    have hcs : c.size ≤ 2000 := by rw [Lib.size_eq, hcl, List.length_drop, ← Lib.size_eq]; omega
    rw [← hc]
    have HC : Hid (c.data.toList = s.data.toList.drop 10) := hcl
    clear hc hcl
    go_wp2_with fail
    refine (Tryz.strings_CutSuffix c _ _ (by omega)).mono ?_
    rintro e w2 ⟨rfl, rfl⟩
    rw [tB_list]
    cases hp : Lib.hasSuffix c.data.toList tail with
    | false =>
      have HP2 : Hid (Lib.hasSuffix (s.data.toList.drop 10) tail = false) := by have h := hp; rw [HC.out] at h; exact h
      clear hp
      generalize (⟨(Lib.trimSuffix c.data.toList tail).toArray⟩ : ByteArray) = d
      go_wp2
      go_ret2
      exact ⟨⟨s.data.toList, false, by rw [← bytes_self s]; rfl, .inr ⟨rfl, rfl, not_suf HP2.out⟩⟩, Below.refl _ _⟩
    | true =>
      have HP2 : Hid (Lib.hasSuffix (s.data.toList.drop 10) tail = true) := by have h := hp; rw [HC.out] at h; exact h
      obtain ⟨d, hd⟩ : ∃ d : ByteArray, d = ⟨(mid s.data.toList).toArray⟩ := ⟨_, rfl⟩
      rw [show (⟨(Lib.trimSuffix c.data.toList tail).toArray⟩ : ByteArray) = d from by unfold Lib.trimSuffix; rw [hp, hd, HC.out]; rfl]
      have hdl : d.data.toList = mid s.data.toList := by rw [hd]
      have hds : d.size ≤ 2000 := by rw [Lib.size_eq, hdl]; have := mid_len s.data.toList; rw [← Lib.size_eq] at this; omega
      have HD : Hid (d.data.toList = mid s.data.toList) := hdl
      clear hp hd hdl
      go_wp2_with fail
      refine (b6.implGet_any d _ hT (by unfold maxLen; omega)).mono ?_
      rintro e w3 ⟨⟨v, rfl, own⟩, hb3⟩
      clear hT
      cases hdec : b6.dec (mid s.data.toList) with
      | none =>
        have hrc : b6.rc d = 3 := by unfold b6.rc; rw [if_pos (by omega), HD.out, hdec]; rfl
        have HN : Hid (b6.dec (mid s.data.toList) = none) := hdec
        rw [hrc]
        clear hdec hrc own
        go_wp2
        go_ret2
        exact ⟨⟨s.data.toList, false, by rw [← bytes_self s]; rfl, .inr ⟨rfl, rfl, not_dec HN.out⟩⟩, hb3⟩
      | some p =>
        have hrc : b6.rc d = 0 := by unfold b6.rc; rw [if_pos (by omega), HD.out, hdec]; rfl
        have hrl : b6.rl d = p := by unfold b6.rl; rw [if_pos (by omega), HD.out, hdec]; rfl
        have HN : Hid (b6.dec (mid s.data.toList) = some p) := hdec
        have hpl := b6.rl_len d
        rw [hrl] at own hpl
        rw [hrc]
        have cv := ow.conv_bytes (P := Tryz.prog) (src := 22) (dst := 9) p own Tryz.underlying22 Tryz.underlying5 Tryz.underlying9
        obtain ⟨ao, cap, rfl⟩ : ∃ ao cap, v = .slice ao p.length cap := by
          rcases own.2 with ⟨hv, h0⟩ | ⟨g, cap, cur, hv, _⟩
          · exact ⟨none, 0, by rw [hv, h0]⟩
          · exact ⟨_, cap, hv⟩
        clear hdec hrc hrl
        by_cases hp0 : p.length = 0
        · have d0 : ((p.length : Int) == 0) = true := beq_iff_eq.2 (by omega)
          clear cv own
          go_wp2
          go_ret2
          exact ⟨⟨s.data.toList, false, by rw [← bytes_self s]; rfl, .inr ⟨rfl, rfl, not_val HN.out (.inl (List.eq_nil_of_length_eq_zero hp0))⟩⟩, hb3⟩
        have d0 : ((p.length : Int) == 0) = false := beq_eq_false_iff_ne.2 (by omega)
        obtain ⟨P, hP⟩ : ∃ P : ByteArray, P = ⟨p.toArray⟩ := ⟨_, rfl⟩
        rw [← hP] at cv
        have hPs : P.size ≤ 65536 := by rw [hP, Lib.size_eq]; exact hpl
        have HPP : Hid (P = ⟨p.toArray⟩) := hP
        clear hP
        go_wp2_with fail
        refine (ut.isRight_any P _ (by omega)).mono ?_
        rintro e w4 ⟨hsays, q, hw4⟩
        have hb4 : Below w3.heap.size w3 w4 := by rw [hw4]; exact (Below.refl _ _).alloc (Nat.le_refl _) _
        have cv4 := ow.conv_bytes (P := Tryz.prog) (src := 22) (dst := 9) p (ow.own_below own hb4) Tryz.underlying22 Tryz.underlying5 Tryz.underlying9
        rw [← HPP.out] at cv4
        have hb5 := hb3.trans (hb4.mono hb3.size)
        clear hw4 cv own
        by_cases hr : ut.Right P
        · obtain ⟨b, rfl⟩ := ut.says_ex hsays
          obtain rfl : b = true := (ut.says_iff hsays).2 hr
          have HR : Hid (ut.Right P) := hr
          clear hsays hr
          go_wp2
          go_ret2
          exact ⟨⟨p, true, by rw [← HPP.out]; rfl, .inl ⟨rfl, is_coded HP.out HP2.out HN.out (fun e => hp0 (by rw [e]; rfl)) (by rw [← HPP.out]; exact HR.out)⟩⟩, hb5⟩
        · obtain ⟨b, rfl⟩ := ut.says_ex hsays
          obtain rfl : b = false := by
            cases b
            · rfl
            · exact absurd ((ut.says_iff hsays).1 rfl) hr
          have HR : Hid (¬ ut.Right P) := hr
          clear hsays hr cv4
          go_wp2
          go_ret2
          exact ⟨⟨s.data.toList, false, by rw [← bytes_self s]; rfl, .inr ⟨rfl, rfl, not_val HN.out (.inr (by rw [← HPP.out]; exact HR.out))⟩⟩, hb5⟩
end Go.Proofs.YtadfdfmebdcfgaaGreatDoor.hd

namespace Go.Proofs.YtadfdfmebdcfgaaGreatDoor.hd
open Go.RowKit
set_option linter.unusedVariables false

theorem has_pre (l : List UInt8) (h : 10 ≤ l.length) : Lib.hasPrefix l head = (l.take 10 == head) := by
  unfold Lib.hasPrefix
  rw [Bool.eq_iff_iff, List.isPrefixOf_iff_prefix, List.prefix_iff_eq_take, beq_iff_eq]
  exact ⟨fun h => h.symm, fun h => h.symm⟩
theorem has_suf (l : List UInt8) (h : 2 ≤ l.length) : Lib.hasSuffix l tail = (l.drop (l.length - 2) == tail) := by
  unfold Lib.hasSuffix
  rw [Bool.eq_iff_iff, List.isSuffixOf_iff_suffix, List.suffix_iff_eq_drop, beq_iff_eq]
  exact ⟨fun h => h.symm, fun h => h.symm⟩
theorem pre_short {l : List UInt8} (h : l.length < 12) : ∀ y, ¬ Coded l y := fun y x => by
  have h1 := List.IsPrefix.length_le (List.isPrefixOf_iff_prefix.1 x.1)
  have h2 := List.IsSuffix.length_le (List.isSuffixOf_iff_suffix.1 x.2.1)
  simp [head, tail] at h1 h2
  omega

theorem bdrew {B : Nat} {a w : World} (h : Below B a w) (n : Nat) : Below B a (w.drewN n) := ⟨h.os, h.tape, h.output, h.size, h.block⟩
theorem ext_list (s : ByteArray) (a b : Nat) : (s.extract a b).data.toList = (s.data.toList.drop a).take (b - a) := by rw [← Lib.toList_data, Lib.extract_toList]
theorem pre_at (s : ByteArray) (h : 12 ≤ s.size) : ((s.extract 0 10).toList == [61, 63, 117, 116, 102, 45, 56, 63, 66, 63]) = Lib.hasPrefix s.data.toList head := by
  rw [has_pre _ (by rw [← Lib.size_eq]; omega), Lib.toList_data, ext_list]
  rfl
theorem suf_at (s : ByteArray) (h : 12 ≤ s.size) : ((s.extract (s.size - 2) s.size).toList == [63, 61]) = Lib.hasSuffix (s.data.toList.drop 10) tail := by
  have hl := Lib.size_eq s
  rw [has_suf _ (by rw [List.length_drop]; omega), Lib.toList_data, ext_list, List.length_drop, List.drop_drop]
  rw [show 10 + (s.data.toList.length - 10 - 2) = s.size - 2 from by omega, List.take_of_length_le (by rw [List.length_drop]; omega)]
  rfl
theorem mid_at (s : ByteArray) (h : 12 ≤ s.size) : (s.extract 10 (s.size - 2)).data.toList = mid s.data.toList := by
  rw [ext_list]
  unfold mid
  rw [List.length_drop, ← Lib.size_eq]
  congr 1

set_option maxHeartbeats 2000000 in
set_option maxRecDepth 100000 in
theorem specWord_any (s : ByteArray) (w : World) (hs : s.size ≤ 2000) :
    Calls Tryz.prog 88 #[.string s] w fun e w' => (∃ (y : List UInt8) (b : Bool), e = .returned (.tuple #[.string ⟨y.toArray⟩, .bool b]) ∧ ((b = true ∧ Coded s.data.toList y) ∨ (b = false ∧ ∀ z, ¬ Coded s.data.toList z))) ∧ Below w.heap.size w w' := by
  by_cases hl : s.size < 12
  · have hl' : (s.size : Int) < 12 := by omega
    go_enter Tryz.func88, Tryz.ntmps88
    go_wp2
    go_ret2
    exact ⟨⟨[], false, rfl, .inr ⟨rfl, pre_short (by rw [← Lib.size_eq]; exact hl)⟩⟩, Below.refl _ _⟩
  have hl' : decide ((s.size : Int) < 12) = false := decide_eq_false (by omega)
  have c1 : (10 : Int) ≤ (s.size : Int) := by omega
  have c2 : (2 : Int) ≤ (s.size : Int) := by omega
  have hsl := ow.slice_str (P := Tryz.prog) 9 s .i64 .i64 10 (s.size - 2) Tryz.underlying9 (10 : Int) ((s.size : Int) - 2) rfl (by omega) (by omega) (by omega)
  have e1 := pre_at s (by omega)
  have e2 := suf_at s (by omega)
  have HM : Hid ((s.extract 10 (s.size - 2)).data.toList = mid s.data.toList) := mid_at s (by omega)
  have hdz : (s.extract 10 (s.size - 2)).size ≤ 2000 := by rw [ByteArray.size_extract]; omega
  cases hp : Lib.hasPrefix s.data.toList head with
  | false =>
    have HP : Hid (Lib.hasPrefix s.data.toList head = false) := hp
    rw [hp] at e1
    clear hp e2
    go_enter Tryz.func88, Tryz.ntmps88
    go_wp2
    go_ret2
    exact ⟨⟨[], false, rfl, .inr ⟨rfl, not_pre HP.out⟩⟩, Below.refl _ _⟩
  | true =>
    have HP : Hid (Lib.hasPrefix s.data.toList head = true) := hp
    rw [hp] at e1
    clear hp
    cases hp : Lib.hasSuffix (s.data.toList.drop 10) tail with
    | false =>
      have HP2 : Hid (Lib.hasSuffix (s.data.toList.drop 10) tail = false) := hp
      rw [hp] at e2
      clear hp
      go_enter Tryz.func88, Tryz.ntmps88
      go_wp2
      go_ret2
      exact ⟨⟨[], false, rfl, .inr ⟨rfl, not_suf HP2.out⟩⟩, Below.refl _ _⟩
    | true =>
      have HP2 : Hid (Lib.hasSuffix (s.data.toList.drop 10) tail = true) := hp
      rw [hp] at e2
      clear hp
      go_enter Tryz.func88, Tryz.ntmps88
      go_wp2_with fail
      refine (b6.specRead_any (s.extract 10 (s.size - 2)) _ (by omega)).mono ?_
      rintro e w3 ⟨⟨v, rfl, own⟩, hb3⟩
      rw [HM.out] at own ⊢
      clear e1 e2
      cases hdec : b6.dec (mid s.data.toList) with
      | none =>
        rw [hdec] at own
        have HN : Hid (b6.dec (mid s.data.toList) = none) := hdec
        have cv := ow.conv_bytes (P := Tryz.prog) (src := 22) (dst := 9) [] own Tryz.underlying22 Tryz.underlying5 Tryz.underlying9
        have HV : Hid (∀ n, (convert 22 9 v).run Tryz.prog (w3.drewN n) = .ok (.string ⟨#[]⟩) (w3.drewN n)) := fun n => ow.conv_bytes (P := Tryz.prog) (w := w3.drewN n) (src := 22) (dst := 9) [] own Tryz.underlying22 Tryz.underlying5 Tryz.underlying9
        have hvn := HV.out
        clear hdec own cv
        go_wp2_with fail
        go_quiet (fail)
        go_wp2
        go_ret2
        exact ⟨⟨[], false, rfl, .inr ⟨rfl, not_dec HN.out⟩⟩, bdrew hb3 _⟩
      | some p =>
        rw [hdec] at own
        have HN : Hid (b6.dec (mid s.data.toList) = some p) := hdec
        have hpl : p.length ≤ 65536 := by
          have h1 := b6.rl_len (s.extract 10 (s.size - 2))
          have h2 : b6.rl (s.extract 10 (s.size - 2)) = p := by unfold b6.rl; rw [if_pos (by omega), HM.out, hdec]; rfl
          rw [h2] at h1
          exact h1
        obtain ⟨P, hP⟩ : ∃ P : ByteArray, P = ⟨p.toArray⟩ := ⟨_, rfl⟩
        have hPs : P.size ≤ 65536 := by rw [hP, Lib.size_eq]; exact hpl
        have hvn : ∀ n, (convert 22 9 v).run Tryz.prog (w3.drewN n) = .ok (.string P) (w3.drewN n) := fun n => by rw [hP]; exact ow.conv_bytes (P := Tryz.prog) (w := w3.drewN n) (src := 22) (dst := 9) p own Tryz.underlying22 Tryz.underlying5 Tryz.underlying9
        obtain ⟨ao, cap, rfl⟩ : ∃ ao cap, v = .slice ao p.length cap := by
          rcases own.2 with ⟨hv, h0⟩ | ⟨g, cap, cur, hv, _⟩
          · exact ⟨none, 0, by have h0' : p.length = 0 := h0; rw [hv, h0']⟩
          · exact ⟨_, cap, hv⟩
        have HPP : Hid (P = ⟨p.toArray⟩) := hP
        clear hdec own hP
        by_cases hr : ut.Right P
        · have CV : Hid (∀ n, Calls Tryz.prog 140 #[.string P] (w3.drewN n) fun e w' => e = .returned (.bool true) ∧ w' = w3.drewN n) := fun n => (ut.specValid_any P _ (by omega)).mono fun e w' h => by
            obtain ⟨h1, h2⟩ := h
            obtain ⟨b, rfl⟩ := ut.says_ex h1
            exact ⟨by rw [(ut.says_iff h1).2 ⟨hPs, hr⟩], h2⟩
          have HR : Hid (ut.Right P) := hr
          clear hr
          by_cases hp0 : p.length = 0
          · have d0 : decide ((0 : Int) < (p.length : Int)) = false := decide_eq_false (by omega)
            have d1 : decide (0 < p.length) = false := decide_eq_false (by omega)
            have HP0 : Hid (p.length = 0) := hp0
            clear hp0
            go_wp2_with fail
            go_quiet ((go_at_call 140; exact Calls.quiet_of_same (CV.out _)))
            go_wp2
            go_ret2
            exact ⟨⟨p, false, by rw [← HPP.out]; rfl, .inr ⟨rfl, not_val HN.out (.inl (List.eq_nil_of_length_eq_zero HP0.out))⟩⟩, bdrew hb3 _⟩
          · have d0 : decide ((0 : Int) < (p.length : Int)) = true := decide_eq_true (by omega)
            have d1 : decide (0 < p.length) = true := decide_eq_true (by omega)
            go_wp2_with fail
            go_quiet ((go_at_call 140; exact Calls.quiet_of_same (CV.out _)))
            go_wp2
            go_ret2
            exact ⟨⟨p, true, by rw [← HPP.out]; rfl, .inl ⟨rfl, is_coded HP.out HP2.out HN.out (fun e => hp0 (by rw [e]; rfl)) (by rw [← HPP.out]; exact HR.out)⟩⟩, bdrew hb3 _⟩
        · have CV : Hid (∀ n, Calls Tryz.prog 140 #[.string P] (w3.drewN n) fun e w' => e = .returned (.bool false) ∧ w' = w3.drewN n) := fun n => (ut.specValid_any P _ (by omega)).mono fun e w' h => by
            obtain ⟨h1, h2⟩ := h
            obtain ⟨b, rfl⟩ := ut.says_ex h1
            refine ⟨?_, h2⟩
            cases b
            · rfl
            · exact absurd ((ut.says_iff h1).1 rfl).2 hr
          have HR : Hid (¬ ut.Right P) := hr
          clear hr
          go_wp2_with fail
          go_quiet ((go_at_call 140; exact Calls.quiet_of_same (CV.out _)))
          go_wp2
          go_ret2
          exact ⟨⟨p, false, by rw [← HPP.out]; rfl, .inr ⟨rfl, not_val HN.out (.inr (by rw [← HPP.out]; exact HR.out))⟩⟩, bdrew hb3 _⟩
end Go.Proofs.YtadfdfmebdcfgaaGreatDoor.hd

namespace Go.Proofs.YtadfdfmebdcfgaaGreatDoor.sv
open Go.RowKit
set_option linter.unusedVariables false

def Says (p : Prop) (e : Ending) : Prop := ∃ b : Bool, e = .returned (.bool b) ∧ (b = true ↔ p)
theorem says_no {p : Prop} (h : ¬ p) : Says p (.returned (.bool false)) := ⟨false, rfl, fun x => (by cases x), fun x => absurd x h⟩
theorem says_yes {p : Prop} (h : p) : Says p (.returned (.bool true)) := ⟨true, rfl, fun _ => h, fun _ => rfl⟩
theorem says_ex {p : Prop} {e : Ending} (h : Says p e) : ∃ b : Bool, e = .returned (.bool b) := ⟨h.choose, h.choose_spec.1⟩
theorem says_same {p : Prop} {a b : Bool} (h1 : Says p (.returned (.bool a))) (h2 : Says p (.returned (.bool b))) : a = b := by
  obtain ⟨x, hx, h1⟩ := h1
  obtain ⟨y, hy, h2⟩ := h2
  cases hx; cases hy
  exact Bool.eq_iff_iff.2 (h1.trans h2.symm)
theorem says_true {p : Prop} {e : Ending} (h : Says p e) (hp : p) : e = .returned (.bool true) := by
  obtain ⟨b, rfl, hb⟩ := h
  rw [hb.2 hp]
theorem says_false {p : Prop} {e : Ending} (h : Says p e) (hp : ¬ p) : e = .returned (.bool false) := by
  obtain ⟨b, rfl, hb⟩ := h
  cases b
  · rfl
  · exact absurd (hb.1 rfl) hp

set_option maxHeartbeats 1000000 in
set_option maxRecDepth 100000 in
theorem impl_any (s : ByteArray) (w : World) (hs : s.size ≤ maxLen) :
    Calls Tryz.prog 103 #[.string s] w fun e w' => Says (hd.Safe s.data.toList) e ∧ w' = w := by
  unfold maxLen at hs
  by_cases h4 : 2000 < s.size
  · have h4' : (2000 : Int) < (s.size : Int) := by omega
    go_enter Tryz.func103, Tryz.ntmps103
    go_wp2
    go_ret
    exact ⟨says_no (hd.big h4), rfl⟩
  have h4' : (s.size : Int) ≤ 2000 := by omega
  have hz : (s.toList == []) = decide (s.size = 0) := by
    rw [Bool.eq_iff_iff, beq_iff_eq, decide_eq_true_iff]
    constructor
    · intro h; have := Lib.size_eq s; rw [← Lib.toList_data, h] at this; exact this
    · intro h; have := Lib.size_eq s; rw [h] at this; rw [Lib.toList_data]; exact List.eq_nil_of_length_eq_zero this.symm
  have HZ : Hid ((s.toList == []) = decide (s.size = 0)) := hz
  clear hz
  go_enter Tryz.func103, Tryz.ntmps103
  go_wp2
  go_loop [3, 11] (fun t i => ∃ k wd : Nat, k ≤ s.size ∧ i = .int .i64 k ∧ t = .int .i64 wd ∧ hd.wid (s.data.toList.take k) = some wd) (fun _ i => s.size - (intOf i).toNat)
  case atStart => exact ⟨0, 0, Nat.zero_le _, rfl, rfl, rfl⟩
  case round =>
    obtain ⟨k, wd, hk, rfl, rfl, hg⟩ := hrel
    have hw := hd.width_le hg
    have hw' : (wd : Int) ≤ 200 := by omega
    have HG : Hid (hd.wid (s.data.toList.take k) = some wd) := hg
    clear hg
    by_cases hlt : k < s.size
    · have HN : Hid (∀ o, hd.step (some wd) (s[k]'hlt) = o → hd.wid (s.data.toList.take (k + 1)) = o) := fun o ho => by rw [hd.wid_at s k hlt, HG.out]; exact ho
      by_cases c1 : ((s[k]'hlt).toNat : Int) < 32
      · go_wp2
        go_ret
        exact ⟨says_no (hd.bad_at hlt HG.out (hd.st_bad (.inl c1))), rfl⟩
      have d1 : decide (((s[k]'hlt).toNat : Int) < 32) = false := decide_eq_false c1
      by_cases c2 : 126 < ((s[k]'hlt).toNat : Int)
      · go_wp2
        go_ret
        exact ⟨says_no (hd.bad_at hlt HG.out (hd.st_bad (.inr c2))), rfl⟩
      have d2 : decide (126 < ((s[k]'hlt).toNat : Int)) = false := decide_eq_false c2
      by_cases c3 : ((s[k]'hlt).toNat : Int) = 32
      · have d3 : (((s[k]'hlt).toNat : Int) != 32) = false := by rw [bne_eq_false_iff_eq]; exact c3
        have HC : Hid (((s[k]'hlt).toNat : Int) = 32) := c3
        clear c3 c1 c2
        by_cases c4 : wd = 0
        · have d4 : ((wd : Int) == 0) = true := beq_iff_eq.2 (by omega)
          have H4 : Hid (wd = 0) := c4
          clear c4
          go_wp2
          go_ret
          exact ⟨says_no (hd.bad_at hlt HG.out (by rw [H4.out]; exact hd.st_sp0 HC.out)), rfl⟩
        · have d4 : ((wd : Int) == 0) = false := beq_eq_false_iff_ne.2 (by omega)
          go_wp2
          go_round
          case rel => exact ⟨k + 1, 0, by omega, by go_num, rfl, HN.out _ (hd.st_sp HC.out c4)⟩
          case measure => simp [intOf]; omega
      · have d3 : (((s[k]'hlt).toNat : Int) != 32) = true := by rw [bne_iff_ne]; exact c3
        by_cases c4 : 200 ≤ wd
        · have d4 : (200 : Int) < (wd : Int) + 1 := by omega
          go_wp2
          go_ret
          exact ⟨says_no (hd.bad_at hlt HG.out (hd.st_long c3 c4)), rfl⟩
        · have d4 : (wd : Int) + 1 ≤ 200 := by omega
          go_wp2
          go_round
          case rel => exact ⟨k + 1, wd + 1, by omega, by go_num, by go_num, HN.out _ (hd.st_ch (by omega) (by omega) c3 (by omega))⟩
          case measure => simp [intOf]; omega
    · have HA : Hid (hd.wid s.data.toList = some wd) := by have := HG.out; rw [hd.take_all s k (by omega)] at this; exact this
      by_cases c0 : s.size = 0
      · have e0 : (s.toList == []) = true := by rw [HZ.out]; exact decide_eq_true c0
        go_wp2
        go_ret
        exact ⟨says_yes (hd.good (by omega) HA.out (.inl c0)), rfl⟩
      · have e0 : (s.toList == []) = false := by rw [HZ.out]; exact decide_eq_false c0
        by_cases c4 : wd = 0
        · have d4 : decide (0 < wd) = false := decide_eq_false (by omega)
          have H4 : Hid (wd = 0) := c4
          clear c4
          go_wp2
          go_ret
          exact ⟨says_no (hd.endBad c0 (by have := HA.out; rw [H4.out] at this; exact this)), rfl⟩
        · have d4 : decide (0 < wd) = true := decide_eq_true (by omega)
          go_wp2
          go_ret
          exact ⟨says_yes (hd.good (by omega) HA.out (.inr (by omega))), rfl⟩

def inB (n a b : Int) : Bool := decide (a ≤ n ∧ n ≤ b)
set_option maxHeartbeats 400000 in
theorem in_any (n a b : Int) (w : World) : Calls Tryz.prog 55 #[.int .i64 n, .int .i64 a, .int .i64 b] w fun e w' => e = .returned (.bool (inB n a b)) ∧ w' = w := by
  by_cases h : a ≤ n
  · go_enter Tryz.func55, Tryz.ntmps55
    go_wp2
    all_goals (go_ret; exact ⟨by simp [inB, h], rfl⟩)
  · have h' : decide (a ≤ n) = false := decide_eq_false h
    go_enter Tryz.func55, Tryz.ntmps55
    go_wp2
    all_goals (go_ret; exact ⟨by rw [show inB n a b = false from decide_eq_false (by omega)]; rfl, rfl⟩)
theorem in_yes {n a b : Int} (h : a ≤ n) (h' : n ≤ b) : inB n a b = true := decide_eq_true ⟨h, h'⟩
theorem in_no {n a b : Int} (h : n < a ∨ b < n) : inB n a b = false := decide_eq_false (by omega)

set_option maxHeartbeats 1000000 in
set_option maxRecDepth 100000 in
theorem spec_any (s : ByteArray) (w : World) (hs : s.size ≤ maxLen) :
    Calls Tryz.prog 157 #[.string s] w fun e w' => Says (hd.Safe s.data.toList) e ∧ w' = w := by
  unfold maxLen at hs
  by_cases h9 : 65536 < s.size
  · have b9 : (65536 : Int) < (s.size : Int) := by omega
    go_enter Tryz.func157, Tryz.ntmps157
    go_wp2
    go_ret
    exact ⟨says_no (hd.big (by omega)), rfl⟩
  have b9 : (s.size : Int) ≤ 65536 := by omega
  by_cases h4 : 2000 < s.size
  · have h4' : (2000 : Int) < (s.size : Int) := by omega
    go_enter Tryz.func157, Tryz.ntmps157
    go_wp2
    go_ret
    exact ⟨says_no (hd.big h4), rfl⟩
  have h4' : (s.size : Int) ≤ 2000 := by omega
  go_enter Tryz.func157, Tryz.ntmps157
  go_wp2
  go_loop [3, 4] (fun t i => ∃ k wd : Nat, k ≤ s.size ∧ i = .int .i64 k ∧ t = .int .i64 wd ∧ hd.wid (s.data.toList.take k) = some wd ∧ (wd = 0 → k = 0 ∨ k < s.size)) (fun _ i => s.size - (intOf i).toNat)
  case atStart => exact ⟨0, 0, Nat.zero_le _, rfl, rfl, rfl, fun _ => .inl rfl⟩
  case round =>
    obtain ⟨k, wd, hk, rfl, rfl, hg, hq⟩ := hrel
    have hw := hd.width_le hg
    have hw' : (wd : Int) ≤ 200 := by omega
    have HG : Hid (hd.wid (s.data.toList.take k) = some wd) := hg
    have HQ : Hid (wd = 0 → k = 0 ∨ k < s.size) := hq
    clear hg hq
    by_cases hlt : k < s.size
    · have u : ((s[k]'hlt).toNat : Int) ≤ 255 := by have := (s[k]'hlt).toNat_lt; omega
      have HN : Hid (∀ o, hd.step (some wd) (s[k]'hlt) = o → hd.wid (s.data.toList.take (k + 1)) = o) := fun o ho => by rw [hd.wid_at s k hlt, HG.out]; exact ho
      by_cases c1 : ((s[k]'hlt).toNat : Int) < 32 ∨ 126 < ((s[k]'hlt).toNat : Int)
      · have b2 : inB ((s[k]'hlt).toNat : Int) 32 126 = false := in_no c1
        have HC : Hid (((s[k]'hlt).toNat : Int) < 32 ∨ 126 < ((s[k]'hlt).toNat : Int)) := c1
        clear c1
        go_wp2_with (go_at_call 55; refine (in_any _ _ _ _).mono ?_; rintro e w' ⟨rfl, rfl⟩)
        go_ret
        exact ⟨says_no (hd.bad_at hlt HG.out (hd.st_bad HC.out)), rfl⟩
      have b2 : inB ((s[k]'hlt).toNat : Int) 32 126 = true := in_yes (by omega) (by omega)
      have c1' : 32 ≤ ((s[k]'hlt).toNat : Int) := by omega
      have c2' : ((s[k]'hlt).toNat : Int) ≤ 126 := by omega
      clear c1
      by_cases c3 : ((s[k]'hlt).toNat : Int) = 32
      · have d3 : (((s[k]'hlt).toNat : Int) != 32) = false := by rw [bne_eq_false_iff_eq]; exact c3
        have HC : Hid (((s[k]'hlt).toNat : Int) = 32) := c3
        clear c3 c1' c2'
        by_cases c4 : wd = 0
        · have d4 : ((wd : Int) == 0) = true := beq_iff_eq.2 (by omega)
          have H4 : Hid (wd = 0) := c4
          clear c4
          go_wp2_with (go_at_call 55; refine (in_any _ _ _ _).mono ?_; rintro e w' ⟨rfl, rfl⟩)
          go_ret
          exact ⟨says_no (hd.bad_at hlt HG.out (by rw [H4.out]; exact hd.st_sp0 HC.out)), rfl⟩
        · have d4 : ((wd : Int) == 0) = false := beq_eq_false_iff_ne.2 (by omega)
          by_cases c5 : k + 1 = s.size
          · have d5 : ((k : Int) + 1 == (s.size : Int)) = true := beq_iff_eq.2 (by omega)
            have H5 : Hid (k + 1 = s.size) := c5
            clear c5
            go_wp2_with (go_at_call 55; refine (in_any _ _ _ _).mono ?_; rintro e w' ⟨rfl, rfl⟩)
            go_ret
            exact ⟨says_no (hd.endBad (by omega) (by have := HN.out _ (hd.st_sp HC.out c4); rw [hd.take_all s (k + 1) (by have := H5.out; omega)] at this; exact this)), rfl⟩
          · have d5 : ((k : Int) + 1 == (s.size : Int)) = false := beq_eq_false_iff_ne.2 (by omega)
            go_wp2_with (go_at_call 55; refine (in_any _ _ _ _).mono ?_; rintro e w' ⟨rfl, rfl⟩)
            go_round
            case rel => exact ⟨k + 1, 0, by omega, by go_num, rfl, HN.out _ (hd.st_sp HC.out c4), fun _ => .inr (by omega)⟩
            case measure => simp [intOf]; omega
      · have d3 : (((s[k]'hlt).toNat : Int) != 32) = true := by rw [bne_iff_ne]; exact c3
        by_cases c4 : 200 ≤ wd
        · have d4 : (200 : Int) < (wd : Int) + 1 := by omega
          go_wp2_with (go_at_call 55; refine (in_any _ _ _ _).mono ?_; rintro e w' ⟨rfl, rfl⟩)
          go_ret
          exact ⟨says_no (hd.bad_at hlt HG.out (hd.st_long c3 c4)), rfl⟩
        · have d4 : (wd : Int) + 1 ≤ 200 := by omega
          go_wp2_with (go_at_call 55; refine (in_any _ _ _ _).mono ?_; rintro e w' ⟨rfl, rfl⟩)
          go_round
          case rel => exact ⟨k + 1, wd + 1, by omega, by go_num, by go_num, HN.out _ (hd.st_ch (by omega) (by omega) c3 (by omega)), fun h => by omega⟩
          case measure => simp [intOf]; omega
    · have HA : Hid (hd.wid s.data.toList = some wd) := by have := HG.out; rw [hd.take_all s k (by omega)] at this; exact this
      go_wp2
      go_ret
      exact ⟨says_yes (hd.good (by omega) HA.out (by have := HQ.out; omega)), rfl⟩
end Go.Proofs.YtadfdfmebdcfgaaGreatDoor.sv

namespace Go.Proofs.YtadfdfmebdcfgaaGreatDoor.hd
open Go.RowKit
set_option linter.unusedVariables false

theorem coded_len {x y : List UInt8} (h : Coded x y) (hx : x.length ≤ 2000) : y.length ≤ 65536 := by
  have h1 := b6.rl_len ⟨(mid x).toArray⟩
  have h2 := mid_len x
  have h3 : b6.rl ⟨(mid x).toArray⟩ = y := by
    unfold b6.rl
    rw [if_pos (by rw [Lib.size_eq]; show (mid x).length ≤ _; omega)]
    have : b6.dec (mid x) = some y := h.2.2.1
    show (b6.dec (mid x)).getD [] = y
    rw [this]
    rfl
  rw [h3] at h1
  exact h1
theorem next_code {ws : List (List UInt8)} {k : Nat} {x y out : List UInt8} {was : Bool} (hk : ws[k]? = some x) (H : ∀ o, Dec (decide (k = 0)) was (ws.drop k) o → Dec true false ws (out ++ o)) (hc : Coded x y) :
    ∀ o, Dec (decide (k + 1 = 0)) true (ws.drop (k + 1)) o → Dec true false ws ((out ++ (if (decide (k = 0) || was) = true then [] else [32]) ++ y) ++ o) := by
  intro o h
  have := H _ (by rw [Lib.drop_at hk]; exact dec_code hc h)
  simpa [List.append_assoc] using this
theorem next_plain {ws : List (List UInt8)} {k : Nat} {x out : List UInt8} {was : Bool} (hk : ws[k]? = some x) (H : ∀ o, Dec (decide (k = 0)) was (ws.drop k) o → Dec true false ws (out ++ o)) (hc : ∀ y, ¬ Coded x y) :
    ∀ o, Dec (decide (k + 1 = 0)) false (ws.drop (k + 1)) o → Dec true false ws ((out ++ (if decide (k = 0) = true then [] else [32]) ++ x) ++ o) := by
  intro o h
  have := H _ (by rw [Lib.drop_at hk]; exact dec_plain hc h)
  simpa [List.append_assoc] using this
theorem dec_end {ws : List (List UInt8)} {k : Nat} {out : List UInt8} {was f : Bool} (hk : ws.length ≤ k) (H : ∀ o, Dec f was (ws.drop k) o → Dec true false ws (out ++ o)) : Dec true false ws out := by
  rw [List.drop_eq_nil_of_le hk] at H
  have := H [] rfl
  rwa [List.append_nil] at this
/-- What a row of texts holds, cell by cell. -/
theorem row_at {w : World} {base n : Nat} {v : Value} {ws : List (List UInt8)} (h : w.ownsRow base 9 1 v n (ws.map tv)) (k : Nat) (hk : k < n) : ∃ g cap x, v = .slice (some ⟨g, 0, none⟩) n cap ∧ n ≤ cap ∧ ws[k]? = some x := by
  have hl : ws.length = n := by have := h.1; simpa using this
  rcases h.2 with ⟨_, h0⟩ | ⟨g, cap, cur, hv, _, _, hc, _⟩
  · omega
  · exact ⟨g, cap, ws[k]'(by omega), hv, hc, List.getElem?_eq_getElem (by omega)⟩
theorem row_cell {w : World} {base n g cap : Nat} {ws : List (List UInt8)} {x : List UInt8} (h : w.ownsRow base 9 1 (.slice (some ⟨g, 0, none⟩) n cap) n (ws.map tv)) (k : Nat) (hk : ws[k]? = some x) : w.cell? ⟨g, k, none⟩ = some (.string ⟨x.toArray⟩) := by
  have := h.cells (g := g) rfl k (tv x) (by rw [List.getElem?_map, hk]; rfl)
  rwa [ow.add_at] at this

set_option maxHeartbeats 4000000 in
set_option maxRecDepth 100000 in
theorem specDecode_any (s : ByteArray) (w : World) (hs : s.size ≤ 2000) :
    Calls Tryz.prog 39 #[.string s] w fun e w' => (∃ r : ByteArray, e = .returned (.string r) ∧ Dec true false (cutGo [] s.data.toList) r.data.toList) ∧ Below w.heap.size w w' := by
  have hcl := cutGo_len s.data.toList []
  rw [← Lib.size_eq] at hcl
  have HX : Hid (∀ x ∈ cutGo [] s.data.toList, x.length ≤ 2000) := fun x hx => by
    have := cutGo_mem _ _ _ hx
    rw [← Lib.size_eq] at this
    simp at this
    omega
  go_enter Tryz.func39, Tryz.ntmps39
  go_wp2_with fail
  refine (cut_any s _ (by omega)).mono ?_
  rintro e w1 ⟨v, rfl, own, hb1⟩
  obtain ⟨ws, hws⟩ : ∃ ws, ws = cutGo [] s.data.toList := ⟨_, rfl⟩
  rw [← hws] at own hcl HX
  have HW : Hid (ws = cutGo [] s.data.toList) := hws
  clear hws
  obtain ⟨n, hn⟩ : ∃ n, n = ws.length := ⟨_, rfl⟩
  have hn2 : n ≤ 2001 := by simp at hcl; omega
  rw [← hn] at own
  have HN : Hid (n = ws.length) := hn
  clear hn hcl
  obtain ⟨ao, cap, rfl⟩ : ∃ ao cap, v = .slice ao n cap := by
    rcases own.2 with ⟨hv, h0⟩ | ⟨g, cap, cur, hv, _⟩
    · exact ⟨none, 0, by rw [hv, h0]⟩
    · exact ⟨_, cap, hv⟩
  go_wp2
  go_loopw [4, 5, 6] (fun o b i wr => ∃ (k : Nat) (out : ByteArray) (was : Bool), k ≤ n ∧ i = .int .i64 k ∧ o = .string out ∧ b = .bool was ∧ out.size ≤ k * 70000 ∧ wr.ownsRow w.heap.size 9 1 (.slice ao n cap) n (ws.map tv) ∧ Below w.heap.size w wr ∧ Hid (∀ o, Dec (decide (k = 0)) was (ws.drop k) o → Dec true false ws (out.data.toList ++ o))) (fun _ _ i _ => n - (intOf i).toNat)
  case atStart => exact ⟨0, ⟨#[]⟩, false, Nat.zero_le _, rfl, rfl, rfl, Nat.zero_le _, own, hb1, fun o h => h⟩
  case round =>
    obtain ⟨k, out, was, hk, rfl, rfl, rfl, ho, hown, hbw, HD⟩ := hrel
    by_cases hlt : k < n
    · obtain ⟨g, cap', x, hv, hnc, hx⟩ := row_at hown k hlt
      cases hv
      have hc0 := row_cell hown k hx
      have hxl : x.length ≤ 2000 := HX.out x (List.mem_of_getElem? hx)
      have hlt' : (k : Int) < (n : Int) := by omega
      obtain ⟨X, hX⟩ : ∃ X : ByteArray, X = ⟨x.toArray⟩ := ⟨_, rfl⟩
      have hXs : X.size ≤ 2000 := by rw [hX, Lib.size_eq]; exact hxl
      have hXl : X.data.toList = x := by rw [hX]
      rw [← hX] at hc0
      have HXL : Hid (X.data.toList = x) := hXl
      have HK : Hid (ws[k]? = some x) := hx
      clear hX hXl hx
      go_wp2_with fail
      refine (specWord_any X _ hXs).mono ?_
      rintro e W1 ⟨⟨y, b, rfl, hyb⟩, hb2⟩
      rw [HXL.out] at hyb
      have hc1 : W1.cell? ⟨g, k, none⟩ = some (.string X) := (hb2.cell (p := ⟨g, k, none⟩) (World.block_lt_of_cell? _ _ hc0)).trans hc0
      have hown1 := ow.own_below hown hb2
      have hbw1 := hbw.trans (hb2.mono hbw.size)
      obtain ⟨Y, hY⟩ : ∃ Y : ByteArray, Y = ⟨y.toArray⟩ := ⟨_, rfl⟩
      have HYL : Hid (Y.data.toList = y) := by rw [hY]; exact rfl
      have HYB : Hid ((b = true ∧ Coded x y) ∨ (b = false ∧ ∀ z, ¬ Coded x z)) := hyb
      have hYs : b = true → Y.size ≤ 65536 := fun hb => by
        rw [hY, Lib.size_eq]
        rcases hyb with ⟨_, h⟩ | ⟨h, _⟩
        · exact coded_len h hxl
        · rw [hb] at h; cases h
      rw [← hY]
      clear hY hyb hown hbw hb2 hc0
      have hos : (out.size : Int) ≤ 140070000 := by omega
      by_cases hk0 : k = 0
      · have d0 : decide (0 < k) = false := decide_eq_false (by omega)
        have d1 : decide ((0 : Int) < (k : Int)) = false := decide_eq_false (by omega)
        have HK0 : Hid (k = 0) := hk0
        clear hk0
        cases b with
        | false =>
          have hX' : (X.size : Int) ≤ 2000 := by omega
          clear hYs
          cases was with
          | false =>
            go_wp2
            go_roundw
            case rel =>
              have e : (out ++ X).data.toList = out.data.toList ++ (if decide (k = 0) = true then [] else [32]) ++ x := by
                rw [← HXL.out]
                simp [HK0.out]
              exact ⟨k + 1, out ++ X, false, by omega, by go_num, rfl, rfl, by rw [ByteArray.size_append]; omega, hown1, hbw1, fun o h => by rw [e]; exact next_plain HK.out HD.out (by rcases HYB.out with ⟨h, _⟩ | ⟨_, h⟩; cases h; exact h) o h⟩
            case measure => simp [intOf]; omega
          | true =>
            go_wp2
            go_roundw
            case rel =>
              have e : (out ++ X).data.toList = out.data.toList ++ (if decide (k = 0) = true then [] else [32]) ++ x := by
                rw [← HXL.out]
                simp [HK0.out]
              exact ⟨k + 1, out ++ X, false, by omega, by go_num, rfl, rfl, by rw [ByteArray.size_append]; omega, hown1, hbw1, fun o h => by rw [e]; exact next_plain HK.out HD.out (by rcases HYB.out with ⟨h, _⟩ | ⟨_, h⟩; cases h; exact h) o h⟩
            case measure => simp [intOf]; omega
        | true =>
          have hY := hYs rfl
          have hY' : (Y.size : Int) ≤ 65536 := by omega
          clear hYs
          cases was with
          | false =>
            go_wp2
            go_roundw
            case rel =>
              have e : (out ++ Y).data.toList = out.data.toList ++ (if (decide (k = 0) || false) = true then [] else [32]) ++ y := by
                rw [← HYL.out]
                simp [HK0.out]
              exact ⟨k + 1, out ++ Y, true, by omega, by go_num, rfl, rfl, by rw [ByteArray.size_append]; omega, hown1, hbw1, fun o h => by rw [e]; exact next_code HK.out HD.out (by rcases HYB.out with ⟨_, h⟩ | ⟨h, _⟩; exact h; cases h) o h⟩
            case measure => simp [intOf]; omega
          | true =>
            go_wp2
            go_roundw
            case rel =>
              have e : (out ++ Y).data.toList = out.data.toList ++ (if (decide (k = 0) || true) = true then [] else [32]) ++ y := by
                rw [← HYL.out]
                simp [HK0.out]
              exact ⟨k + 1, out ++ Y, true, by omega, by go_num, rfl, rfl, by rw [ByteArray.size_append]; omega, hown1, hbw1, fun o h => by rw [e]; exact next_code HK.out HD.out (by rcases HYB.out with ⟨_, h⟩ | ⟨h, _⟩; exact h; cases h) o h⟩
            case measure => simp [intOf]; omega
      · have d0 : decide (0 < k) = true := decide_eq_true (by omega)
        have d1 : (0 : Int) < (k : Int) := by omega
        cases b with
        | false =>
          have hX' : (X.size : Int) ≤ 2000 := by omega
          clear hYs
          cases was with
          | false =>
            go_wp2
            go_roundw
            case rel =>
              have e : (out ++ { data := #[32] } ++ X).data.toList = out.data.toList ++ (if decide (k = 0) = true then [] else [32]) ++ x := by
                rw [← HXL.out]
                simp [hk0]
              exact ⟨k + 1, out ++ { data := #[32] } ++ X, false, by omega, by go_num, rfl, rfl, by rw [ByteArray.size_append, ByteArray.size_append]; show _ + 1 + _ ≤ _; omega, hown1, hbw1, fun o h => by rw [e]; exact next_plain HK.out HD.out (by rcases HYB.out with ⟨h, _⟩ | ⟨_, h⟩; cases h; exact h) o h⟩
            case measure => simp [intOf]; omega
          | true =>
            go_wp2
            go_roundw
            case rel =>
              have e : (out ++ { data := #[32] } ++ X).data.toList = out.data.toList ++ (if decide (k = 0) = true then [] else [32]) ++ x := by
                rw [← HXL.out]
                simp [hk0]
              exact ⟨k + 1, out ++ { data := #[32] } ++ X, false, by omega, by go_num, rfl, rfl, by rw [ByteArray.size_append, ByteArray.size_append]; show _ + 1 + _ ≤ _; omega, hown1, hbw1, fun o h => by rw [e]; exact next_plain HK.out HD.out (by rcases HYB.out with ⟨h, _⟩ | ⟨_, h⟩; cases h; exact h) o h⟩
            case measure => simp [intOf]; omega
        | true =>
          have hY := hYs rfl
          have hY' : (Y.size : Int) ≤ 65536 := by omega
          clear hYs
          cases was with
          | false =>
            go_wp2
            go_roundw
            case rel =>
              have e : (out ++ { data := #[32] } ++ Y).data.toList = out.data.toList ++ (if (decide (k = 0) || false) = true then [] else [32]) ++ y := by
                rw [← HYL.out]
                simp [hk0]
              exact ⟨k + 1, out ++ { data := #[32] } ++ Y, true, by omega, by go_num, rfl, rfl, by rw [ByteArray.size_append, ByteArray.size_append]; show _ + 1 + _ ≤ _; omega, hown1, hbw1, fun o h => by rw [e]; exact next_code HK.out HD.out (by rcases HYB.out with ⟨_, h⟩ | ⟨h, _⟩; exact h; cases h) o h⟩
            case measure => simp [intOf]; omega
          | true =>
            go_wp2
            go_roundw
            case rel =>
              have e : (out ++ Y).data.toList = out.data.toList ++ (if (decide (k = 0) || true) = true then [] else [32]) ++ y := by
                rw [← HYL.out]
                simp [hk0]
              exact ⟨k + 1, out ++ Y, true, by omega, by go_num, rfl, rfl, by rw [ByteArray.size_append]; omega, hown1, hbw1, fun o h => by rw [e]; exact next_code HK.out HD.out (by rcases HYB.out with ⟨_, h⟩ | ⟨h, _⟩; exact h; cases h) o h⟩
            case measure => simp [intOf]; omega
    · have hge : (n : Int) ≤ (k : Int) := by omega
      go_wp2
      go_ret
      exact ⟨⟨out, rfl, by rw [← HW.out]; exact dec_end (by have := HN.out; omega) HD.out⟩, hbw⟩
end Go.Proofs.YtadfdfmebdcfgaaGreatDoor.hd

namespace Go.Proofs.YtadfdfmebdcfgaaGreatDoor.hd
open Go.RowKit
set_option linter.unusedVariables false

theorem dec_words {l o : List UInt8} : Dec true false (words l) o → Dec true false (cutGo [] l) o := by
  unfold words
  split
  · rename_i h
    subst h
    intro h
    exact dec_empty.2 h
  · exact id
theorem byte32K (B b : Nat) (l : List UInt8) (w : World) (h : bl.Bd B b l w) (hlen : l.length + 1 ≤ 140737488355328) (hBw : B ≤ w.heap.size) :
    Calls Tryz.prog 135 #[.pointer (some ⟨b, 0, none⟩), .int .u8 32] w fun e w' => (∃ v, e = .returned v) ∧ bl.Bd B b (l ++ [32]) w' ∧ Below B w w' ∧ bl.Others b w w' := bl.byteK B b l 32 w h hlen hBw
theorem kinds2 : (9 : TypeId) ≠ 5 := by decide
/-- What both DecodeWords functions answer. -/
def DwRet (s : ByteArray) (e : Ending) : Prop :=
  (65536 < s.size ∧ e = .returned (.tuple #[.string ⟨#[]⟩, .int .i64 2])) ∨
  (s.size ≤ 65536 ∧ ¬ Safe s.data.toList ∧ e = .returned (.tuple #[.string ⟨#[]⟩, .int .i64 3])) ∨
  (s.size ≤ 65536 ∧ Safe s.data.toList ∧ ∃ r : ByteArray, Dec true false (cutGo [] s.data.toList) r.data.toList ∧ e = .returned (.tuple #[.string r, .int .i64 0]))
theorem dw_ex {s : ByteArray} {e : Ending} (h : DwRet s e) : ∃ (r : ByteArray) (c : Int), e = .returned (.tuple #[.string r, .int .i64 c]) := by
  rcases h with ⟨_, rfl⟩ | ⟨_, _, rfl⟩ | ⟨_, _, r, _, rfl⟩ <;> exact ⟨_, _, rfl⟩
theorem dw_same {s r r' : ByteArray} {c c' : Int} (h : DwRet s (.returned (.tuple #[.string r, .int .i64 c]))) (h' : DwRet s (.returned (.tuple #[.string r', .int .i64 c']))) : r = r' ∧ c = c' := by
  rcases h with ⟨a, h⟩ | ⟨a, a2, h⟩ | ⟨a, a2, q, hq, h⟩ <;>
  rcases h' with ⟨b, h'⟩ | ⟨b, b2, h'⟩ | ⟨b, b2, q', hq', h'⟩ <;>
  cases h <;> cases h' <;>
  first | exact ⟨rfl, rfl⟩ | exact ⟨ByteArray.ext (Array.toList_inj.1 (dec_one _ _ _ _ _ hq hq')), rfl⟩ | (exfalso; omega) | (exfalso; exact a2 b2) | (exfalso; exact b2 a2)

set_option maxHeartbeats 4000000 in
set_option maxRecDepth 100000 in
theorem implDw_any (s : ByteArray) (w : World) (hV : tb.TV w) (hA : tb.TA w) (hs : s.size ≤ 1048576) :
    Calls Tryz.prog 127 #[.string s] w fun e w' => DwRet s e ∧ Below w.heap.size w w' := by
  by_cases h : s.size ≤ 65536
  case neg =>
    have h' : (65536 : Int) < (s.size : Int) := by omega
    clear hV hA
    go_enter Tryz.func127, Tryz.ntmps127
    go_wp2
    go_ret2
    exact ⟨.inl ⟨by omega, rfl⟩, Below.refl _ _⟩
  have h' : (s.size : Int) ≤ 65536 := by omega
  have HT : Hid (∀ W, Below w.heap.size w W → tb.TV W ∧ tb.TA W) := fun W hW => ⟨tb.keep' hV hW, tb.keep' hA hW⟩
  clear hV hA
  go_enter Tryz.func127, Tryz.ntmps127
  go_wp2_with fail
  refine (sv.impl_any s _ (by unfold maxLen; omega)).mono ?_
  rintro e w' ⟨hsv, rfl⟩
  by_cases hsafe : Safe s.data.toList
  case neg =>
    obtain rfl := sv.says_false hsv hsafe
    clear hsv
    go_wp2
    go_ret2
    exact ⟨.inr (.inl ⟨h, hsafe, rfl⟩), Below.refl _ _⟩
  obtain rfl := sv.says_true hsv hsafe
  have h2 : s.size ≤ 2000 := by have := hsafe.1; rw [← Lib.size_eq] at this; exact this
  have HS : Hid (Safe s.data.toList) := hsafe
  clear hsv hsafe
  go_wp2_with fail
  have hb0 : Below w'.heap.size w' (w'.alloc (.cells #[.pointer none, .slice none 0 0] 116)) := (Below.refl _ _).alloc (Nat.le_refl _) _
  refine (Tryz.strings_Fields s _ (by omega) (fun j b hj => by have := ascii HS.out b (List.mem_of_getElem? hj); omega) (tb.ta_is (HT.out _ hb0).2)).mono ?_
  rw [fields_safe HS.out]
  obtain ⟨ws, hws⟩ : ∃ ws, ws = words s.data.toList := ⟨_, rfl⟩
  rw [← hws]
  rintro e W1 ⟨rfl, hW1⟩
  have HX : Hid (∀ x ∈ ws, x.length ≤ 2000) := fun x hx => by
    rw [hws] at hx
    unfold words at hx
    split at hx
    · cases hx
    · have := cutGo_mem _ _ _ hx
      rw [← Lib.size_eq] at this
      simp at this
      omega
  have hn2 : ws.length ≤ 2001 := by
    rw [hws]
    unfold words
    split
    · simp
    · have := cutGo_len s.data.toList []
      rw [← Lib.size_eq] at this
      simp at this
      omega
  have HW : Hid (ws = words s.data.toList) := hws
  clear hws
  have hsz0 : (w'.alloc (.cells #[.pointer none, .slice none 0 0] 116)).heap.size = w'.heap.size + 1 := by simp
  have hbd1 : bl.Bd w'.heap.size w'.heap.size [] W1 := by rw [hW1]; exact bl.keep (bl.fresh w') ((Below.refl _ _).alloc (Nat.le_refl _) _)
  have hbw1 : Below w'.heap.size w' W1 := by rw [hW1]; exact hb0.alloc hb0.size _
  have hls1 : W1.heap[w'.heap.size + 1]? = some (.cells (ws.map tv).toArray 9 (0, 0)) := by
    rw [hW1, ← hsz0]
    exact heap_alloc_new _ _
  clear hb0
  obtain ⟨n, hn⟩ : ∃ n, n = ws.length := ⟨_, rfl⟩
  rw [← hn] at hn2 ⊢
  have HN : Hid (n = ws.length) := hn
  clear hn hW1
  rw [hsz0]
  clear hsz0
  go_wp2
  go_loopw [5, 19] (fun b i wr => ∃ (k : Nat) (out : List UInt8) (was : Bool), k ≤ n ∧ i = .int .i64 k ∧ b = .bool was ∧ out.length ≤ k * 70000 ∧ bl.Bd w'.heap.size w'.heap.size out wr ∧ wr.heap[w'.heap.size + 1]? = some (.cells (ws.map tv).toArray 9 (0, 0)) ∧ Below w'.heap.size w' wr ∧ Hid (∀ o, Dec (decide (k = 0)) was (ws.drop k) o → Dec true false ws (out ++ o))) (fun _ i _ => n - (intOf i).toNat)
  case atStart => exact ⟨0, [], false, Nat.zero_le _, rfl, rfl, Nat.zero_le _, hbd1, hls1, hbw1, fun o h => h⟩
  case round =>
    obtain ⟨k, out, was, hk, rfl, rfl, ho, hbd, hls, hbw, HD⟩ := hrel
    by_cases hlt : k < n
    · have hx : ws[k]? = some (ws[k]'(by have := HN.out; omega)) := List.getElem?_eq_getElem _
      obtain ⟨x, hx⟩ : ∃ x, ws[k]? = some x := ⟨_, hx⟩
      have hc0 : wr.cell? ⟨w'.heap.size + 1, k, none⟩ = some (.string ⟨x.toArray⟩) := by
        rw [cell_of_row wr _ k _ _ _ hls]
        simp [hx, tv]
      have hxl : x.length ≤ 2000 := HX.out x (List.mem_of_getElem? hx)
      have hlt' : (k : Int) < (n : Int) := by omega
      obtain ⟨X, hX⟩ : ∃ X : ByteArray, X = ⟨x.toArray⟩ := ⟨_, rfl⟩
      have hXs : X.size ≤ 2000 := by rw [hX, Lib.size_eq]; exact hxl
      have hXl : X.data.toList = x := by rw [hX]
      rw [← hX] at hc0
      have HXL : Hid (X.data.toList = x) := hXl
      have HK : Hid (ws[k]? = some x) := hx
      clear hX hXl hx
      go_wp2_with fail
      refine (implWord_any X _ (HT.out wr hbw).1 hXs).mono ?_
      rintro e W2 ⟨⟨y, b, rfl, hyb⟩, hb2⟩
      rw [HXL.out] at hyb
      have hbd2 := bl.keep hbd hb2
      have hls2 := (hb2.block _ (Array.getElem?_eq_some_iff.1 hls).1).trans hls
      have hbw2 := hbw.trans (hb2.mono hbw.size)
      obtain ⟨Y, hY⟩ : ∃ Y : ByteArray, Y = ⟨y.toArray⟩ := ⟨_, rfl⟩
      have HYL : Hid (Y.data.toList = y) := by rw [hY]; exact rfl
      have HYB : Hid (WordIs x y b) := hyb
      have hYs : Y.size ≤ 65536 := by
        rw [hY, Lib.size_eq]
        show y.length ≤ _
        rcases hyb with ⟨_, h⟩ | ⟨_, h, _⟩
        · exact coded_len h hxl
        · rw [h]; omega
      rw [← hY]
      clear hY hyb hbd hls hbw hb2 hc0
      have hB2 := hbw2.size
      by_cases hk0 : k = 0
      · have d0 : decide (0 < k) = false := decide_eq_false (by omega)
        have d1 : decide ((0 : Int) < (k : Int)) = false := decide_eq_false (by omega)
        have HK0 : Hid (k = 0) := hk0
        clear hk0
        cases b with
        | false =>
          cases was with
          | false =>
            have hbd3 := hbd2
            have hls3 := hls2
            have hbw3 := hbw2
            clear hbd2 hls2 hbw2
            have hB3 := hbw3.size
            go_wp2_with fail
            refine (bl.textK _ _ _ Y _ hbd3 (by first | omega | (simp; omega)) hB3).mono ?_
            rintro e W4 ⟨⟨v4, rfl⟩, hbd4, hb4, ho4⟩
            have hls4 := ho4 _ _ _ _ (by omega) kinds2 hls3
            have hbw4 := hbw3.trans hb4
            clear hbd3 hls3 hbw3 hb4 ho4
            go_wp2
            go_roundw
            case rel =>
              have e : out ++ Y.data.toList = out ++ (if decide (k = 0) = true then [] else [32]) ++ x := by
                rw [HYL.out]
                rcases HYB.out with ⟨h, _⟩ | ⟨_, h, _⟩
                · cases h
                · rw [h]
                  simp [HK0.out]
              exact ⟨k + 1, out ++ Y.data.toList, false, by omega, by go_num, rfl, by rw [List.length_append, ← Lib.size_eq]; omega, hbd4, hls4, hbw4, fun o h => by rw [e]; exact next_plain HK.out HD.out (by rcases HYB.out with ⟨h, _⟩ | ⟨_, _, h⟩; cases h; exact h) o h⟩
            case measure => simp [intOf]; omega
          | true =>
            have hbd3 := hbd2
            have hls3 := hls2
            have hbw3 := hbw2
            clear hbd2 hls2 hbw2
            have hB3 := hbw3.size
            go_wp2_with fail
            refine (bl.textK _ _ _ Y _ hbd3 (by first | omega | (simp; omega)) hB3).mono ?_
            rintro e W4 ⟨⟨v4, rfl⟩, hbd4, hb4, ho4⟩
            have hls4 := ho4 _ _ _ _ (by omega) kinds2 hls3
            have hbw4 := hbw3.trans hb4
            clear hbd3 hls3 hbw3 hb4 ho4
            go_wp2
            go_roundw
            case rel =>
              have e : out ++ Y.data.toList = out ++ (if decide (k = 0) = true then [] else [32]) ++ x := by
                rw [HYL.out]
                rcases HYB.out with ⟨h, _⟩ | ⟨_, h, _⟩
                · cases h
                · rw [h]
                  simp [HK0.out]
              exact ⟨k + 1, out ++ Y.data.toList, false, by omega, by go_num, rfl, by rw [List.length_append, ← Lib.size_eq]; omega, hbd4, hls4, hbw4, fun o h => by rw [e]; exact next_plain HK.out HD.out (by rcases HYB.out with ⟨h, _⟩ | ⟨_, _, h⟩; cases h; exact h) o h⟩
            case measure => simp [intOf]; omega
        | true =>
          cases was with
          | false =>
            have hbd3 := hbd2
            have hls3 := hls2
            have hbw3 := hbw2
            clear hbd2 hls2 hbw2
            have hB3 := hbw3.size
            go_wp2_with fail
            refine (bl.textK _ _ _ Y _ hbd3 (by first | omega | (simp; omega)) hB3).mono ?_
            rintro e W4 ⟨⟨v4, rfl⟩, hbd4, hb4, ho4⟩
            have hls4 := ho4 _ _ _ _ (by omega) kinds2 hls3
            have hbw4 := hbw3.trans hb4
            clear hbd3 hls3 hbw3 hb4 ho4
            go_wp2
            go_roundw
            case rel =>
              have e : out ++ Y.data.toList = out ++ (if (decide (k = 0) || false) = true then [] else [32]) ++ y := by
                rw [HYL.out]
                simp [HK0.out]
              exact ⟨k + 1, out ++ Y.data.toList, true, by omega, by go_num, rfl, by rw [List.length_append, ← Lib.size_eq]; omega, hbd4, hls4, hbw4, fun o h => by rw [e]; exact next_code HK.out HD.out (by rcases HYB.out with ⟨_, h⟩ | ⟨h, _⟩; exact h; cases h) o h⟩
            case measure => simp [intOf]; omega
          | true =>
            have hbd3 := hbd2
            have hls3 := hls2
            have hbw3 := hbw2
            clear hbd2 hls2 hbw2
            have hB3 := hbw3.size
            go_wp2_with fail
            refine (bl.textK _ _ _ Y _ hbd3 (by first | omega | (simp; omega)) hB3).mono ?_
            rintro e W4 ⟨⟨v4, rfl⟩, hbd4, hb4, ho4⟩
            have hls4 := ho4 _ _ _ _ (by omega) kinds2 hls3
            have hbw4 := hbw3.trans hb4
            clear hbd3 hls3 hbw3 hb4 ho4
            go_wp2
            go_roundw
            case rel =>
              have e : out ++ Y.data.toList = out ++ (if (decide (k = 0) || true) = true then [] else [32]) ++ y := by
                rw [HYL.out]
                simp [HK0.out]
              exact ⟨k + 1, out ++ Y.data.toList, true, by omega, by go_num, rfl, by rw [List.length_append, ← Lib.size_eq]; omega, hbd4, hls4, hbw4, fun o h => by rw [e]; exact next_code HK.out HD.out (by rcases HYB.out with ⟨_, h⟩ | ⟨h, _⟩; exact h; cases h) o h⟩
            case measure => simp [intOf]; omega
      · have d0 : decide (0 < k) = true := decide_eq_true (by omega)
        have d1 : (0 : Int) < (k : Int) := by omega
        cases b with
        | false =>
          cases was with
          | false =>
            go_wp2_with fail
            refine (byte32K _ _ out _ hbd2 (by omega) hB2).mono ?_
            rintro e W3 ⟨⟨v3, rfl⟩, hbd3, hb3, ho3⟩
            have hls3 := ho3 _ _ _ _ (by omega) kinds2 hls2
            have hbw3 := hbw2.trans hb3
            clear hbd2 hls2 hbw2 hb3 ho3
            have hB3 := hbw3.size
            go_wp2_with fail
            refine (bl.textK _ _ _ Y _ hbd3 (by first | omega | (simp; omega)) hB3).mono ?_
            rintro e W4 ⟨⟨v4, rfl⟩, hbd4, hb4, ho4⟩
            have hls4 := ho4 _ _ _ _ (by omega) kinds2 hls3
            have hbw4 := hbw3.trans hb4
            clear hbd3 hls3 hbw3 hb4 ho4
            go_wp2
            go_roundw
            case rel =>
              have e : out ++ [32] ++ Y.data.toList = out ++ (if decide (k = 0) = true then [] else [32]) ++ x := by
                rw [HYL.out]
                rcases HYB.out with ⟨h, _⟩ | ⟨_, h, _⟩
                · cases h
                · rw [h]
                  simp [hk0]
              exact ⟨k + 1, out ++ [32] ++ Y.data.toList, false, by omega, by go_num, rfl, by rw [List.length_append, ← Lib.size_eq]; simp; omega, hbd4, hls4, hbw4, fun o h => by rw [e]; exact next_plain HK.out HD.out (by rcases HYB.out with ⟨h, _⟩ | ⟨_, _, h⟩; cases h; exact h) o h⟩
            case measure => simp [intOf]; omega
          | true =>
            go_wp2_with fail
            refine (byte32K _ _ out _ hbd2 (by omega) hB2).mono ?_
            rintro e W3 ⟨⟨v3, rfl⟩, hbd3, hb3, ho3⟩
            have hls3 := ho3 _ _ _ _ (by omega) kinds2 hls2
            have hbw3 := hbw2.trans hb3
            clear hbd2 hls2 hbw2 hb3 ho3
            have hB3 := hbw3.size
            go_wp2_with fail
            refine (bl.textK _ _ _ Y _ hbd3 (by first | omega | (simp; omega)) hB3).mono ?_
            rintro e W4 ⟨⟨v4, rfl⟩, hbd4, hb4, ho4⟩
            have hls4 := ho4 _ _ _ _ (by omega) kinds2 hls3
            have hbw4 := hbw3.trans hb4
            clear hbd3 hls3 hbw3 hb4 ho4
            go_wp2
            go_roundw
            case rel =>
              have e : out ++ [32] ++ Y.data.toList = out ++ (if decide (k = 0) = true then [] else [32]) ++ x := by
                rw [HYL.out]
                rcases HYB.out with ⟨h, _⟩ | ⟨_, h, _⟩
                · cases h
                · rw [h]
                  simp [hk0]
              exact ⟨k + 1, out ++ [32] ++ Y.data.toList, false, by omega, by go_num, rfl, by rw [List.length_append, ← Lib.size_eq]; simp; omega, hbd4, hls4, hbw4, fun o h => by rw [e]; exact next_plain HK.out HD.out (by rcases HYB.out with ⟨h, _⟩ | ⟨_, _, h⟩; cases h; exact h) o h⟩
            case measure => simp [intOf]; omega
        | true =>
          cases was with
          | false =>
            go_wp2_with fail
            refine (byte32K _ _ out _ hbd2 (by omega) hB2).mono ?_
            rintro e W3 ⟨⟨v3, rfl⟩, hbd3, hb3, ho3⟩
            have hls3 := ho3 _ _ _ _ (by omega) kinds2 hls2
            have hbw3 := hbw2.trans hb3
            clear hbd2 hls2 hbw2 hb3 ho3
            have hB3 := hbw3.size
            go_wp2_with fail
            refine (bl.textK _ _ _ Y _ hbd3 (by first | omega | (simp; omega)) hB3).mono ?_
            rintro e W4 ⟨⟨v4, rfl⟩, hbd4, hb4, ho4⟩
            have hls4 := ho4 _ _ _ _ (by omega) kinds2 hls3
            have hbw4 := hbw3.trans hb4
            clear hbd3 hls3 hbw3 hb4 ho4
            go_wp2
            go_roundw
            case rel =>
              have e : out ++ [32] ++ Y.data.toList = out ++ (if (decide (k = 0) || false) = true then [] else [32]) ++ y := by
                rw [HYL.out]
                simp [hk0]
              exact ⟨k + 1, out ++ [32] ++ Y.data.toList, true, by omega, by go_num, rfl, by rw [List.length_append, ← Lib.size_eq]; simp; omega, hbd4, hls4, hbw4, fun o h => by rw [e]; exact next_code HK.out HD.out (by rcases HYB.out with ⟨_, h⟩ | ⟨h, _⟩; exact h; cases h) o h⟩
            case measure => simp [intOf]; omega
          | true =>
            have hbd3 := hbd2
            have hls3 := hls2
            have hbw3 := hbw2
            clear hbd2 hls2 hbw2
            have hB3 := hbw3.size
            go_wp2_with fail
            refine (bl.textK _ _ _ Y _ hbd3 (by first | omega | (simp; omega)) hB3).mono ?_
            rintro e W4 ⟨⟨v4, rfl⟩, hbd4, hb4, ho4⟩
            have hls4 := ho4 _ _ _ _ (by omega) kinds2 hls3
            have hbw4 := hbw3.trans hb4
            clear hbd3 hls3 hbw3 hb4 ho4
            go_wp2
            go_roundw
            case rel =>
              have e : out ++ Y.data.toList = out ++ (if (decide (k = 0) || true) = true then [] else [32]) ++ y := by
                rw [HYL.out]
                simp [hk0]
              exact ⟨k + 1, out ++ Y.data.toList, true, by omega, by go_num, rfl, by rw [List.length_append, ← Lib.size_eq]; omega, hbd4, hls4, hbw4, fun o h => by rw [e]; exact next_code HK.out HD.out (by rcases HYB.out with ⟨_, h⟩ | ⟨h, _⟩; exact h; cases h) o h⟩
            case measure => simp [intOf]; omega
    · have hge : (n : Int) ≤ (k : Int) := by omega
      go_wp2_with fail
      refine (bl.said _ _ out wr hbd hbw.size).mono ?_
      rintro e w1 ⟨rfl, hb1⟩
      go_wp2
      go_ret2
      exact ⟨.inr (.inr ⟨h, HS.out, _, dec_words (by rw [← HW.out]; exact dec_end (by have := HN.out; omega) HD.out), rfl⟩), hbw.trans hb1⟩
end Go.Proofs.YtadfdfmebdcfgaaGreatDoor.hd

namespace Go.Proofs.YtadfdfmebdcfgaaGreatDoor.me
open Go.RowKit
open fa fo gr
set_option linter.unusedVariables false

/-- What a call on a value of that name says. -/
def Says (ps : List Pr) (nm : ByteArray) (r : ByteArray) : Prop := ∃ c : Int, hd.DwRet ((find ps nm).getD ⟨#[]⟩) (.returned (.tuple #[.string r, .int .i64 c]))
theorem fret_getD (o : Option ByteArray) : ∃ b : Bool, FRet o = .tuple #[.string (o.getD ⟨#[]⟩), .bool b] := by
  cases o with
  | none => exact ⟨false, rfl⟩
  | some x => exact ⟨true, rfl⟩

set_option maxHeartbeats 2000000 in
set_option maxRecDepth 100000 in
theorem plain_any (v : Value) (ps : List Pr) (nm : ByteArray) (w : World) (h : AttrsAt w v ps) (hsm : Small ps) (hn : nm.size ≤ 40) (hv : ((find ps nm).getD ⟨#[]⟩).size ≤ 1048576) (HT : ∀ w', Below w.heap.size w w' → tb.TV w' ∧ tb.TA w') :
    Calls Tryz.prog 70 #[v, .string nm] w fun e w' => (∃ r, Says ps nm r ∧ e = .returned (.string r)) ∧ Below w.heap.size w w' := by
  have HCV := value_any v ps nm w h hsm (by omega)
  obtain ⟨bb, hb⟩ := fret_getD (find ps nm)
  rw [hb] at HCV
  clear hb
  have HD : Hid (∀ W, Below w.heap.size w W → Calls Tryz.prog 127 #[.string ((find ps nm).getD ⟨#[]⟩)] W fun e w' => hd.DwRet ((find ps nm).getD ⟨#[]⟩) e ∧ Below W.heap.size W w') := fun W hW => hd.implDw_any _ W (HT W hW).1 (HT W hW).2 hv
  have HS : Hid (∀ r c, hd.DwRet ((find ps nm).getD ⟨#[]⟩) (.returned (.tuple #[.string r, .int .i64 c])) → Says ps nm r) := fun r c h => ⟨c, h⟩
  obtain ⟨a, cap, rfl, _⟩ := h
  generalize ps.length = n at HCV ⊢
  generalize (find ps nm).getD ⟨#[]⟩ = x at HCV HD HS
  clear HT hv hsm
  go_enter Tryz.func70, Tryz.ntmps70
  go_wp2_with fail
  refine HCV.mono ?_
  rintro e w1 ⟨rfl, b1⟩
  go_wp2_with fail
  refine (HD.out w1 b1).mono ?_
  rintro e w2 ⟨hd2, b2'⟩
  obtain ⟨r, c, rfl⟩ := hd.dw_ex hd2
  have HR : Hid (Says ps nm r) := HS.out r c hd2
  have HB : Hid (Below w.heap.size w w2) := b1.trans (b2'.mono b1.size)
  clear hd2 b1 b2' HD HS HCV
  go_wp2
  go_ret
  exact ⟨⟨r, HR.out, rfl⟩, HB.out⟩
end Go.Proofs.YtadfdfmebdcfgaaGreatDoor.me

namespace Go.Proofs.YtadfdfmebdcfgaaGreatDoor.ut
open Go.RowKit
set_option linter.unusedVariables false

theorem rsz_no {n : Int} (h : n < 0 ∨ 1114111 < n ∨ (55296 ≤ n ∧ n ≤ 57343)) : rsz n = 0 := by
  unfold rsz
  rw [if_neg]
  simp [scB, inB]
  omega
theorem rsz_yes {n : Int} (h0 : 0 ≤ n) (h1 : n ≤ 1114111) (h2 : n < 55296 ∨ 57343 < n) : rsz n = if n < 128 then 1 else if n < 2048 then 2 else if n < 65536 then 3 else 4 := by
  unfold rsz
  rw [if_pos]
  simp [scB, inB]
  omega

set_option maxHeartbeats 400000 in
theorem implSize_any (n : Int) (w : World) : Calls Tryz.prog 175 #[.int .i64 n] w fun e w' => e = .returned (.int .i64 (rsz n)) ∧ w' = w := by
  go_enter Tryz.func175, Tryz.ntmps175
  go_wp2
  all_goals go_ret
  all_goals first | exact ⟨ret_int (by rw [rsz_no (by omega)]), rfl⟩ | exact ⟨ret_int (by rw [rsz_yes (by omega) (by omega) (by omega)]; (repeat' split) <;> omega), rfl⟩
end Go.Proofs.YtadfdfmebdcfgaaGreatDoor.ut

namespace Go.Proofs.YtadfdfmebdcfgaaGreatDoor.hn
open Go.RowKit
set_option linter.unusedVariables false

def Says (p : Prop) (e : Ending) : Prop := ∃ b : Bool, e = .returned (.bool b) ∧ (b = true ↔ p)
theorem says_no {p : Prop} (h : ¬ p) : Says p (.returned (.bool false)) := ⟨false, rfl, fun x => (by cases x), fun x => absurd x h⟩
theorem says_yes {p : Prop} (h : p) : Says p (.returned (.bool true)) := ⟨true, rfl, fun _ => h, fun _ => rfl⟩
theorem says_ex {p : Prop} {e : Ending} (h : Says p e) : ∃ b : Bool, e = .returned (.bool b) := ⟨h.choose, h.choose_spec.1⟩
theorem says_same {p : Prop} {a b : Bool} (h1 : Says p (.returned (.bool a))) (h2 : Says p (.returned (.bool b))) : a = b := by
  obtain ⟨x, hx, h1⟩ := h1
  obtain ⟨y, hy, h2⟩ := h2
  cases hx; cases hy
  exact Bool.eq_iff_iff.2 (h1.trans h2.symm)
theorem says_iff {p : Prop} {b : Bool} (h : Says p (.returned (.bool b))) : b = true ↔ p := by
  obtain ⟨x, hx, h⟩ := h
  cases hx
  exact h

/-- The byte at a place may stand in a field's name. -/
def good (s : ByteArray) (j : Nat) : Prop := ∃ h : j < s.size, 33 ≤ ((s[j]'h).toNat : Int) ∧ ((s[j]'h).toNat : Int) ≤ 126 ∧ ((s[j]'h).toNat : Int) ≠ 58
/-- A text is a field's name. -/
def IsName (s : ByteArray) : Prop := 1 ≤ s.size ∧ s.size ≤ 40 ∧ ∀ j, j < s.size → good s j
theorem not_name {s : ByteArray} {k : Nat} (h : k < s.size) (hb : ((s[k]'h).toNat : Int) < 33 ∨ 126 < ((s[k]'h).toNat : Int) ∨ ((s[k]'h).toNat : Int) = 58) : ¬ IsName s := by
  rintro ⟨_, _, hg⟩
  obtain ⟨h', h1, h2, h3⟩ := hg k h
  omega
theorem no_size {s : ByteArray} (h : s.size = 0 ∨ 40 < s.size) : ¬ IsName s := fun x => by have h1 := x.1; have h2 := x.2.1; omega
theorem step {s : ByteArray} {k : Nat} (hg : ∀ j, j < k → good s j) (h : k < s.size) (hx : 33 ≤ ((s[k]'h).toNat : Int)) (hx2 : ((s[k]'h).toNat : Int) ≤ 126) (hx3 : ((s[k]'h).toNat : Int) ≠ 58) : ∀ j, j < k + 1 → good s j := by
  intro j hj
  by_cases e : j = k
  · subst e; exact ⟨h, hx, hx2, hx3⟩
  · exact hg j (by omega)

set_option maxHeartbeats 1000000 in
theorem impl_any (s : ByteArray) (w : World) (hs : s.size ≤ maxLen) :
    Calls Tryz.prog 102 #[.string s] w fun e w' => Says (IsName s) e ∧ w' = w := by
  unfold maxLen at hs
  by_cases h0 : s.size = 0
  · have b0 : ((s.size : Int) == 0) = true := beq_iff_eq.2 (by omega)
    go_enter Tryz.func102, Tryz.ntmps102
    go_wp2
    go_ret
    exact ⟨says_no (no_size (.inl h0)), rfl⟩
  have b0 : ((s.size : Int) == 0) = false := beq_eq_false_iff_ne.2 (by omega)
  by_cases h4 : 40 < s.size
  · have h4' : (40 : Int) < (s.size : Int) := by omega
    go_enter Tryz.func102, Tryz.ntmps102
    go_wp2
    go_ret
    exact ⟨says_no (no_size (.inr h4)), rfl⟩
  have h4' : (s.size : Int) ≤ 40 := by omega
  go_enter Tryz.func102, Tryz.ntmps102
  go_wp2
  go_loop [14] (fun i => ∃ k : Nat, k ≤ s.size ∧ i = .int .i64 k ∧ ∀ j, j < k → good s j) (fun i => s.size - (intOf i).toNat)
  case atStart => exact ⟨0, Nat.zero_le _, rfl, fun j hj => absurd hj (Nat.not_lt_zero _)⟩
  case round =>
    obtain ⟨k, hk, rfl, hg⟩ := hrel
    have HG : Hid (∀ j, j < k → good s j) := hg
    clear hg
    by_cases hlt : k < s.size
    · by_cases c1 : ((s[k]'hlt).toNat : Int) ≤ 32
      · go_wp2
        go_ret
        exact ⟨says_no (not_name hlt (by omega)), rfl⟩
      by_cases c2 : 126 < ((s[k]'hlt).toNat : Int)
      · have d1 : decide (((s[k]'hlt).toNat : Int) ≤ 32) = false := decide_eq_false c1
        go_wp2
        go_ret
        exact ⟨says_no (not_name hlt (by omega)), rfl⟩
      by_cases c3 : ((s[k]'hlt).toNat : Int) = 58
      · have d1 : decide (((s[k]'hlt).toNat : Int) ≤ 32) = false := decide_eq_false c1
        have d2 : decide (126 < ((s[k]'hlt).toNat : Int)) = false := decide_eq_false c2
        have d3 : (((s[k]'hlt).toNat : Int) == 58) = true := beq_iff_eq.2 c3
        have HC : Hid (((s[k]'hlt).toNat : Int) = 58) := c3
        clear c3
        go_wp2
        go_ret
        exact ⟨says_no (not_name hlt (.inr (.inr HC.out))), rfl⟩
      · have d1 : decide (((s[k]'hlt).toNat : Int) ≤ 32) = false := decide_eq_false c1
        have d2 : decide (126 < ((s[k]'hlt).toNat : Int)) = false := decide_eq_false c2
        have d3 : (((s[k]'hlt).toNat : Int) == 58) = false := beq_eq_false_iff_ne.2 c3
        have c1' : 33 ≤ ((s[k]'hlt).toNat : Int) := by omega
        have c2' : ((s[k]'hlt).toNat : Int) ≤ 126 := by omega
        go_wp2
        go_round
        case rel => exact ⟨k + 1, by omega, by go_num, step HG.out hlt c1' c2' c3⟩
        case measure => simp [intOf]; omega
    · go_wp2
      go_ret
      exact ⟨says_yes ⟨by omega, by omega, fun j hj => HG.out j (by omega)⟩, rfl⟩

def inB (n a b : Int) : Bool := decide (a ≤ n ∧ n ≤ b)
set_option maxHeartbeats 400000 in
theorem in_any (n a b : Int) (w : World) : Calls Tryz.prog 55 #[.int .i64 n, .int .i64 a, .int .i64 b] w fun e w' => e = .returned (.bool (inB n a b)) ∧ w' = w := by
  by_cases h : a ≤ n
  · go_enter Tryz.func55, Tryz.ntmps55
    go_wp2
    all_goals (go_ret; exact ⟨by simp [inB, h], rfl⟩)
  · have h' : decide (a ≤ n) = false := decide_eq_false h
    go_enter Tryz.func55, Tryz.ntmps55
    go_wp2
    all_goals (go_ret; exact ⟨by rw [show inB n a b = false from decide_eq_false (by omega)]; rfl, rfl⟩)
theorem in_yes {n a b : Int} (h : a ≤ n) (h' : n ≤ b) : inB n a b = true := decide_eq_true ⟨h, h'⟩
theorem in_no {n a b : Int} (h : n < a ∨ b < n) : inB n a b = false := decide_eq_false (by omega)

set_option maxHeartbeats 1000000 in
theorem spec_any (s : ByteArray) (w : World) (hs : s.size ≤ maxLen) :
    Calls Tryz.prog 173 #[.string s] w fun e w' => Says (IsName s) e ∧ w' = w := by
  unfold maxLen at hs
  by_cases h9 : 65536 < s.size
  · have b9 : (65536 : Int) < (s.size : Int) := by omega
    go_enter Tryz.func173, Tryz.ntmps173
    go_wp2
    go_ret
    exact ⟨says_no (no_size (.inr (by omega))), rfl⟩
  have b9 : (s.size : Int) ≤ 65536 := by omega
  by_cases h1 : s.size = 0 ∨ 40 < s.size
  · have b1 : inB (s.size : Int) 1 40 = false := in_no (by omega)
    go_enter Tryz.func173, Tryz.ntmps173
    go_wp2_with (go_at_call 55; refine (in_any _ _ _ _).mono ?_; rintro e w' ⟨rfl, rfl⟩)
    go_ret
    exact ⟨says_no (no_size h1), rfl⟩
  have b1 : inB (s.size : Int) 1 40 = true := in_yes (by omega) (by omega)
  go_enter Tryz.func173, Tryz.ntmps173
  go_wp2_with (go_at_call 55; refine (in_any _ _ _ _).mono ?_; rintro e w' ⟨rfl, rfl⟩)
  go_loop [3] (fun i => ∃ k : Nat, k ≤ s.size ∧ i = .int .i64 k ∧ ∀ j, j < k → good s j) (fun i => s.size - (intOf i).toNat)
  case atStart => exact ⟨0, Nat.zero_le _, rfl, fun j hj => absurd hj (Nat.not_lt_zero _)⟩
  case round =>
    obtain ⟨k, hk, rfl, hg⟩ := hrel
    have HG : Hid (∀ j, j < k → good s j) := hg
    clear hg
    by_cases hlt : k < s.size
    · have u : ((s[k]'hlt).toNat : Int) ≤ 255 := by have := (s[k]'hlt).toNat_lt; omega
      by_cases c1 : ((s[k]'hlt).toNat : Int) < 33 ∨ 126 < ((s[k]'hlt).toNat : Int)
      · have b2 : inB ((s[k]'hlt).toNat : Int) 33 126 = false := in_no c1
        have HC : Hid (((s[k]'hlt).toNat : Int) < 33 ∨ 126 < ((s[k]'hlt).toNat : Int)) := c1
        clear c1
        go_wp2_with (go_at_call 55; refine (in_any _ _ _ _).mono ?_; rintro e w' ⟨rfl, rfl⟩)
        go_ret
        exact ⟨says_no (not_name hlt (by have := HC.out; omega)), rfl⟩
      have b2 : inB ((s[k]'hlt).toNat : Int) 33 126 = true := in_yes (by omega) (by omega)
      have c1' : 33 ≤ ((s[k]'hlt).toNat : Int) := by omega
      have c2' : ((s[k]'hlt).toNat : Int) ≤ 126 := by omega
      clear c1
      by_cases c3 : ((s[k]'hlt).toNat : Int) = 58
      · have d3 : (((s[k]'hlt).toNat : Int) == 58) = true := beq_iff_eq.2 c3
        have HC : Hid (((s[k]'hlt).toNat : Int) = 58) := c3
        clear c3
        go_wp2_with (go_at_call 55; refine (in_any _ _ _ _).mono ?_; rintro e w' ⟨rfl, rfl⟩)
        go_ret
        exact ⟨says_no (not_name hlt (.inr (.inr HC.out))), rfl⟩
      · have d3 : (((s[k]'hlt).toNat : Int) == 58) = false := beq_eq_false_iff_ne.2 c3
        go_wp2_with (go_at_call 55; refine (in_any _ _ _ _).mono ?_; rintro e w' ⟨rfl, rfl⟩)
        go_round
        case rel => exact ⟨k + 1, by omega, by go_num, step HG.out hlt c1' c2' c3⟩
        case measure => simp [intOf]; omega
    · go_wp2
      go_ret
      exact ⟨says_yes ⟨by omega, by omega, fun j hj => HG.out j (by omega)⟩, rfl⟩
end Go.Proofs.YtadfdfmebdcfgaaGreatDoor.hn
