/-
  The contract of the specification's reading of one word.
-/
import Derived.Test.YtpbmofofigkpjabDoorDcw
import Derived.BigRegion
namespace Go.Proofs.YtpbmofofigkpjabDoor.hd
open Go.RowKit
set_option linter.unusedVariables false

theorem has_pre (l : List UInt8) (h : 10 ≤ l.length) : Lib.hasPrefix l head = (l.take 10 == head) := by
  unfold Lib.hasPrefix
  rw [Bool.eq_iff_iff, List.isPrefixOf_iff_prefix, List.prefix_iff_eq_take, beq_iff_eq]
  exact ⟨fun h => h.symm, fun h => h.symm⟩
theorem has_suf (l : List UInt8) (h : 2 ≤ l.length) : Lib.hasSuffix l tail = (l.drop (l.length - 2) == tail) := by
  unfold Lib.hasSuffix
  rw [Bool.eq_iff_iff, List.isSuffixOf_iff_suffix, List.suffix_iff_eq_drop, beq_iff_eq]
  exact ⟨fun h => h.symm, fun h => h.symm⟩
theorem pre_short {l : List UInt8} (h : l.length < 12) : ∀ y, ¬ Coded l y := fun y x => by
  have h1 := List.IsPrefix.length_le (List.isPrefixOf_iff_prefix.1 x.1)
  have h2 := List.IsSuffix.length_le (List.isSuffixOf_iff_suffix.1 x.2.1)
  simp [head, tail] at h1 h2
  omega

theorem bdrew {B : Nat} {a w : World} (h : Below B a w) (n : Nat) : Below B a (w.drewN n) := ⟨h.os, h.tape, h.output, h.size, h.block⟩
theorem ext_list (s : ByteArray) (a b : Nat) : (s.extract a b).data.toList = (s.data.toList.drop a).take (b - a) := by rw [← Lib.toList_data, Lib.extract_toList]
theorem pre_at (s : ByteArray) (h : 12 ≤ s.size) : ((s.extract 0 10).toList == [61, 63, 117, 116, 102, 45, 56, 63, 66, 63]) = Lib.hasPrefix s.data.toList head := by
  rw [has_pre _ (by rw [← Lib.size_eq]; omega), Lib.toList_data, ext_list]
  rfl
theorem suf_at (s : ByteArray) (h : 12 ≤ s.size) : ((s.extract (s.size - 2) s.size).toList == [63, 61]) = Lib.hasSuffix (s.data.toList.drop 10) tail := by
  have hl := Lib.size_eq s
  rw [has_suf _ (by rw [List.length_drop]; omega), Lib.toList_data, ext_list, List.length_drop, List.drop_drop]
  rw [show 10 + (s.data.toList.length - 10 - 2) = s.size - 2 from by omega, List.take_of_length_le (by rw [List.length_drop]; omega)]
  rfl
theorem mid_at (s : ByteArray) (h : 12 ≤ s.size) : (s.extract 10 (s.size - 2)).data.toList = mid s.data.toList := by
  rw [ext_list]
  unfold mid
  rw [List.length_drop, ← Lib.size_eq]
  congr 1

set_option maxHeartbeats 2000000 in
set_option maxRecDepth 100000 in
theorem specWord_any (s : ByteArray) (w : World) (hs : s.size ≤ 2000) :
    Calls Tryd.prog 31 #[.string s] w fun e w' => (∃ (y : List UInt8) (b : Bool), e = .returned (.tuple #[.string ⟨y.toArray⟩, .bool b]) ∧ ((b = true ∧ Coded s.data.toList y) ∨ (b = false ∧ ∀ z, ¬ Coded s.data.toList z))) ∧ Below w.heap.size w w' := by
  by_cases hl : s.size < 12
  · have hl' : (s.size : Int) < 12 := by omega
    go_enter Tryd.func31, Tryd.ntmps31
    go_wp2
    go_ret2
    exact ⟨⟨[], false, rfl, .inr ⟨rfl, pre_short (by rw [← Lib.size_eq]; exact hl)⟩⟩, Below.refl _ _⟩
  have hl' : decide ((s.size : Int) < 12) = false := decide_eq_false (by omega)
  have c1 : (10 : Int) ≤ (s.size : Int) := by omega
  have c2 : (2 : Int) ≤ (s.size : Int) := by omega
  have hsl := ow.slice_str (P := Tryd.prog) 9 s .i64 .i64 10 (s.size - 2) Tryd.underlying9 (10 : Int) ((s.size : Int) - 2) rfl (by omega) (by omega) (by omega)
  have e1 := pre_at s (by omega)
  have e2 := suf_at s (by omega)
  have HM : Hid ((s.extract 10 (s.size - 2)).data.toList = mid s.data.toList) := mid_at s (by omega)
  have hdz : (s.extract 10 (s.size - 2)).size ≤ 2000 := by rw [ByteArray.size_extract]; omega
  cases hp : Lib.hasPrefix s.data.toList head with
  | false =>
    have HP : Hid (Lib.hasPrefix s.data.toList head = false) := hp
    rw [hp] at e1
    clear hp e2
    go_enter Tryd.func31, Tryd.ntmps31
    go_wp2
    go_ret2
    exact ⟨⟨[], false, rfl, .inr ⟨rfl, not_pre HP.out⟩⟩, Below.refl _ _⟩
  | true =>
    have HP : Hid (Lib.hasPrefix s.data.toList head = true) := hp
    rw [hp] at e1
    clear hp
    cases hp : Lib.hasSuffix (s.data.toList.drop 10) tail with
    | false =>
      have HP2 : Hid (Lib.hasSuffix (s.data.toList.drop 10) tail = false) := hp
      rw [hp] at e2
      clear hp
      go_enter Tryd.func31, Tryd.ntmps31
      go_wp2
      go_ret2
      exact ⟨⟨[], false, rfl, .inr ⟨rfl, not_suf HP2.out⟩⟩, Below.refl _ _⟩
    | true =>
      have HP2 : Hid (Lib.hasSuffix (s.data.toList.drop 10) tail = true) := hp
      rw [hp] at e2
      clear hp
      go_enter Tryd.func31, Tryd.ntmps31
      go_wp2_with fail
      refine (b6.specRead_any (s.extract 10 (s.size - 2)) _ (by omega)).mono ?_
      rintro e w3 ⟨⟨v, rfl, own⟩, hb3⟩
      rw [HM.out] at own ⊢
      clear e1 e2
      cases hdec : b6.dec (mid s.data.toList) with
      | none =>
        rw [hdec] at own
        have HN : Hid (b6.dec (mid s.data.toList) = none) := hdec
        have cv := ow.conv_bytes (P := Tryd.prog) (src := 31) (dst := 9) [] own Tryd.underlying31 Tryd.underlying5 Tryd.underlying9
        have HV : Hid (∀ n, (convert 31 9 v).run Tryd.prog (w3.drewN n) = .ok (.string ⟨#[]⟩) (w3.drewN n)) := fun n => ow.conv_bytes (P := Tryd.prog) (w := w3.drewN n) (src := 31) (dst := 9) [] own Tryd.underlying31 Tryd.underlying5 Tryd.underlying9
        have hvn := HV.out
        clear hdec own cv
        go_wp2_with fail
        go_quiet (fail)
        go_wp2
        go_ret2
        exact ⟨⟨[], false, rfl, .inr ⟨rfl, not_dec HN.out⟩⟩, bdrew hb3 _⟩
      | some p =>
        rw [hdec] at own
        have HN : Hid (b6.dec (mid s.data.toList) = some p) := hdec
        have hpl : p.length ≤ 65536 := by
          have h1 := b6.rl_len (s.extract 10 (s.size - 2))
          have h2 : b6.rl (s.extract 10 (s.size - 2)) = p := by unfold b6.rl; rw [if_pos (by omega), HM.out, hdec]; rfl
          rw [h2] at h1
          exact h1
        obtain ⟨P, hP⟩ : ∃ P : ByteArray, P = ⟨p.toArray⟩ := ⟨_, rfl⟩
        have hPs : P.size ≤ 65536 := by rw [hP, Lib.size_eq]; exact hpl
        have hvn : ∀ n, (convert 31 9 v).run Tryd.prog (w3.drewN n) = .ok (.string P) (w3.drewN n) := fun n => by rw [hP]; exact ow.conv_bytes (P := Tryd.prog) (w := w3.drewN n) (src := 31) (dst := 9) p own Tryd.underlying31 Tryd.underlying5 Tryd.underlying9
        obtain ⟨ao, cap, rfl⟩ : ∃ ao cap, v = .slice ao p.length cap := by
          rcases own.2 with ⟨hv, h0⟩ | ⟨g, cap, cur, hv, _⟩
          · exact ⟨none, 0, by have h0' : p.length = 0 := h0; rw [hv, h0']⟩
          · exact ⟨_, cap, hv⟩
        have HPP : Hid (P = ⟨p.toArray⟩) := hP
        clear hdec own hP
        by_cases hr : ut.Right P
        · have CV : Hid (∀ n, Calls Tryd.prog 43 #[.string P] (w3.drewN n) fun e w' => e = .returned (.bool true) ∧ w' = w3.drewN n) := fun n => (ut.specValid_any P _ (by omega)).mono fun e w' h => by
            obtain ⟨h1, h2⟩ := h
            obtain ⟨b, rfl⟩ := ut.says_ex h1
            exact ⟨by rw [(ut.says_iff h1).2 ⟨hPs, hr⟩], h2⟩
          have HR : Hid (ut.Right P) := hr
          clear hr
          by_cases hp0 : p.length = 0
          · have d0 : decide ((0 : Int) < (p.length : Int)) = false := decide_eq_false (by omega)
            have d1 : decide (0 < p.length) = false := decide_eq_false (by omega)
            have HP0 : Hid (p.length = 0) := hp0
            clear hp0
            go_wp2_with fail
            go_quiet ((go_at_call 43; exact Calls.quiet_of_same (CV.out _)))
            go_wp2
            go_ret2
            exact ⟨⟨p, false, by rw [← HPP.out]; rfl, .inr ⟨rfl, not_val HN.out (.inl (List.eq_nil_of_length_eq_zero HP0.out))⟩⟩, bdrew hb3 _⟩
          · have d0 : decide ((0 : Int) < (p.length : Int)) = true := decide_eq_true (by omega)
            have d1 : decide (0 < p.length) = true := decide_eq_true (by omega)
            go_wp2_with fail
            go_quiet ((go_at_call 43; exact Calls.quiet_of_same (CV.out _)))
            go_wp2
            go_ret2
            exact ⟨⟨p, true, by rw [← HPP.out]; rfl, .inl ⟨rfl, is_coded HP.out HP2.out HN.out (fun e => hp0 (by rw [e]; rfl)) (by rw [← HPP.out]; exact HR.out)⟩⟩, bdrew hb3 _⟩
        · have CV : Hid (∀ n, Calls Tryd.prog 43 #[.string P] (w3.drewN n) fun e w' => e = .returned (.bool false) ∧ w' = w3.drewN n) := fun n => (ut.specValid_any P _ (by omega)).mono fun e w' h => by
            obtain ⟨h1, h2⟩ := h
            obtain ⟨b, rfl⟩ := ut.says_ex h1
            refine ⟨?_, h2⟩
            cases b
            · rfl
            · exact absurd ((ut.says_iff h1).1 rfl).2 hr
          have HR : Hid (¬ ut.Right P) := hr
          clear hr
          go_wp2_with fail
          go_quiet ((go_at_call 43; exact Calls.quiet_of_same (CV.out _)))
          go_wp2
          go_ret2
          exact ⟨⟨p, false, by rw [← HPP.out]; rfl, .inr ⟨rfl, not_val HN.out (.inr (by rw [← HPP.out]; exact HR.out))⟩⟩, bdrew hb3 _⟩
end Go.Proofs.YtpbmofofigkpjabDoor.hd
