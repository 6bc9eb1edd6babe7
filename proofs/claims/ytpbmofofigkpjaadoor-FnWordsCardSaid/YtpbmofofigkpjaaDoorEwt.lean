/-
  Contracts of both EncodeWords functions.
-/
import Derived.Test.YtpbmofofigkpjaaDoorSew
import Derived.Test.YtpbmofofigkpjaaDoorVaw
namespace Go.Proofs.YtpbmofofigkpjaaDoor.hd
open Go.RowKit
set_option linter.unusedVariables false

/-- What both EncodeWords functions answer. -/
def EwRet (s : ByteArray) (e : Ending) : Prop :=
  (65536 < s.size ∧ e = .returned (.tuple #[.string ⟨#[]⟩, .int .i64 2])) ∨
  (s.size ≤ 65536 ∧ ¬ ut.Right s ∧ e = .returned (.tuple #[.string ⟨#[]⟩, .int .i64 3])) ∨
  (s.size ≤ 65536 ∧ ut.Right s ∧ 1000 < s.size ∧ e = .returned (.tuple #[.string ⟨#[]⟩, .int .i64 4])) ∨
  (ut.Right s ∧ s.size ≤ 1000 ∧ ∃ r, EncIs s r ∧ e = .returned (.tuple #[.string r, .int .i64 0]))
theorem ew_ex {s : ByteArray} {e : Ending} (h : EwRet s e) : ∃ (r : ByteArray) (c : Int), e = .returned (.tuple #[.string r, .int .i64 c]) := by
  rcases h with ⟨_, rfl⟩ | ⟨_, _, rfl⟩ | ⟨_, _, _, rfl⟩ | ⟨_, _, r, _, rfl⟩ <;> exact ⟨_, _, rfl⟩
theorem ew_same {s r r' : ByteArray} {c c' : Int} (h : EwRet s (.returned (.tuple #[.string r, .int .i64 c]))) (h' : EwRet s (.returned (.tuple #[.string r', .int .i64 c']))) : r = r' ∧ c = c' := by
  rcases h with ⟨a, h⟩ | ⟨a, a2, h⟩ | ⟨a, a2, a3, h⟩ | ⟨a, a2, q, hq, h⟩ <;>
  rcases h' with ⟨b, h'⟩ | ⟨b, b2, h'⟩ | ⟨b, b2, b3, h'⟩ | ⟨b, b2, q', hq', h'⟩ <;>
  cases h <;> cases h' <;>
  first | exact ⟨rfl, rfl⟩ | exact ⟨enc_same hq hq', rfl⟩ | (exfalso; omega) | (exfalso; exact a2 b2) | (exfalso; exact b2 a2) | (exfalso; exact a2 b) | (exfalso; exact b2 a)

set_option maxHeartbeats 1000000 in
set_option maxRecDepth 100000 in
theorem specEw_any (s : ByteArray) (w : World) (hs : s.size ≤ 1048576) :
    Calls Tryd.prog 16 #[.string s] w fun e w' => EwRet s e ∧ Below w.heap.size w w' := by
  by_cases h : s.size ≤ 65536
  case neg =>
    have h' : (65536 : Int) < (s.size : Int) := by omega
    go_enter Tryd.func16, Tryd.ntmps16
    go_wp2
    go_ret2
    exact ⟨.inl ⟨by omega, rfl⟩, Below.refl _ _⟩
  have h' : (s.size : Int) ≤ 65536 := by omega
  go_enter Tryd.func16, Tryd.ntmps16
  go_wp2_with fail
  refine (ut.specValid_any s _ hs).mono ?_
  rintro e w' ⟨hn, rfl⟩
  by_cases hr : ut.Right s
  case neg =>
    obtain ⟨b, rfl⟩ := ut.says_ex hn
    obtain rfl : b = false := by
      cases b
      · rfl
      · exact absurd ((ut.says_iff hn).1 rfl).2 hr
    go_wp2
    go_ret2
    exact ⟨.inr (.inl ⟨h, hr, rfl⟩), Below.refl _ _⟩
  obtain ⟨b, rfl⟩ := ut.says_ex hn
  obtain rfl : b = true := (ut.says_iff hn).2 ⟨h, hr⟩
  have HR : Hid (ut.Right s) := hr
  clear hr hn
  by_cases h1 : s.size ≤ 1000
  case neg =>
    have h1' : (1000 : Int) < (s.size : Int) := by omega
    go_wp2
    go_ret2
    exact ⟨.inr (.inr (.inl ⟨h, HR.out, by omega, rfl⟩)), Below.refl _ _⟩
  have h1' : (s.size : Int) ≤ 1000 := by omega
  go_wp2_with fail
  refine (specEncode_any s _ h1).mono ?_
  rintro e w1 ⟨⟨r, rfl, hr⟩, hb⟩
  have HE : Hid (EncIs s r) := hr
  clear hr
  go_wp2
  go_ret2
  exact ⟨.inr (.inr (.inr ⟨HR.out, h1, r, HE.out, rfl⟩)), hb⟩

set_option maxHeartbeats 1000000 in
set_option maxRecDepth 100000 in
theorem implEw_any (s : ByteArray) (w : World) (m : Int) (hm : w.cell? ⟨3, 0, none⟩ = some (.int .i64 m)) (hT : tb.TC w) (hs : s.size ≤ 1048576) :
    Calls Tryd.prog 15 #[.string s] w fun e w' => EwRet s e ∧ Below w.heap.size w w' := by
  by_cases h : s.size ≤ 65536
  case neg =>
    have h' : (65536 : Int) < (s.size : Int) := by omega
    clear hm hT
    go_enter Tryd.func15, Tryd.ntmps15
    go_wp2
    go_ret2
    exact ⟨.inl ⟨by omega, rfl⟩, Below.refl _ _⟩
  have h' : (s.size : Int) ≤ 65536 := by omega
  have hgl := World.block_lt_of_cell? _ _ hm
  have HM : Hid (∀ W, Below w.heap.size w W → W.cell? ⟨3, 0, none⟩ = some (.int .i64 m) ∧ tb.TC W) := fun W hW => ⟨(hW.cell (p := ⟨3, 0, none⟩) hgl).trans hm, tb.keep' hT hW⟩
  clear hm hT hgl
  go_enter Tryd.func15, Tryd.ntmps15
  go_wp2_with fail
  refine (ut.isRight_any s _ hs).mono ?_
  rintro e w' ⟨hn, p, hw⟩
  have hb1 : Below w.heap.size w w' := by rw [hw]; exact (Below.refl _ _).alloc (Nat.le_refl _) _
  clear hw
  by_cases hr : ut.Right s
  case neg =>
    obtain ⟨b, rfl⟩ := ut.says_ex hn
    obtain rfl : b = false := by
      cases b
      · rfl
      · exact absurd ((ut.says_iff hn).1 rfl) hr
    go_wp2
    go_ret2
    exact ⟨.inr (.inl ⟨h, hr, rfl⟩), hb1⟩
  obtain ⟨b, rfl⟩ := ut.says_ex hn
  obtain rfl : b = true := (ut.says_iff hn).2 hr
  have HR : Hid (ut.Right s) := hr
  clear hr hn
  by_cases h1 : s.size ≤ 1000
  case neg =>
    have h1' : (1000 : Int) < (s.size : Int) := by omega
    go_wp2
    go_ret2
    exact ⟨.inr (.inr (.inl ⟨h, HR.out, by omega, rfl⟩)), hb1⟩
  have h1' : (s.size : Int) ≤ 1000 := by omega
  go_wp2_with fail
  refine (sv.impl_any s _ (by unfold maxLen; omega)).mono ?_
  rintro e w2 ⟨hsv, rfl⟩
  by_cases hsafe : Safe s.data.toList
  case neg =>
    obtain rfl := sv.says_false hsv hsafe
    clear hsv
    go_wp2_with fail
    refine (encoded_any s _ (HM.out _ hb1).2 h1).mono ?_
    rintro e w3 ⟨⟨r, rfl, hr⟩, hb⟩
    have HE : Hid (EndsAny s [] r) := hr
    clear hr
    go_wp2
    go_ret2
    exact ⟨.inr (.inr (.inr ⟨HR.out, h1, _, .inr ⟨fun x => hsafe x.1, HE.out⟩, rfl⟩)), hb1.trans (hb.mono hb1.size)⟩
  obtain rfl := sv.says_true hsv hsafe
  have HS : Hid (Safe s.data.toList) := hsafe
  clear hsv hsafe
  go_wp2_with fail
  refine (Tryd.strings_Contains s ⟨#[61, 63]⟩ m _ (by omega) (HM.out _ hb1).1).mono ?_
  rintro e w3 ⟨rfl, rfl⟩
  have HC : Hid (Lib.contains s.data.toList (⟨#[61, 63]⟩ : ByteArray).data.toList = Lib.contains s.data.toList sign) := rfl
  rw [HC.out]
  by_cases hc : Lib.contains s.data.toList sign = true
  · rw [hc]
    go_wp2_with fail
    refine (encoded_any s _ (HM.out _ hb1).2 h1).mono ?_
    rintro e w4 ⟨⟨r, rfl, hr⟩, hb⟩
    have HE : Hid (EndsAny s [] r) := hr
    have HC2 : Hid (Lib.contains s.data.toList sign = true) := hc
    clear hr hc
    go_wp2
    go_ret2
    exact ⟨.inr (.inr (.inr ⟨HR.out, h1, _, .inr ⟨fun x => (by have := x.2; rw [HC2.out] at this; cases this), HE.out⟩, rfl⟩)), hb1.trans (hb.mono hb1.size)⟩
  · have hcf : Lib.contains s.data.toList sign = false := by simpa using hc
    rw [hcf]
    have HC2 : Hid (Lib.contains s.data.toList sign = false) := hcf
    clear hc hcf
    go_wp2_with fail
    refine (ut.clone_any s _ (by omega)).mono ?_
    rintro e w4 ⟨rfl, hb⟩
    go_wp2
    go_ret2
    exact ⟨.inr (.inr (.inr ⟨HR.out, h1, _, .inl ⟨⟨HS.out, HC2.out⟩, rfl⟩, rfl⟩)), hb1.trans (hb.mono hb1.size)⟩
end Go.Proofs.YtpbmofofigkpjaaDoor.hd
