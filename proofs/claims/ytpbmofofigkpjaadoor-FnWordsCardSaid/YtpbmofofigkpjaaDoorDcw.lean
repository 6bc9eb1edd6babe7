/-
  Contracts of the program's and of the specification's reading of one word: whether it is an encoded one, and what it says.
-/
import Derived.Test.YtpbmofofigkpjaaDoorEnw
import Derived.Test.YtpbmofofigkpjaaDoorIde
import Derived.Test.YtpbmofofigkpjaaDoorVaw
import Derived.Test.YtpbmofofigkpjaaDoorShf
import Derived.Deep.QuietTactic
import Derived.BigQuiet
namespace Go.Proofs.YtpbmofofigkpjaaDoor.hd
open Go.RowKit
set_option linter.unusedVariables false

def hB : ByteArray := ⟨#[61, 63, 117, 116, 102, 45, 56, 63, 66, 63]⟩
def tB : ByteArray := ⟨#[63, 61]⟩
theorem hB_list : (⟨#[61, 63, 117, 116, 102, 45, 56, 63, 66, 63]⟩ : ByteArray).data.toList = head := rfl
theorem tB_list : (⟨#[63, 61]⟩ : ByteArray).data.toList = tail := rfl
theorem bytes_self (s : ByteArray) : s = ⟨s.data.toList.toArray⟩ := by
  apply ByteArray.ext
  simp
/-- What is between the ends of a word. -/
def mid (l : List UInt8) : List UInt8 := (l.drop 10).take ((l.drop 10).length - 2)
theorem mid_len (l : List UInt8) : (mid l).length ≤ l.length := by
  unfold mid
  rw [List.length_take, List.length_drop]
  omega
theorem not_pre {l : List UInt8} (h : Lib.hasPrefix l head = false) : ∀ y, ¬ Coded l y := fun y x => by have := x.1; rw [h] at this; cases this
theorem not_suf {l : List UInt8} (h : Lib.hasSuffix (l.drop 10) tail = false) : ∀ y, ¬ Coded l y := fun y x => by have := x.2.1; rw [h] at this; cases this
theorem not_dec {l : List UInt8} (h : b6.dec (mid l) = none) : ∀ y, ¬ Coded l y := fun y x => by have := x.2.2.1; rw [show (l.drop 10).take ((l.drop 10).length - 2) = mid l from rfl, h] at this; cases this
theorem not_val {l p : List UInt8} (h : b6.dec (mid l) = some p) (hp : p = [] ∨ ¬ ut.Right ⟨p.toArray⟩) : ∀ y, ¬ Coded l y := fun y x => by
  have h1 : b6.dec (mid l) = some y := x.2.2.1
  rw [h] at h1
  cases h1
  rcases hp with hp | hp
  · exact x.2.2.2.1 hp
  · exact hp x.2.2.2.2
theorem is_coded {l p : List UInt8} (h1 : Lib.hasPrefix l head = true) (h2 : Lib.hasSuffix (l.drop 10) tail = true) (h : b6.dec (mid l) = some p) (hp : p ≠ []) (hr : ut.Right ⟨p.toArray⟩) : Coded l p := ⟨h1, h2, h, hp, hr⟩

/-- What the program says of a word. -/
def WordIs (x y : List UInt8) (b : Bool) : Prop := (b = true ∧ Coded x y) ∨ (b = false ∧ y = x ∧ ∀ z, ¬ Coded x z)

set_option maxHeartbeats 2000000 in
set_option maxRecDepth 100000 in
theorem implWord_any (s : ByteArray) (w : World) (hT : tb.TV w) (hs : s.size ≤ 2000) :
    Calls Tryd.prog 43 #[.string s] w fun e w' => (∃ (y : List UInt8) (b : Bool), e = .returned (.tuple #[.string ⟨y.toArray⟩, .bool b]) ∧ WordIs s.data.toList y b) ∧ Below w.heap.size w w' := by
  go_enter Tryd.func43, Tryd.ntmps43
  go_wp2_with fail
  refine (Tryd.strings_CutPrefix s _ _).mono ?_
  rintro e w' ⟨rfl, rfl⟩
  rw [hB_list]
  cases hp : Lib.hasPrefix s.data.toList head with
  | false =>
    have HP : Hid (Lib.hasPrefix s.data.toList head = false) := hp
    rw [show Lib.trimPrefix s.data.toList head = s.data.toList from by unfold Lib.trimPrefix; rw [hp]; rfl]
    rw [← bytes_self s]
    clear hp
    go_wp2_with fail
    refine (Tryd.strings_CutSuffix s _ _ (by omega)).mono ?_
    rintro e w2 ⟨rfl, rfl⟩
    go_wp2
    go_ret2
    exact ⟨⟨s.data.toList, false, by rw [← bytes_self s]; rfl, .inr ⟨rfl, rfl, not_pre HP.out⟩⟩, Below.refl _ _⟩
  | true =>
    have HP : Hid (Lib.hasPrefix s.data.toList head = true) := hp
    rw [show Lib.trimPrefix s.data.toList head = s.data.toList.drop 10 from by unfold Lib.trimPrefix; rw [hp]; rfl]
    clear hp
    obtain ⟨c, hc⟩ : ∃ c : ByteArray, c = ⟨(s.data.toList.drop 10).toArray⟩ := ⟨_, rfl⟩
    have hcl : c.data.toList = s.data.toList.drop 10 := by rw [hc]
    have hcs : c.size ≤ 2000 := by rw [Lib.size_eq, hcl, List.length_drop, ← Lib.size_eq]; omega
    rw [← hc]
    have HC : Hid (c.data.toList = s.data.toList.drop 10) := hcl
    clear hc hcl
    go_wp2_with fail
    refine (Tryd.strings_CutSuffix c _ _ (by omega)).mono ?_
    rintro e w2 ⟨rfl, rfl⟩
    rw [tB_list]
    cases hp : Lib.hasSuffix c.data.toList tail with
    | false =>
      have HP2 : Hid (Lib.hasSuffix (s.data.toList.drop 10) tail = false) := by have h := hp; rw [HC.out] at h; exact h
      clear hp
      generalize (⟨(Lib.trimSuffix c.data.toList tail).toArray⟩ : ByteArray) = d
      go_wp2
      go_ret2
      exact ⟨⟨s.data.toList, false, by rw [← bytes_self s]; rfl, .inr ⟨rfl, rfl, not_suf HP2.out⟩⟩, Below.refl _ _⟩
    | true =>
      have HP2 : Hid (Lib.hasSuffix (s.data.toList.drop 10) tail = true) := by have h := hp; rw [HC.out] at h; exact h
      obtain ⟨d, hd⟩ : ∃ d : ByteArray, d = ⟨(mid s.data.toList).toArray⟩ := ⟨_, rfl⟩
      rw [show (⟨(Lib.trimSuffix c.data.toList tail).toArray⟩ : ByteArray) = d from by unfold Lib.trimSuffix; rw [hp, hd, HC.out]; rfl]
      have hdl : d.data.toList = mid s.data.toList := by rw [hd]
      have hds : d.size ≤ 2000 := by rw [Lib.size_eq, hdl]; have := mid_len s.data.toList; rw [← Lib.size_eq] at this; omega
      have HD : Hid (d.data.toList = mid s.data.toList) := hdl
      clear hp hd hdl
      go_wp2_with fail
      refine (b6.implGet_any d _ hT (by unfold maxLen; omega)).mono ?_
      rintro e w3 ⟨⟨v, rfl, own⟩, hb3⟩
      clear hT
      cases hdec : b6.dec (mid s.data.toList) with
      | none =>
        have hrc : b6.rc d = 3 := by unfold b6.rc; rw [if_pos (by omega), HD.out, hdec]; rfl
        have HN : Hid (b6.dec (mid s.data.toList) = none) := hdec
        rw [hrc]
        clear hdec hrc own
        go_wp2
        go_ret2
        exact ⟨⟨s.data.toList, false, by rw [← bytes_self s]; rfl, .inr ⟨rfl, rfl, not_dec HN.out⟩⟩, hb3⟩
      | some p =>
        have hrc : b6.rc d = 0 := by unfold b6.rc; rw [if_pos (by omega), HD.out, hdec]; rfl
        have hrl : b6.rl d = p := by unfold b6.rl; rw [if_pos (by omega), HD.out, hdec]; rfl
        have HN : Hid (b6.dec (mid s.data.toList) = some p) := hdec
        have hpl := b6.rl_len d
        rw [hrl] at own hpl
        rw [hrc]
        have cv := ow.conv_bytes (P := Tryd.prog) (src := 22) (dst := 9) p own Tryd.underlying22 Tryd.underlying5 Tryd.underlying9
        obtain ⟨ao, cap, rfl⟩ : ∃ ao cap, v = .slice ao p.length cap := by
          rcases own.2 with ⟨hv, h0⟩ | ⟨g, cap, cur, hv, _⟩
          · exact ⟨none, 0, by rw [hv, h0]⟩
          · exact ⟨_, cap, hv⟩
        clear hdec hrc hrl
        by_cases hp0 : p.length = 0
        · have d0 : ((p.length : Int) == 0) = true := beq_iff_eq.2 (by omega)
          clear cv own
          go_wp2
          go_ret2
          exact ⟨⟨s.data.toList, false, by rw [← bytes_self s]; rfl, .inr ⟨rfl, rfl, not_val HN.out (.inl (List.eq_nil_of_length_eq_zero hp0))⟩⟩, hb3⟩
        have d0 : ((p.length : Int) == 0) = false := beq_eq_false_iff_ne.2 (by omega)
        obtain ⟨P, hP⟩ : ∃ P : ByteArray, P = ⟨p.toArray⟩ := ⟨_, rfl⟩
        rw [← hP] at cv
        have hPs : P.size ≤ 65536 := by rw [hP, Lib.size_eq]; exact hpl
        have HPP : Hid (P = ⟨p.toArray⟩) := hP
        clear hP
        go_wp2_with fail
        refine (ut.isRight_any P _ (by omega)).mono ?_
        rintro e w4 ⟨hsays, q, hw4⟩
        have hb4 : Below w3.heap.size w3 w4 := by rw [hw4]; exact (Below.refl _ _).alloc (Nat.le_refl _) _
        have cv4 := ow.conv_bytes (P := Tryd.prog) (src := 22) (dst := 9) p (ow.own_below own hb4) Tryd.underlying22 Tryd.underlying5 Tryd.underlying9
        rw [← HPP.out] at cv4
        have hb5 := hb3.trans (hb4.mono hb3.size)
        clear hw4 cv own
        by_cases hr : ut.Right P
        · obtain ⟨b, rfl⟩ := ut.says_ex hsays
          obtain rfl : b = true := (ut.says_iff hsays).2 hr
          have HR : Hid (ut.Right P) := hr
          clear hsays hr
          go_wp2
          go_ret2
          exact ⟨⟨p, true, by rw [← HPP.out]; rfl, .inl ⟨rfl, is_coded HP.out HP2.out HN.out (fun e => hp0 (by rw [e]; rfl)) (by rw [← HPP.out]; exact HR.out)⟩⟩, hb5⟩
        · obtain ⟨b, rfl⟩ := ut.says_ex hsays
          obtain rfl : b = false := by
            cases b
            · rfl
            · exact absurd ((ut.says_iff hsays).1 rfl) hr
          have HR : Hid (¬ ut.Right P) := hr
          clear hsays hr cv4
          go_wp2
          go_ret2
          exact ⟨⟨s.data.toList, false, by rw [← bytes_self s]; rfl, .inr ⟨rfl, rfl, not_val HN.out (.inr (by rw [← HPP.out]; exact HR.out))⟩⟩, hb5⟩
end Go.Proofs.YtpbmofofigkpjaaDoor.hd
