/-
  An end's text read: the program's way.
-/
import Derived.Test.YtofpnabfecimhaaDoorNup
import Derived.Test.YtofpnabfecimhaaDoorRgc
import Derived.Test.YtofpnabfecimhaaDoorOmk
namespace Go.Proofs.YtofpnabfecimhaaDoor.nu
open Go.RowKit
open rg
set_option linter.unusedVariables false

/-- The two sentinels that strconv's faults hold. -/
def Sents (w : World) : Prop := ∃ e0 e1, w.cell? ⟨4, 0, none⟩ = some e0 ∧ w.cell? ⟨5, 0, none⟩ = some e1 ∧ (e0 = .nilIface ∨ ∃ te pe, e0 = .iface te pe) ∧ (e1 = .nilIface ∨ ∃ te pe, e1 = .iface te pe)
theorem sents_keep {w w' : World} (h : Sents w) (hb : Below w.heap.size w w') : Sents w' := by
  obtain ⟨e0, e1, h0, h1, h2, h3⟩ := h
  exact ⟨e0, e1, (hb.cell (p := ⟨4, 0, none⟩) (World.block_lt_of_cell? w _ h0)).trans h0, (hb.cell (p := ⟨5, 0, none⟩) (World.block_lt_of_cell? w _ h1)).trans h1, h2, h3⟩
/-- What reading an end answers. -/
def OneRet (l : List UInt8) (e : Ending) : Prop := ∃ (v : Int) (B : Bool), e = .returned (.tuple #[.int .i64 v, .bool B]) ∧ ((B = true ∧ one l = some v) ∨ (B = false ∧ one l = none))

/-- Atoi: a number and some fault; a text of digits gives its number. -/
theorem atoi_any (s : ByteArray) (hs : s.size ≤ 1048576) (w : World) (h : Sents w) :
    Calls Tryd.prog 69 #[.string s] w fun e w' => ∃ (v : Int) (er : Value), e = .returned (.tuple #[.int .i64 v, er]) ∧ (∀ n : Nat, 1 ≤ n → n ≤ 4294967295 → s.data.toList = Lib.decDigits n → v = n) ∧ Below w.heap.size w w' := by
  obtain ⟨e0, e1, h0, h1, h2, h3⟩ := h
  rcases ha : Lib.atoiAll s.data.toList with v | _ | _
  · refine (Tryd.strconv_Atoi_ok s (by omega) v ha w).mono ?_
    rintro e w' ⟨rfl, hw⟩
    refine ⟨v, _, rfl, fun n n1 n2 e => ?_, ?_⟩
    · rw [e, atoi_dec n1 n2] at ha
      cases ha
      rfl
    · rcases hw with rfl | ⟨t, rfl⟩
      · exact Below.refl _ _
      · exact ow.below_conv w _ t
  · refine (Tryd.strconv_Atoi_syntax s (by omega) ha e0 w h0 h2).mono ?_
    rintro e w' ⟨N, rfl, _, _, hb⟩
    refine ⟨_, _, rfl, fun n n1 n2 e => ?_, hb⟩
    rw [e, atoi_dec n1 n2] at ha
    cases ha
  · refine (Tryd.strconv_Atoi_range s (by omega) ha e1 w h1 h3).mono ?_
    rintro e w' ⟨N, rfl, _, _, hb⟩
    refine ⟨_, _, rfl, fun n n1 n2 e => ?_, hb⟩
    rw [e, atoi_dec n1 n2] at ha
    cases ha

set_option maxHeartbeats 2000000 in
set_option maxRecDepth 100000 in
theorem endOf_any (s : ByteArray) (hs : s.size ≤ 1048576) (w : World) (h : Sents w) (hT : tb.TP w) :
    Calls Tryd.prog 58 #[.string s] w fun e w' => OneRet s.data.toList e ∧ Below w.heap.size w w' := by
  by_cases hst : s.data.toList = [42]
  · have heq : (s.toList == [42]) = true := by rw [Lib.toList_data, hst]; rfl
    have HR : Hid (one s.data.toList = some 0) := one_some (.inl ⟨hst, rfl⟩)
    clear h hT hst
    go_enter Tryd.func58, Tryd.ntmps58
    go_wp2
    go_ret2
    exact ⟨⟨0, true, rfl, .inl ⟨rfl, HR.out⟩⟩, Below.refl _ _⟩
  have heq : (s.toList == [42]) = false := by rw [Lib.toList_data]; exact beq_eq_false_iff_ne.2 hst
  have HST : Hid (¬ s.data.toList = [42]) := hst
  have HT : Hid (tb.TP w) := hT
  have HS : Hid (Sents w) := h
  clear h hT hst
  go_enter Tryd.func58, Tryd.ntmps58
  go_wp2_with fail
  refine (atoi_any s hs w HS.out).mono ?_
  rintro e w1 ⟨v, er, rfl, hv, b1⟩
  have HV : Hid (∀ n : Nat, 1 ≤ n → n ≤ 4294967295 → s.data.toList = Lib.decDigits n → v = n) := hv
  have HT1 : Hid (tb.TP w1) := tb.keep' HT.out b1
  clear hv HS HT heq
  by_cases hn : Num v
  · have dn : decide (Num v) = true := decide_eq_true hn
    obtain ⟨m, rfl⟩ : ∃ m : Nat, v = m := ⟨v.toNat, by have := hn.1; omega⟩
    have HI : Hid (Calls Tryd.prog 61 #[.int .i64 (m : Int)] w1 fun e w' => e = .returned (.string ⟨(Lib.decDigits m).toArray⟩) ∧ Below w1.heap.size w1 w') := dx.itoa_any m (by have := hn.2; omega) w1 HT1.out
    have HE : Hid (((⟨(Lib.decDigits m).toArray⟩ : ByteArray).toList == s.toList) = decide (Lib.decDigits m = s.data.toList)) := by
      show ((⟨(Lib.decDigits m).toArray⟩ : ByteArray).toList == s.toList) = _
      rw [Lib.toList_data, Lib.toList_data]
      exact Bool.eq_iff_iff.2 (by simp)
    have HN : Hid (1 ≤ m ∧ m ≤ 4294967295) := ⟨by have := hn.1; omega, by have := hn.2; omega⟩
    clear hn HT1
    generalize (⟨(Lib.decDigits m).toArray⟩ : ByteArray) = D at HI HE
    go_wp2_with fail
    refine (isNumber_any _ _).mono ?_
    rintro e w1 ⟨rfl, rfl⟩
    rw [dn]
    go_wp2_with fail
    refine HI.out.mono ?_
    rintro e w2 ⟨rfl, b2⟩
    have b3 := b1.trans (b2.mono b1.size)
    clear HI b2 b1 dn
    by_cases hd : Lib.decDigits m = s.data.toList
    · have he : (D.toList == s.toList) = true := by rw [HE.out]; exact decide_eq_true hd
      have HR : Hid (one s.data.toList = some (m : Int)) := one_some (.inr ⟨by have := HN.out.1; omega, by have := HN.out.2; omega, hd.symm⟩)
      clear HE hd
      go_wp2
      go_ret2
      exact ⟨⟨m, true, rfl, .inl ⟨rfl, HR.out⟩⟩, b3⟩
    · have he : (D.toList == s.toList) = false := by rw [HE.out]; exact decide_eq_false hd
      have HR : Hid (one s.data.toList = none) := one_none (fun n y => by
        rcases y with ⟨y, _⟩ | ⟨y1, y2, y3⟩
        · exact HST.out y
        · have := HV.out n.toNat (by omega) (by omega) y3
          have e : m = n.toNat := by omega
          exact hd (by rw [e]; exact y3.symm))
      clear HE hd
      go_wp2
      go_ret2
      exact ⟨⟨m, false, rfl, .inr ⟨rfl, HR.out⟩⟩, b3⟩
  · have dn : decide (Num v) = false := decide_eq_false hn
    have HR : Hid (one s.data.toList = none) := one_none (fun n y => by
      rcases y with ⟨y, _⟩ | ⟨y1, y2, y3⟩
      · exact HST.out y
      · have := HV.out n.toNat (by omega) (by omega) y3
        exact hn ⟨by omega, by omega⟩)
    clear hn
    go_wp2_with fail
    refine (isNumber_any _ _).mono ?_
    rintro e w1 ⟨rfl, rfl⟩
    rw [dn]
    go_wp2
    go_ret2
    exact ⟨⟨v, false, rfl, .inr ⟨rfl, HR.out⟩⟩, b1⟩
end Go.Proofs.YtofpnabfecimhaaDoor.nu
