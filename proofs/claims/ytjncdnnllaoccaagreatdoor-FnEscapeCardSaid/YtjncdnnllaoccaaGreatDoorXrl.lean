/-
  The program's reader of XML: what comes next, and all of a text.
-/
import Derived.Test.YtjncdnnllaoccaaGreatDoorXrk
namespace Go.Proofs.YtjncdnnllaoccaaGreatDoor.xd
open Go.RowKit
set_option linter.unusedVariables false

theorem st_any (b p : Nat) (s : ByteArray) (vT vO : Value) (w : World) (n : Nat) (pc : ByteArray) (v : Bool) (h : Rb w b s p vT vO) (hp : p ≤ s.size) (hs : s.size ≤ 65536) (hv : Lib.hasPrefix (s.data.toList.drop p) pc.data.toList = v) :
    Calls Tryz.prog 80 #[.pointer (some ⟨b, 0, none⟩), .string pc] (w.drewN n) fun e w' => e = .returned (.bool v) ∧ ∃ m, w' = w.drewN m := by
  have := stands_any b p s pc vT vO (w.drewN n) (h.drew n) hp hs
  rw [hv] at this
  exact this.mono fun e w' ⟨x, m, y⟩ => ⟨x, n + m, by rw [y, World.drewN_drewN]⟩

set_option maxHeartbeats 2000000 in
theorem next_text (b p : Nat) (s : ByteArray) (vT vO : Value) (w : World) (h : Rb w b s p vT vO) (hp : p ≤ s.size) (hs : s.size ≤ 65536) (c : UInt8) (r : List UInt8) (hc : s.data.toList.drop p = c :: r) (hne : c ≠ 60) (Q : World → Prop)
    (HX : ∀ n, Calls Tryz.prog 85 #[.pointer (some ⟨b, 0, none⟩)] (w.drewN n) fun e w' => e = .returned .nilIface ∧ Q w') (k0 : Nat) :
    Calls Tryz.prog 58 #[.pointer (some ⟨b, 0, none⟩)] (w.drewN k0) fun e w' => e = .returned .nilIface ∧ Q w' := by
  have hb : ((60 : UInt8) == c) = false := beq_eq_false_iff_ne.2 hne.symm
  have S1 : Hid (∀ n, Calls Tryz.prog 80 #[.pointer (some ⟨b, 0, none⟩), .string ⟨#[60, 63]⟩] (w.drewN n) fun e w' => e = .returned (.bool false) ∧ ∃ m, w' = w.drewN m) := fun n => st_any b p s vT vO w n _ _ h hp hs (by rw [hc]; simp [Lib.hasPrefix, List.isPrefixOf, hb])
  have S2 : Hid (∀ n, Calls Tryz.prog 80 #[.pointer (some ⟨b, 0, none⟩), .string ⟨#[60, 33, 45, 45]⟩] (w.drewN n) fun e w' => e = .returned (.bool false) ∧ ∃ m, w' = w.drewN m) := fun n => st_any b p s vT vO w n _ _ h hp hs (by rw [hc]; simp [Lib.hasPrefix, List.isPrefixOf, hb])
  have S3 : Hid (∀ n, Calls Tryz.prog 80 #[.pointer (some ⟨b, 0, none⟩), .string ⟨#[60, 33, 91, 67, 68, 65, 84, 65, 91]⟩] (w.drewN n) fun e w' => e = .returned (.bool false) ∧ ∃ m, w' = w.drewN m) := fun n => st_any b p s vT vO w n _ _ h hp hs (by rw [hc]; simp [Lib.hasPrefix, List.isPrefixOf, hb])
  have S4 : Hid (∀ n, Calls Tryz.prog 80 #[.pointer (some ⟨b, 0, none⟩), .string ⟨#[60, 33]⟩] (w.drewN n) fun e w' => e = .returned (.bool false) ∧ ∃ m, w' = w.drewN m) := fun n => st_any b p s vT vO w n _ _ h hp hs (by rw [hc]; simp [Lib.hasPrefix, List.isPrefixOf, hb])
  have S5 : Hid (∀ n, Calls Tryz.prog 80 #[.pointer (some ⟨b, 0, none⟩), .string ⟨#[60, 47]⟩] (w.drewN n) fun e w' => e = .returned (.bool false) ∧ ∃ m, w' = w.drewN m) := fun n => st_any b p s vT vO w n _ _ h hp hs (by rw [hc]; simp [Lib.hasPrefix, List.isPrefixOf, hb])
  have S6 : Hid (∀ n, Calls Tryz.prog 80 #[.pointer (some ⟨b, 0, none⟩), .string ⟨#[60]⟩] (w.drewN n) fun e w' => e = .returned (.bool false) ∧ ∃ m, w' = w.drewN m) := fun n => st_any b p s vT vO w n _ _ h hp hs (by rw [hc]; simp [Lib.hasPrefix, List.isPrefixOf, hb])
  have HXX : Hid (∀ n, Calls Tryz.prog 85 #[.pointer (some ⟨b, 0, none⟩)] (w.drewN n) fun e w' => e = .returned .nilIface ∧ Q w') := HX
  clear h hc hb HX
  go_enter Tryz.func58, Tryz.ntmps58
  go_wp2_with fail
  refine (S1.out _).mono ?_
  rintro e w1 ⟨rfl, n1, rfl⟩
  go_wp2_with fail
  refine (S2.out _).mono ?_
  rintro e w1 ⟨rfl, n2, rfl⟩
  go_wp2_with fail
  refine (S3.out _).mono ?_
  rintro e w1 ⟨rfl, n3, rfl⟩
  go_wp2_with fail
  refine (S4.out _).mono ?_
  rintro e w1 ⟨rfl, n4, rfl⟩
  go_wp2_with fail
  refine (S5.out _).mono ?_
  rintro e w1 ⟨rfl, n5, rfl⟩
  go_wp2_with fail
  refine (S6.out _).mono ?_
  rintro e w1 ⟨rfl, n6, rfl⟩
  go_wp2_with fail
  refine (HXX.out _).mono ?_
  rintro e w2 ⟨rfl, hq⟩
  have HQ : Hid (Q w2) := hq
  clear hq
  go_wp2
  go_ret
  exact ⟨rfl, HQ.out⟩

set_option maxHeartbeats 2000000 in
theorem next_start (b p : Nat) (s : ByteArray) (vT vO : Value) (w : World) (h : Rb w b s p vT vO) (hp : p ≤ s.size) (hs : s.size ≤ 65536) (c : UInt8) (r : List UInt8) (hc : s.data.toList.drop p = 60 :: c :: r) (n63 : c ≠ 63) (n33 : c ≠ 33) (n47 : c ≠ 47) (Q : World → Prop)
    (HX : ∀ n, Calls Tryz.prog 84 #[.pointer (some ⟨b, 0, none⟩)] (w.drewN n) fun e w' => e = .returned .nilIface ∧ Q w') (k0 : Nat) :
    Calls Tryz.prog 58 #[.pointer (some ⟨b, 0, none⟩)] (w.drewN k0) fun e w' => e = .returned .nilIface ∧ Q w' := by
  have b63 : ((63 : UInt8) == c) = false := beq_eq_false_iff_ne.2 n63.symm
  have b33 : ((33 : UInt8) == c) = false := beq_eq_false_iff_ne.2 n33.symm
  have b47 : ((47 : UInt8) == c) = false := beq_eq_false_iff_ne.2 n47.symm
  have S1 : Hid (∀ n, Calls Tryz.prog 80 #[.pointer (some ⟨b, 0, none⟩), .string ⟨#[60, 63]⟩] (w.drewN n) fun e w' => e = .returned (.bool false) ∧ ∃ m, w' = w.drewN m) := fun n => st_any b p s vT vO w n _ _ h hp hs (by rw [hc]; simp [Lib.hasPrefix, List.isPrefixOf, b63])
  have S2 : Hid (∀ n, Calls Tryz.prog 80 #[.pointer (some ⟨b, 0, none⟩), .string ⟨#[60, 33, 45, 45]⟩] (w.drewN n) fun e w' => e = .returned (.bool false) ∧ ∃ m, w' = w.drewN m) := fun n => st_any b p s vT vO w n _ _ h hp hs (by rw [hc]; simp [Lib.hasPrefix, List.isPrefixOf, b33])
  have S3 : Hid (∀ n, Calls Tryz.prog 80 #[.pointer (some ⟨b, 0, none⟩), .string ⟨#[60, 33, 91, 67, 68, 65, 84, 65, 91]⟩] (w.drewN n) fun e w' => e = .returned (.bool false) ∧ ∃ m, w' = w.drewN m) := fun n => st_any b p s vT vO w n _ _ h hp hs (by rw [hc]; simp [Lib.hasPrefix, List.isPrefixOf, b33])
  have S4 : Hid (∀ n, Calls Tryz.prog 80 #[.pointer (some ⟨b, 0, none⟩), .string ⟨#[60, 33]⟩] (w.drewN n) fun e w' => e = .returned (.bool false) ∧ ∃ m, w' = w.drewN m) := fun n => st_any b p s vT vO w n _ _ h hp hs (by rw [hc]; simp [Lib.hasPrefix, List.isPrefixOf, b33])
  have S5 : Hid (∀ n, Calls Tryz.prog 80 #[.pointer (some ⟨b, 0, none⟩), .string ⟨#[60, 47]⟩] (w.drewN n) fun e w' => e = .returned (.bool false) ∧ ∃ m, w' = w.drewN m) := fun n => st_any b p s vT vO w n _ _ h hp hs (by rw [hc]; simp [Lib.hasPrefix, List.isPrefixOf, b47])
  have S6 : Hid (∀ n, Calls Tryz.prog 80 #[.pointer (some ⟨b, 0, none⟩), .string ⟨#[60]⟩] (w.drewN n) fun e w' => e = .returned (.bool true) ∧ ∃ m, w' = w.drewN m) := fun n => st_any b p s vT vO w n _ _ h hp hs (by rw [hc]; simp [Lib.hasPrefix, List.isPrefixOf])
  have HXX : Hid (∀ n, Calls Tryz.prog 84 #[.pointer (some ⟨b, 0, none⟩)] (w.drewN n) fun e w' => e = .returned .nilIface ∧ Q w') := HX
  clear h hc HX b63 b33 b47
  go_enter Tryz.func58, Tryz.ntmps58
  go_wp2_with fail
  refine (S1.out _).mono ?_
  rintro e w1 ⟨rfl, n1, rfl⟩
  go_wp2_with fail
  refine (S2.out _).mono ?_
  rintro e w1 ⟨rfl, n2, rfl⟩
  go_wp2_with fail
  refine (S3.out _).mono ?_
  rintro e w1 ⟨rfl, n3, rfl⟩
  go_wp2_with fail
  refine (S4.out _).mono ?_
  rintro e w1 ⟨rfl, n4, rfl⟩
  go_wp2_with fail
  refine (S5.out _).mono ?_
  rintro e w1 ⟨rfl, n5, rfl⟩
  go_wp2_with fail
  refine (S6.out _).mono ?_
  rintro e w1 ⟨rfl, n6, rfl⟩
  go_wp2_with fail
  refine (HXX.out _).mono ?_
  rintro e w2 ⟨rfl, hq⟩
  have HQ : Hid (Q w2) := hq
  clear hq
  go_wp2
  go_ret
  exact ⟨rfl, HQ.out⟩

set_option maxHeartbeats 2000000 in
theorem next_end (b p : Nat) (s : ByteArray) (vT vO : Value) (w : World) (h : Rb w b s p vT vO) (hp : p ≤ s.size) (hs : s.size ≤ 65536) (r : List UInt8) (hc : s.data.toList.drop p = 60 :: 47 :: r) (Q : World → Prop)
    (HX : ∀ n, Calls Tryz.prog 83 #[.pointer (some ⟨b, 0, none⟩)] (w.drewN n) fun e w' => e = .returned .nilIface ∧ Q w') (k0 : Nat) :
    Calls Tryz.prog 58 #[.pointer (some ⟨b, 0, none⟩)] (w.drewN k0) fun e w' => e = .returned .nilIface ∧ Q w' := by
  have S1 : Hid (∀ n, Calls Tryz.prog 80 #[.pointer (some ⟨b, 0, none⟩), .string ⟨#[60, 63]⟩] (w.drewN n) fun e w' => e = .returned (.bool false) ∧ ∃ m, w' = w.drewN m) := fun n => st_any b p s vT vO w n _ _ h hp hs (by rw [hc]; rfl)
  have S2 : Hid (∀ n, Calls Tryz.prog 80 #[.pointer (some ⟨b, 0, none⟩), .string ⟨#[60, 33, 45, 45]⟩] (w.drewN n) fun e w' => e = .returned (.bool false) ∧ ∃ m, w' = w.drewN m) := fun n => st_any b p s vT vO w n _ _ h hp hs (by rw [hc]; rfl)
  have S3 : Hid (∀ n, Calls Tryz.prog 80 #[.pointer (some ⟨b, 0, none⟩), .string ⟨#[60, 33, 91, 67, 68, 65, 84, 65, 91]⟩] (w.drewN n) fun e w' => e = .returned (.bool false) ∧ ∃ m, w' = w.drewN m) := fun n => st_any b p s vT vO w n _ _ h hp hs (by rw [hc]; rfl)
  have S4 : Hid (∀ n, Calls Tryz.prog 80 #[.pointer (some ⟨b, 0, none⟩), .string ⟨#[60, 33]⟩] (w.drewN n) fun e w' => e = .returned (.bool false) ∧ ∃ m, w' = w.drewN m) := fun n => st_any b p s vT vO w n _ _ h hp hs (by rw [hc]; rfl)
  have S5 : Hid (∀ n, Calls Tryz.prog 80 #[.pointer (some ⟨b, 0, none⟩), .string ⟨#[60, 47]⟩] (w.drewN n) fun e w' => e = .returned (.bool true) ∧ ∃ m, w' = w.drewN m) := fun n => st_any b p s vT vO w n _ _ h hp hs (by rw [hc]; simp [Lib.hasPrefix, List.isPrefixOf])
  have HXX : Hid (∀ n, Calls Tryz.prog 83 #[.pointer (some ⟨b, 0, none⟩)] (w.drewN n) fun e w' => e = .returned .nilIface ∧ Q w') := HX
  clear h hc HX
  go_enter Tryz.func58, Tryz.ntmps58
  go_wp2_with fail
  refine (S1.out _).mono ?_
  rintro e w1 ⟨rfl, n1, rfl⟩
  go_wp2_with fail
  refine (S2.out _).mono ?_
  rintro e w1 ⟨rfl, n2, rfl⟩
  go_wp2_with fail
  refine (S3.out _).mono ?_
  rintro e w1 ⟨rfl, n3, rfl⟩
  go_wp2_with fail
  refine (S4.out _).mono ?_
  rintro e w1 ⟨rfl, n4, rfl⟩
  go_wp2_with fail
  refine (S5.out _).mono ?_
  rintro e w1 ⟨rfl, n5, rfl⟩
  go_wp2_with fail
  refine (HXX.out _).mono ?_
  rintro e w2 ⟨rfl, hq⟩
  have HQ : Hid (Q w2) := hq
  clear hq
  go_wp2
  go_ret
  exact ⟨rfl, HQ.out⟩

set_option maxHeartbeats 1000000 in
theorem had_yes (b p m : Nat) (s : ByteArray) (a : Option Addr) (cap : Nat) (vO : Value) (w : World) (h : Rb w b s p (.slice a (m + 1) cap) vO) :
    Calls Tryz.prog 59 #[.pointer (some ⟨b, 0, none⟩)] w fun e w' => e = .returned (.bool true) ∧ w' = w := by
  have c2 := h.c2
  have hm : (0 : Int) < ((m + 1 : Nat) : Int) := by omega
  go_enter Tryz.func59, Tryz.ntmps59
  go_wp2
  go_ret
  exact ⟨xm.ret_bool (by simp <;> omega), rfl⟩

set_option maxHeartbeats 4000000 in
set_option maxRecDepth 100000 in
theorem all_yes (b N : Nat) (s : ByteArray) (w : World) (hs : s.size ≤ 65536) (hgood : xm.GoodTo s s.size) (I : Nat → World → Prop) (pl : Nat → Nat) (h0 : ∀ w', Below w.heap.size w w' → I 0 w') (hw : ∃ vT vO, Rb w b s (pl 0) vT vO)
    (hI : ∀ i w', I i w' → ∃ vT vO, Rb w' b s (pl i) vT vO) (hpl : ∀ i, i < N → pl i < s.size ∧ pl i < pl (i + 1)) (hN : pl N = s.size)
    (hstep : ∀ i w', i < N → I i w' → ∀ n, Calls Tryz.prog 58 #[.pointer (some ⟨b, 0, none⟩)] (w'.drewN n) fun e w'' => e = .returned .nilIface ∧ I (i + 1) w'')
    (hend : ∀ w', I N w' → ∃ a m cap aO cO, Rb w' b s (pl N) (.slice a (m + 1) cap) (.slice aO 0 cO)) (hdrew : ∀ w' n, I N w' → I N (w'.drewN n)) :
    Calls Tryz.prog 28 #[.pointer (some ⟨b, 0, none⟩)] w fun e w' => e = .returned .nilIface ∧ I N w' := by
  obtain ⟨vT, vO, hr⟩ := hw
  have c0 := hr.c0
  have hbl := hr.lt
  have HR : Hid (Rb w b s (pl 0) vT vO) := hr
  have HI : Hid _ := hI
  have HPL : Hid _ := hpl
  have HN : Hid (pl N = s.size) := hN
  have HST : Hid _ := hstep
  have HE : Hid _ := hend
  have HD : Hid _ := hdrew
  have H0 : Hid _ := h0
  have HGD : Hid (xm.GoodTo s s.size) := hgood
  clear hr hI hpl hN hstep hend hdrew h0 hgood
  go_enter Tryz.func28, Tryz.ntmps28
  go_wp2_with fail
  refine (xm.impl_good s _ (by omega)).mono ?_
  rintro e w1 ⟨g, rfl, hg, q, rfl⟩
  obtain rfl : g = s.size := xm.good_one hg HGD.out
  have b1 : Below w.heap.size w (w.iter s q) := (Below.refl _ _).alloc (Nat.le_refl _) _
  have r1 := HR.out.keep b1
  have H1 : Hid (I 0 (w.iter s q)) := H0.out _ b1
  have d0 := r1.c0
  generalize w.iter s q = w1 at H1 d0 ⊢
  clear hg b1 r1 c0
  go_wp2
  go_loopw [] (fun wr => ∃ i, i ≤ N ∧ I i wr) (fun wr => s.size - plc wr b)
  case atStart => exact ⟨0, Nat.zero_le _, H1.out⟩
  case round =>
    clear d0 H1
    obtain ⟨i, hi, hx⟩ := hrel
    have HX : Hid (I i wr) := hx
    obtain ⟨vT', vO', hr'⟩ := HI.out i wr hx
    have hplc : Hid (plc wr b = pl i) := hr'.plc
    have c0 := hr'.c0
    have c1 := hr'.c1
    clear hx hr'
    by_cases hlt : i < N
    · obtain ⟨hp1', hp2'⟩ := HPL.out i hlt
      have hlt' : ((pl i : Nat) : Int) < (s.size : Int) := by omega
      go_wp2
      go_quiet (fail)
      go_wp2_with fail
      refine (HST.out i wr hlt HX.out _).mono ?_
      rintro e w2 ⟨rfl, h2⟩
      have H2 : Hid (I (i + 1) w2) := h2
      obtain ⟨vT2, vO2, r2⟩ := HI.out _ _ h2
      have hp2 : Hid (plc w2 b = pl (i + 1)) := r2.plc
      clear h2 r2
      go_wp2
      go_roundw
      case rel => exact ⟨i + 1, by omega, H2.out⟩
      case measure => rw [hp2.out, hplc.out]; omega
    · obtain rfl : i = N := by omega
      have hlt' : decide (((pl i : Nat) : Int) < (s.size : Int)) = false := decide_eq_false (by rw [HN.out]; omega)
      have hge : (s.size : Int) ≤ ((pl i : Nat) : Int) := by rw [HN.out]; omega
      have hge2 : s.size ≤ pl i := by omega
      obtain ⟨a, m, cap, aO, cO, rE⟩ := HE.out _ (HD.out wr 0 HX.out)
      have HRE : Hid (∀ n, Rb (wr.drewN n) b s (pl i) (.slice a (m + 1) cap) (.slice aO 0 cO)) := fun n => rE
      have HIE : Hid (∀ n, I i (wr.drewN n)) := fun n => HD.out wr n HX.out
      have c3 : wr.cell? ⟨b, 0 + 3, none⟩ = some (.slice aO 0 cO) := rE.c3
      clear rE
      go_wp2
      go_quiet (fail)
      go_wp2_with fail
      refine (had_yes b (pl i) m s a cap _ _ (HRE.out _)).mono ?_
      rintro e w2 ⟨rfl, rfl⟩
      go_wp2
      go_ret
      exact ⟨rfl, HIE.out _⟩
end Go.Proofs.YtjncdnnllaoccaaGreatDoor.xd
