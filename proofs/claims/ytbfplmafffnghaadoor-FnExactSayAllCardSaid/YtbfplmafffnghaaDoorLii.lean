/-
  What a line says of what follows it: the program's way.
-/
import Derived.Test.YtbfplmafffnghaaDoorLip
import Derived.Test.YtbfplmafffnghaaDoorCon
import Derived.Test.YtbfplmafffnghaaDoorTka
namespace Go.Proofs.YtbfplmafffnghaaDoor.li
open Go.RowKit
open nu
set_option linter.unusedVariables false

/-- Atoi: some number and some fault; a number's text gives its number. -/
theorem atoi_gives (s : ByteArray) (hs : s.size ≤ 1048576) (w : World) (h : cn.Sents w) :
    Calls Tryd.prog 33 #[.string s] w fun e w' => (∃ (v : Int) (er : Value), e = .returned (.tuple #[.int .i64 v, er]) ∧ (-9223372036854775808 ≤ v ∧ v ≤ 9223372036854775807) ∧ ∀ n, NumIs s.data.toList n → v = n) ∧ Below w.heap.size w w' := by
  obtain ⟨e0, e1, h0, h1, h2, h3⟩ := h
  rcases ha : Lib.atoiAll s.data.toList with v | _ | _
  · refine (Tryd.strconv_Atoi_ok s (by omega) v ha w).mono ?_
    rintro e w' ⟨rfl, hw⟩
    refine ⟨⟨v, _, rfl, atoi_in ha, fun n y => ?_⟩, ?_⟩
    · rw [atoi_num y] at ha
      injection ha with ha
      exact ha.symm
    · rcases hw with rfl | ⟨t, rfl⟩
      · exact Below.refl _ _
      · exact ow.below_conv w _ t
  · refine (Tryd.strconv_Atoi_syntax s (by omega) ha e0 w h0 h2).mono ?_
    rintro e w' ⟨N, rfl, _, _, hb⟩
    exact ⟨⟨_, _, rfl, ⟨by omega, by omega⟩, fun n y => by rw [atoi_num y] at ha; cases ha⟩, hb⟩
  · refine (Tryd.strconv_Atoi_range s (by omega) ha e1 w h1 h3).mono ?_
    rintro e w' ⟨N, rfl, _, _, hb⟩
    refine ⟨⟨_, _, rfl, ?_, fun n y => by rw [atoi_num y] at ha; cases ha⟩, hb⟩
    unfold Lib.atoiSat
    split
    · exact ⟨by omega, by omega⟩
    · exact ⟨by omega, by omega⟩
theorem ext_full (s : ByteArray) : s.extract 0 s.size = s := by
  apply ByteArray.ext
  simp
theorem pre_some {l : List UInt8} (h : Lib.hasPrefix l [123] = true) : ∃ r, l = 123 :: r := by
  cases l with
  | nil => exact absurd h (by decide)
  | cons a t =>
    have : (123 : UInt8) = a := by simpa [Lib.hasPrefix, List.isPrefixOf] using h
    exact ⟨t, by rw [this]⟩
theorem suf_some {l : List UInt8} (h : Lib.hasSuffix l [125] = true) : ∃ q, l = q ++ [125] := by
  obtain ⟨q, hq⟩ := List.isSuffixOf_iff_suffix.1 h
  exact ⟨q, hq.symm⟩
theorem said_not {l : List UInt8} (h : Lib.hasPrefix l [123] = false) (n : Nat) : ¬ SaidIs l n := by
  rintro ⟨rfl, _⟩
  exact absurd h (by simp [Lib.hasPrefix, List.isPrefixOf])
theorem said_q {q : List UInt8} (n : Nat) : SaidIs (123 :: (q ++ [125])) n ↔ (q = Lib.decDigits n ∧ q.length ≤ 6) := by
  constructor
  · rintro ⟨e, h⟩
    injection e with _ e
    have := List.append_cancel_right e
    subst this
    exact ⟨rfl, h⟩
  · rintro ⟨rfl, h⟩
    exact ⟨rfl, h⟩
theorem said_nosuf {r : List UInt8} (h : Lib.hasSuffix r [125] = false) (n : Nat) : ¬ SaidIs (123 :: r) n := by
  rintro ⟨e, _⟩
  injection e with _ e
  have : Lib.hasSuffix r [125] = true := List.isSuffixOf_iff_suffix.2 ⟨_, e.symm⟩
  rw [h] at this
  cases this
theorem num_small {q : List UInt8} {n : Nat} (h : q = Lib.decDigits n) (hl : q.length ≤ 6) : NumIs q n := by
  have hn : n < 10 ^ 6 := by
    have := Lib.lt_pow_nDigits n
    rw [h, Lib.decDigits_length] at hl
    exact Nat.lt_of_lt_of_le this (Nat.pow_le_pow_right (by decide) hl)
  refine ⟨by omega, by omega, ?_⟩
  rw [itoa_pos (by omega), Int.toNat_natCast]
  exact h

set_option maxHeartbeats 2000000 in
set_option maxRecDepth 100000 in
theorem said_any (s : ByteArray) (w : World) (hs : s.size ≤ 1048576) (h : cn.Sents w) (hT : tb.TP w) :
    Calls Tryd.prog 28 #[.string s] w fun e w' => LR (SaidIs s.data.toList) e ∧ Below w.heap.size w w' := by
  cases hp : Lib.hasPrefix s.data.toList [123] with
  | false =>
    refine (tk.said_no s w hs hp).mono ?_
    rintro e w' ⟨rfl, hb⟩
    exact ⟨⟨0, false, rfl, .inr ⟨rfl, said_not hp⟩⟩, hb⟩
  | true =>
    obtain ⟨r, hr⟩ := pre_some hp
    have hsz : s.size = r.length + 1 := by rw [Lib.size_eq, hr]; rfl
    have ht : Lib.trimPrefix s.data.toList [123] = r := by unfold Lib.trimPrefix; rw [hp, hr]; rfl
    have HP : Hid (∀ W, Calls Tryd.prog 31 #[.string s, .string ⟨#[123]⟩] W fun e w' => e = .returned (.tuple #[.string ⟨r.toArray⟩, .bool true]) ∧ w' = W) := fun W => by
      have := Tryd.strings_CutPrefix s ⟨#[123]⟩ W
      rw [show (⟨#[123]⟩ : ByteArray).data.toList = [123] from rfl, hp, ht] at this
      exact this
    have hrs : (⟨r.toArray⟩ : ByteArray).size ≤ 1048576 := by show r.toArray.size ≤ _; simp; omega
    have HS0 := fun W => Tryd.strings_CutSuffix ⟨r.toArray⟩ ⟨#[125]⟩ W (by omega)
    rw [show (⟨#[125]⟩ : ByteArray).data.toList = [125] from rfl, show (⟨r.toArray⟩ : ByteArray).data.toList = r from by simp] at HS0
    rw [hr]
    cases hq : Lib.hasSuffix r [125] with
    | false =>
      have HN : Hid (∀ n, ¬ SaidIs (123 :: r) n) := said_nosuf hq
      rw [hq] at HS0
      have HS : Hid (∃ y, ∀ W, Calls Tryd.prog 32 #[.string ⟨r.toArray⟩, .string ⟨#[125]⟩] W fun e w' => e = .returned (.tuple #[.string y, .bool false]) ∧ w' = W) := ⟨_, HS0⟩
      obtain ⟨y, HS1⟩ := HS.out
      have HS : Hid (∀ W, Calls Tryd.prog 32 #[.string ⟨r.toArray⟩, .string ⟨#[125]⟩] W fun e w' => e = .returned (.tuple #[.string y, .bool false]) ∧ w' = W) := HS1
      clear HS0 HS1 h hT hp hq ht hr hrs
      generalize (⟨r.toArray⟩ : ByteArray) = X at HP HS
      go_enter Tryd.func28, Tryd.ntmps28
      go_wp2_with fail
      refine (HP.out _).mono ?_
      rintro e w ⟨rfl, rfl⟩
      go_wp2_with fail
      refine (HS.out _).mono ?_
      rintro e w ⟨rfl, rfl⟩
      go_wp2
      go_ret2
      exact ⟨⟨0, false, rfl, .inr ⟨rfl, HN.out⟩⟩, Below.refl _ _⟩
    | true =>
      obtain ⟨q, rfl⟩ := suf_some hq
      have ht2 : Lib.trimSuffix (q ++ [125]) [125] = q := by unfold Lib.trimSuffix; rw [hq]; simp
      rw [hq, ht2] at HS0
      have HS : Hid (∀ W, Calls Tryd.prog 32 #[.string ⟨(q ++ [125]).toArray⟩, .string ⟨#[125]⟩] W fun e w' => e = .returned (.tuple #[.string ⟨q.toArray⟩, .bool true]) ∧ w' = W) := HS0
      have hQ : (⟨q.toArray⟩ : ByteArray).size = q.length := by show q.toArray.size = _; simp
      have hQl : (⟨q.toArray⟩ : ByteArray).data.toList = q := by simp
      have HA0 : Hid (Calls Tryd.prog 33 #[.string ⟨q.toArray⟩] w fun e w' => (∃ (v : Int) (er : Value), e = .returned (.tuple #[.int .i64 v, er]) ∧ (-9223372036854775808 ≤ v ∧ v ≤ 9223372036854775807) ∧ ∀ n, NumIs q n → v = n) ∧ Below w.heap.size w w') := by
        have := atoi_gives ⟨q.toArray⟩ (by rw [hQ]; simp at hsz; omega) w h
        rwa [hQl] at this
      have HT : Hid (tb.TP w) := hT
      have HI : Hid (∀ v W, -9223372036854775808 ≤ v → v ≤ 9223372036854775807 → tb.TP W → Calls Tryd.prog 34 #[.int .i64 v] W fun e w' => e = .returned (.string ⟨(Lib.itoa v).toArray⟩) ∧ Below W.heap.size W w') := fun v W a b c => cn.itoaZ v a b W c
      have HEQ : Hid (∀ v : Int, ((⟨(Lib.itoa v).toArray⟩ : ByteArray).toList == (⟨q.toArray⟩ : ByteArray).toList) = decide (Lib.itoa v = q)) := fun v => by
        rw [Lib.toList_data, Lib.toList_data]
        exact Bool.eq_iff_iff.2 (by simp)
      by_cases hl6 : q.length ≤ 6
      · have l6 : decide ((6 : Int) < ((⟨q.toArray⟩ : ByteArray).size : Int)) = false := decide_eq_false (by rw [hQ]; omega)
        have HL6 : Hid (q.length ≤ 6) := hl6
        generalize hGQ : (⟨q.toArray⟩ : ByteArray) = Q at HS HA0 HEQ l6
        generalize (⟨(q ++ [125]).toArray⟩ : ByteArray) = X at HP HS
        clear HS0 h hT hp hq ht hr hrs hsz ht2 hQ hQl hl6 hGQ
        go_enter Tryd.func28, Tryd.ntmps28
        go_wp2_with fail
        refine (HP.out _).mono ?_
        rintro e w1 ⟨rfl, h1⟩
        have h1 := h1.symm
        subst h1
        go_wp2_with fail
        refine (HS.out _).mono ?_
        rintro e w1 ⟨rfl, h1⟩
        have h1 := h1.symm
        subst h1
        go_wp2_with fail
        refine HA0.out.mono ?_
        rintro e w1 ⟨⟨v, er, rfl, ⟨v1, v2⟩, hv⟩, b1⟩
        have HV : Hid (∀ n, NumIs q n → v = n) := hv
        clear hv HA0
        by_cases hv0 : 0 ≤ v
        · have d0 : decide (0 ≤ v) = true := decide_eq_true hv0
          have HII := HI.out v w1 v1 v2 (tb.keep' HT.out b1)
          have HE := HEQ.out v
          have HIN : Hid (Calls Tryd.prog 34 #[.int .i64 v] w1 fun e w' => e = .returned (.string ⟨(Lib.itoa v).toArray⟩) ∧ Below w1.heap.size w1 w') := HII
          clear HII HI HEQ
          have HEH : Hid (((⟨(Lib.itoa v).toArray⟩ : ByteArray).toList == Q.toList) = decide (Lib.itoa v = q)) := HE
          clear HE
          generalize (⟨(Lib.itoa v).toArray⟩ : ByteArray) = D at HIN HEH
          go_wp2_with fail
          refine HIN.out.mono ?_
          rintro e w2 ⟨rfl, b2⟩
          have b3 := b1.trans (b2.mono b1.size)
          clear HIN b2
          by_cases hd : Lib.itoa v = q
          · have he : (D.toList == Q.toList) = true := by rw [HEH.out]; exact decide_eq_true hd
            have HR : Hid (SaidIs (123 :: (q ++ [125])) v.toNat) := (said_q _).2 ⟨by rw [← hd, itoa_pos hv0], HL6.out⟩
            clear HEH hd
            go_wp2
            go_ret2
            exact ⟨⟨v, true, rfl, .inl ⟨rfl, v.toNat, (Int.toNat_of_nonneg hv0).symm, HR.out⟩⟩, b3⟩
          · have he : (D.toList == Q.toList) = false := by rw [HEH.out]; exact decide_eq_false hd
            have HR : Hid (∀ n, ¬ SaidIs (123 :: (q ++ [125])) n) := fun n y => by
              obtain ⟨y1, y2⟩ := (said_q n).1 y
              have hN := num_small y1 y2
              have := HV.out _ hN
              exact hd (by rw [this]; exact hN.2.2.symm)
            clear HEH hd
            go_wp2
            go_ret2
            exact ⟨⟨v, false, rfl, .inr ⟨rfl, HR.out⟩⟩, b3⟩
        · have d0 : decide (0 ≤ v) = false := decide_eq_false hv0
          have HR : Hid (∀ n, ¬ SaidIs (123 :: (q ++ [125])) n) := fun n y => by
            obtain ⟨y1, y2⟩ := (said_q n).1 y
            have := HV.out _ (num_small y1 y2)
            omega
          clear HI HEQ
          go_wp2
          go_ret2
          exact ⟨⟨v, false, rfl, .inr ⟨rfl, HR.out⟩⟩, b1⟩
      · have l6 : decide ((6 : Int) < ((⟨q.toArray⟩ : ByteArray).size : Int)) = true := decide_eq_true (by rw [hQ]; omega)
        have HR : Hid (∀ n, ¬ SaidIs (123 :: (q ++ [125])) n) := fun n y => hl6 ((said_q n).1 y).2
        generalize (⟨q.toArray⟩ : ByteArray) = Q at HS HA0 HEQ l6
        generalize (⟨(q ++ [125]).toArray⟩ : ByteArray) = X at HP HS
        clear HS0 h hT hp hq ht hr hrs hsz ht2 hQ hQl hl6 HA0 HEQ HI HT
        go_enter Tryd.func28, Tryd.ntmps28
        go_wp2_with fail
        refine (HP.out _).mono ?_
        rintro e w ⟨rfl, rfl⟩
        go_wp2_with fail
        refine (HS.out _).mono ?_
        rintro e w ⟨rfl, rfl⟩
        go_wp2
        go_ret2
        exact ⟨⟨0, false, rfl, .inr ⟨rfl, HR.out⟩⟩, Below.refl _ _⟩

set_option maxHeartbeats 2000000 in
set_option maxRecDepth 100000 in
/-- The size that a line says at its end. -/
theorem atEnd_any (s : ByteArray) (w : World) (hs : s.size ≤ 1048576) (h : cn.Sents w) (hT : tb.TP w) :
    Calls Tryd.prog 25 #[.string s] w fun e w' => LR (LitIs s.data.toList) e ∧ Below w.heap.size w w' := by
  have HL0 := fun W => Tryd.strings_LastIndex s ⟨#[123]⟩ (by omega) W
  rw [show (⟨#[123]⟩ : ByteArray).data.toList = [123] from rfl] at HL0
  have hx : ∀ i, (s.extract i s.size).data.toList = s.data.toList.drop i := fun i => Lib.extract_to_end s i
  rcases last_cases s.data.toList with ⟨e, hn⟩ | ⟨i, r, e, hi, hd, hn⟩
  · rw [e] at HL0
    have HL : Hid (∀ W, Calls Tryd.prog 29 #[.string s, .string ⟨#[123]⟩] W fun e w' => e = .returned (.int .i64 (-1)) ∧ w' = W) := HL0
    have HS : Hid (∀ W, W = w → Calls Tryd.prog 28 #[.string (s.extract 0 s.size)] W fun e w' => LR (LitIs s.data.toList) e ∧ Below W.heap.size W w') := fun W hW => by
      subst hW
      refine (said_any (s.extract 0 s.size) W (by rw [ext_full]; exact hs) h hT).mono ?_
      rintro e w' ⟨⟨v, B, rfl, hg⟩, hb⟩
      rw [ext_full] at hg
      refine ⟨⟨v, B, rfl, gl_iff (fun n => ?_) hg⟩, hb⟩
      exact ⟨fun y => ⟨[], y.1, y.2⟩, fun y => absurd y (lit_none hn n)⟩
    have c0 : (0 : Int) ≤ (s.size : Int) := by omega
    clear HL0 hn h hT hx e
    go_enter Tryd.func25, Tryd.ntmps25
    go_wp2_with fail
    refine (HL.out _).mono ?_
    rintro e w1 ⟨rfl, h1⟩
    have h1 := h1.symm
    subst h1
    clear HL
    go_wp2_with fail
    refine (HS.out _ rfl).mono ?_
    rintro e w1 ⟨⟨v, B, rfl, hg⟩, b1⟩
    clear HS
    go_wp2
    go_ret2
    exact ⟨⟨v, B, rfl, hg⟩, b1⟩
  · rw [e] at HL0
    have hil : i ≤ s.size := by rw [Lib.size_eq]; omega
    have HL : Hid (∀ W, Calls Tryd.prog 29 #[.string s, .string ⟨#[123]⟩] W fun e w' => e = .returned (.int .i64 (i : Int)) ∧ w' = W) := HL0
    have HS : Hid (∀ W, W = w → Calls Tryd.prog 28 #[.string (s.extract i s.size)] W fun e w' => LR (LitIs s.data.toList) e ∧ Below W.heap.size W w') := fun W hW => by
      subst hW
      refine (said_any (s.extract i s.size) W (by rw [ByteArray.size_extract]; omega) h hT).mono ?_
      rintro e w' ⟨⟨v, B, rfl, hg⟩, hb⟩
      rw [hx i] at hg
      exact ⟨⟨v, B, rfl, gl_iff (fun n => lit_drop hd hn n) hg⟩, hb⟩
    have hsl := ow.slice_str (P := Tryd.prog) 9 s .i64 .i64 i s.size Tryd.underlying9 (i : Int) (s.size : Int) rfl rfl hil (Nat.le_refl _)
    have c0 : (0 : Int) ≤ (i : Int) := by omega
    have c1 : (i : Int) ≤ (s.size : Int) := by omega
    have hmx : max (0 : Int) (i : Int) = (i : Int) := Int.max_eq_right c0
    clear HL0 hn h hT hx e hd hi
    go_enter Tryd.func25, Tryd.ntmps25
    go_wp2_with fail
    refine (HL.out _).mono ?_
    rintro e w1 ⟨rfl, h1⟩
    have h1 := h1.symm
    subst h1
    clear HL
    go_wp2_with fail
    refine (HS.out _ rfl).mono ?_
    rintro e w1 ⟨⟨v, B, rfl, hg⟩, b1⟩
    clear HS
    go_wp2
    go_ret2
    exact ⟨⟨v, B, rfl, hg⟩, b1⟩
end Go.Proofs.YtbfplmafffnghaaDoor.li
