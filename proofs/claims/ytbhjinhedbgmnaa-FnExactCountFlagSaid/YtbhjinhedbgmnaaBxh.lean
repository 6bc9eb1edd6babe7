/-
  The specification's CountFlag.
-/
import Derived.Test.YtbhjinhedbgmnaaBxg
namespace Go.Proofs.Ytbhjinhedbgmnaa.bx
open Go.RowKit
open st
set_option linter.unusedVariables false

set_option maxHeartbeats 2000000 in
set_option maxRecDepth 100000 in
theorem spec_cf (x : Bx) (v u : Value) (z : Int) (w : World) (h : RowsAt w v u x.ms x.ks) (hx : Small x) (hcap : ∀ a n c, u = .slice a n c → n ≤ c) (hz : In z) :
    Calls Try.prog 19 #[BV x v u, .int .i64 z] w fun e w' => e = .returned (.tuple #[.int .i64 (FnExactCountFlag_a x z), .int .i64 (FnExactCountFlag_b x z)]) ∧ Below w.heap.size w w' := by
  have L0 := lies_new w 41 x v u
  have b0 := new_below w 41 #[.string x.nm, .int .i64 x.vd, .int .i64 x.nx, v, u]
  have HA : Hid (RowsAt (w.alloc (.cells #[.string x.nm, .int .i64 x.vd, .int .i64 x.nx, v, u] 41)) v u x.ms x.ks) := rows_below h b0
  have HCAP : Hid (∀ a n c, u = .slice a n c → n ≤ c) := hcap
  obtain ⟨⟨a, cap, rfl, _⟩, ⟨a1, cap1, rfl, _⟩⟩ := h
  have HX : Hid (Small x) := hx
  have hbk : bok x = true → x.ms.length ≤ 30 := fun hb => (mails_of ((bok_of x).1 hb).2.2.2.1).1
  have HBK : Hid (bok x = true → x.ms.length ≤ 30) := hbk
  have HA0 : Hid (bok x = false → FnExactCountFlag_a x z = 0 ∧ FnExactCountFlag_b x z = 1) := fun hb => by simp [FnExactCountFlag_a, FnExactCountFlag_b, hb]
  have HA1 : Hid (bok x = true → ¬ (1 ≤ z ∧ z ≤ 31) → FnExactCountFlag_a x z = 0 ∧ FnExactCountFlag_b x z = 16) := fun hb hn => by simp [FnExactCountFlag_a, FnExactCountFlag_b, hb, hn]
  have HA2 : Hid (bok x = true → 1 ≤ z ∧ z ≤ 31 → FnExactCountFlag_a x z = (cnt x.ms z x.ms.length : Int) ∧ FnExactCountFlag_b x z = 0) := fun hb hn => by simp [FnExactCountFlag_a, FnExactCountFlag_b, hb, hn]
  obtain ⟨nm, vd, nx, ms, ks⟩ := x
  unfold BV
  simp only at L0 b0 HA HX HBK HA0 HA1 HA2 HCAP ⊢
  clear hx hbk hcap
  generalize FnExactCountFlag_a ⟨nm, vd, nx, ms, ks⟩ z = RA at HA0 HA1 HA2 ⊢
  generalize FnExactCountFlag_b ⟨nm, vd, nx, ms, ks⟩ z = RB at HA0 HA1 HA2 ⊢
  obtain ⟨n, hn⟩ : ∃ n, n = ms.length := ⟨_, rfl⟩
  have HN : Hid (n = ms.length) := hn
  rw [← hn] at L0 b0 HA HBK HA2 ⊢
  clear hn
  have HI : Hid (∀ (n a b : Int) (w : World), Calls Try.prog 33 #[.int .i64 n, .int .i64 a, .int .i64 b] w fun e w' => e = .returned (.bool (decide (a ≤ n ∧ n ≤ b))) ∧ w' = w) := mu.in_any
  go_enter Try.func19, Try.ntmps19
  go_wp2_with fail
  generalize w.alloc _ = w0 at L0 b0 HA ⊢
  refine (spec_bok ⟨nm, vd, nx, ms, ks⟩ _ _ _ (by have := HA.out; exact this) HX.out HCAP.out).mono ?_
  rintro e w1 ⟨rfl, hb1⟩
  have L1 := L0.keep hb1
  have HR1 : Hid (RowsAt w1 (.slice a n cap) (.slice a1 ks.length cap1) ms ks) := rows_below HA.out hb1
  have b1 := b0.trans (hb1.mono b0.size)
  clear hb1 L0 HA b0 HX HCAP
  generalize bok ⟨nm, vd, nx, ms, ks⟩ = R at HBK HA0 HA1 HA2 ⊢
  cases R
  · obtain ⟨r0, r1⟩ := HA0.out (by trivial)
    have HR : Hid (RA = 0 ∧ RB = 1) := ⟨r0, r1⟩
    clear r0 r1
    go_wp2
    go_ret2
    exact ⟨by rw [HR.out.1, HR.out.2]; rfl, b1⟩
  have hn30 : n ≤ 30 := HBK.out (by trivial)
  by_cases hzz : ¬ (1 ≤ z ∧ z ≤ 31)
  · obtain ⟨r0, r1⟩ := HA1.out (by trivial) hzz
    have HR : Hid (RA = 0 ∧ RB = 16) := ⟨r0, r1⟩
    have e1 : decide (1 ≤ z ∧ z ≤ 31) = false := decide_eq_false hzz
    clear r0 r1 hzz
    go_wp2_with (go_at_call 33; refine (HI.out _ _ _ _).mono ?_; rintro e w' ⟨rfl, rfl⟩; rw [e1])
    go_ret2
    exact ⟨by rw [HR.out.1, HR.out.2]; rfl, b1⟩
  have hzz : 1 ≤ z ∧ z ≤ 31 := Decidable.of_not_not hzz
  have e1 : decide (1 ≤ z ∧ z ≤ 31) = true := decide_eq_true hzz
  obtain ⟨r0, r1⟩ := HA2.out (by trivial) hzz
  have HR : Hid (RA = (cnt ms z n : Int) ∧ RB = 0) := ⟨r0, r1⟩
  clear r0 r1 hzz
  have HB1 : Hid (Below w.heap.size w w1) := b1
  go_wp2_with (go_at_call 33; refine (HI.out _ _ _ _).mono ?_; rintro e w' ⟨rfl, rfl⟩; rw [e1])
  have c3 := L1.c3
  clear L1
  go_loopw [6, 7] (fun c i wr => ∃ (k : Nat), k ≤ n ∧ c = .int .i64 (cnt ms z k : Int) ∧ i = .int .i64 k ∧ wr = w') (fun _ i _ => n - (intOf i).toNat)
  case atStart => exact ⟨0, Nat.zero_le _, rfl, rfl, rfl⟩
  case round =>
    obtain ⟨k, hk, rfl, rfl, rfl⟩ := hrel
    by_cases hlt : k < n
    · have hka : k < ms.length := by rw [← HN.out]; exact hlt
      obtain ⟨b, off, ha, hat⟩ : ∃ b off, a = some ⟨b, off, none⟩ ∧ At3 wr b (off + k * 3) (ms.getD k noS) := by
        obtain ⟨a', cap', e, hh⟩ := HR1.out.1
        cases e
        rcases hh with e | ⟨b, off, e, hb, hc⟩
        · rw [e] at hka; simp at hka
        · exact ⟨b, off, e, hc k hka⟩
      subst ha
      have hcn := cnt_le ms z k
      have hc1 : cnt ms z (k + 1) = cnt ms z k + (if hasF (ms.getD k noS).f z then 1 else 0) := rfl
      generalize ms.getD k noS = x at hat hc1
      obtain ⟨uu, f, t⟩ := x
      obtain ⟨d0, d1, d2⟩ := hat
      simp only at d0 d1 d2 hc1
      have HC : Hid (cnt ms z (k + 1) = cnt ms z k + (if hasF f z then 1 else 0)) := hc1
      clear hc1 hka
      have hlt' : (k : Int) < (n : Int) := by omega
      generalize cnt ms z k = ck at hcn HC ⊢
      have hck : (ck : Int) ≤ 30 := by omega
      go_wp2_with fail
      refine (bit_any _ _).mono ?_
      rintro e w3 ⟨rfl, rfl⟩
      clear d0 d1 d2
      have HC2 : Hid (cnt ms z (k + 1) = ck + (if (bits .and .i64 f z == z) = true then 1 else 0)) := HC.out
      clear HC
      generalize (bits .and .i64 f z == z) = hf at HC2 ⊢
      cases hf
      · have hcc : cnt ms z (k + 1) = ck := by simpa using HC2.out
        have HCC : Hid (cnt ms z (k + 1) = ck) := hcc
        clear hcc
        go_wp2
        go_roundw
        case rel => exact ⟨k + 1, by omega, by rw [HCC.out], by go_num, by trivial⟩
        case measure => simp [intOf]; omega
      · have hcc : cnt ms z (k + 1) = ck + 1 := by simpa using HC2.out
        have HCC : Hid (cnt ms z (k + 1) = ck + 1) := hcc
        clear hcc
        go_wp2
        go_roundw
        case rel => exact ⟨k + 1, by omega, by rw [HCC.out]; go_num, by go_num, by trivial⟩
        case measure => simp [intOf]; omega
    · have hkn : k = n := by omega
      subst hkn
      go_wp2
      go_ret2
      exact ⟨by rw [HR.out.1, HR.out.2]; rfl, HB1.out⟩
end Go.Proofs.Ytbhjinhedbgmnaa.bx
