/-
  Both CountFlag functions.
  The specification's CountFlag.
  Both StoredAt functions.
  Plain facts for the law of what is done to boxes: a bag of boxes, a list of mutations.
-/
import Derived.Test.YtinnnfkhiigjpaaGreatPkaj
import Derived.Test.YtinnnfkhiigjpaaGreatPkam
import Derived.Test.YtinnnfkhiigjpaaGreatPkay
import Derived.Test.YtinnnfkhiigjpaaGreatPkbv
import Derived.Test.YtinnnfkhiigjpaaGreatPkbw
import Derived.Test.YtinnnfkhiigjpaaGreatPkak

namespace Go.Proofs.YtinnnfkhiigjpaaGreat.bx
open Go.RowKit
open st
set_option linter.unusedVariables false

/-- A mail has all of the flags. -/
def hasF (f z : Int) : Bool := bits .and .i64 f z == z
def cnt (ms : List St) (z : Int) : Nat → Nat
  | 0 => 0
  | k + 1 => cnt ms z k + (if hasF (ms.getD k noS).f z then 1 else 0)
theorem cnt_le (ms : List St) (z : Int) : ∀ k, cnt ms z k ≤ k
  | 0 => Nat.le_refl _
  | k + 1 => by
    have := cnt_le ms z k
    simp only [cnt]
    split <;> omega
def FnExactCountFlag_a (x : Bx) (z : Int) : Int := if bok x = true ∧ 1 ≤ z ∧ z ≤ 31 then (cnt x.ms z x.ms.length : Int) else 0
def FnExactCountFlag_b (x : Bx) (z : Int) : Int := if bok x = true then (if 1 ≤ z ∧ z ≤ 31 then 0 else 16) else 1

theorem bit_any (b : Bool) (w : World) : Calls Tryz.prog 36 #[.bool b] w fun e w' => e = .returned (.int .i64 (if b then 1 else 0)) ∧ w' = w := by
  cases b
  · go_enter Tryz.func36, Tryz.ntmps36
    go_wp2
    go_ret
    exact ⟨rfl, rfl⟩
  · go_enter Tryz.func36, Tryz.ntmps36
    go_wp2
    go_ret
    exact ⟨rfl, rfl⟩
theorem has_any (e : St) (z : Int) (w : World) : Calls Tryz.prog 33 #[.agg #[.int .i64 e.u, .int .i64 e.f, .string e.t], .int .i64 z] w fun r w' => r = .returned (.bool (hasF e.f z)) ∧ Below w.heap.size w w' := by
  obtain ⟨u, f, t⟩ := e
  simp only
  have hb := new_below w 46 #[.int .i64 u, .int .i64 f, .string t]
  go_enter Tryz.func33, Tryz.ntmps33
  go_wp2
  go_ret
  exact ⟨rfl, hb⟩

set_option maxHeartbeats 2000000 in
set_option maxRecDepth 100000 in
theorem impl_cf (x : Bx) (v u : Value) (z : Int) (w : World) (h : RowsAt w v u x.ms x.ks) (hx : Small x) (hz : In z) :
    Calls Tryz.prog 12 #[BV x v u, .int .i64 z] w fun e w' => e = .returned (.tuple #[.int .i64 (FnExactCountFlag_a x z), .int .i64 (FnExactCountFlag_b x z)]) ∧ Below w.heap.size w w' := by
  have L0 := lies_new w 38 x v u
  have b0 := new_below w 38 #[.string x.nm, .int .i64 x.vd, .int .i64 x.nx, v, u]
  have HA : Hid (RowsAt (w.alloc (.cells #[.string x.nm, .int .i64 x.vd, .int .i64 x.nx, v, u] 38)) v u x.ms x.ks) := rows_below h b0
  obtain ⟨⟨a, cap, rfl, _⟩, ⟨a1, cap1, rfl, _⟩⟩ := h
  have HX : Hid (Small x) := hx
  have hbk : bok x = true → x.ms.length ≤ 30 := fun hb => (mails_of ((bok_of x).1 hb).2.2.2.1).1
  have HBK : Hid (bok x = true → x.ms.length ≤ 30) := hbk
  have HA0 : Hid (bok x = false → FnExactCountFlag_a x z = 0 ∧ FnExactCountFlag_b x z = 1) := fun hb => by simp [FnExactCountFlag_a, FnExactCountFlag_b, hb]
  have HA1 : Hid (bok x = true → ¬ (1 ≤ z ∧ z ≤ 31) → FnExactCountFlag_a x z = 0 ∧ FnExactCountFlag_b x z = 16) := fun hb hn => by simp [FnExactCountFlag_a, FnExactCountFlag_b, hb, hn]
  have HA2 : Hid (bok x = true → 1 ≤ z ∧ z ≤ 31 → FnExactCountFlag_a x z = (cnt x.ms z x.ms.length : Int) ∧ FnExactCountFlag_b x z = 0) := fun hb hn => by simp [FnExactCountFlag_a, FnExactCountFlag_b, hb, hn]
  obtain ⟨nm, vd, nx, ms, ks⟩ := x
  unfold BV
  simp only at L0 b0 HA HX HBK HA0 HA1 HA2 ⊢
  clear hx hbk
  generalize FnExactCountFlag_a ⟨nm, vd, nx, ms, ks⟩ z = RA at HA0 HA1 HA2 ⊢
  generalize FnExactCountFlag_b ⟨nm, vd, nx, ms, ks⟩ z = RB at HA0 HA1 HA2 ⊢
  obtain ⟨n, hn⟩ : ∃ n, n = ms.length := ⟨_, rfl⟩
  have HN : Hid (n = ms.length) := hn
  rw [← hn] at L0 b0 HA HBK HA2 ⊢
  clear hn
  have HF : Hid (∀ w, Calls Tryz.prog 32 #[.int .i64 z] w fun e w' => e = .returned (.bool (mu.fOK z)) ∧ w' = w) := fun w => mu.areFlags_any z w
  go_enter Tryz.func12, Tryz.ntmps12
  go_wp2_with fail
  generalize w.alloc _ = w0 at L0 b0 HA ⊢
  refine (impl_bok ⟨nm, vd, nx, ms, ks⟩ _ _ _ (by have := HA.out; exact this) HX.out).mono ?_
  rintro e w1 ⟨rfl, hb1⟩
  have L1 := L0.keep hb1
  have HR1 : Hid (RowsAt w1 (.slice a n cap) (.slice a1 ks.length cap1) ms ks) := rows_below HA.out hb1
  have b1 := b0.trans (hb1.mono b0.size)
  clear hb1 L0 HA b0 HX
  generalize bok ⟨nm, vd, nx, ms, ks⟩ = R at HBK HA0 HA1 HA2 ⊢
  cases R
  · obtain ⟨r0, r1⟩ := HA0.out (by trivial)
    have HR : Hid (RA = 0 ∧ RB = 1) := ⟨r0, r1⟩
    clear r0 r1
    go_wp2
    go_ret2
    exact ⟨by rw [HR.out.1, HR.out.2]; rfl, b1⟩
  have hn30 : n ≤ 30 := HBK.out (by trivial)
  by_cases hz0 : z = 0
  · obtain ⟨r0, r1⟩ := HA1.out (by trivial) (by omega)
    have HR : Hid (RA = 0 ∧ RB = 16) := ⟨r0, r1⟩
    have hz0' : (z == 0) = true := by simp [hz0]
    clear r0 r1 hz0
    go_wp2
    go_ret2
    exact ⟨by rw [HR.out.1, HR.out.2]; rfl, b1⟩
  have hz0' : (z == 0) = false := by simp [hz0]
  by_cases hzz : ¬ (0 ≤ z ∧ z ≤ 31)
  · obtain ⟨r0, r1⟩ := HA1.out (by trivial) (by omega)
    have HR : Hid (RA = 0 ∧ RB = 16) := ⟨r0, r1⟩
    have e1 : mu.fOK z = false := decide_eq_false hzz
    clear r0 r1 hz0 hzz
    go_wp2_with (go_at_call 32; refine (HF.out _).mono ?_; rintro e w' ⟨rfl, rfl⟩; rw [e1])
    go_ret2
    exact ⟨by rw [HR.out.1, HR.out.2]; rfl, b1⟩
  have hzz : 0 ≤ z ∧ z ≤ 31 := Decidable.of_not_not hzz
  have e1 : mu.fOK z = true := decide_eq_true hzz
  obtain ⟨r0, r1⟩ := HA2.out (by trivial) (by omega)
  have HR : Hid (RA = (cnt ms z n : Int) ∧ RB = 0) := ⟨r0, r1⟩
  clear r0 r1 hz0 hzz
  have c3 := L1.c3
  go_wp2_with (go_at_call 32; refine (HF.out _).mono ?_; rintro e w' ⟨rfl, rfl⟩; rw [e1])
  clear c3 L1
  go_loopw [6, 22] (fun c i wr => ∃ (k : Nat), k ≤ n ∧ c = .int .i64 (cnt ms z k : Int) ∧ i = .int .i64 k ∧ Below w'.heap.size w' wr) (fun _ i _ => n - (intOf i).toNat)
  case atStart => exact ⟨0, Nat.zero_le _, rfl, rfl, Below.refl _ _⟩
  case round =>
    obtain ⟨k, hk, rfl, rfl, hbw⟩ := hrel
    by_cases hlt : k < n
    · have hka : k < ms.length := by rw [← HN.out]; exact hlt
      obtain ⟨b, off, ha, hat⟩ : ∃ b off, a = some ⟨b, off, none⟩ ∧ At3 wr b (off + k * 3) (ms.getD k noS) := by
        obtain ⟨a', cap', e, hh⟩ := HR1.out.1
        cases e
        rcases hh with e | ⟨b, off, e, hb, hc⟩
        · rw [e] at hka; simp at hka
        · exact ⟨b, off, e, (hc k hka).keep hbw hb⟩
      subst ha
      have hcn := cnt_le ms z k
      have hc1 : cnt ms z (k + 1) = cnt ms z k + (if hasF (ms.getD k noS).f z then 1 else 0) := rfl
      generalize ms.getD k noS = x at hat hc1
      obtain ⟨uu, f, t⟩ := x
      obtain ⟨d0, d1, d2⟩ := hat
      simp only at d0 d1 d2 hc1
      have HC : Hid (cnt ms z (k + 1) = cnt ms z k + (if hasF f z then 1 else 0)) := hc1
      clear hc1 hka
      have hlt' : (k : Int) < (n : Int) := by omega
      generalize cnt ms z k = ck at hcn HC ⊢
      have hb2 : Below w'.heap.size w' (wr.alloc (.cells #[.int .i64 uu, .int .i64 f, .string t] 46)) := hbw.alloc hbw.size _
      go_wp2_with fail
      refine (has_any ⟨uu, f, t⟩ z _).mono ?_
      rintro e w3 ⟨rfl, hb3⟩
      have b3 := hb2.trans (hb3.mono hb2.size)
      clear hb2 hb3 hbw d0 d1 d2
      simp only
      generalize hasF f z = hf at HC ⊢
      cases hf
      · have hcc : cnt ms z (k + 1) = ck := by simpa using HC.out
        have HCC : Hid (cnt ms z (k + 1) = ck) := hcc
        clear hcc
        go_wp2
        go_roundw
        case rel => exact ⟨k + 1, by omega, by rw [HCC.out], by go_num, b3⟩
        case measure => simp [intOf]; omega
      · have hcc : cnt ms z (k + 1) = ck + 1 := by simpa using HC.out
        have HCC : Hid (cnt ms z (k + 1) = ck + 1) := hcc
        clear hcc
        go_wp2
        go_roundw
        case rel => exact ⟨k + 1, by omega, by rw [HCC.out]; go_num, by go_num, b3⟩
        case measure => simp [intOf]; omega
    · have hkn : k = n := by omega
      subst hkn
      go_wp2
      go_ret2
      exact ⟨by rw [HR.out.1, HR.out.2]; rfl, b1.trans (hbw.mono b1.size)⟩
end Go.Proofs.YtinnnfkhiigjpaaGreat.bx

namespace Go.Proofs.YtinnnfkhiigjpaaGreat.bx
open Go.RowKit
open st
set_option linter.unusedVariables false

set_option maxHeartbeats 2000000 in
set_option maxRecDepth 100000 in
theorem spec_cf (x : Bx) (v u : Value) (z : Int) (w : World) (h : RowsAt w v u x.ms x.ks) (hx : Small x) (hcap : ∀ a n c, u = .slice a n c → n ≤ c) (hz : In z) :
    Calls Tryz.prog 13 #[BV x v u, .int .i64 z] w fun e w' => e = .returned (.tuple #[.int .i64 (FnExactCountFlag_a x z), .int .i64 (FnExactCountFlag_b x z)]) ∧ Below w.heap.size w w' := by
  have L0 := lies_new w 38 x v u
  have b0 := new_below w 38 #[.string x.nm, .int .i64 x.vd, .int .i64 x.nx, v, u]
  have HA : Hid (RowsAt (w.alloc (.cells #[.string x.nm, .int .i64 x.vd, .int .i64 x.nx, v, u] 38)) v u x.ms x.ks) := rows_below h b0
  have HCAP : Hid (∀ a n c, u = .slice a n c → n ≤ c) := hcap
  obtain ⟨⟨a, cap, rfl, _⟩, ⟨a1, cap1, rfl, _⟩⟩ := h
  have HX : Hid (Small x) := hx
  have hbk : bok x = true → x.ms.length ≤ 30 := fun hb => (mails_of ((bok_of x).1 hb).2.2.2.1).1
  have HBK : Hid (bok x = true → x.ms.length ≤ 30) := hbk
  have HA0 : Hid (bok x = false → FnExactCountFlag_a x z = 0 ∧ FnExactCountFlag_b x z = 1) := fun hb => by simp [FnExactCountFlag_a, FnExactCountFlag_b, hb]
  have HA1 : Hid (bok x = true → ¬ (1 ≤ z ∧ z ≤ 31) → FnExactCountFlag_a x z = 0 ∧ FnExactCountFlag_b x z = 16) := fun hb hn => by simp [FnExactCountFlag_a, FnExactCountFlag_b, hb, hn]
  have HA2 : Hid (bok x = true → 1 ≤ z ∧ z ≤ 31 → FnExactCountFlag_a x z = (cnt x.ms z x.ms.length : Int) ∧ FnExactCountFlag_b x z = 0) := fun hb hn => by simp [FnExactCountFlag_a, FnExactCountFlag_b, hb, hn]
  obtain ⟨nm, vd, nx, ms, ks⟩ := x
  unfold BV
  simp only at L0 b0 HA HX HBK HA0 HA1 HA2 HCAP ⊢
  clear hx hbk hcap
  generalize FnExactCountFlag_a ⟨nm, vd, nx, ms, ks⟩ z = RA at HA0 HA1 HA2 ⊢
  generalize FnExactCountFlag_b ⟨nm, vd, nx, ms, ks⟩ z = RB at HA0 HA1 HA2 ⊢
  obtain ⟨n, hn⟩ : ∃ n, n = ms.length := ⟨_, rfl⟩
  have HN : Hid (n = ms.length) := hn
  rw [← hn] at L0 b0 HA HBK HA2 ⊢
  clear hn
  have HI : Hid (∀ (n a b : Int) (w : World), Calls Tryz.prog 35 #[.int .i64 n, .int .i64 a, .int .i64 b] w fun e w' => e = .returned (.bool (decide (a ≤ n ∧ n ≤ b))) ∧ w' = w) := mu.in_any
  go_enter Tryz.func13, Tryz.ntmps13
  go_wp2_with fail
  generalize w.alloc _ = w0 at L0 b0 HA ⊢
  refine (spec_bok ⟨nm, vd, nx, ms, ks⟩ _ _ _ (by have := HA.out; exact this) HX.out HCAP.out).mono ?_
  rintro e w1 ⟨rfl, hb1⟩
  have L1 := L0.keep hb1
  have HR1 : Hid (RowsAt w1 (.slice a n cap) (.slice a1 ks.length cap1) ms ks) := rows_below HA.out hb1
  have b1 := b0.trans (hb1.mono b0.size)
  clear hb1 L0 HA b0 HX HCAP
  generalize bok ⟨nm, vd, nx, ms, ks⟩ = R at HBK HA0 HA1 HA2 ⊢
  cases R
  · obtain ⟨r0, r1⟩ := HA0.out (by trivial)
    have HR : Hid (RA = 0 ∧ RB = 1) := ⟨r0, r1⟩
    clear r0 r1
    go_wp2
    go_ret2
    exact ⟨by rw [HR.out.1, HR.out.2]; rfl, b1⟩
  have hn30 : n ≤ 30 := HBK.out (by trivial)
  by_cases hzz : ¬ (1 ≤ z ∧ z ≤ 31)
  · obtain ⟨r0, r1⟩ := HA1.out (by trivial) hzz
    have HR : Hid (RA = 0 ∧ RB = 16) := ⟨r0, r1⟩
    have e1 : decide (1 ≤ z ∧ z ≤ 31) = false := decide_eq_false hzz
    clear r0 r1 hzz
    go_wp2_with (go_at_call 35; refine (HI.out _ _ _ _).mono ?_; rintro e w' ⟨rfl, rfl⟩; rw [e1])
    go_ret2
    exact ⟨by rw [HR.out.1, HR.out.2]; rfl, b1⟩
  have hzz : 1 ≤ z ∧ z ≤ 31 := Decidable.of_not_not hzz
  have e1 : decide (1 ≤ z ∧ z ≤ 31) = true := decide_eq_true hzz
  obtain ⟨r0, r1⟩ := HA2.out (by trivial) hzz
  have HR : Hid (RA = (cnt ms z n : Int) ∧ RB = 0) := ⟨r0, r1⟩
  clear r0 r1 hzz
  have HB1 : Hid (Below w.heap.size w w1) := b1
  go_wp2_with (go_at_call 35; refine (HI.out _ _ _ _).mono ?_; rintro e w' ⟨rfl, rfl⟩; rw [e1])
  have c3 := L1.c3
  clear L1
  go_loopw [6, 7] (fun c i wr => ∃ (k : Nat), k ≤ n ∧ c = .int .i64 (cnt ms z k : Int) ∧ i = .int .i64 k ∧ wr = w') (fun _ i _ => n - (intOf i).toNat)
  case atStart => exact ⟨0, Nat.zero_le _, rfl, rfl, rfl⟩
  case round =>
    obtain ⟨k, hk, rfl, rfl, rfl⟩ := hrel
    by_cases hlt : k < n
    · have hka : k < ms.length := by rw [← HN.out]; exact hlt
      obtain ⟨b, off, ha, hat⟩ : ∃ b off, a = some ⟨b, off, none⟩ ∧ At3 wr b (off + k * 3) (ms.getD k noS) := by
        obtain ⟨a', cap', e, hh⟩ := HR1.out.1
        cases e
        rcases hh with e | ⟨b, off, e, hb, hc⟩
        · rw [e] at hka; simp at hka
        · exact ⟨b, off, e, hc k hka⟩
      subst ha
      have hcn := cnt_le ms z k
      have hc1 : cnt ms z (k + 1) = cnt ms z k + (if hasF (ms.getD k noS).f z then 1 else 0) := rfl
      generalize ms.getD k noS = x at hat hc1
      obtain ⟨uu, f, t⟩ := x
      obtain ⟨d0, d1, d2⟩ := hat
      simp only at d0 d1 d2 hc1
      have HC : Hid (cnt ms z (k + 1) = cnt ms z k + (if hasF f z then 1 else 0)) := hc1
      clear hc1 hka
      have hlt' : (k : Int) < (n : Int) := by omega
      generalize cnt ms z k = ck at hcn HC ⊢
      have hck : (ck : Int) ≤ 30 := by omega
      go_wp2_with fail
      refine (bit_any _ _).mono ?_
      rintro e w3 ⟨rfl, rfl⟩
      clear d0 d1 d2
      have HC2 : Hid (cnt ms z (k + 1) = ck + (if (bits .and .i64 f z == z) = true then 1 else 0)) := HC.out
      clear HC
      generalize (bits .and .i64 f z == z) = hf at HC2 ⊢
      cases hf
      · have hcc : cnt ms z (k + 1) = ck := by simpa using HC2.out
        have HCC : Hid (cnt ms z (k + 1) = ck) := hcc
        clear hcc
        go_wp2
        go_roundw
        case rel => exact ⟨k + 1, by omega, by rw [HCC.out], by go_num, by trivial⟩
        case measure => simp [intOf]; omega
      · have hcc : cnt ms z (k + 1) = ck + 1 := by simpa using HC2.out
        have HCC : Hid (cnt ms z (k + 1) = ck + 1) := hcc
        clear hcc
        go_wp2
        go_roundw
        case rel => exact ⟨k + 1, by omega, by rw [HCC.out]; go_num, by go_num, by trivial⟩
        case measure => simp [intOf]; omega
    · have hkn : k = n := by omega
      subst hkn
      go_wp2
      go_ret2
      exact ⟨by rw [HR.out.1, HR.out.2]; rfl, HB1.out⟩
end Go.Proofs.YtinnnfkhiigjpaaGreat.bx

namespace Go.Proofs.YtinnnfkhiigjpaaGreat.bx
open Go.RowKit
open st
set_option linter.unusedVariables false

/-- What StoredAt answers. -/
def Sat (x : Bx) (z : Int) (s : St) (c : Int) : Prop :=
  (bok x = false ∧ s = noS ∧ c = 1) ∨ (bok x = true ∧ (∃ k, k < x.ms.length ∧ (x.ms.getD k noS).u = z ∧ s = x.ms.getD k noS) ∧ c = 0) ∨ (bok x = true ∧ (∀ k, k < x.ms.length → (x.ms.getD k noS).u ≠ z) ∧ s = noS ∧ c = 5)
theorem sat_small {x : Bx} {z : Int} {s : St} {c : Int} (h : Sat x z s c) (hx : Small x) : s.t.size ≤ 1048576 := by
  rcases h with ⟨_, rfl, _⟩ | ⟨_, ⟨k, hk, _, rfl⟩, _⟩ | ⟨_, _, rfl, _⟩
  · exact Nat.zero_le _
  · exact (hx.2.2.1.2 k hk).2.2
  · exact Nat.zero_le _
theorem bok_few {x : Bx} (h : bok x = true) : x.ms.length ≤ 30 := (mails_of ((bok_of x).1 h).2.2.2.1).1


/-- The two variables that a StoredAt begins with. -/
theorem two_new (w : World) (x : Bx) (v u : Value) :
    Lies ((w.alloc (.cells #[.string x.nm, .int .i64 x.vd, .int .i64 x.nx, v, u] 38)).alloc (.cells #[.int .i64 0, .int .i64 0, .string ⟨#[]⟩] 46)) w.heap.size 38 x v u
    ∧ B3 ((w.alloc (.cells #[.string x.nm, .int .i64 x.vd, .int .i64 x.nx, v, u] 38)).alloc (.cells #[.int .i64 0, .int .i64 0, .string ⟨#[]⟩] 46)) (w.heap.size + 1) 46 (.int .i64 0) (.int .i64 0) (.string ⟨#[]⟩)
    ∧ Below w.heap.size w ((w.alloc (.cells #[.string x.nm, .int .i64 x.vd, .int .i64 x.nx, v, u] 38)).alloc (.cells #[.int .i64 0, .int .i64 0, .string ⟨#[]⟩] 46)) := by
  refine ⟨(lies_new w 38 x v u).keep (st.new_below _ _ _), ?_, (st.new_below w _ _).trans ((st.new_below _ _ _).mono (by simp))⟩
  have := b3_new (w.alloc (.cells #[.string x.nm, .int .i64 x.vd, .int .i64 x.nx, v, u] 38)) 46 (.int .i64 0) (.int .i64 0) (.string ⟨#[]⟩)
  rwa [show (w.alloc (.cells #[.string x.nm, .int .i64 x.vd, .int .i64 x.nx, v, u] 38)).heap.size = w.heap.size + 1 from by simp] at this
/-- Its end: the three cells are written, and answered. -/
theorem ends_sat {w w2 : World} {g : Nat} {a b c : Value} (x : Bx) (z : Int) (e : St) (cd : Int) (hg : w.heap.size ≤ g) (R : B3 w2 g 46 a b c) (bb : Below w.heap.size w w2) (hs : Sat x z e cd) :
    B3 (st.put w2 g (.int .i64 e.u) (.int .i64 e.f) (.string e.t)) g 46 (.int .i64 e.u) (.int .i64 e.f) (.string e.t) ∧ Below w.heap.size w (st.put w2 g (.int .i64 e.u) (.int .i64 e.f) (.string e.t)) := ⟨R.put, st.put_below bb hg⟩

set_option maxHeartbeats 4000000 in
set_option maxRecDepth 100000 in
theorem impl_sa (x : Bx) (v u : Value) (z : Int) (w : World) (h : RowsAt w v u x.ms x.ks) (hx : Small x) (hz : In z) :
    Calls Tryz.prog 16 #[BV x v u, .int .i64 z] w fun e w' => (∃ s c, e = .returned (.tuple #[SV s, .int .i64 c]) ∧ Sat x z s c) ∧ Below w.heap.size w w' := by
  obtain ⟨L0, R0, b0⟩ := two_new w x v u
  have HA := rows_below h b0
  obtain ⟨⟨a, cap, rfl, _⟩, ⟨a1, cap1, rfl, _⟩⟩ := h
  have HX : Hid (Small x) := hx
  have HS : Hid (∀ s c, Sat x z s c ↔ Sat x z s c) := fun s c => Iff.rfl
  have HF : Hid (bok x = true → x.ms.length ≤ 30 ∧ Rising x.ms) := fun h => ⟨bok_few h, rising_bok h⟩
  have HS1 : Hid (bok x = false → Sat x z noS 1) := fun h => .inl ⟨h, rfl, rfl⟩
  have HS2 : Hid (bok x = true → ∀ k, k < x.ms.length → (x.ms.getD k noS).u = z → Sat x z (x.ms.getD k noS) 0) := fun h k hk hu => .inr (.inl ⟨h, ⟨k, hk, hu, rfl⟩, rfl⟩)
  have HS3 : Hid (bok x = true → (∀ k, k < x.ms.length → (x.ms.getD k noS).u ≠ z) → Sat x z noS 5) := fun h hn => .inr (.inr ⟨h, hn, rfl, rfl⟩)
  obtain ⟨nm, vd, nx, ms, ks⟩ := x
  unfold BV
  simp only at L0 R0 b0 HA HX HF HS1 HS2 HS3 ⊢
  clear hx HS
  go_enter Tryz.func16, Tryz.ntmps16
  go_wp2_with fail
  generalize World.alloc _ _ = w0 at L0 R0 b0 HA ⊢
  have HA : Hid (RowsAt w0 (.slice a ms.length cap) (.slice a1 ks.length cap1) ms ks) := HA
  refine (impl_bok ⟨nm, vd, nx, ms, ks⟩ _ _ _ HA.out HX.out).mono ?_
  rintro e w1 ⟨rfl, hb1⟩
  have L1 := L0.keep hb1
  have R1 := R0.keep hb1
  have HA1 : Hid (RowsAt w1 (.slice a ms.length cap) (.slice a1 ks.length cap1) ms ks) := rows_below HA.out hb1
  have b1 := b0.trans (hb1.mono b0.size)
  clear hb1 L0 R0 HA b0
  generalize bok ⟨nm, vd, nx, ms, ks⟩ = R at HF HS1 HS2 HS3 ⊢
  have r0 := R1.c0
  have r1 := R1.c1'
  have r2 := R1.c2'
  have f0 := R1.f 0
  have f1 := R1.f 1
  have f2 := R1.f 2
  cases R
  · have HZ : Hid (Sat ⟨nm, vd, nx, ms, ks⟩ z noS 1) := HS1.out (by trivial)
    clear L1
    go_wp2
    obtain ⟨A5, b5⟩ := ends_sat ⟨nm, vd, nx, ms, ks⟩ z noS 1 (g := w.heap.size + 1) (by omega) R1 b1 HZ.out
    change bodyPost _ _ _ _ _ (st.put w1 (w.heap.size + 1) (.int .i64 0) (.int .i64 0) (.string ⟨#[]⟩))
    change B3 (st.put w1 (w.heap.size + 1) (.int .i64 0) (.int .i64 0) (.string ⟨#[]⟩)) (w.heap.size + 1) 46 (.int .i64 0) (.int .i64 0) (.string ⟨#[]⟩) at A5
    change Below w.heap.size w (st.put w1 (w.heap.size + 1) (.int .i64 0) (.int .i64 0) (.string ⟨#[]⟩)) at b5
    generalize st.put w1 (w.heap.size + 1) (.int .i64 0) (.int .i64 0) (.string ⟨#[]⟩) = W5 at A5 b5 ⊢
    have d0 := A5.c0
    have d1 := A5.c1
    have d2 := A5.c2
    exact bodyPost_ret (v := .tuple #[.agg #[.int .i64 0, .int .i64 0, .string ⟨#[]⟩], .int .i64 1]) (by simp [results, Tryz.results16, go_sem, d0, d1, d2]) rfl ⟨⟨noS, 1, rfl, HZ.out⟩, b5⟩
  have c0 := L1.c0
  have c1 := L1.c1
  have c2 := L1.c2
  have c3 := L1.c3
  have c4 := L1.c4
  simp only at c0 c1 c2
  clear r0 r1 r2 f0 f1 f2
  obtain ⟨hl30, hri⟩ := HF.out (by trivial)
  have HRI : Hid (Rising ms) := hri
  clear hri
  go_wp2_with fail
  refine (mailAt_any ⟨nm, vd, nx, ms, ks⟩ _ _ z _ HA1.out hl30 HRI.out).mono ?_
  rintro e w2 ⟨⟨k, bb, rfl, hi, hile⟩, hb2⟩
  have R2 := R1.keep hb2
  have L2 := L1.keep hb2
  have HA2 : Hid (RowsAt w2 (.slice a ms.length cap) (.slice a1 ks.length cap1) ms ks) := rows_below HA1.out hb2
  have b2 := b1.trans (hb2.mono b1.size)
  clear hb2 R1 L1 HA1 b1 c0 c1 c2 c3 c4
  have r0 := R2.c0
  have r1 := R2.c1'
  have r2 := R2.c2'
  have f0 := R2.f 0
  have f1 := R2.f 1
  have f2 := R2.f 2
  have c3 := L2.c3
  clear L2
  rcases hi with ⟨rfl, hk, hu⟩ | ⟨rfl, hno⟩
  · have hs := HS2.out (by trivial) k hk hu
    obtain ⟨b, off, ha, hat⟩ : ∃ b off, a = some ⟨b, off, none⟩ ∧ At3 w2 b (off + k * 3) (ms.getD k noS) := by
      obtain ⟨a', cap', e, hh⟩ := HA2.out.1
      cases e
      rcases hh with e | ⟨b, off, e, hb, hc⟩
      · rw [e] at hk; simp at hk
      · exact ⟨b, off, e, hc k hk⟩
    subst ha
    simp only at hs hu
    generalize ms.getD k noS = x at hat hs hu
    obtain ⟨uu, f, t⟩ := x
    obtain ⟨d0, d1, d2⟩ := hat
    simp only at d0 d1 d2
    have HZ : Hid (Sat ⟨nm, vd, nx, ms, ks⟩ z ⟨uu, f, t⟩ 0) := hs
    clear hs hu
    have hk0 : (0 : Int) ≤ (k : Int) := by omega
    have hkn : (k : Int) < (ms.length : Int) := by simp only at hk; omega
    have hts : t.size ≤ 1048576 := sat_small HZ.out HX.out
    go_wp2_with fail
    refine (copied_any ⟨uu, f, t⟩ _ hts).mono ?_
    rintro e w3 ⟨rfl, hb3⟩
    have R3 := R2.keep hb3
    have b3 := b2.trans (hb3.mono b2.size)
    clear hb3 R2 b2 d0 d1 d2 r0 r1 r2 f0 f1 f2 c3
    have r0 := R3.c0
    have r1 := R3.c1'
    have r2 := R3.c2'
    have f0 := R3.f 0
    have f1 := R3.f 1
    have f2 := R3.f 2
    unfold SV
    simp only
    go_wp2
    obtain ⟨A5, b5⟩ := ends_sat ⟨nm, vd, nx, ms, ks⟩ z ⟨uu, f, t⟩ 0 (g := w.heap.size + 1) (by omega) R3 b3 HZ.out
    change bodyPost _ _ _ _ _ (st.put w3 (w.heap.size + 1) (.int .i64 uu) (.int .i64 f) (.string t))
    change B3 (st.put w3 (w.heap.size + 1) (.int .i64 uu) (.int .i64 f) (.string t)) (w.heap.size + 1) 46 (.int .i64 uu) (.int .i64 f) (.string t) at A5
    change Below w.heap.size w (st.put w3 (w.heap.size + 1) (.int .i64 uu) (.int .i64 f) (.string t)) at b5
    generalize st.put w3 (w.heap.size + 1) (.int .i64 uu) (.int .i64 f) (.string t) = W5 at A5 b5 ⊢
    have d0 := A5.c0
    have d1 := A5.c1
    have d2 := A5.c2
    exact bodyPost_ret (v := .tuple #[.agg #[.int .i64 uu, .int .i64 f, .string t], .int .i64 0]) (by simp [results, Tryz.results16, go_sem, d0, d1, d2]) rfl ⟨⟨⟨uu, f, t⟩, 0, rfl, HZ.out⟩, b5⟩
  · have HZ : Hid (Sat ⟨nm, vd, nx, ms, ks⟩ z noS 5) := HS3.out (by trivial) hno
    clear hno
    go_wp2
    obtain ⟨A5, b5⟩ := ends_sat ⟨nm, vd, nx, ms, ks⟩ z noS 5 (g := w.heap.size + 1) (by omega) R2 b2 HZ.out
    change bodyPost _ _ _ _ _ (st.put w2 (w.heap.size + 1) (.int .i64 0) (.int .i64 0) (.string ⟨#[]⟩))
    change B3 (st.put w2 (w.heap.size + 1) (.int .i64 0) (.int .i64 0) (.string ⟨#[]⟩)) (w.heap.size + 1) 46 (.int .i64 0) (.int .i64 0) (.string ⟨#[]⟩) at A5
    change Below w.heap.size w (st.put w2 (w.heap.size + 1) (.int .i64 0) (.int .i64 0) (.string ⟨#[]⟩)) at b5
    generalize st.put w2 (w.heap.size + 1) (.int .i64 0) (.int .i64 0) (.string ⟨#[]⟩) = W5 at A5 b5 ⊢
    have d0 := A5.c0
    have d1 := A5.c1
    have d2 := A5.c2
    exact bodyPost_ret (v := .tuple #[.agg #[.int .i64 0, .int .i64 0, .string ⟨#[]⟩], .int .i64 5]) (by simp [results, Tryz.results16, go_sem, d0, d1, d2]) rfl ⟨⟨noS, 5, rfl, HZ.out⟩, b5⟩
end Go.Proofs.YtinnnfkhiigjpaaGreat.bx

namespace Go.Proofs.YtinnnfkhiigjpaaGreat.kp
open Go.RowKit
open bx bl sa wi
open st (St noS Rising)
set_option linter.unusedVariables false

theorem mu_small {x : mu.Mu} (h : mu.mok x = true) : mu.Small x := by
  unfold mu.mok at h
  rw [Bool.and_eq_true, Bool.and_eq_true] at h
  obtain ⟨⟨h1, h2⟩, h3⟩ := h
  have hn : nm.IsName x.b := by
    unfold mu.nmB at h1
    exact ow.dof h1
  have hi := mu.its_of h2
  have hk := (mu.kind_is _ _ _ _ _).1 h3
  have hb := hn.2.1
  refine ⟨⟨⟨by omega, by omega⟩, ⟨by omega, by omega⟩, ⟨by omega, by omega⟩, ⟨by omega, by omega⟩⟩, by omega, by omega, fun j hj => ?_⟩
  have := of_decide_eq_true (hi.2 j hj)
  omega
/-- A list of mutations that lies in the memory. -/
def ListAt (w : World) (v : Value) (L : List (mu.Mu × Value)) : Prop :=
  ∃ a cap, v = .slice a L.length cap ∧ (L = [] ∨ ∃ b, a = some ⟨b, 0, none⟩ ∧ ∀ j p, L[j]? = some p → w.cell? ⟨b, j * 6, none⟩ = some (.int .i64 p.1.k) ∧ w.cell? ⟨b, j * 6 + 1, none⟩ = some (.int .i64 p.1.u) ∧ w.cell? ⟨b, j * 6 + 2, none⟩ = some (.int .i64 p.1.m) ∧ w.cell? ⟨b, j * 6 + 3, none⟩ = some (.int .i64 p.1.f) ∧ w.cell? ⟨b, j * 6 + 4, none⟩ = some (.string p.1.b) ∧ w.cell? ⟨b, j * 6 + 5, none⟩ = some p.2)
theorem list_of {w : World} {B : Nat} {v : Value} {L : List (mu.Mu × Value)} (h : dm.OwnM w B v L) : ListAt w v L := by
  have ho := h.1
  rcases ho.2 with ⟨rfl, hz⟩ | ⟨g, cap, cur, rfl, _⟩
  · exact ⟨none, 0, by rw [hz], .inl (List.eq_nil_of_length_eq_zero hz)⟩
  · refine ⟨_, cap, rfl, .inr ⟨g, rfl, fun j p hp => ?_⟩⟩
    have hj : j < L.length := (List.getElem?_eq_some_iff.1 hp).1
    have key : ∀ i, i < 6 → w.cell? ⟨g, j * 6 + i, none⟩ = (dm.mrow p)[i]? := fun i hi => by
      rw [ho.cellAt _ (by omega), dm.mcells_at L j i p hp hi]
    exact ⟨key 0 (by omega), key 1 (by omega), key 2 (by omega), key 3 (by omega), key 4 (by omega), key 5 (by omega)⟩
/-- Boxes that may be gone on with. -/
structure Bag (w : World) (v : Value) (xs : List Bx) (vs : Nat → Value × Value) : Prop where
  at_ : BoxesAt w v xs vs
  fv : Fine v
  fs : Fines xs vs
  sml : Smalls xs
  cp : sm.Caps v xs vs
  ok : sok xs = true
theorem cap_of {w : World} {B e s n0 : Nat} {v : Value} {xs : List Value} (h : w.ownsRow B e s v n0 xs) : ∀ a n c, v = .slice a n c → n ≤ c := by
  intro a n c e
  rcases h.2 with ⟨rfl, _⟩ | ⟨g, cap, cur, rfl, _, _, hc, _⟩
  · cases e; exact Nat.le_refl _
  · cases e; exact hc
theorem bag_of {w : World} {B : Nat} {v : Value} {xs : List Bx} {vs : Nat → Value × Value} (h : OwnL w B v xs vs) (hs : Smalls xs) (ho : sok xs = true) : Bag w v xs vs :=
  ⟨ownL_boxes h, (ownL_fines h).1, (ownL_fines h).2, hs, ⟨cap_of h.1, fun j hj => cap_of (h.2.1 j hj).2⟩, ho⟩
theorem Bag.below {w w' : World} {v : Value} {xs : List Bx} {vs : Nat → Value × Value} (h : Bag w v xs vs) (hb : Below w.heap.size w w') : Bag w' v xs vs :=
  ⟨boxes_below h.at_ hb, h.fv, h.fs, h.sml, h.cp, h.ok⟩
theorem ap_all {xs ys : List Bx} {m : mu.Mu} {c : Int} (hs : sok xs = true) (hS : Smalls xs) (hm : mu.mok m = true) (h : Ap xs m ys c) : sok ys = true ∧ Smalls ys ∧ KP xs ys ∧ (c ≠ 0 → ys = xs) := by
  have hl := (sok_of hs).1
  rcases h with ⟨h1, _⟩ | ⟨_, h1, _⟩ | ⟨_, _, h⟩
  · omega
  · exact absurd ⟨hs, hm⟩ h1
  · obtain ⟨k1, k2⟩ := kp_am hs h
    refine ⟨?_, am_small hS (mu_small hm) hs hm h, k1, k2⟩
    by_cases hc : c = 0
    · subst hc
      exact am_ok hs hm h
    · rw [k2 hc]; exact hs
theorem same_self {xs : List Bx} (h : sok xs = true) : sm.ssa xs xs = true ∧ sm.ssb xs xs = 0 := by
  have hl := (sok_of h).1
  have hs : sm.sameS xs xs = true := sm.sameS_yes ⟨rfl, fun j hj => ⟨rfl, rfl, rfl, ⟨rfl, fun _ _ => rfl⟩, ⟨rfl, fun _ _ => rfl⟩⟩⟩
  have h4 : xs.length ≤ 4096 := by omega
  constructor
  · unfold sm.ssa
    rw [hs, h]
    simp [h4]
  · unfold sm.ssb
    rw [if_pos ⟨h4, h4⟩, if_pos ⟨h, h⟩]
theorem sok_nil : sok [] = true := sok_yes (by simp) fun j hj => absurd hj (Nat.not_lt_zero _)
theorem smalls_nil : Smalls [] := ⟨by simp, fun j hj => absurd hj (Nat.not_lt_zero _)⟩
theorem row_bytes {w : World} {a : Option Addr} {len cap : Nat} {zs : List Int} (h : (a = none ∧ len = 0 ∧ cap = 0 ∧ zs = []) ∨
    ∃ x, a = some x ∧ len ≤ cap ∧ cap ≤ maxLen ∧ zs.length = cap ∧ (∀ i, i < zs.length → w.cell? (x.add i) = some (.int .u8 (zs.getD i 0))) ∧ ∀ n ∈ zs, (Lit.int .u8 n).wf = true) (hl : len ≤ 1048576) : se.Bytes w a len := by
  refine ⟨hl, ?_⟩
  rcases h with ⟨rfl, rfl, rfl, rfl⟩ | ⟨x, rfl, hlc, hm, hz, hcell, hwz⟩
  · exact .inl rfl
  · by_cases h0 : len = 0
    · exact .inl h0
    · right
      obtain ⟨b, off, spot⟩ := x
      have hc := hcell 0 (by omega)
      have hspot : spot = none := by simpa [Addr.add] using World.cell?_spot hc
      subst hspot
      refine ⟨b, off, rfl, fun j hj => ?_⟩
      have hj2 : j < zs.length := by omega
      have hb := bounds_u8 (hwz (zs.getD j 0) (by rw [List.getD_eq_getElem?_getD, List.getElem?_eq_getElem hj2]; exact List.getElem_mem hj2))
      refine ⟨zs.getD j 0, hb.1, hb.2, ?_⟩
      rw [← hcell j hj2]
      congr 1
      simp [Addr.add]
theorem name_le {x : Bx} (h : bok x = true) : x.nm.size ≤ 65536 := by
  have h1 := (bok_iff.1 h).1
  have hn : nm.IsName x.nm := by
    unfold mu.nmB at h1
    exact ow.dof h1
  have := hn.2.1
  omega
/-- The box of a name that a right list has is that one. -/
theorem ba_self {xs : List Bx} {k : Nat} {y : Bx} {c : Int} (h : sok xs = true) (hk : k < xs.length) (hb : Ba xs (xs.getD k noB).nm y c) : y = xs.getD k noB ∧ c = 0 := by
  obtain ⟨hl, hS⟩ := sok_of h
  have hn := name_le (hS k hk).1
  rcases hb with ⟨h1, _⟩ | ⟨_, h1, _⟩ | ⟨_, _, h1, _⟩ | ⟨_, _, k', hk', h1, rfl, rfl⟩
  · exact absurd ⟨by omega, by omega⟩ h1
  · rw [h] at h1; cases h1
  · rcases h1 with ⟨j, e, _⟩ | ⟨_, h1⟩
    · omega
    · exact absurd rfl (h1 k hk)
  · rcases h1 with ⟨j, e, hj, e1, e2⟩ | ⟨e, _⟩
    · have : j = k' := by omega
      subst this
      have : j = k := by
        rcases Nat.lt_trichotomy j k with h1 | h1 | h1
        · exact absurd e1 ((hS k hk).2.2 j h1)
        · exact h1
        · exact absurd rfl (e2 k h1)
      subst this
      exact ⟨rfl, rfl⟩
    · omega
theorem cf_ok {x : Bx} (h : bok x = true) : FnExactCountFlag_b x 1 = 0 := by
  unfold FnExactCountFlag_b
  rw [if_pos h]
  rfl
/-- A mail of a right box is found by its uid. -/
theorem sat_self {x : Bx} {r : Nat} {s : St} {c : Int} (h : bok x = true) (hr : r < x.ms.length) (hs : Sat x (x.ms.getD r noS).u s c) : s = x.ms.getD r noS ∧ c = 0 := by
  rcases hs with ⟨h1, _⟩ | ⟨_, ⟨k, hk, hu, rfl⟩, rfl⟩ | ⟨_, h1, _⟩
  · rw [h] at h1; cases h1
  · exact ⟨(u_of h).1 _ (mem_getD hk) _ (mem_getD hr) hu, rfl⟩
  · exact absurd rfl (h1 r hr)
end Go.Proofs.YtinnnfkhiigjpaaGreat.kp
