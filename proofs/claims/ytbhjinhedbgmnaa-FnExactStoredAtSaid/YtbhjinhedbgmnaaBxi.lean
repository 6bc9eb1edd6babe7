/-
  Both StoredAt functions.
-/
import Derived.Test.YtbhjinhedbgmnaaStc
import Derived.Test.YtbhjinhedbgmnaaBxf
namespace Go.Proofs.Ytbhjinhedbgmnaa.bx
open Go.RowKit
open st
set_option linter.unusedVariables false

/-- What StoredAt answers. -/
def Sat (x : Bx) (z : Int) (s : St) (c : Int) : Prop :=
  (bok x = false ∧ s = noS ∧ c = 1) ∨ (bok x = true ∧ (∃ k, k < x.ms.length ∧ (x.ms.getD k noS).u = z ∧ s = x.ms.getD k noS) ∧ c = 0) ∨ (bok x = true ∧ (∀ k, k < x.ms.length → (x.ms.getD k noS).u ≠ z) ∧ s = noS ∧ c = 5)
theorem sat_one {x : Bx} {z : Int} {s s' : St} {c c' : Int} (h : Sat x z s c) (h' : Sat x z s' c') : s = s' ∧ c = c' := by
  rcases h with ⟨h1, rfl, rfl⟩ | ⟨h1, ⟨k, hk, hu, rfl⟩, rfl⟩ | ⟨h1, hn, rfl, rfl⟩
  · rcases h' with ⟨_, rfl, rfl⟩ | ⟨h2, _⟩ | ⟨h2, _⟩
    · exact ⟨rfl, rfl⟩
    · rw [h1] at h2; cases h2
    · rw [h1] at h2; cases h2
  · rcases h' with ⟨h2, _⟩ | ⟨_, ⟨j, hj, hv, rfl⟩, rfl⟩ | ⟨_, hn, _⟩
    · rw [h1] at h2; cases h2
    · have hr := rising_bok h1
      by_cases e : k = j
      · subst e; exact ⟨rfl, rfl⟩
      · by_cases e2 : k < j
        · have := hr k j e2 hj; omega
        · have := hr j k (by omega) hk; omega
    · exact absurd hu (hn k hk)
  · rcases h' with ⟨h2, _⟩ | ⟨_, ⟨j, hj, hv, rfl⟩, rfl⟩ | ⟨_, _, rfl, rfl⟩
    · rw [h1] at h2; cases h2
    · exact absurd hv (hn j hj)
    · exact ⟨rfl, rfl⟩
theorem sat_small {x : Bx} {z : Int} {s : St} {c : Int} (h : Sat x z s c) (hx : Small x) : s.t.size ≤ 1048576 := by
  rcases h with ⟨_, rfl, _⟩ | ⟨_, ⟨k, hk, _, rfl⟩, _⟩ | ⟨_, _, rfl, _⟩
  · exact Nat.zero_le _
  · exact (hx.2.2.1.2 k hk).2.2
  · exact Nat.zero_le _
theorem bok_few {x : Bx} (h : bok x = true) : x.ms.length ≤ 30 := (mails_of ((bok_of x).1 h).2.2.2.1).1

set_option maxHeartbeats 2000000 in
set_option maxRecDepth 100000 in
theorem spec_mail (x : Bx) (v u : Value) (z : Int) (w : World) (h : RowsAt w v u x.ms x.ks) (hl : x.ms.length ≤ 30) :
    Calls Try.prog 49 #[BV x v u, .int .i64 z] w fun e w' => (∃ i : Int, e = .returned (.int .i64 i) ∧ ((∃ k : Nat, i = k ∧ k < x.ms.length ∧ (x.ms.getD k noS).u = z) ∨ (i = -1 ∧ ∀ k, k < x.ms.length → (x.ms.getD k noS).u ≠ z))) ∧ Below w.heap.size w w' := by
  have L0 := lies_new w 41 x v u
  have b0 := new_below w 41 #[.string x.nm, .int .i64 x.vd, .int .i64 x.nx, v, u]
  have HA := rows_below h b0
  obtain ⟨⟨a, cap, rfl, _⟩, ⟨a1, cap1, rfl, _⟩⟩ := h
  obtain ⟨nm, vd, nx, ms, ks⟩ := x
  unfold BV
  simp only at L0 b0 HA hl ⊢
  obtain ⟨n, hn⟩ : ∃ n, n = ms.length := ⟨_, rfl⟩
  have HN : Hid (n = ms.length) := hn
  rw [← hn] at L0 b0 HA hl ⊢
  clear hn
  go_enter Try.func49, Try.ntmps49
  go_wp2
  have HB0 : Hid (Below w.heap.size w (w.alloc (.cells #[.string nm, .int .i64 vd, .int .i64 nx, .slice a n cap, .slice a1 ks.length cap1] 41))) := b0
  clear b0
  generalize w.alloc _ = w0 at L0 HB0 HA ⊢
  have HA : Hid (RowsAt w0 (.slice a n cap) (.slice a1 ks.length cap1) ms ks) := HA
  have c3 := L0.c3
  clear L0
  go_loopw [5] (fun i wr => ∃ (k : Nat), k ≤ n ∧ i = .int .i64 k ∧ (∀ j, j < k → (ms.getD j noS).u ≠ z) ∧ wr = w0) (fun i _ => n - (intOf i).toNat)
  case atStart => exact ⟨0, Nat.zero_le _, rfl, fun j hj => absurd hj (Nat.not_lt_zero _), rfl⟩
  case round =>
    obtain ⟨k, hk, rfl, hal, rfl⟩ := hrel
    have HAL : Hid (∀ j, j < k → (ms.getD j noS).u ≠ z) := hal
    clear hal
    by_cases hlt : k < n
    · have hka : k < ms.length := by rw [← HN.out]; exact hlt
      obtain ⟨b, off, ha, hat⟩ : ∃ b off, a = some ⟨b, off, none⟩ ∧ At3 wr b (off + k * 3) (ms.getD k noS) := by
        obtain ⟨a', cap', e, hh⟩ := HA.out.1
        cases e
        rcases hh with e | ⟨b, off, e, hb, hc⟩
        · rw [e] at hka; simp at hka
        · exact ⟨b, off, e, hc k hka⟩
      subst ha
      generalize hx : ms.getD k noS = x at hat
      have HX : Hid (ms.getD k noS = x) := hx
      clear hx
      obtain ⟨uu, f, t⟩ := x
      obtain ⟨d0, d1, d2⟩ := hat
      simp only at d0 d1 d2
      have HKA : Hid (k < ms.length) := hka
      clear hka
      by_cases hc : uu = z
      · have hc' : (uu == z) = true := by simp [hc]
        have HE : Hid ((ms.getD k noS).u = z) := by rw [HX.out]; exact hc
        clear hc
        go_wp2
        go_ret
        exact ⟨⟨k, rfl, .inl ⟨k, rfl, by have := HN.out; omega, HE.out⟩⟩, HB0.out⟩
      · have hc' : (uu == z) = false := by simp [hc]
        have HE : Hid (∀ j, j < k + 1 → (ms.getD j noS).u ≠ z) := fun j hj => by
          by_cases e : j = k
          · rw [e, HX.out]; exact hc
          · exact HAL.out j (by omega)
        clear hc
        go_wp2
        go_roundw
        case rel => exact ⟨k + 1, by omega, by go_num, HE.out, by trivial⟩
        case measure => simp [intOf]; omega
    · go_wp2
      go_ret
      exact ⟨⟨-1, rfl, .inr ⟨rfl, fun j hj => HAL.out j (by omega)⟩⟩, HB0.out⟩

/-- The two variables that a StoredAt begins with. -/
theorem two_new (w : World) (x : Bx) (v u : Value) :
    Lies ((w.alloc (.cells #[.string x.nm, .int .i64 x.vd, .int .i64 x.nx, v, u] 41)).alloc (.cells #[.int .i64 0, .int .i64 0, .string ⟨#[]⟩] 49)) w.heap.size 41 x v u
    ∧ B3 ((w.alloc (.cells #[.string x.nm, .int .i64 x.vd, .int .i64 x.nx, v, u] 41)).alloc (.cells #[.int .i64 0, .int .i64 0, .string ⟨#[]⟩] 49)) (w.heap.size + 1) 49 (.int .i64 0) (.int .i64 0) (.string ⟨#[]⟩)
    ∧ Below w.heap.size w ((w.alloc (.cells #[.string x.nm, .int .i64 x.vd, .int .i64 x.nx, v, u] 41)).alloc (.cells #[.int .i64 0, .int .i64 0, .string ⟨#[]⟩] 49)) := by
  refine ⟨(lies_new w 41 x v u).keep (st.new_below _ _ _), ?_, (st.new_below w _ _).trans ((st.new_below _ _ _).mono (by simp))⟩
  have := b3_new (w.alloc (.cells #[.string x.nm, .int .i64 x.vd, .int .i64 x.nx, v, u] 41)) 49 (.int .i64 0) (.int .i64 0) (.string ⟨#[]⟩)
  rwa [show (w.alloc (.cells #[.string x.nm, .int .i64 x.vd, .int .i64 x.nx, v, u] 41)).heap.size = w.heap.size + 1 from by simp] at this
/-- Its end: the three cells are written, and answered. -/
theorem ends_sat {w w2 : World} {g : Nat} {a b c : Value} (x : Bx) (z : Int) (e : St) (cd : Int) (hg : w.heap.size ≤ g) (R : B3 w2 g 49 a b c) (bb : Below w.heap.size w w2) (hs : Sat x z e cd) :
    B3 (st.put w2 g (.int .i64 e.u) (.int .i64 e.f) (.string e.t)) g 49 (.int .i64 e.u) (.int .i64 e.f) (.string e.t) ∧ Below w.heap.size w (st.put w2 g (.int .i64 e.u) (.int .i64 e.f) (.string e.t)) := ⟨R.put, st.put_below bb hg⟩

set_option maxHeartbeats 4000000 in
set_option maxRecDepth 100000 in
theorem spec_sa (x : Bx) (v u : Value) (z : Int) (w : World) (h : RowsAt w v u x.ms x.ks) (hx : Small x) (hcap : ∀ a n c, u = .slice a n c → n ≤ c) (hz : In z) :
    Calls Try.prog 21 #[BV x v u, .int .i64 z] w fun e w' => (∃ s c, e = .returned (.tuple #[SV s, .int .i64 c]) ∧ Sat x z s c) ∧ Below w.heap.size w w' := by
  obtain ⟨L0, R0, b0⟩ := two_new w x v u
  have HA := rows_below h b0
  have HCAP : Hid (∀ a n c, u = .slice a n c → n ≤ c) := hcap
  obtain ⟨⟨a, cap, rfl, _⟩, ⟨a1, cap1, rfl, _⟩⟩ := h
  have HX : Hid (Small x) := hx
  have HS : Hid (∀ s c, Sat x z s c ↔ Sat x z s c) := fun s c => Iff.rfl
  have HF : Hid (bok x = true → x.ms.length ≤ 30) := bok_few
  have HS1 : Hid (bok x = false → Sat x z noS 1) := fun h => .inl ⟨h, rfl, rfl⟩
  have HS2 : Hid (bok x = true → ∀ k, k < x.ms.length → (x.ms.getD k noS).u = z → Sat x z (x.ms.getD k noS) 0) := fun h k hk hu => .inr (.inl ⟨h, ⟨k, hk, hu, rfl⟩, rfl⟩)
  have HS3 : Hid (bok x = true → (∀ k, k < x.ms.length → (x.ms.getD k noS).u ≠ z) → Sat x z noS 5) := fun h hn => .inr (.inr ⟨h, hn, rfl, rfl⟩)
  obtain ⟨nm, vd, nx, ms, ks⟩ := x
  unfold BV
  simp only at L0 R0 b0 HA HX HCAP HF HS1 HS2 HS3 ⊢
  clear hx hcap HS
  go_enter Try.func21, Try.ntmps21
  go_wp2_with fail
  generalize World.alloc _ _ = w0 at L0 R0 b0 HA ⊢
  have HA : Hid (RowsAt w0 (.slice a ms.length cap) (.slice a1 ks.length cap1) ms ks) := HA
  refine (spec_bok ⟨nm, vd, nx, ms, ks⟩ _ _ _ HA.out HX.out HCAP.out).mono ?_
  rintro e w1 ⟨rfl, hb1⟩
  have L1 := L0.keep hb1
  have R1 := R0.keep hb1
  have HA1 : Hid (RowsAt w1 (.slice a ms.length cap) (.slice a1 ks.length cap1) ms ks) := rows_below HA.out hb1
  have b1 := b0.trans (hb1.mono b0.size)
  clear hb1 L0 R0 HA b0 HCAP
  generalize bok ⟨nm, vd, nx, ms, ks⟩ = R at HF HS1 HS2 HS3 ⊢
  have r0 := R1.c0
  have r1 := R1.c1'
  have r2 := R1.c2'
  have f0 := R1.f 0
  have f1 := R1.f 1
  have f2 := R1.f 2
  cases R
  · have HZ : Hid (Sat ⟨nm, vd, nx, ms, ks⟩ z noS 1) := HS1.out (by trivial)
    clear L1
    go_wp2
    obtain ⟨A5, b5⟩ := ends_sat ⟨nm, vd, nx, ms, ks⟩ z noS 1 (g := w.heap.size + 1) (by omega) R1 b1 HZ.out
    change bodyPost _ _ _ _ _ (st.put w1 (w.heap.size + 1) (.int .i64 0) (.int .i64 0) (.string ⟨#[]⟩))
    change B3 (st.put w1 (w.heap.size + 1) (.int .i64 0) (.int .i64 0) (.string ⟨#[]⟩)) (w.heap.size + 1) 49 (.int .i64 0) (.int .i64 0) (.string ⟨#[]⟩) at A5
    change Below w.heap.size w (st.put w1 (w.heap.size + 1) (.int .i64 0) (.int .i64 0) (.string ⟨#[]⟩)) at b5
    generalize st.put w1 (w.heap.size + 1) (.int .i64 0) (.int .i64 0) (.string ⟨#[]⟩) = W5 at A5 b5 ⊢
    have d0 := A5.c0
    have d1 := A5.c1
    have d2 := A5.c2
    exact bodyPost_ret (v := .tuple #[.agg #[.int .i64 0, .int .i64 0, .string ⟨#[]⟩], .int .i64 1]) (by simp [results, Try.results21, go_sem, d0, d1, d2]) rfl ⟨⟨noS, 1, rfl, HZ.out⟩, b5⟩
  have c0 := L1.c0
  have c1 := L1.c1
  have c2 := L1.c2
  have c3 := L1.c3
  have c4 := L1.c4
  simp only at c0 c1 c2
  clear r0 r1 r2 f0 f1 f2
  have hl30 : ms.length ≤ 30 := HF.out (by trivial)
  go_wp2_with fail
  refine (spec_mail ⟨nm, vd, nx, ms, ks⟩ _ _ z _ HA1.out hl30).mono ?_
  rintro e w2 ⟨⟨i, rfl, hi⟩, hb2⟩
  have R2 := R1.keep hb2
  have L2 := L1.keep hb2
  have HA2 : Hid (RowsAt w2 (.slice a ms.length cap) (.slice a1 ks.length cap1) ms ks) := rows_below HA1.out hb2
  have b2 := b1.trans (hb2.mono b1.size)
  clear hb2 R1 L1 HA1 b1 c0 c1 c2 c3 c4
  have r0 := R2.c0
  have r1 := R2.c1'
  have r2 := R2.c2'
  have f0 := R2.f 0
  have f1 := R2.f 1
  have f2 := R2.f 2
  have c3 := L2.c3
  clear L2
  rcases hi with ⟨k, rfl, hk, hu⟩ | ⟨rfl, hno⟩
  · have hs := HS2.out (by trivial) k hk hu
    obtain ⟨b, off, ha, hat⟩ : ∃ b off, a = some ⟨b, off, none⟩ ∧ At3 w2 b (off + k * 3) (ms.getD k noS) := by
      obtain ⟨a', cap', e, hh⟩ := HA2.out.1
      cases e
      rcases hh with e | ⟨b, off, e, hb, hc⟩
      · rw [e] at hk; simp at hk
      · exact ⟨b, off, e, hc k hk⟩
    subst ha
    simp only at hs hu
    generalize ms.getD k noS = x at hat hs hu
    obtain ⟨uu, f, t⟩ := x
    obtain ⟨d0, d1, d2⟩ := hat
    simp only at d0 d1 d2
    have HZ : Hid (Sat ⟨nm, vd, nx, ms, ks⟩ z ⟨uu, f, t⟩ 0) := hs
    clear hs hu
    have hk0 : (0 : Int) ≤ (k : Int) := by omega
    have hkn : (k : Int) < (ms.length : Int) := by simp only at hk; omega
    go_wp2
    clear d0 d1 d2
    obtain ⟨A5, b5⟩ := ends_sat ⟨nm, vd, nx, ms, ks⟩ z ⟨uu, f, t⟩ 0 (g := w.heap.size + 1) (by omega) R2 b2 HZ.out
    change bodyPost _ _ _ _ _ (st.put w2 (w.heap.size + 1) (.int .i64 uu) (.int .i64 f) (.string t))
    change B3 (st.put w2 (w.heap.size + 1) (.int .i64 uu) (.int .i64 f) (.string t)) (w.heap.size + 1) 49 (.int .i64 uu) (.int .i64 f) (.string t) at A5
    change Below w.heap.size w (st.put w2 (w.heap.size + 1) (.int .i64 uu) (.int .i64 f) (.string t)) at b5
    generalize st.put w2 (w.heap.size + 1) (.int .i64 uu) (.int .i64 f) (.string t) = W5 at A5 b5 ⊢
    have d0 := A5.c0
    have d1 := A5.c1
    have d2 := A5.c2
    exact bodyPost_ret (v := .tuple #[.agg #[.int .i64 uu, .int .i64 f, .string t], .int .i64 0]) (by simp [results, Try.results21, go_sem, d0, d1, d2]) rfl ⟨⟨⟨uu, f, t⟩, 0, rfl, HZ.out⟩, b5⟩
  · have HZ : Hid (Sat ⟨nm, vd, nx, ms, ks⟩ z noS 5) := HS3.out (by trivial) hno
    clear hno
    go_wp2
    obtain ⟨A5, b5⟩ := ends_sat ⟨nm, vd, nx, ms, ks⟩ z noS 5 (g := w.heap.size + 1) (by omega) R2 b2 HZ.out
    change bodyPost _ _ _ _ _ (st.put w2 (w.heap.size + 1) (.int .i64 0) (.int .i64 0) (.string ⟨#[]⟩))
    change B3 (st.put w2 (w.heap.size + 1) (.int .i64 0) (.int .i64 0) (.string ⟨#[]⟩)) (w.heap.size + 1) 49 (.int .i64 0) (.int .i64 0) (.string ⟨#[]⟩) at A5
    change Below w.heap.size w (st.put w2 (w.heap.size + 1) (.int .i64 0) (.int .i64 0) (.string ⟨#[]⟩)) at b5
    generalize st.put w2 (w.heap.size + 1) (.int .i64 0) (.int .i64 0) (.string ⟨#[]⟩) = W5 at A5 b5 ⊢
    have d0 := A5.c0
    have d1 := A5.c1
    have d2 := A5.c2
    exact bodyPost_ret (v := .tuple #[.agg #[.int .i64 0, .int .i64 0, .string ⟨#[]⟩], .int .i64 5]) (by simp [results, Try.results21, go_sem, d0, d1, d2]) rfl ⟨⟨noS, 5, rfl, HZ.out⟩, b5⟩

set_option maxHeartbeats 4000000 in
set_option maxRecDepth 100000 in
theorem impl_sa (x : Bx) (v u : Value) (z : Int) (w : World) (h : RowsAt w v u x.ms x.ks) (hx : Small x) (hz : In z) :
    Calls Try.prog 22 #[BV x v u, .int .i64 z] w fun e w' => (∃ s c, e = .returned (.tuple #[SV s, .int .i64 c]) ∧ Sat x z s c) ∧ Below w.heap.size w w' := by
  obtain ⟨L0, R0, b0⟩ := two_new w x v u
  have HA := rows_below h b0
  obtain ⟨⟨a, cap, rfl, _⟩, ⟨a1, cap1, rfl, _⟩⟩ := h
  have HX : Hid (Small x) := hx
  have HS : Hid (∀ s c, Sat x z s c ↔ Sat x z s c) := fun s c => Iff.rfl
  have HF : Hid (bok x = true → x.ms.length ≤ 30 ∧ Rising x.ms) := fun h => ⟨bok_few h, rising_bok h⟩
  have HS1 : Hid (bok x = false → Sat x z noS 1) := fun h => .inl ⟨h, rfl, rfl⟩
  have HS2 : Hid (bok x = true → ∀ k, k < x.ms.length → (x.ms.getD k noS).u = z → Sat x z (x.ms.getD k noS) 0) := fun h k hk hu => .inr (.inl ⟨h, ⟨k, hk, hu, rfl⟩, rfl⟩)
  have HS3 : Hid (bok x = true → (∀ k, k < x.ms.length → (x.ms.getD k noS).u ≠ z) → Sat x z noS 5) := fun h hn => .inr (.inr ⟨h, hn, rfl, rfl⟩)
  obtain ⟨nm, vd, nx, ms, ks⟩ := x
  unfold BV
  simp only at L0 R0 b0 HA HX HF HS1 HS2 HS3 ⊢
  clear hx HS
  go_enter Try.func22, Try.ntmps22
  go_wp2_with fail
  generalize World.alloc _ _ = w0 at L0 R0 b0 HA ⊢
  have HA : Hid (RowsAt w0 (.slice a ms.length cap) (.slice a1 ks.length cap1) ms ks) := HA
  refine (impl_bok ⟨nm, vd, nx, ms, ks⟩ _ _ _ HA.out HX.out).mono ?_
  rintro e w1 ⟨rfl, hb1⟩
  have L1 := L0.keep hb1
  have R1 := R0.keep hb1
  have HA1 : Hid (RowsAt w1 (.slice a ms.length cap) (.slice a1 ks.length cap1) ms ks) := rows_below HA.out hb1
  have b1 := b0.trans (hb1.mono b0.size)
  clear hb1 L0 R0 HA b0
  generalize bok ⟨nm, vd, nx, ms, ks⟩ = R at HF HS1 HS2 HS3 ⊢
  have r0 := R1.c0
  have r1 := R1.c1'
  have r2 := R1.c2'
  have f0 := R1.f 0
  have f1 := R1.f 1
  have f2 := R1.f 2
  cases R
  · have HZ : Hid (Sat ⟨nm, vd, nx, ms, ks⟩ z noS 1) := HS1.out (by trivial)
    clear L1
    go_wp2
    obtain ⟨A5, b5⟩ := ends_sat ⟨nm, vd, nx, ms, ks⟩ z noS 1 (g := w.heap.size + 1) (by omega) R1 b1 HZ.out
    change bodyPost _ _ _ _ _ (st.put w1 (w.heap.size + 1) (.int .i64 0) (.int .i64 0) (.string ⟨#[]⟩))
    change B3 (st.put w1 (w.heap.size + 1) (.int .i64 0) (.int .i64 0) (.string ⟨#[]⟩)) (w.heap.size + 1) 49 (.int .i64 0) (.int .i64 0) (.string ⟨#[]⟩) at A5
    change Below w.heap.size w (st.put w1 (w.heap.size + 1) (.int .i64 0) (.int .i64 0) (.string ⟨#[]⟩)) at b5
    generalize st.put w1 (w.heap.size + 1) (.int .i64 0) (.int .i64 0) (.string ⟨#[]⟩) = W5 at A5 b5 ⊢
    have d0 := A5.c0
    have d1 := A5.c1
    have d2 := A5.c2
    exact bodyPost_ret (v := .tuple #[.agg #[.int .i64 0, .int .i64 0, .string ⟨#[]⟩], .int .i64 1]) (by simp [results, Try.results22, go_sem, d0, d1, d2]) rfl ⟨⟨noS, 1, rfl, HZ.out⟩, b5⟩
  have c0 := L1.c0
  have c1 := L1.c1
  have c2 := L1.c2
  have c3 := L1.c3
  have c4 := L1.c4
  simp only at c0 c1 c2
  clear r0 r1 r2 f0 f1 f2
  obtain ⟨hl30, hri⟩ := HF.out (by trivial)
  have HRI : Hid (Rising ms) := hri
  clear hri
  go_wp2_with fail
  refine (mailAt_any ⟨nm, vd, nx, ms, ks⟩ _ _ z _ HA1.out hl30 HRI.out).mono ?_
  rintro e w2 ⟨⟨k, bb, rfl, hi, hile⟩, hb2⟩
  have R2 := R1.keep hb2
  have L2 := L1.keep hb2
  have HA2 : Hid (RowsAt w2 (.slice a ms.length cap) (.slice a1 ks.length cap1) ms ks) := rows_below HA1.out hb2
  have b2 := b1.trans (hb2.mono b1.size)
  clear hb2 R1 L1 HA1 b1 c0 c1 c2 c3 c4
  have r0 := R2.c0
  have r1 := R2.c1'
  have r2 := R2.c2'
  have f0 := R2.f 0
  have f1 := R2.f 1
  have f2 := R2.f 2
  have c3 := L2.c3
  clear L2
  rcases hi with ⟨rfl, hk, hu⟩ | ⟨rfl, hno⟩
  · have hs := HS2.out (by trivial) k hk hu
    obtain ⟨b, off, ha, hat⟩ : ∃ b off, a = some ⟨b, off, none⟩ ∧ At3 w2 b (off + k * 3) (ms.getD k noS) := by
      obtain ⟨a', cap', e, hh⟩ := HA2.out.1
      cases e
      rcases hh with e | ⟨b, off, e, hb, hc⟩
      · rw [e] at hk; simp at hk
      · exact ⟨b, off, e, hc k hk⟩
    subst ha
    simp only at hs hu
    generalize ms.getD k noS = x at hat hs hu
    obtain ⟨uu, f, t⟩ := x
    obtain ⟨d0, d1, d2⟩ := hat
    simp only at d0 d1 d2
    have HZ : Hid (Sat ⟨nm, vd, nx, ms, ks⟩ z ⟨uu, f, t⟩ 0) := hs
    clear hs hu
    have hk0 : (0 : Int) ≤ (k : Int) := by omega
    have hkn : (k : Int) < (ms.length : Int) := by simp only at hk; omega
    have hts : t.size ≤ 1048576 := sat_small HZ.out HX.out
    go_wp2_with fail
    refine (copied_any ⟨uu, f, t⟩ _ hts).mono ?_
    rintro e w3 ⟨rfl, hb3⟩
    have R3 := R2.keep hb3
    have b3 := b2.trans (hb3.mono b2.size)
    clear hb3 R2 b2 d0 d1 d2 r0 r1 r2 f0 f1 f2 c3
    have r0 := R3.c0
    have r1 := R3.c1'
    have r2 := R3.c2'
    have f0 := R3.f 0
    have f1 := R3.f 1
    have f2 := R3.f 2
    unfold SV
    simp only
    go_wp2
    obtain ⟨A5, b5⟩ := ends_sat ⟨nm, vd, nx, ms, ks⟩ z ⟨uu, f, t⟩ 0 (g := w.heap.size + 1) (by omega) R3 b3 HZ.out
    change bodyPost _ _ _ _ _ (st.put w3 (w.heap.size + 1) (.int .i64 uu) (.int .i64 f) (.string t))
    change B3 (st.put w3 (w.heap.size + 1) (.int .i64 uu) (.int .i64 f) (.string t)) (w.heap.size + 1) 49 (.int .i64 uu) (.int .i64 f) (.string t) at A5
    change Below w.heap.size w (st.put w3 (w.heap.size + 1) (.int .i64 uu) (.int .i64 f) (.string t)) at b5
    generalize st.put w3 (w.heap.size + 1) (.int .i64 uu) (.int .i64 f) (.string t) = W5 at A5 b5 ⊢
    have d0 := A5.c0
    have d1 := A5.c1
    have d2 := A5.c2
    exact bodyPost_ret (v := .tuple #[.agg #[.int .i64 uu, .int .i64 f, .string t], .int .i64 0]) (by simp [results, Try.results22, go_sem, d0, d1, d2]) rfl ⟨⟨⟨uu, f, t⟩, 0, rfl, HZ.out⟩, b5⟩
  · have HZ : Hid (Sat ⟨nm, vd, nx, ms, ks⟩ z noS 5) := HS3.out (by trivial) hno
    clear hno
    go_wp2
    obtain ⟨A5, b5⟩ := ends_sat ⟨nm, vd, nx, ms, ks⟩ z noS 5 (g := w.heap.size + 1) (by omega) R2 b2 HZ.out
    change bodyPost _ _ _ _ _ (st.put w2 (w.heap.size + 1) (.int .i64 0) (.int .i64 0) (.string ⟨#[]⟩))
    change B3 (st.put w2 (w.heap.size + 1) (.int .i64 0) (.int .i64 0) (.string ⟨#[]⟩)) (w.heap.size + 1) 49 (.int .i64 0) (.int .i64 0) (.string ⟨#[]⟩) at A5
    change Below w.heap.size w (st.put w2 (w.heap.size + 1) (.int .i64 0) (.int .i64 0) (.string ⟨#[]⟩)) at b5
    generalize st.put w2 (w.heap.size + 1) (.int .i64 0) (.int .i64 0) (.string ⟨#[]⟩) = W5 at A5 b5 ⊢
    have d0 := A5.c0
    have d1 := A5.c1
    have d2 := A5.c2
    exact bodyPost_ret (v := .tuple #[.agg #[.int .i64 0, .int .i64 0, .string ⟨#[]⟩], .int .i64 5]) (by simp [results, Try.results22, go_sem, d0, d1, d2]) rfl ⟨⟨noS, 5, rfl, HZ.out⟩, b5⟩
end Go.Proofs.Ytbhjinhedbgmnaa.bx
