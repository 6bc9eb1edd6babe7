/-
  The specification's search for a mail.
-/
import Derived.Test.YtdnjiagnpaibjaaDoorStc
namespace Go.Proofs.YtdnjiagnpaibjaaDoor.bx
open Go.RowKit
open st
set_option linter.unusedVariables false

set_option maxHeartbeats 2000000 in
set_option maxRecDepth 100000 in
theorem spec_mail (x : Bx) (v u : Value) (z : Int) (w : World) (h : RowsAt w v u x.ms x.ks) (hl : x.ms.length ≤ 30) :
    Calls Tryd.prog 49 #[BV x v u, .int .i64 z] w fun e w' => (∃ i : Int, e = .returned (.int .i64 i) ∧ ((∃ k : Nat, i = k ∧ k < x.ms.length ∧ (x.ms.getD k noS).u = z) ∨ (i = -1 ∧ ∀ k, k < x.ms.length → (x.ms.getD k noS).u ≠ z))) ∧ Below w.heap.size w w' := by
  have L0 := lies_new w 32 x v u
  have b0 := new_below w 32 #[.string x.nm, .int .i64 x.vd, .int .i64 x.nx, v, u]
  have HA := rows_below h b0
  obtain ⟨⟨a, cap, rfl, _⟩, ⟨a1, cap1, rfl, _⟩⟩ := h
  obtain ⟨nm, vd, nx, ms, ks⟩ := x
  unfold BV
  simp only at L0 b0 HA hl ⊢
  obtain ⟨n, hn⟩ : ∃ n, n = ms.length := ⟨_, rfl⟩
  have HN : Hid (n = ms.length) := hn
  rw [← hn] at L0 b0 HA hl ⊢
  clear hn
  go_enter Tryd.func49, Tryd.ntmps49
  go_wp2
  have HB0 : Hid (Below w.heap.size w (w.alloc (.cells #[.string nm, .int .i64 vd, .int .i64 nx, .slice a n cap, .slice a1 ks.length cap1] 32))) := b0
  clear b0
  generalize w.alloc _ = w0 at L0 HB0 HA ⊢
  have HA : Hid (RowsAt w0 (.slice a n cap) (.slice a1 ks.length cap1) ms ks) := HA
  have c3 := L0.c3
  clear L0
  go_loopw [5] (fun i wr => ∃ (k : Nat), k ≤ n ∧ i = .int .i64 k ∧ (∀ j, j < k → (ms.getD j noS).u ≠ z) ∧ wr = w0) (fun i _ => n - (intOf i).toNat)
  case atStart => exact ⟨0, Nat.zero_le _, rfl, fun j hj => absurd hj (Nat.not_lt_zero _), rfl⟩
  case round =>
    obtain ⟨k, hk, rfl, hal, rfl⟩ := hrel
    have HAL : Hid (∀ j, j < k → (ms.getD j noS).u ≠ z) := hal
    clear hal
    by_cases hlt : k < n
    · have hka : k < ms.length := by rw [← HN.out]; exact hlt
      obtain ⟨b, off, ha, hat⟩ : ∃ b off, a = some ⟨b, off, none⟩ ∧ At3 wr b (off + k * 3) (ms.getD k noS) := by
        obtain ⟨a', cap', e, hh⟩ := HA.out.1
        cases e
        rcases hh with e | ⟨b, off, e, hb, hc⟩
        · rw [e] at hka; simp at hka
        · exact ⟨b, off, e, hc k hka⟩
      subst ha
      generalize hx : ms.getD k noS = x at hat
      have HX : Hid (ms.getD k noS = x) := hx
      clear hx
      obtain ⟨uu, f, t⟩ := x
      obtain ⟨d0, d1, d2⟩ := hat
      simp only at d0 d1 d2
      have HKA : Hid (k < ms.length) := hka
      clear hka
      by_cases hc : uu = z
      · have hc' : (uu == z) = true := by simp [hc]
        have HE : Hid ((ms.getD k noS).u = z) := by rw [HX.out]; exact hc
        clear hc
        go_wp2
        go_ret
        exact ⟨⟨k, rfl, .inl ⟨k, rfl, by have := HN.out; omega, HE.out⟩⟩, HB0.out⟩
      · have hc' : (uu == z) = false := by simp [hc]
        have HE : Hid (∀ j, j < k + 1 → (ms.getD j noS).u ≠ z) := fun j hj => by
          by_cases e : j = k
          · rw [e, HX.out]; exact hc
          · exact HAL.out j (by omega)
        clear hc
        go_wp2
        go_roundw
        case rel => exact ⟨k + 1, by omega, by go_num, HE.out, by trivial⟩
        case measure => simp [intOf]; omega
    · go_wp2
      go_ret
      exact ⟨⟨-1, rfl, .inr ⟨rfl, fun j hj => HAL.out j (by omega)⟩⟩, HB0.out⟩
end Go.Proofs.YtdnjiagnpaibjaaDoor.bx
