/-
  The specification's l09Apply where the list stays as it was: no such box, or one too much.
  The specification's l09Apply where the list is full.
  The specification's search for a mail.
-/
import Derived.Test.YtncnbhekgkemfaaGreatDoorPkbb
import Derived.Test.YtncnbhekgkemfaaGreatDoorPkat

namespace Go.Proofs.YtncnbhekgkemfaaGreatDoor.sa
open Go.ChangeShapes Go.WideShapes Go.ChangeAt Go.RowKit Go.Deep Go.Joins
open st gr bx mx bl wi
set_option linter.unusedVariables false

/-- What l09Apply answers. -/
def Ls (R : List Bx → Int → Prop) (e : Ending) (w' : World) : Prop :=
  ∃ (L' : Value) (ys : List Bx) (us : Nat → Value × Value) (c : Int), e = .returned (.tuple #[L', .int .i64 c]) ∧ R ys c ∧ BoxesAt w' L' ys us ∧ Fines ys us
set_option maxHeartbeats 4000000 in
set_option maxRecDepth 100000 in
theorem apply_none (v : Value) (xs : List Bx) (vs : Nat → Value × Value) (m : mu.Mu) (iv : Value) (w : World) (h : BoxesAt w v xs vs) (hf : Fines xs vs) (hs : bx.Smalls xs) (hiv : ∃ a n c, iv = .slice a n c) (hp : Plc xs m.b (-1)) (hmk : m.k ≠ 1) :
    Calls Tryz.prog 53 #[v, mu.MV m iv] w fun e w' => Ls (fun ys c => ys = xs ∧ c = 5) e w' ∧ Below w.heap.size w w' := by
  have HA : Hid (BoxesAt w v xs vs) := h
  have HF : Hid (Fines xs vs) := hf
  obtain ⟨ia, inn, ic, rfl⟩ := hiv
  obtain ⟨⟨a, cap, rfl, hd2⟩, hd3⟩ := h
  clear hd2 hd3
  obtain ⟨W, hW⟩ : ∃ W, W = w.alloc (.cells #[.int .i64 m.k, .int .i64 m.u, .int .i64 m.m, .int .i64 m.f, .string m.b, .slice ia inn ic] 104) := ⟨_, rfl⟩
  have b1 : Below w.heap.size w W := by rw [hW]; exact bx.new_below w _ _
  have k1 : mu.Lies W w.heap.size 104 m (.slice ia inn ic) := by rw [hW]; exact mu.lies_new _ _ _ _
  have HAW : Hid (BoxesAt W (.slice a xs.length cap) xs vs) := boxes_below HA.out b1
  have HFI : Hid (Calls Tryz.prog 30 #[.slice a xs.length cap, .string m.b] W fun e w' => e = .returned (.int .i64 (-1)) ∧ w' = W) := find_any W.heap.size _ xs vs m.b W HAW.out.1 hs.1 hp
  have HZ : Hid (BoxesAt W (.slice a xs.length cap) xs vs ∧ Below w.heap.size w W) := ⟨HAW.out, b1⟩
  have d0 := k1.c0
  have d4 := k1.c4
  have hk : (m.k == 1) = false := by simpa using hmk
  unfold mu.MV
  clear b1 k1 hs HA HAW hp hmk
  go_enter Tryz.func53, Tryz.ntmps53
  go_wp2_with (rw [← hW])
  clear hW
  refine HFI.out.mono ?_
  rintro e w' ⟨rfl, hw'⟩
  have hw' := hw'.symm
  subst hw'
  clear HFI
  go_wp2
  go_ret2
  exact ⟨⟨_, xs, vs, 5, rfl, ⟨rfl, rfl⟩, HZ.out.1, HF.out⟩, HZ.out.2⟩
set_option maxHeartbeats 4000000 in
set_option maxRecDepth 100000 in
theorem apply_twice (v : Value) (xs : List Bx) (vs : Nat → Value × Value) (m : mu.Mu) (iv : Value) (w : World) (h : BoxesAt w v xs vs) (hf : Fines xs vs) (hs : bx.Smalls xs) (hiv : ∃ a n c, iv = .slice a n c) (r : Int) (hr : 0 ≤ r) (hp : Plc xs m.b r) (hmk : m.k = 1) :
    Calls Tryz.prog 53 #[v, mu.MV m iv] w fun e w' => Ls (fun ys c => ys = xs ∧ c = 9) e w' ∧ Below w.heap.size w w' := by
  have HA : Hid (BoxesAt w v xs vs) := h
  have HF : Hid (Fines xs vs) := hf
  obtain ⟨ia, inn, ic, rfl⟩ := hiv
  obtain ⟨⟨a, cap, rfl, hd2⟩, hd3⟩ := h
  clear hd2 hd3
  obtain ⟨W, hW⟩ : ∃ W, W = w.alloc (.cells #[.int .i64 1, .int .i64 m.u, .int .i64 m.m, .int .i64 m.f, .string m.b, .slice ia inn ic] 104) := ⟨_, rfl⟩
  have b1 : Below w.heap.size w W := by rw [hW]; exact bx.new_below w _ _
  have k1 : mu.Lies W w.heap.size 104 m (.slice ia inn ic) := by rw [hW, ← hmk]; exact mu.lies_new _ _ _ _
  have HAW : Hid (BoxesAt W (.slice a xs.length cap) xs vs) := boxes_below HA.out b1
  have HFI : Hid (Calls Tryz.prog 30 #[.slice a xs.length cap, .string m.b] W fun e w' => e = .returned (.int .i64 r) ∧ w' = W) := find_any W.heap.size _ xs vs m.b W HAW.out.1 hs.1 hp
  have HZ : Hid (BoxesAt W (.slice a xs.length cap) xs vs ∧ Below w.heap.size w W) := ⟨HAW.out, b1⟩
  have d0 : W.cell? ⟨w.heap.size, 0, none⟩ = some (.int .i64 1) := by rw [← hmk]; exact k1.c0
  have d4 := k1.c4
  have hk : ¬ r < 0 := by omega
  unfold mu.MV
  rw [hmk]
  clear b1 k1 hs HA HAW hp hmk
  go_enter Tryz.func53, Tryz.ntmps53
  go_wp2_with (rw [← hW])
  clear hW
  refine HFI.out.mono ?_
  rintro e w' ⟨rfl, hw'⟩
  have hw' := hw'.symm
  subst hw'
  clear HFI
  go_wp2
  go_ret2
  exact ⟨⟨_, xs, vs, 9, rfl, ⟨rfl, rfl⟩, HZ.out.1, HF.out⟩, HZ.out.2⟩
end Go.Proofs.YtncnbhekgkemfaaGreatDoor.sa

namespace Go.Proofs.YtncnbhekgkemfaaGreatDoor.sa
open Go.ChangeShapes Go.WideShapes Go.ChangeAt Go.RowKit Go.Deep Go.Joins
open st gr bx mx bl wi
set_option linter.unusedVariables false

set_option maxHeartbeats 4000000 in
set_option maxRecDepth 100000 in
theorem apply_full (v : Value) (xs : List Bx) (vs : Nat → Value × Value) (m : mu.Mu) (iv : Value) (w : World) (h : BoxesAt w v xs vs) (hf : Fines xs vs) (hs : bx.Smalls xs) (hiv : ∃ a n c, iv = .slice a n c) (hp : Plc xs m.b (-1)) (hx : xs.length = 4) (hmk : m.k = 1) :
    Calls Tryz.prog 53 #[v, mu.MV m iv] w fun e w' => Ls (fun ys c => ys = xs ∧ c = 7) e w' ∧ Below w.heap.size w w' := by
  have HA : Hid (BoxesAt w v xs vs) := h
  have HF : Hid (Fines xs vs) := hf
  obtain ⟨ia, inn, ic, rfl⟩ := hiv
  obtain ⟨⟨a, cap, rfl, hd2⟩, hd3⟩ := h
  clear hd2 hd3
  obtain ⟨W, hW⟩ : ∃ W, W = w.alloc (.cells #[.int .i64 1, .int .i64 m.u, .int .i64 m.m, .int .i64 m.f, .string m.b, .slice ia inn ic] 104) := ⟨_, rfl⟩
  have b1 : Below w.heap.size w W := by rw [hW]; exact bx.new_below w _ _
  have k1 : mu.Lies W w.heap.size 104 m (.slice ia inn ic) := by rw [hW, ← hmk]; exact mu.lies_new _ _ _ _
  have HAW : Hid (BoxesAt W (.slice a xs.length cap) xs vs) := boxes_below HA.out b1
  have HFI : Hid (Calls Tryz.prog 30 #[.slice a xs.length cap, .string m.b] W fun e w' => e = .returned (.int .i64 (-1)) ∧ w' = W) := find_any W.heap.size _ xs vs m.b W HAW.out.1 hs.1 hp
  have HZ : Hid (BoxesAt W (.slice a xs.length cap) xs vs ∧ Below w.heap.size w W) := ⟨HAW.out, b1⟩
  have d0 : W.cell? ⟨w.heap.size, 0, none⟩ = some (.int .i64 1) := by rw [← hmk]; exact k1.c0
  have d4 := k1.c4
  have hx4 : ((xs.length : Int) == 4) = true := beq_iff_eq.2 (by omega)
  unfold mu.MV
  rw [hmk]
  clear b1 k1 hs HA HAW hp hmk hx
  go_enter Tryz.func53, Tryz.ntmps53
  go_wp2_with (rw [← hW])
  clear hW
  refine HFI.out.mono ?_
  rintro e w' ⟨rfl, hw'⟩
  have hw' := hw'.symm
  subst hw'
  clear HFI
  go_wp2_with fail
  go_ret2
  exact ⟨⟨_, xs, vs, 7, rfl, ⟨rfl, rfl⟩, HZ.out.1, HF.out⟩, HZ.out.2⟩
end Go.Proofs.YtncnbhekgkemfaaGreatDoor.sa

namespace Go.Proofs.YtncnbhekgkemfaaGreatDoor.bx
open Go.RowKit
open st
set_option linter.unusedVariables false

set_option maxHeartbeats 2000000 in
set_option maxRecDepth 100000 in
theorem spec_mail (x : Bx) (v u : Value) (z : Int) (w : World) (h : RowsAt w v u x.ms x.ks) (hl : x.ms.length ≤ 30) :
    Calls Tryz.prog 82 #[BV x v u, .int .i64 z] w fun e w' => (∃ i : Int, e = .returned (.int .i64 i) ∧ ((∃ k : Nat, i = k ∧ k < x.ms.length ∧ (x.ms.getD k noS).u = z) ∨ (i = -1 ∧ ∀ k, k < x.ms.length → (x.ms.getD k noS).u ≠ z))) ∧ Below w.heap.size w w' := by
  have L0 := lies_new w 99 x v u
  have b0 := new_below w 99 #[.string x.nm, .int .i64 x.vd, .int .i64 x.nx, v, u]
  have HA := rows_below h b0
  obtain ⟨⟨a, cap, rfl, _⟩, ⟨a1, cap1, rfl, _⟩⟩ := h
  obtain ⟨nm, vd, nx, ms, ks⟩ := x
  unfold BV
  simp only at L0 b0 HA hl ⊢
  obtain ⟨n, hn⟩ : ∃ n, n = ms.length := ⟨_, rfl⟩
  have HN : Hid (n = ms.length) := hn
  rw [← hn] at L0 b0 HA hl ⊢
  clear hn
  go_enter Tryz.func82, Tryz.ntmps82
  go_wp2
  have HB0 : Hid (Below w.heap.size w (w.alloc (.cells #[.string nm, .int .i64 vd, .int .i64 nx, .slice a n cap, .slice a1 ks.length cap1] 99))) := b0
  clear b0
  generalize w.alloc _ = w0 at L0 HB0 HA ⊢
  have HA : Hid (RowsAt w0 (.slice a n cap) (.slice a1 ks.length cap1) ms ks) := HA
  have c3 := L0.c3
  clear L0
  go_loopw [5] (fun i wr => ∃ (k : Nat), k ≤ n ∧ i = .int .i64 k ∧ (∀ j, j < k → (ms.getD j noS).u ≠ z) ∧ wr = w0) (fun i _ => n - (intOf i).toNat)
  case atStart => exact ⟨0, Nat.zero_le _, rfl, fun j hj => absurd hj (Nat.not_lt_zero _), rfl⟩
  case round =>
    obtain ⟨k, hk, rfl, hal, rfl⟩ := hrel
    have HAL : Hid (∀ j, j < k → (ms.getD j noS).u ≠ z) := hal
    clear hal
    by_cases hlt : k < n
    · have hka : k < ms.length := by rw [← HN.out]; exact hlt
      obtain ⟨b, off, ha, hat⟩ : ∃ b off, a = some ⟨b, off, none⟩ ∧ At3 wr b (off + k * 3) (ms.getD k noS) := by
        obtain ⟨a', cap', e, hh⟩ := HA.out.1
        cases e
        rcases hh with e | ⟨b, off, e, hb, hc⟩
        · rw [e] at hka; simp at hka
        · exact ⟨b, off, e, hc k hka⟩
      subst ha
      generalize hx : ms.getD k noS = x at hat
      have HX : Hid (ms.getD k noS = x) := hx
      clear hx
      obtain ⟨uu, f, t⟩ := x
      obtain ⟨d0, d1, d2⟩ := hat
      simp only at d0 d1 d2
      have HKA : Hid (k < ms.length) := hka
      clear hka
      by_cases hc : uu = z
      · have hc' : (uu == z) = true := by simp [hc]
        have HE : Hid ((ms.getD k noS).u = z) := by rw [HX.out]; exact hc
        clear hc
        go_wp2
        go_ret
        exact ⟨⟨k, rfl, .inl ⟨k, rfl, by have := HN.out; omega, HE.out⟩⟩, HB0.out⟩
      · have hc' : (uu == z) = false := by simp [hc]
        have HE : Hid (∀ j, j < k + 1 → (ms.getD j noS).u ≠ z) := fun j hj => by
          by_cases e : j = k
          · rw [e, HX.out]; exact hc
          · exact HAL.out j (by omega)
        clear hc
        go_wp2
        go_roundw
        case rel => exact ⟨k + 1, by omega, by go_num, HE.out, by trivial⟩
        case measure => simp [intOf]; omega
    · go_wp2
      go_ret
      exact ⟨⟨-1, rfl, .inr ⟨rfl, fun j hj => HAL.out j (by omega)⟩⟩, HB0.out⟩
end Go.Proofs.YtncnbhekgkemfaaGreatDoor.bx
