/-
  Contracts of impl.inOneLine and of the specification's l06Line, and of both OneLine functions: a text in one line.
-/
import Derived.Test.YtbgoejalbhkmeaaDoorLif
import Derived.Test.YtbgoejalbhkmeaaDoorXmc
import Derived.Test.YtbgoejalbhkmeaaDoorBld
import Derived.BigRegion
import Derived.Deep.DeepCutAuto
namespace Go.Proofs.YtbgoejalbhkmeaaDoor.li
open Go.RowKit
set_option linter.unusedVariables false

theorem is32 (c : UInt8) : ((c.toNat : Int) == 32) = (c == 32) := by
  rw [Bool.eq_iff_iff]; simp only [beq_iff_eq]
  constructor
  · intro h; exact UInt8.toNat_inj.1 (by have : ((32 : UInt8).toNat : Int) = 32 := rfl; omega)
  · rintro rfl; rfl
def blankB (c : Int) : Bool := decide (c = 9 ∨ c = 10 ∨ c = 13 ∨ c = 32)
theorem blk_int (c : UInt8) : blankB (c.toNat : Int) = blk c := by
  rw [Bool.eq_iff_iff]
  simp [blk, blankB, ← UInt8.toNat_inj]
  omega
set_option maxHeartbeats 400000 in
theorem impl_blank (c : Int) (w : World) : Calls Tryd.prog 59 #[.int .u8 c] w fun e w' => e = .returned (.bool (blankB c)) ∧ w' = w := by
  go_enter Tryd.func59, Tryd.ntmps59
  go_wp2
  all_goals (go_ret; exact ⟨xm.ret_bool (by rw [Bool.eq_iff_iff]; simp [blankB] <;> omega), rfl⟩)
set_option maxHeartbeats 400000 in
theorem spec_blank (c : Int) (w : World) : Calls Tryd.prog 51 #[.int .u8 c] w fun e w' => e = .returned (.bool (blankB c)) ∧ w' = w := by
  go_enter Tryd.func51, Tryd.ntmps51
  go_wp2
  all_goals (go_ret; exact ⟨xm.ret_bool (by rw [Bool.eq_iff_iff]; simp [blankB] <;> omega), rfl⟩)
theorem impl_blk (c : UInt8) (w : World) : Calls Tryd.prog 59 #[.int .u8 (c.toNat : Int)] w fun e w' => e = .returned (.bool (blk c)) ∧ w' = w := by
  rw [← blk_int]; exact impl_blank _ w
theorem spec_blk (c : UInt8) (w : World) : Calls Tryd.prog 51 #[.int .u8 (c.toNat : Int)] w fun e w' => e = .returned (.bool (blk c)) ∧ w' = w := by
  rw [← blk_int]; exact spec_blank _ w

/-- The state behind so many bytes. -/
def sk (s : ByteArray) (k : Nat) : List UInt8 × Bool := st (s.data.toList.take k)
theorem sk_step (s : ByteArray) (k : Nat) (h : k < s.size) : sk s (k + 1) = step (sk s k) s[k] := by unfold sk; rw [xm.take_snoc s k h, st_snoc]
theorem sk_all (s : ByteArray) (k : Nat) (h : s.size ≤ k) : (sk s k).1 = line s.data.toList := by unfold sk line; rw [xm.take_all s k h]
theorem sk_len (s : ByteArray) (k : Nat) : (sk s k).1.length ≤ s.size := by
  have h1 := line_len (s.data.toList.take k)
  have h2 : (s.data.toList.take k).length ≤ s.data.toList.length := by rw [List.length_take]; omega
  rw [← Lib.size_eq] at h2
  unfold sk
  unfold line at h1
  omega
theorem sk_spo (s : ByteArray) (k : Nat) : (spo (sk s k)).length ≤ s.size := by
  have h1 := spo_le (s.data.toList.take k)
  have h2 : (s.data.toList.take k).length ≤ s.data.toList.length := by rw [List.length_take]; omega
  rw [← Lib.size_eq] at h2
  unfold sk
  omega
theorem sk_zero (s : ByteArray) : sk s 0 = ([], false) := rfl
theorem sk_prev (s : ByteArray) (k : Nat) (h : k < s.size) : (sk s (k + 1)).2 = blk s[k] := by rw [sk_step s k h, step_prev]

theorem put32 (B b : Nat) (l : List UInt8) (w : World) (h : bl.Bd B b l w) (hlen : l.length + 1 ≤ 140737488355328) (hBw : B ≤ w.heap.size) :
    Calls Tryd.prog 42 #[.pointer (some ⟨b, 0, none⟩), .int .u8 32] w fun e w' => (∃ v, e = .returned v) ∧ bl.Bd B b (l ++ [32]) w' ∧ Below B w w' := by
  have := bl.byte B b l 32 w h hlen hBw
  rwa [show (((32 : UInt8).toNat : Nat) : Int) = 32 from rfl] at this
set_option maxHeartbeats 2000000 in
set_option maxRecDepth 100000 in
theorem impl_line (s : ByteArray) (w : World) (hs : s.size ≤ 1048576) :
    Calls Tryd.prog 39 #[.string s] w fun e w' => e = .returned (.string ⟨(line s.data.toList).toArray⟩) ∧ Below w.heap.size w w' := by
  go_enter Tryd.func39, Tryd.ntmps39
  go_wp2
  go_loopw [7] (fun i wr => ∃ k : Nat, k ≤ s.size ∧ i = .int .i64 k ∧ bl.Bd w.heap.size w.heap.size (sk s k).1 wr ∧ Below w.heap.size w wr) (fun i _ => s.size - (intOf i).toNat)
  case atStart => exact ⟨0, Nat.zero_le _, rfl, bl.fresh w, (Below.refl _ _).alloc (Nat.le_refl _) _⟩
  case round =>
    obtain ⟨k, hk, rfl, hbd, hbw⟩ := hrel
    have HL := sk_len s k
    by_cases hlt : k < s.size
    · have HS : Hid (sk s (k + 1) = step (sk s k) s[k]) := sk_step s k hlt
      have HBc := impl_blk (s[k]'hlt)
      cases hb : blk (s[k]'hlt)
      · rw [hb] at HBc
        have HB : Hid (∀ w, Calls Tryd.prog 59 #[.int .u8 ((s[k]'hlt).toNat : Int)] w fun e w' => e = .returned (.bool false) ∧ w' = w) := HBc
        have Hb : Hid (blk (s[k]'hlt) = false) := hb
        clear HBc hb
        by_cases h0 : (sk s k).1 = []
        · have HE : Hid (sk s (k + 1) = ((sk s k).1 ++ [s[k]'hlt], false)) := HS.out.trans (step_one Hb.out (.inl h0))
          have HN : Hid (((sk s k).1.length : Int) = 0) := by rw [h0]; rfl
          clear h0 HS
          generalize hx : (sk s k).1 = x at hbd HE HN HL
          have HX : Hid ((sk s k).1 = x) := hx
          clear hx
          go_wp2_with (first | (go_at_call 59; refine (HB.out _).mono ?_; rintro e w' ⟨rfl, rfl⟩) | (go_at_call 60; refine (bl.len w.heap.size w.heap.size _ _ hbd).mono ?_; rintro e w' ⟨rfl, rfl⟩; rw [HN.out]) | (go_at_call 42; refine (bl.byte w.heap.size w.heap.size _ (s[k]'hlt) _ hbd (by omega) hbw.size).mono ?_; rintro e w2 ⟨⟨v, rfl⟩, hb2, hbw2⟩; have hbw3 := hbw.trans hbw2; clear hbd hbw hbw2))
          go_roundw
          case rel => exact ⟨k + 1, by omega, by go_num, by rw [HE.out]; exact hb2, hbw3⟩
          case measure => simp [intOf]; omega
        · obtain ⟨j, rfl⟩ : ∃ j, k = j + 1 := by
            cases k with
            | zero => exact absurd rfl h0
            | succ j => exact ⟨j, rfl⟩
          have hj : j < s.size := by omega
          have HP : Hid ((sk s (j + 1)).2 = blk (s[j]'hj)) := sk_prev s j hj
          have HN : Hid (0 < (sk s (j + 1)).1.length) := List.length_pos_iff.2 h0
          have hj1 : ((j + 1 : Nat) : Int) - 1 = (j : Int) := by omega
          cases hp : blk (s[j]'hj)
          · rw [hp] at HP
            have Hq : Hid (blk (s[j]'hj) = false) := hp
            have HE : Hid (sk s (j + 1 + 1) = ((sk s (j + 1)).1 ++ [s[j + 1]'hlt], false)) := HS.out.trans (step_one Hb.out (.inr HP.out))
            clear h0 HS hp
            generalize hx : (sk s (j + 1)).1 = x at hbd HE HN HL
            have HX : Hid ((sk s (j + 1)).1 = x) := hx
            have hn := HN.out
            clear hx
            go_wp2_with (first | (go_at_call 59; refine (impl_blk _ _).mono ?_; rintro e w' ⟨rfl, rfl⟩; first | rw [Hb.out] | rw [Hq.out]) | (go_at_call 60; refine (bl.len w.heap.size w.heap.size _ _ hbd).mono ?_; rintro e w' ⟨rfl, rfl⟩) | (go_at_call 42; refine (bl.byte w.heap.size w.heap.size _ (s[j + 1]'hlt) _ hbd (by omega) hbw.size).mono ?_; rintro e w2 ⟨⟨v, rfl⟩, hb2, hbw2⟩; have hbw3 := hbw.trans hbw2; clear hbd hbw hbw2))
            go_roundw
            case rel => exact ⟨j + 1 + 1, by omega, by go_num, by rw [HE.out]; exact hb2, hbw3⟩
            case measure => simp [intOf]; omega
          · rw [hp] at HP
            have Hq : Hid (blk (s[j]'hj) = true) := hp
            have HE : Hid (sk s (j + 1 + 1) = ((sk s (j + 1)).1 ++ [32, s[j + 1]'hlt], false)) := HS.out.trans (step_two Hb.out h0 HP.out)
            clear h0 HS hp
            generalize hx : (sk s (j + 1)).1 = x at hbd HE HN HL
            have HX : Hid ((sk s (j + 1)).1 = x) := hx
            have hn := HN.out
            clear hx
            go_wp2_with (first | (go_at_call 59; refine (impl_blk _ _).mono ?_; rintro e w' ⟨rfl, rfl⟩; first | rw [Hb.out] | rw [Hq.out]) | (go_at_call 60; refine (bl.len w.heap.size w.heap.size _ _ hbd).mono ?_; rintro e w' ⟨rfl, rfl⟩) | (go_at_call 42; refine (put32 w.heap.size w.heap.size _ _ hbd (by omega) hbw.size).mono ?_; rintro e w2 ⟨⟨v, rfl⟩, hb2, hbw2⟩; have hbw3 := hbw.trans hbw2; clear hbd hbw hbw2) | (go_at_call 42; refine (bl.byte w.heap.size w.heap.size _ (s[j + 1]'hlt) _ hb2 (by simp; omega) hbw3.size).mono ?_; rintro e w4 ⟨⟨v, rfl⟩, hb4, hbw4⟩; have hbw5 := hbw3.trans hbw4; clear hb2 hbw3 hbw4))
            go_roundw
            case rel => exact ⟨j + 1 + 1, by omega, by go_num, by rw [HE.out]; simpa using hb4, hbw5⟩
            case measure => simp [intOf]; omega
      · rw [hb] at HBc
        have HB : Hid (∀ w, Calls Tryd.prog 59 #[.int .u8 ((s[k]'hlt).toNat : Int)] w fun e w' => e = .returned (.bool true) ∧ w' = w) := HBc
        have HE : Hid (sk s (k + 1) = ((sk s k).1, true)) := HS.out.trans (step_blank _ hb)
        clear HBc hb HS
        go_wp2_with (go_at_call 59; refine (HB.out _).mono ?_; rintro e w' ⟨rfl, rfl⟩)
        go_roundw
        case rel => exact ⟨k + 1, by omega, by go_num, by rw [HE.out]; exact hbd, hbw⟩
        case measure => simp [intOf]; omega
    · have HT : Hid ((sk s k).1 = line s.data.toList) := sk_all s k (by omega)
      go_wp2_with fail
      refine (bl.said w.heap.size w.heap.size _ _ hbd hbw.size).mono ?_
      rintro e w2 ⟨rfl, hb2⟩
      go_wp2
      go_ret
      exact ⟨by rw [HT.out]; rfl, hbw.trans hb2⟩
end Go.Proofs.YtbgoejalbhkmeaaDoor.li
