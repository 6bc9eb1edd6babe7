/-
  Contracts of both StampOf functions.
-/
import Derived.Test.YtadfdfmebdcfgaaGreatDoorDwd
namespace Go.Proofs.YtadfdfmebdcfgaaGreatDoor.dw
open Go.RowKit
open dt
set_option linter.unusedVariables false

/-- A calendar lies in a block. -/
def Lies (w : World) (b : Nat) (y m d h i s : Int) : Prop := w.heap[b]? = some (.cells #[.int .i64 y, .int .i64 m, .int .i64 d, .int .i64 h, .int .i64 i, .int .i64 s] 99)
section
variable {w w' : World} {b : Nat} {y m d h i s : Int}
theorem Lies.c0 (L : Lies w b y m d h i s) : w.cell? ⟨b, 0, none⟩ = some (.int .i64 y) := by rw [cell_of_row _ _ _ _ _ _ L]; rfl
theorem Lies.c1 (L : Lies w b y m d h i s) : w.cell? ⟨b, 0 + 1, none⟩ = some (.int .i64 m) := by rw [cell_of_row _ _ _ _ _ _ L]; rfl
theorem Lies.c2 (L : Lies w b y m d h i s) : w.cell? ⟨b, 0 + 2, none⟩ = some (.int .i64 d) := by rw [cell_of_row _ _ _ _ _ _ L]; rfl
theorem Lies.c3 (L : Lies w b y m d h i s) : w.cell? ⟨b, 0 + 3, none⟩ = some (.int .i64 h) := by rw [cell_of_row _ _ _ _ _ _ L]; rfl
theorem Lies.c4 (L : Lies w b y m d h i s) : w.cell? ⟨b, 0 + 4, none⟩ = some (.int .i64 i) := by rw [cell_of_row _ _ _ _ _ _ L]; rfl
theorem Lies.c5 (L : Lies w b y m d h i s) : w.cell? ⟨b, 0 + 5, none⟩ = some (.int .i64 s) := by rw [cell_of_row _ _ _ _ _ _ L]; rfl
theorem lies_new (w : World) (y m d h i s : Int) : Lies (w.alloc (.cells #[.int .i64 y, .int .i64 m, .int .i64 d, .int .i64 h, .int .i64 i, .int .i64 s] 99)) w.heap.size y m d h i s := by
  show (w.heap.push _)[w.heap.size]? = _
  simp
theorem Lies.below (L : Lies w b y m d h i s) (hb : Below w.heap.size w w') : Lies w' b y m d h i s := by
  have hlt : b < w.heap.size := (Array.getElem?_eq_some_iff.1 L).1
  exact (hb.block b hlt).trans L
end

set_option maxHeartbeats 400000 in
theorem until_any (y : Int) (h1 : 1970 ≤ y) (h2 : y ≤ 2100) (w : World) : Calls Tryz.prog 142 #[.int .i64 y] w fun e w' => e = .returned (.int .i64 (yd y)) ∧ w' = w := by
  go_enter Tryz.func142, Tryz.ntmps142
  go_wp2
  go_ret
  refine ⟨?_, rfl⟩
  unfold yd
  go_num

/-- A stamp and its code, in new memory alone. -/
def StOf (y m d h i s : Int) (w : World) (e : Ending) (w' : World) : Prop :=
  Below w.heap.size w w' ∧ ((Ok y m d h i s ∧ e = .returned (.tuple #[.int .i64 (st y m d h i s), .int .i64 0])) ∨ (¬ Ok y m d h i s ∧ e = .returned (.tuple #[.int .i64 0, .int .i64 1])))

set_option maxHeartbeats 2000000 in
set_option maxRecDepth 100000 in
theorem impl_st (y m d h i s : Int) (w : World) : Calls Tryz.prog 169 #[C6 y m d h i s] w fun e w' => StOf y m d h i s w e w' := by
  have hok := fun w => impl_ok y m d h i s w
  unfold C6 at hok ⊢
  go_enter Tryz.func169, Tryz.ntmps169
  go_wp2_with fail
  refine (hok _).mono ?_
  rintro e w1 ⟨a, rfl, ha, b1⟩
  have L := (lies_new w y m d h i s).below b1
  have b2 : Below w.heap.size w w1 := (bel_box w _).trans (b1.mono (by simp))
  clear b1 hok
  cases a
  · have HN : Hid (¬ Ok y m d h i s) := fun k => by have := ha.2 k; cases this
    clear ha
    go_wp2
    go_ret2
    exact ⟨b2, .inr ⟨HN.out, rfl⟩⟩
  have k := ha.1 rfl
  have HK : Hid (Ok y m d h i s) := k
  clear ha
  have sb := st_bounds k
  obtain ⟨n1, n2, n3, n4, n5, n6, n7, n8, n9, n10, n11, n12⟩ := k
  have c0 := L.c0
  have c1 := L.c1
  have c2 := L.c2
  have c3 := L.c3
  have c4 := L.c4
  have c5 := L.c5
  clear L
  go_wp2_with fail
  refine (until_any y n1 (by omega) _).mono ?_
  rintro e w' ⟨rfl, rfl⟩
  go_wp2_with fail
  go_loop [4, 5] (fun t k => ∃ j : Nat, (j : Int) + 1 ≤ m ∧ k = .int .i64 (j + 1) ∧ t = .int .i64 (yd y + ms y j)) (fun _ k => 12 - (intOf k).toNat)
  case atStart => exact ⟨0, by omega, rfl, by simp [ms]⟩
  case round =>
    obtain ⟨j, hj, rfl, rfl⟩ := hrel
    have u1 := yd_pos n1
    have u2 := yd_le (show y ≤ 2100 by omega)
    have u3 := ms_pos y j
    have u4 := ms_le (y := y) (show j ≤ 12 by omega)
    have u5 := dm_pos y ((j : Int) + 1)
    have u6 := dm_pos y m
    by_cases hlt : (j : Int) + 1 < m
    · go_wp2_with (go_at_call 143; refine (impl_dm y _ n1 n2 _).mono ?_; rintro e w' ⟨rfl, rfl⟩)
      go_round
      case rel => exact ⟨j + 1, by omega, by go_num, by rw [ms_succ]; go_num⟩
      case measure => simp [intOf]; omega
    · have e : (m - 1).toNat = j := by omega
      have es : st y m d h i s = (yd y + ms y j + (d - 1)) * 86400 + h * 3600 + i * 60 + s := by unfold st; rw [e]; omega
      rw [es] at sb
      have HE : Hid (st y m d h i s = (yd y + ms y j + (d - 1)) * 86400 + h * 3600 + i * 60 + s) := es
      clear es e
      go_wp2
      go_ret2
      refine ⟨b2, .inl ⟨HK.out, ?_⟩⟩
      rw [HE.out]
      rfl

set_option maxHeartbeats 2000000 in
set_option maxRecDepth 100000 in
theorem spec_stamp (y m d h i s : Int) (k : Ok y m d h i s) (w : World) : Calls Tryz.prog 85 #[C6 y m d h i s] w fun e w' => e = .returned (.int .i64 (st y m d h i s)) ∧ Below w.heap.size w w' := by
  have sb := st_bounds k
  unfold C6
  obtain ⟨n1, n2, n3, n4, n5, n6, n7, n8, n9, n10, n11, n12⟩ := k
  have u6 := dm_pos y m
  go_enter Tryz.func85, Tryz.ntmps85
  go_wp2_with fail
  go_loop [3, 4] (fun t k => ∃ z : Int, 1970 ≤ z ∧ z ≤ y ∧ k = .int .i64 z ∧ t = .int .i64 (d - 1 + yd z)) (fun _ k => (2099 - intOf k).toNat)
  case atStart => exact ⟨1970, by omega, n1, rfl, by rw [yd_first]; simp⟩
  case round =>
    obtain ⟨z, z1, z2, rfl, rfl⟩ := hrel
    have u1 := yd_pos z1
    have u2 := yd_le (show z ≤ 2100 by omega)
    by_cases hlt : z < y
    · have u3 := lp_01 z
      have hs := yd_step z
      go_wp2_with fail
      refine (leap_any z z1 (by omega) _).mono ?_
      rintro e w' ⟨rfl, rfl⟩
      go_wp2_with fail
      refine (bit_any _ _).mono ?_
      rintro e w' ⟨rfl, rfl⟩
      rw [← lp_bit]
      go_wp2
      go_round
      case rel => exact ⟨z + 1, by omega, by omega, by go_num, by rw [hs]; go_num⟩
      case measure => simp [intOf]; omega
    · obtain rfl : z = y := by omega
      clear hlt z2 z1
      go_wp2_with fail
      go_loop [3, 5] (fun t k => ∃ j : Nat, (j : Int) + 1 ≤ m ∧ k = .int .i64 (j + 1) ∧ t = .int .i64 (d - 1 + yd z + ms z j)) (fun _ k => 12 - (intOf k).toNat)
      case atStart => exact ⟨0, by omega, rfl, by simp [ms]⟩
      case round =>
        obtain ⟨j, hj, rfl, rfl⟩ := hrel
        have u3 := ms_pos z j
        have u4 := ms_le (y := z) (show j ≤ 12 by omega)
        have u5 := dm_pos z ((j : Int) + 1)
        by_cases hlt : (j : Int) + 1 < m
        · go_wp2_with (go_at_call 137; refine (spec_dm z _ n1 n2 _).mono ?_; rintro e w' ⟨rfl, rfl⟩)
          go_round
          case rel => exact ⟨j + 1, by omega, by go_num, by rw [ms_succ]; go_num⟩
          case measure => simp [intOf]; omega
        · have e : (m - 1).toNat = j := by omega
          have es : st z m d h i s = (((d - 1 + yd z + ms z j) * 24 + h) * 60 + i) * 60 + s := by unfold st; rw [e]; omega
          rw [es] at sb
          have HE : Hid (st z m d h i s = (((d - 1 + yd z + ms z j) * 24 + h) * 60 + i) * 60 + s) := es
          clear es e
          go_wp2
          go_ret
          refine ⟨?_, bel_box _ _⟩
          rw [HE.out]
          rfl

theorem st_ex {y m d h i s : Int} {w w' : World} {e : Ending} (k : StOf y m d h i s w e w') : ∃ a c : Int, e = .returned (.tuple #[.int .i64 a, .int .i64 c]) := by
  rcases k.2 with ⟨_, e⟩ | ⟨_, e⟩ <;> exact ⟨_, _, e⟩
theorem st_same {y m d h i s a c a' c' : Int} {w w' v v' : World} (k : StOf y m d h i s w (.returned (.tuple #[.int .i64 a, .int .i64 c])) w') (k' : StOf y m d h i s v (.returned (.tuple #[.int .i64 a', .int .i64 c'])) v') : a = a' ∧ c = c' := by
  rcases k.2 with ⟨o, e⟩ | ⟨o, e⟩ <;> rcases k'.2 with ⟨o', e'⟩ | ⟨o', e'⟩
  · cases e; cases e'; exact ⟨rfl, rfl⟩
  · exact absurd o o'
  · exact absurd o' o
  · cases e; cases e'; exact ⟨rfl, rfl⟩
end Go.Proofs.YtadfdfmebdcfgaaGreatDoor.dw
