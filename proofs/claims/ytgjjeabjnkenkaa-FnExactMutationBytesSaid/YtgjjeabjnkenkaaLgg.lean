/-
  A number in so many bytes, the higher ones first: the specification's.
-/
import Derived.Test.YtgjjeabjnkenkaaLgf
import Derived.Laws.AppendOwn
namespace Go.Proofs.Ytgjjeabjnkenkaa.lg
open Go.RowKit
set_option linter.unusedVariables false

set_option maxHeartbeats 2000000 in
set_option maxRecDepth 100000 in
theorem l08Bytes_any (N n : Nat) (w : World) (hn : n ≤ 4) (hN : N < 4294967296) :
    Calls Try.prog 83 #[.int .i64 N, .int .i64 n] w fun e w' => (∃ v, e = .returned v ∧ w'.ownsRow w.heap.size 5 1 v n ((bz n N).map (Value.int .u8))) ∧ Below w.heap.size w w' := by
  obtain ⟨i0, hi, hz0, hz1, hz2⟩ := info_parts infoB
  have hoe := ow.own_empty w 5
  have hbe := new_below w 5 #[]
  go_enter Try.func83, Try.ntmps83
  go_wp2
  go_loopw [5, 6] (fun v i wr => ∃ (k : Nat) (zs : List Int), k ≤ n ∧ i = .int .i64 ((k : Int) - 1) ∧ zs ++ bz k N = bz n N ∧ wr.ownsRow w.heap.size 5 1 v zs.length (zs.map (Value.int .u8)) ∧ Below w.heap.size w wr) (fun _ i _ => (intOf i + 1).toNat)
  case atStart => exact ⟨n, [], Nat.le_refl _, rfl, rfl, hoe, hbe⟩
  case round =>
    clear hoe hbe
    obtain ⟨k, zs, hk, rfl, hzs, hown, hbw⟩ := hrel
    have hBs := hbw.size
    have hzl : zs.length + k = n := by have := congrArg List.length hzs; simpa [bz_len] using this
    have HZ : Hid (zs ++ bz k N = bz n N) := hzs
    clear hzs
    by_cases hlt : k = 0
    · subst hlt
      have hzz : zs = bz n N := by have := HZ.out; simpa [bz, be] using this
      have hzn : zs.length = n := by omega
      rw [hzz, bz_len] at hown
      go_wp2
      go_ret
      exact ⟨⟨_, rfl, hown⟩, hbw⟩
    · have hcs : k = 1 ∨ k = 2 ∨ k = 3 ∨ k = 4 := by omega
      rcases hcs with rfl | rfl | rfl | rfl
      · have hx : Hid (bz 1 N = ((N : Int) % 256) :: bz 0 N) := by
          show bz 1 N = ((N : Int) % 256) :: bz 0 N
          rw [bz_succ]
          refine congrArg (· :: bz 0 N) ?_
          rw [show 256 ^ 0 = 1 from rfl]
          omega
        generalize hX : ((N : Int) % 256) = X at hx
        have HX : Hid (X = ((N : Int) % 256)) := hX.symm
        clear hX
        go_wp2_with (at_builtin; rw [← HX.out]; refine wpList_append_own _ rfl _ _ 43 rfl w.heap.size 5 i0 (.int .u8 0) 1 1 Try.underlying43 hi hz0 hz1 hz2 rfl (by decide) _ _ _ rfl (hown.alloc _) ⟨wr.heap.size, 0, none⟩ 1 1 [.int .u8 X] rfl rfl (ow.cells_new _ [.int .u8 X] _) (by intro u hu; simp at hu; subst hu; rfl) (by unfold maxLen; omega) (by omega) (by simp; omega) ?_; intro v' w3 hown3 hgrow3 hnil3)
        have hb3 := Below.grown (hbw.alloc hBs _) hgrow3 (by simp; omega) (ow.own_lt hown)
        have HA : Hid (Below w.heap.size w w3 ∧ w3.ownsRow w.heap.size 5 1 v' (zs.length + 1) (zs.map (Value.int .u8) ++ [.int .u8 X])) := ⟨hb3, hown3⟩
        clear hb3 hown3 hgrow3 hnil3 hown hbw
        go_wp2
        go_roundw
        case rel => exact ⟨0, zs ++ [X], by omega, by go_num, by rw [List.append_assoc, List.singleton_append, ← hx.out]; exact HZ.out, by rw [List.length_append, List.map_append]; exact HA.out.2, HA.out.1⟩
        case measure => simp [intOf]
      · have hx : Hid (bz 2 N = ((N : Int) / 256 % 256) :: bz 1 N) := by
          show bz 2 N = ((N : Int) / 256 % 256) :: bz 1 N
          rw [bz_succ]
          refine congrArg (· :: bz 1 N) ?_
          rw [show 256 ^ 1 = 256 from rfl]
          omega
        generalize hX : ((N : Int) / 256 % 256) = X at hx
        have HX : Hid (X = ((N : Int) / 256 % 256)) := hX.symm
        clear hX
        go_wp2_with (at_builtin; rw [← HX.out]; refine wpList_append_own _ rfl _ _ 43 rfl w.heap.size 5 i0 (.int .u8 0) 1 1 Try.underlying43 hi hz0 hz1 hz2 rfl (by decide) _ _ _ rfl (hown.alloc _) ⟨wr.heap.size, 0, none⟩ 1 1 [.int .u8 X] rfl rfl (ow.cells_new _ [.int .u8 X] _) (by intro u hu; simp at hu; subst hu; rfl) (by unfold maxLen; omega) (by omega) (by simp; omega) ?_; intro v' w3 hown3 hgrow3 hnil3)
        have hb3 := Below.grown (hbw.alloc hBs _) hgrow3 (by simp; omega) (ow.own_lt hown)
        have HA : Hid (Below w.heap.size w w3 ∧ w3.ownsRow w.heap.size 5 1 v' (zs.length + 1) (zs.map (Value.int .u8) ++ [.int .u8 X])) := ⟨hb3, hown3⟩
        clear hb3 hown3 hgrow3 hnil3 hown hbw
        go_wp2
        go_roundw
        case rel => exact ⟨1, zs ++ [X], by omega, by go_num, by rw [List.append_assoc, List.singleton_append, ← hx.out]; exact HZ.out, by rw [List.length_append, List.map_append]; exact HA.out.2, HA.out.1⟩
        case measure => simp [intOf]
      · have hx : Hid (bz 3 N = ((N : Int) / 65536 % 256) :: bz 2 N) := by
          show bz 3 N = ((N : Int) / 65536 % 256) :: bz 2 N
          rw [bz_succ]
          refine congrArg (· :: bz 2 N) ?_
          rw [show 256 ^ 2 = 65536 from rfl]
          omega
        generalize hX : ((N : Int) / 65536 % 256) = X at hx
        have HX : Hid (X = ((N : Int) / 65536 % 256)) := hX.symm
        clear hX
        go_wp2_with (at_builtin; rw [← HX.out]; refine wpList_append_own _ rfl _ _ 43 rfl w.heap.size 5 i0 (.int .u8 0) 1 1 Try.underlying43 hi hz0 hz1 hz2 rfl (by decide) _ _ _ rfl (hown.alloc _) ⟨wr.heap.size, 0, none⟩ 1 1 [.int .u8 X] rfl rfl (ow.cells_new _ [.int .u8 X] _) (by intro u hu; simp at hu; subst hu; rfl) (by unfold maxLen; omega) (by omega) (by simp; omega) ?_; intro v' w3 hown3 hgrow3 hnil3)
        have hb3 := Below.grown (hbw.alloc hBs _) hgrow3 (by simp; omega) (ow.own_lt hown)
        have HA : Hid (Below w.heap.size w w3 ∧ w3.ownsRow w.heap.size 5 1 v' (zs.length + 1) (zs.map (Value.int .u8) ++ [.int .u8 X])) := ⟨hb3, hown3⟩
        clear hb3 hown3 hgrow3 hnil3 hown hbw
        go_wp2
        go_roundw
        case rel => exact ⟨2, zs ++ [X], by omega, by go_num, by rw [List.append_assoc, List.singleton_append, ← hx.out]; exact HZ.out, by rw [List.length_append, List.map_append]; exact HA.out.2, HA.out.1⟩
        case measure => simp [intOf]
      · have hx : Hid (bz 4 N = ((N : Int) / 16777216) :: bz 3 N) := by
          show bz 4 N = ((N : Int) / 16777216) :: bz 3 N
          rw [bz_succ]
          refine congrArg (· :: bz 3 N) ?_
          rw [show 256 ^ 3 = 16777216 from rfl]
          omega
        generalize hX : ((N : Int) / 16777216) = X at hx
        have HX : Hid (X = ((N : Int) / 16777216)) := hX.symm
        clear hX
        go_wp2_with (at_builtin; rw [← HX.out]; refine wpList_append_own _ rfl _ _ 43 rfl w.heap.size 5 i0 (.int .u8 0) 1 1 Try.underlying43 hi hz0 hz1 hz2 rfl (by decide) _ _ _ rfl (hown.alloc _) ⟨wr.heap.size, 0, none⟩ 1 1 [.int .u8 X] rfl rfl (ow.cells_new _ [.int .u8 X] _) (by intro u hu; simp at hu; subst hu; rfl) (by unfold maxLen; omega) (by omega) (by simp; omega) ?_; intro v' w3 hown3 hgrow3 hnil3)
        have hb3 := Below.grown (hbw.alloc hBs _) hgrow3 (by simp; omega) (ow.own_lt hown)
        have HA : Hid (Below w.heap.size w w3 ∧ w3.ownsRow w.heap.size 5 1 v' (zs.length + 1) (zs.map (Value.int .u8) ++ [.int .u8 X])) := ⟨hb3, hown3⟩
        clear hb3 hown3 hgrow3 hnil3 hown hbw
        go_wp2
        go_roundw
        case rel => exact ⟨3, zs ++ [X], by omega, by go_num, by rw [List.append_assoc, List.singleton_append, ← hx.out]; exact HZ.out, by rw [List.length_append, List.map_append]; exact HA.out.2, HA.out.1⟩
        case measure => simp [intOf]
end Go.Proofs.Ytgjjeabjnkenkaa.lg
