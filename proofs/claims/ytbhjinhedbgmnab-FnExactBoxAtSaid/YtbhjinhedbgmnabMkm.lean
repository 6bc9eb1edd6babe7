/-
  Rows of stored mails, marked by the law's own functions, and held against the marks.
-/
import Derived.Test.YtbhjinhedbgmnabMrl
import Derived.Test.YtbhjinhedbgmnabBca
namespace Go.Proofs.Ytbhjinhedbgmnab.mm
open Go.RowKit
open gr mk st bx
set_option linter.unusedVariables false

/-- The marks of so many mails, from a number on. -/
def marksM (k : Int) : Nat → List Value
  | 0 => []
  | n + 1 => marksM k n ++ [.int .i64 (k + 3 * (n : Int)), .int .i64 (k + 3 * (n : Int) + 1), .string (mt (k + 3 * (n : Int) + 2))]
theorem marksM_len (k : Int) : ∀ n, (marksM k n).length = n * 3
  | 0 => rfl
  | n + 1 => by simp [marksM, marksM_len k n]; omega
def At3m (k : Int) (xs : List Value) (j : Nat) : Prop := xs[j * 3]? = some (.int .i64 (k + 3 * (j : Int))) ∧ xs[j * 3 + 1]? = some (.int .i64 (k + 3 * (j : Int) + 1)) ∧ xs[j * 3 + 2]? = some (.string (mt (k + 3 * (j : Int) + 2)))
theorem marksM_at (k : Int) : ∀ n j, j < n → At3m k (marksM k n) j
  | 0, j, hj => absurd hj (Nat.not_lt_zero _)
  | n + 1, j, hj => by
    unfold At3m
    by_cases e : j < n
    · have h := marksM_at k n j e
      have hl := marksM_len k n
      rw [marksM, List.getElem?_append_left (by omega), List.getElem?_append_left (by omega), List.getElem?_append_left (by omega)]
      exact h
    · have e : j = n := by omega
      subst e
      have hl := marksM_len k j
      rw [marksM, List.getElem?_append_right (by omega), List.getElem?_append_right (by omega), List.getElem?_append_right (by omega), hl]
      rw [show j * 3 - j * 3 = 0 by omega, show j * 3 + 1 - j * 3 = 1 by omega, show j * 3 + 2 - j * 3 = 2 by omega]
      exact ⟨rfl, rfl, rfl⟩
def UptoM (k : Int) (j : Nat) (xs : List Value) : Prop := ∀ i, i < j → At3m k xs i
theorem uptoM_all {k : Int} {n : Nat} {xs : List Value} (h : UptoM k n xs) (hl : xs.length = n * 3) : xs = marksM k n := by
  refine List.ext_getElem? fun i => ?_
  by_cases hi : i < n * 3
  · have hq : i / 3 < n := by omega
    obtain ⟨a0, a1, a2⟩ := h (i / 3) hq
    obtain ⟨b0, b1, b2⟩ := marksM_at k n (i / 3) hq
    have hr : i % 3 = 0 ∨ i % 3 = 1 ∨ i % 3 = 2 := by omega
    rcases hr with hr | hr | hr
    · rw [show i = i / 3 * 3 by omega, a0, b0]
    · rw [show i = i / 3 * 3 + 1 by omega, a1, b1]
    · rw [show i = i / 3 * 3 + 2 by omega, a2, b2]
  · rw [List.getElem?_eq_none (by omega), List.getElem?_eq_none (by rw [marksM_len]; omega)]
theorem uptoM_step {k : Int} {j : Nat} {xs : List Value} (h : UptoM k j xs) (hl : j * 3 + 2 < xs.length) : UptoM k (j + 1) (((xs.set (j * 3) (.int .i64 (k + 3 * (j : Int)))).set (j * 3 + 1) (.int .i64 (k + 3 * (j : Int) + 1))).set (j * 3 + 2) (.string (mt (k + 3 * (j : Int) + 2)))) := by
  intro i hi
  unfold At3m
  by_cases e : i = j
  · subst e
    refine ⟨?_, ?_, ?_⟩
    · rw [List.getElem?_set_ne (by omega), List.getElem?_set_ne (by omega), List.getElem?_set_self (by omega)]
    · rw [List.getElem?_set_ne (by omega), List.getElem?_set_self (by simp; omega)]
    · rw [List.getElem?_set_self (by simp; omega)]
  · obtain ⟨a0, a1, a2⟩ := h i (by omega)
    refine ⟨?_, ?_, ?_⟩
    · rw [List.getElem?_set_ne (by omega), List.getElem?_set_ne (by omega), List.getElem?_set_ne (by omega), a0]
    · rw [List.getElem?_set_ne (by omega), List.getElem?_set_ne (by omega), List.getElem?_set_ne (by omega), a1]
    · rw [List.getElem?_set_ne (by omega), List.getElem?_set_ne (by omega), List.getElem?_set_ne (by omega), a2]

set_option maxHeartbeats 2000000 in
set_option maxRecDepth 100000 in
theorem markM_any (v : Value) (base n : Nat) (xs0 : List Value) (k : Int) (w : World) (h : w.ownsRow base 97 3 v n xs0) (hn : n ≤ 1048576) (h0 : 0 < k) (h1 : k ≤ 50000000) :
    Calls Try.prog 39 #[v, .int .i64 k] w fun e w' => e = .returned (.int .i64 (k + 3 * (n : Int))) ∧ w'.ownsRow base 97 3 v n (marksM k n) ∧ w.grownBy w' v.ownBlock := by
  have hxl := h.1
  have HO : Hid (w.ownsRow base 97 3 v n xs0) := h
  rcases h.2 with ⟨rfl, hz⟩ | ⟨g, cap, cur, rfl, _⟩
  · subst hz
    clear h hn hxl HO
    go_enter Try.func39, Try.ntmps39
    go_wp2
    go_loop [1, 5] (fun z i => z = .int .i64 k ∧ i = .int .i64 0) (fun _ _ => 0)
    case atStart => exact ⟨rfl, rfl⟩
    case round =>
      obtain ⟨rfl, rfl⟩ := hrel
      go_wp2
      go_ret
      exact ⟨by simp, World.ownsRow_nil _ _ _ _, ow.grown_refl _ _⟩
  clear h
  go_enter Try.func39, Try.ntmps39
  go_wp2
  go_loopw [1, 5] (fun z i wr => ∃ (j : Nat) (xs : List Value), j ≤ n ∧ z = .int .i64 (k + 3 * (j : Int)) ∧ i = .int .i64 j ∧ xs.length = n * 3 ∧ UptoM k j xs ∧ wr.ownsRow base 97 3 (.slice (some ⟨g, 0, none⟩) n cap) n xs ∧ w.grownBy wr (some g)) (fun _ i _ => n - (intOf i).toNat)
  case atStart => exact ⟨0, xs0, Nat.zero_le _, by simp, rfl, hxl, fun i hi => absurd hi (by omega), HO.out, ow.grown_refl _ _⟩
  case round =>
    clear HO
    obtain ⟨j, xs, hj, rfl, rfl, hxl2, hu, hown, hgr⟩ := hrel
    have HU : Hid (UptoM k j xs) := hu
    have HL : Hid (xs.length = n * 3) := hxl2
    have HG : Hid (w.grownBy wr (some g)) := hgr
    clear hu hxl2 hgr
    by_cases hlt : j < n
    · have hlt' : (j : Int) < (n : Int) := by omega
      have hj0 : (0 : Int) ≤ (j : Int) := by omega
      generalize hK : k + 3 * (j : Int) = K
      have hK0 : 0 < K := by omega
      have hK1 : K ≤ 60000000 := by omega
      have HK : Hid (k + 3 * (j : Int) = K) := hK
      have HKN : Hid (k + 3 * ((j + 1 : Nat) : Int) = K + 1 + 1 + 1) := (show _ = _ by omega)
      clear hK
      have HO0 : Hid (wr.ownsRow base 97 3 (.slice (some ⟨g, 0, none⟩) n cap) n xs) := hown
      have q0 := hown.cellAt (j * 3) (by omega)
      have q1 := hown.cellAt (j * 3 + 1) (by omega)
      have q2 := hown.cellAt (j * 3 + 2) (by omega)
      rw [List.getElem?_eq_getElem (by rw [HL.out]; omega)] at q0 q1 q2
      have f0 := hown.frozenAt (j * 3)
      have f1 := hown.frozenAt (j * 3 + 1)
      have f2 := hown.frozenAt (j * 3 + 2)
      generalize xs[j * 3]'(by rw [HL.out]; omega) = u0 at q0
      generalize xs[j * 3 + 1]'(by rw [HL.out]; omega) = u1 at q1
      generalize xs[j * 3 + 2]'(by rw [HL.out]; omega) = u2 at q2
      clear hown
      go_wp2_with fail
      have HX : Hid (((wr.setCell ⟨g, j * 3, none⟩ (.int .i64 K)).setCell ⟨g, j * 3 + 1, none⟩ (.int .i64 (K + 1))).ownsRow base 97 3 (.slice (some ⟨g, 0, none⟩) n cap) n ((xs.set (j * 3) (.int .i64 K)).set (j * 3 + 1) (.int .i64 (K + 1))) ∧ w.grownBy ((wr.setCell ⟨g, j * 3, none⟩ (.int .i64 K)).setCell ⟨g, j * 3 + 1, none⟩ (.int .i64 (K + 1))) (some g)) := ⟨((HO0.out.stored _ _).1.stored _ _).1, ow.grown_trans (ow.grown_trans HG.out (grown_set _ _ _ _)) (grown_set _ _ _ _)⟩
      clear q0 q1 q2 f0 f1 f2 HO0
      generalize hX : World.setCell _ _ _ = X at HX ⊢
      clear hX
      refine (mark_any (K + 1 + 1) _ (by omega) (by omega)).mono ?_
      rintro e w1 ⟨rfl, hb⟩
      have o1 := ow.own_below HX.out.1 hb
      have HG1 : Hid (w.grownBy w1 (some g)) := ow.grown_trans HX.out.2 (ow.grown_below hb)
      have q2 := o1.cellAt (j * 3 + 2) (by omega)
      rw [List.getElem?_eq_getElem (by rw [List.length_set, List.length_set, HL.out]; omega)] at q2
      have f2 := o1.frozenAt (j * 3 + 2)
      have HY : Hid ((w1.setCell ⟨g, j * 3 + 2, none⟩ (.string (mt (K + 1 + 1)))).ownsRow base 97 3 (.slice (some ⟨g, 0, none⟩) n cap) n (((xs.set (j * 3) (.int .i64 K)).set (j * 3 + 1) (.int .i64 (K + 1))).set (j * 3 + 2) (.string (mt (K + 1 + 1)))) ∧ w.grownBy (w1.setCell ⟨g, j * 3 + 2, none⟩ (.string (mt (K + 1 + 1)))) (some g)) := ⟨(o1.stored _ _).1, ow.grown_trans HG1.out (grown_set _ _ _ _)⟩
      clear o1 HX hb HG1
      generalize ((xs.set (j * 3) (Value.int .i64 K)).set (j * 3 + 1) (Value.int .i64 (K + 1)))[j * 3 + 2]'(by rw [List.length_set, List.length_set, HL.out]; omega) = u2 at q2
      have HU1 : Hid (UptoM k (j + 1) (((xs.set (j * 3) (.int .i64 K)).set (j * 3 + 1) (.int .i64 (K + 1))).set (j * 3 + 2) (.string (mt (K + 1 + 1))))) := by
        have h := uptoM_step HU.out (by rw [HL.out]; omega)
        rw [HK.out, show K + 2 = K + 1 + 1 by omega] at h
        exact h
      go_wp2
      go_roundw
      case rel => exact ⟨j + 1, _, by omega, by rw [HKN.out], by go_num, by rw [List.length_set, List.length_set, List.length_set]; exact HL.out, HU1.out, HY.out.1, HY.out.2⟩
      case measure => simp [intOf]; omega
    · obtain rfl : j = n := by omega
      have HX : Hid (xs = marksM k j) := uptoM_all HU.out HL.out
      go_wp2
      go_ret
      refine ⟨rfl, ?_, HG.out⟩
      rw [← HX.out]
      exact hown

set_option maxHeartbeats 2000000 in
set_option maxRecDepth 100000 in
theorem heldM_any (v : Value) (base n : Nat) (k : Int) (w : World) (h : w.ownsRow base 97 3 v n (marksM k n)) (hn : n ≤ 1048576) (h0 : 0 < k) (h1 : k ≤ 50000000) :
    Calls Try.prog 41 #[v, .int .i64 k] w fun e w' => e = .returned (.int .i64 (k + 3 * (n : Int))) ∧ Below w.heap.size w w' := by
  rcases h.2 with ⟨rfl, hz⟩ | ⟨g, cap, cur, rfl, _⟩
  · subst hz
    clear h hn
    go_enter Try.func41, Try.ntmps41
    go_wp2
    go_loop [1, 5] (fun z i => z = .int .i64 k ∧ i = .int .i64 0) (fun _ _ => 0)
    case atStart => exact ⟨rfl, rfl⟩
    case round =>
      obtain ⟨rfl, rfl⟩ := hrel
      go_wp2
      go_ret
      exact ⟨by simp, Below.refl _ _⟩
  have HC : Hid (∀ j, j < n → w.cell? ⟨g, j * 3, none⟩ = some (.int .i64 (k + 3 * (j : Int))) ∧ w.cell? ⟨g, j * 3 + 1, none⟩ = some (.int .i64 (k + 3 * (j : Int) + 1)) ∧ w.cell? ⟨g, j * 3 + 2, none⟩ = some (.string (mt (k + 3 * (j : Int) + 2)))) := fun j hj => by
    obtain ⟨a0, a1, a2⟩ := marksM_at k n j hj
    exact ⟨by rw [h.cellAt _ (by omega), a0], by rw [h.cellAt _ (by omega), a1], by rw [h.cellAt _ (by omega), a2]⟩
  clear h
  go_enter Try.func41, Try.ntmps41
  go_wp2
  go_loopw [1, 5] (fun z i wr => ∃ j : Nat, j ≤ n ∧ z = .int .i64 (k + 3 * (j : Int)) ∧ i = .int .i64 j ∧ Below w.heap.size w wr) (fun _ i _ => n - (intOf i).toNat)
  case atStart => exact ⟨0, Nat.zero_le _, by simp, rfl, Below.refl _ _⟩
  case round =>
    obtain ⟨j, hj, rfl, rfl, hbw⟩ := hrel
    by_cases hlt : j < n
    · obtain ⟨v0, v1, v2⟩ := HC.out j hlt
      have c0 := (hbw.cell (p := ⟨g, j * 3, none⟩) (World.block_lt_of_cell? w _ v0)).trans v0
      have c1 := (hbw.cell (p := ⟨g, j * 3 + 1, none⟩) (World.block_lt_of_cell? w _ v1)).trans v1
      have c2 := (hbw.cell (p := ⟨g, j * 3 + 2, none⟩) (World.block_lt_of_cell? w _ v2)).trans v2
      clear v0 v1 v2
      have hK0 : 0 < k + 3 * (j : Int) := by omega
      have hK1 : k + 3 * (j : Int) ≤ 60000000 := by omega
      have HKN : Hid (k + 3 * ((j + 1 : Nat) : Int) = k + 3 * (j : Int) + 1 + 1 + 1) := (show _ = _ by omega)
      rw [show k + 3 * (j : Int) + 2 = k + 3 * (j : Int) + 1 + 1 by omega] at c2
      generalize k + 3 * (j : Int) = K at *
      have HM : Hid (∀ w, Calls Try.prog 38 #[.int .i64 (K + 1 + 1)] w fun e w' => e = .returned (.string (mt (K + 1 + 1))) ∧ Below w.heap.size w w') := fun w => mark_any _ w (by omega) (by omega)
      have HC2 : Hid (wr.cell? ⟨g, j * 3 + 2, none⟩ = some (.string (mt (K + 1 + 1)))) := c2
      clear c2
      generalize mt (K + 1 + 1) = x at HC2 HM
      have hxx : (x.toList == x.toList) = true := by simp
      have n0 : ((K : Int) != K) = false := by simp
      have n1 : ((K + 1 : Int) != K + 1) = false := by simp
      have hlt' : (j : Int) < (n : Int) := by omega
      have hk0 : (0 : Int) ≤ (j : Int) := by omega
      go_wp2_with fail
      have ne := ext_some wr
      have c2 := fun y : Ext wr => gw_cell y HC2.out
      refine region_lit (by kernel_rfl) (by kernel_rfl) ?_
      repeat (go_big_quiet_step ((go_at_call 38; exact grow_of (HM.out _))))
      refine wpQuiet_nil ?_
      rintro W' ⟨y0, rfl⟩
      have b3 := hbw.trans ((gw_below y0).mono hbw.size)
      generalize gw y0 = W' at b3 ⊢
      clear c0 c1 c2 hbw HM HC2
      go_wp2
      go_roundw
      case rel => exact ⟨j + 1, by omega, by rw [HKN.out], by go_num, b3⟩
      case measure => simp [intOf]; omega
    · obtain rfl : j = n := by omega
      go_wp2
      go_ret
      exact ⟨rfl, hbw⟩
end Go.Proofs.Ytbhjinhedbgmnab.mm
