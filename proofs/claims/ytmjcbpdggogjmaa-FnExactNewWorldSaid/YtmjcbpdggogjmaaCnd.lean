/-
  The laws' marks of four connections, and what is held against them.
-/
import Derived.Test.YtmjcbpdggogjmaaCnc
namespace Go.Proofs.Ytmjcbpdggogjmaa.cn
open Go.ChangeShapes Go.WideShapes Go.ChangeAt Go.RowKit Go.Deep Go.Joins
open en lg gr mk
set_option linter.unusedVariables false

set_option maxHeartbeats 1000000 in
set_option maxRecDepth 100000 in
theorem markInts_none (k : Int) (w : World) : Calls Try.prog 25 #[.slice none 0 0, .int .i64 k] w fun e w' => e = .returned (.int .i64 k) ∧ w' = w := by
  go_enter Try.func25, Try.ntmps25
  go_wp2
  refine wp_loop_rounds 1 ?_
  rw [rounds_succ]
  go_wp2
  go_ret
  exact ⟨rfl, rfl⟩
set_option maxHeartbeats 1000000 in
set_option maxRecDepth 100000 in
theorem heldInts_none (k : Int) (w : World) : Calls Try.prog 27 #[.slice none 0 0, .int .i64 k] w fun e w' => e = .returned (.int .i64 k) ∧ w' = w := by
  go_enter Try.func27, Try.ntmps27
  go_wp2
  refine wp_loop_rounds 1 ?_
  rw [rounds_succ]
  go_wp2
  go_ret
  exact ⟨rfl, rfl⟩
/-- The marks of a connection, from a number on. -/
def mr (K : Int) : Nat → Value
  | 0 => .int .i64 K
  | 1 => .string (mt (K + 1))
  | 2 => .int .i64 (K + 1 + 1)
  | 3 => .string (mt (K + 1 + 1 + 1))
  | 4 => .bool ((K + 1 + 1 + 1 + 1) % 3 == 0)
  | 5 => .slice none 0 0
  | 6 => .string (mt (K + 1 + 1 + 1 + 1 + 1))
  | 7 => .int .i64 (K + 1 + 1 + 1 + 1 + 1 + 1)
  | _ => .bool ((K + 1 + 1 + 1 + 1 + 1 + 1 + 1) % 3 == 0)
/-- The first j connections bear their marks, the others have no view. -/
def Upto (f : Nat → Value) (j : Nat) : Prop := (∀ i, i < j → ∀ r, r < 9 → f (i * 9 + r) = mr (1 + 8 * (i : Int)) r) ∧ ∀ i, i < 4 → f (i * 9 + 5) = .slice none 0 0
theorem upto_zero : Upto zf 0 := ⟨fun i hi => absurd hi (Nat.not_lt_zero _), fun i _ => zf_at i 5 (by omega)⟩
theorem upd_same (f : Nat → Value) (j : Nat) (v : Value) : upd f j v j = v := by simp [upd]
theorem upd_other (f : Nat → Value) {i j : Nat} (v : Value) (h : i ≠ j) : upd f j v i = f i := by simp [upd, h]
theorem upto_step {f : Nat → Value} {j : Nat} {K : Int} (h : Upto f j) (hj : j < 4) (hK : 1 + 8 * (j : Int) = K) :
    Upto (upd (upd (upd (upd (upd (upd (upd (upd f (j * 9) (mr K 0)) (j * 9 + 1) (mr K 1)) (j * 9 + 2) (mr K 2)) (j * 9 + 3) (mr K 3)) (j * 9 + 4) (mr K 4)) (j * 9 + 6) (mr K 6)) (j * 9 + 7) (mr K 7)) (j * 9 + 8) (mr K 8)) (j + 1) := by
  refine ⟨fun i hi r hr => ?_, fun i hi => ?_⟩
  · by_cases e : i = j
    · subst e
      rw [hK]
      match r, hr with
      | 0, _ => simp only [Nat.add_zero]; rw [upd_other _ _ (by omega), upd_other _ _ (by omega), upd_other _ _ (by omega), upd_other _ _ (by omega), upd_other _ _ (by omega), upd_other _ _ (by omega), upd_other _ _ (by omega), upd_same]
      | 1, _ => rw [upd_other _ _ (by omega), upd_other _ _ (by omega), upd_other _ _ (by omega), upd_other _ _ (by omega), upd_other _ _ (by omega), upd_other _ _ (by omega), upd_same]
      | 2, _ => rw [upd_other _ _ (by omega), upd_other _ _ (by omega), upd_other _ _ (by omega), upd_other _ _ (by omega), upd_other _ _ (by omega), upd_same]
      | 3, _ => rw [upd_other _ _ (by omega), upd_other _ _ (by omega), upd_other _ _ (by omega), upd_other _ _ (by omega), upd_same]
      | 4, _ => rw [upd_other _ _ (by omega), upd_other _ _ (by omega), upd_other _ _ (by omega), upd_same]
      | 5, _ => rw [upd_other _ _ (by omega), upd_other _ _ (by omega), upd_other _ _ (by omega), upd_other _ _ (by omega), upd_other _ _ (by omega), upd_other _ _ (by omega), upd_other _ _ (by omega), upd_other _ _ (by omega)]; exact h.2 i hj
      | 6, _ => rw [upd_other _ _ (by omega), upd_other _ _ (by omega), upd_same]
      | 7, _ => rw [upd_other _ _ (by omega), upd_same]
      | 8, _ => rw [upd_same]
    · rw [upd_other _ _ (by omega), upd_other _ _ (by omega), upd_other _ _ (by omega), upd_other _ _ (by omega), upd_other _ _ (by omega), upd_other _ _ (by omega), upd_other _ _ (by omega), upd_other _ _ (by omega)]
      exact h.1 i (by omega) r hr
  · rw [upd_other _ _ (by omega), upd_other _ _ (by omega), upd_other _ _ (by omega), upd_other _ _ (by omega), upd_other _ _ (by omega), upd_other _ _ (by omega), upd_other _ _ (by omega), upd_other _ _ (by omega)]
    exact h.2 i hi
theorem grown_set (w : World) (g j : Nat) (u : Value) : w.grownBy (w.setCell ⟨g, j, none⟩ u) (some g) :=
  ⟨rfl, rfl, rfl, by simp, fun k _ hd => heap_setCell_other w ⟨g, j, none⟩ k u (fun e => hd (by rw [e]))⟩
/-- So far has a row come. -/
def At (w : World) (g : Nat) (wr : World) (f : Nat → Value) : Prop := Row wr g f ∧ w.grownBy wr (some g)
theorem At.put {w wr : World} {g : Nat} {f : Nat → Value} (h : At w g wr f) (j : Nat) (v : Value) : At w g (wr.setCell ⟨g, j, none⟩ v) (upd f j v) := ⟨h.1.put j v, ow.grown_trans h.2 (grown_set _ _ _ _)⟩
theorem At.below {w wr w' : World} {g : Nat} {f : Nat → Value} (h : At w g wr f) (b : Below wr.heap.size wr w') : At w g w' f := ⟨h.1.below b, ow.grown_trans h.2 (ow.grown_below b)⟩

set_option maxHeartbeats 2000000 in
set_option maxRecDepth 100000 in
theorem markConnS_any (g : Nat) (w : World) (h : Row w g zf) : Calls Try.prog 16 #[.slice (some ⟨g, 0, none⟩) 4 4, .int .i64 1] w fun e w' => e = .returned (.int .i64 33) ∧ ∃ f, Upto f 4 ∧ At w g w' f := by
  have HO : Hid (Row w g zf) := h
  clear h
  go_enter Try.func16, Try.ntmps16
  go_wp2
  go_loopw [1, 5] (fun z i wr => ∃ (j : Nat) (f : Nat → Value), j ≤ 4 ∧ z = .int .i64 (1 + 8 * (j : Int)) ∧ i = .int .i64 j ∧ Upto f j ∧ At w g wr f) (fun _ i _ => 4 - (intOf i).toNat)
  case atStart => exact ⟨0, zf, by omega, rfl, rfl, upto_zero, HO.out, ow.grown_refl _ _⟩
  case round =>
    clear HO
    obtain ⟨j, f, hj, rfl, rfl, hu, hat⟩ := hrel
    have HU : Hid (Upto f j) := hu
    have HA : Hid (At w g wr f) := hat
    clear hu hat
    by_cases hlt : j < 4
    · have hlt' : (j : Int) < 4 := by omega
      have hj0 : (0 : Int) ≤ (j : Int) := by omega
      generalize hK : 1 + 8 * (j : Int) = K
      have hK0 : 0 < K := by omega
      have hK1 : K ≤ 33 := by omega
      have HK : Hid (1 + 8 * (j : Int) = K) := hK
      have HKN : Hid (1 + 8 * ((j + 1 : Nat) : Int) = K + 1 + 1 + 1 + 1 + 1 + 1 + 1 + 1) := (show _ = _ by omega)
      clear hK
      have q0 := HA.out.1.cell (j * 9) (by omega)
      have f0 := HA.out.1.fr (j * 9)
      go_wp2_with fail
      have HB : Hid (At w g (wr.setCell ⟨g, j * 9, none⟩ (.int .i64 K)) (upd f (j * 9) (mr K 0))) := HA.out.put _ _
      clear q0 f0 HA
      generalize World.setCell _ _ _ = X at HB ⊢
      refine (mark_any (K + 1) _ (by omega) (by omega)).mono ?_
      rintro e w1 ⟨rfl, hb⟩
      have HC : Hid (At w g w1 (upd f (j * 9) (mr K 0))) := HB.out.below hb
      clear HB hb
      have q1 := HC.out.1.cell (j * 9 + 1) (by omega)
      have f1 := HC.out.1.fr (j * 9 + 1)
      have q2 := (HC.out.put (j * 9 + 1) (mr K 1)).1.cell (j * 9 + 2) (by omega)
      have f2 := (HC.out.put (j * 9 + 1) (mr K 1)).1.fr (j * 9 + 2)
      unfold mr at q2 f2
      go_wp2_with fail
      have HD : Hid (At w g ((w1.setCell ⟨g, j * 9 + 1, none⟩ (.string (mt (K + 1)))).setCell ⟨g, j * 9 + 2, none⟩ (.int .i64 (K + 1 + 1))) (upd (upd (upd f (j * 9) (mr K 0)) (j * 9 + 1) (mr K 1)) (j * 9 + 2) (mr K 2))) := (HC.out.put (j * 9 + 1) (mr K 1)).put (j * 9 + 2) (mr K 2)
      clear q1 f1 q2 f2 HC
      generalize World.setCell _ _ _ = X2 at HD ⊢
      refine (mark_any (K + 1 + 1 + 1) _ (by omega) (by omega)).mono ?_
      rintro e w2 ⟨rfl, hb⟩
      have HE : Hid (At w g w2 (upd (upd (upd f (j * 9) (mr K 0)) (j * 9 + 1) (mr K 1)) (j * 9 + 2) (mr K 2))) := HD.out.below hb
      clear HD hb
      have hmod : (K + 1 + 1 + 1 + 1).tmod 3 = (K + 1 + 1 + 1 + 1) % 3 := by rw [Int.tmod_eq_emod_of_nonneg (by omega)]
      have q3 := HE.out.1.cell (j * 9 + 3) (by omega)
      have f3 := HE.out.1.fr (j * 9 + 3)
      have q4 : (w2.setCell ⟨g, j * 9 + 3, none⟩ (.string (mt (K + 1 + 1 + 1)))).cell? ⟨g, j * 9 + 4, none⟩ = _ := (HE.out.put (j * 9 + 3) (mr K 3)).1.cell (j * 9 + 4) (by omega)
      have f4 : (w2.setCell ⟨g, j * 9 + 3, none⟩ (.string (mt (K + 1 + 1 + 1)))).frozen? ⟨g, j * 9 + 4, none⟩ = false := (HE.out.put (j * 9 + 3) (mr K 3)).1.fr (j * 9 + 4)
      have q5 : ((w2.setCell ⟨g, j * 9 + 3, none⟩ (.string (mt (K + 1 + 1 + 1)))).setCell ⟨g, j * 9 + 4, none⟩ (.bool ((K + 1 + 1 + 1 + 1) % 3 == 0))).cell? ⟨g, j * 9 + 5, none⟩ = some (.slice none 0 0) := by
        have h := ((HE.out.put (j * 9 + 3) (mr K 3)).put (j * 9 + 4) (mr K 4)).1.cell (j * 9 + 5) (by omega)
        rw [upd_other _ _ (by omega), upd_other _ _ (by omega), upd_other _ _ (by omega), upd_other _ _ (by omega), upd_other _ _ (by omega), HU.out.2 j hlt] at h
        exact h
      go_wp2_with fail
      have HF : Hid (At w g ((w2.setCell ⟨g, j * 9 + 3, none⟩ (.string (mt (K + 1 + 1 + 1)))).setCell ⟨g, j * 9 + 4, none⟩ (.bool ((K + 1 + 1 + 1 + 1) % 3 == 0))) (upd (upd (upd (upd (upd f (j * 9) (mr K 0)) (j * 9 + 1) (mr K 1)) (j * 9 + 2) (mr K 2)) (j * 9 + 3) (mr K 3)) (j * 9 + 4) (mr K 4))) := (HE.out.put (j * 9 + 3) (mr K 3)).put (j * 9 + 4) (mr K 4)
      clear q3 f3 q4 f4 q5 HE hmod
      generalize World.setCell _ _ _ = X3 at HF ⊢
      refine (markInts_none _ _).mono ?_
      rintro e w3 ⟨rfl, rfl⟩
      go_wp2_with fail
      refine (mark_any (K + 1 + 1 + 1 + 1 + 1) _ (by omega) (by omega)).mono ?_
      rintro e w4 ⟨rfl, hb⟩
      have HG : Hid (At w g w4 (upd (upd (upd (upd (upd f (j * 9) (mr K 0)) (j * 9 + 1) (mr K 1)) (j * 9 + 2) (mr K 2)) (j * 9 + 3) (mr K 3)) (j * 9 + 4) (mr K 4))) := HF.out.below hb
      clear HF hb
      have hmod : (K + 1 + 1 + 1 + 1 + 1 + 1 + 1).tmod 3 = (K + 1 + 1 + 1 + 1 + 1 + 1 + 1) % 3 := by rw [Int.tmod_eq_emod_of_nonneg (by omega)]
      have q6 := HG.out.1.cell (j * 9 + 6) (by omega)
      have f6 := HG.out.1.fr (j * 9 + 6)
      have q7 : (w4.setCell ⟨g, j * 9 + 6, none⟩ (.string (mt (K + 1 + 1 + 1 + 1 + 1)))).cell? ⟨g, j * 9 + 7, none⟩ = _ := (HG.out.put (j * 9 + 6) (mr K 6)).1.cell (j * 9 + 7) (by omega)
      have f7 : (w4.setCell ⟨g, j * 9 + 6, none⟩ (.string (mt (K + 1 + 1 + 1 + 1 + 1)))).frozen? ⟨g, j * 9 + 7, none⟩ = false := (HG.out.put (j * 9 + 6) (mr K 6)).1.fr (j * 9 + 7)
      have q8 : ((w4.setCell ⟨g, j * 9 + 6, none⟩ (.string (mt (K + 1 + 1 + 1 + 1 + 1)))).setCell ⟨g, j * 9 + 7, none⟩ (.int .i64 (K + 1 + 1 + 1 + 1 + 1 + 1))).cell? ⟨g, j * 9 + 8, none⟩ = _ := ((HG.out.put (j * 9 + 6) (mr K 6)).put (j * 9 + 7) (mr K 7)).1.cell (j * 9 + 8) (by omega)
      have f8 : ((w4.setCell ⟨g, j * 9 + 6, none⟩ (.string (mt (K + 1 + 1 + 1 + 1 + 1)))).setCell ⟨g, j * 9 + 7, none⟩ (.int .i64 (K + 1 + 1 + 1 + 1 + 1 + 1))).frozen? ⟨g, j * 9 + 8, none⟩ = false := ((HG.out.put (j * 9 + 6) (mr K 6)).put (j * 9 + 7) (mr K 7)).1.fr (j * 9 + 8)
      have HH : Hid (At w g (((w4.setCell ⟨g, j * 9 + 6, none⟩ (.string (mt (K + 1 + 1 + 1 + 1 + 1)))).setCell ⟨g, j * 9 + 7, none⟩ (.int .i64 (K + 1 + 1 + 1 + 1 + 1 + 1))).setCell ⟨g, j * 9 + 8, none⟩ (.bool ((K + 1 + 1 + 1 + 1 + 1 + 1 + 1) % 3 == 0))) (upd (upd (upd (upd (upd (upd (upd (upd f (j * 9) (mr K 0)) (j * 9 + 1) (mr K 1)) (j * 9 + 2) (mr K 2)) (j * 9 + 3) (mr K 3)) (j * 9 + 4) (mr K 4)) (j * 9 + 6) (mr K 6)) (j * 9 + 7) (mr K 7)) (j * 9 + 8) (mr K 8))) := ((HG.out.put (j * 9 + 6) (mr K 6)).put (j * 9 + 7) (mr K 7)).put (j * 9 + 8) (mr K 8)
      have HUN : Hid (Upto (upd (upd (upd (upd (upd (upd (upd (upd f (j * 9) (mr K 0)) (j * 9 + 1) (mr K 1)) (j * 9 + 2) (mr K 2)) (j * 9 + 3) (mr K 3)) (j * 9 + 4) (mr K 4)) (j * 9 + 6) (mr K 6)) (j * 9 + 7) (mr K 7)) (j * 9 + 8) (mr K 8)) (j + 1)) := upto_step HU.out hlt HK.out
      clear HG HU
      go_wp2
      go_roundw
      case rel => exact ⟨j + 1, _, by omega, by rw [HKN.out], by go_num, HUN.out, HH.out⟩
      case measure => simp [intOf]; omega
    · obtain rfl : j = 4 := by omega
      go_wp2
      go_ret
      exact ⟨rfl, f, HU.out, HA.out⟩

set_option maxHeartbeats 4000000 in
set_option maxRecDepth 100000 in
theorem heldConnS_any (g : Nat) (f : Nat → Value) (w : World) (h : Row w g f) (hf : Upto f 4) : Calls Try.prog 18 #[.slice (some ⟨g, 0, none⟩) 4 4, .int .i64 1] w fun e w' => e = .returned (.int .i64 33) ∧ Below w.heap.size w w' := by
  have HO : Hid (Row w g f) := h
  have HF : Hid (Upto f 4) := hf
  clear h hf
  go_enter Try.func18, Try.ntmps18
  go_wp2
  go_loopw [1, 5] (fun z i wr => ∃ j : Nat, j ≤ 4 ∧ z = .int .i64 (1 + 8 * (j : Int)) ∧ i = .int .i64 j ∧ Below w.heap.size w wr) (fun _ i _ => 4 - (intOf i).toNat)
  case atStart => exact ⟨0, by omega, rfl, rfl, Below.refl _ _⟩
  case round =>
    obtain ⟨j, hj, rfl, rfl, hbw⟩ := hrel
    by_cases hlt : j < 4
    · have hR := HO.out.below hbw
      have HC : Hid (∀ r, r < 9 → wr.cell? ⟨g, j * 9 + r, none⟩ = some (mr (1 + 8 * (j : Int)) r)) := fun r hr => (hR.cell (j * 9 + r) (by omega)).trans (congrArg some (HF.out.1 j hlt r hr))
      have hlt' : (j : Int) < 4 := by omega
      have hj0 : (0 : Int) ≤ (j : Int) := by omega
      have HKN0 : 1 + 8 * ((j + 1 : Nat) : Int) = 1 + 8 * (j : Int) + 1 + 1 + 1 + 1 + 1 + 1 + 1 + 1 := by omega
      have hK0 : 0 < 1 + 8 * (j : Int) := by omega
      have hK1 : 1 + 8 * (j : Int) ≤ 33 := by omega
      generalize 1 + 8 * (j : Int) = K at HC HKN0 hK0 hK1 ⊢
      have HKN : Hid (1 + 8 * ((j + 1 : Nat) : Int) = K + 1 + 1 + 1 + 1 + 1 + 1 + 1 + 1) := HKN0
      clear HKN0 hR
      have HM : Hid (∀ (k : Int) w, 0 < k → k ≤ 100 → Calls Try.prog 24 #[.int .i64 k] w fun e w' => e = .returned (.string (mt k)) ∧ Below w.heap.size w w') := fun k w h0 h1 => mark_any k w h0 (by omega)
      obtain ⟨x1, hx1⟩ : ∃ x, x = mt (K + 1) := ⟨_, rfl⟩
      obtain ⟨x3, hx3⟩ : ∃ x, x = mt (K + 1 + 1 + 1) := ⟨_, rfl⟩
      obtain ⟨x6, hx6⟩ : ∃ x, x = mt (K + 1 + 1 + 1 + 1 + 1) := ⟨_, rfl⟩
      have M1 : Hid (∀ w, Calls Try.prog 24 #[.int .i64 (K + 1)] w fun e w' => e = .returned (.string x1) ∧ Below w.heap.size w w') := fun w => hx1 ▸ mark_any (K + 1) w (by omega) (by omega)
      have M3 : Hid (∀ w, Calls Try.prog 24 #[.int .i64 (K + 1 + 1 + 1)] w fun e w' => e = .returned (.string x3) ∧ Below w.heap.size w w') := fun w => hx3 ▸ mark_any _ w (by omega) (by omega)
      have M6 : Hid (∀ w, Calls Try.prog 24 #[.int .i64 (K + 1 + 1 + 1 + 1 + 1)] w fun e w' => e = .returned (.string x6) ∧ Below w.heap.size w w') := fun w => hx6 ▸ mark_any _ w (by omega) (by omega)
      have C0 : Hid (wr.cell? ⟨g, j * 9, none⟩ = some (.int .i64 K)) := HC.out 0 (by omega)
      have C1 : Hid (wr.cell? ⟨g, j * 9 + 1, none⟩ = some (.string x1)) := hx1 ▸ HC.out 1 (by omega)
      have C2 : Hid (wr.cell? ⟨g, j * 9 + 2, none⟩ = some (.int .i64 (K + 1 + 1))) := HC.out 2 (by omega)
      have C3 : Hid (wr.cell? ⟨g, j * 9 + 3, none⟩ = some (.string x3)) := hx3 ▸ HC.out 3 (by omega)
      have C4 : Hid (wr.cell? ⟨g, j * 9 + 4, none⟩ = some (.bool ((K + 1 + 1 + 1 + 1) % 3 == 0))) := HC.out 4 (by omega)
      have C5 : Hid (wr.cell? ⟨g, j * 9 + 5, none⟩ = some (.slice none 0 0)) := HC.out 5 (by omega)
      have C6 : Hid (wr.cell? ⟨g, j * 9 + 6, none⟩ = some (.string x6)) := hx6 ▸ HC.out 6 (by omega)
      have C7 : Hid (wr.cell? ⟨g, j * 9 + 7, none⟩ = some (.int .i64 (K + 1 + 1 + 1 + 1 + 1 + 1))) := HC.out 7 (by omega)
      have C8 : Hid (wr.cell? ⟨g, j * 9 + 8, none⟩ = some (.bool ((K + 1 + 1 + 1 + 1 + 1 + 1 + 1) % 3 == 0))) := HC.out 8 (by omega)
      clear HC HM hx1 hx3 hx6
      have n0 : ((K : Int) != K) = false := by simp
      have e1 : (x1.toList == x1.toList) = true := by simp
      have e3 : (x3.toList == x3.toList) = true := by simp
      have e6 : (x6.toList == x6.toList) = true := by simp
      have n2 : ((K + 1 + 1 : Int) != K + 1 + 1) = false := by simp
      have n7 : ((K + 1 + 1 + 1 + 1 + 1 + 1 : Int) != K + 1 + 1 + 1 + 1 + 1 + 1) = false := by simp
      have hm4 : (K + 1 + 1 + 1 + 1).tmod 3 = (K + 1 + 1 + 1 + 1) % 3 := by rw [Int.tmod_eq_emod_of_nonneg (by omega)]
      have hm8 : (K + 1 + 1 + 1 + 1 + 1 + 1 + 1).tmod 3 = (K + 1 + 1 + 1 + 1 + 1 + 1 + 1) % 3 := by rw [Int.tmod_eq_emod_of_nonneg (by omega)]
      have c0 := C0.out
      go_wp2_with fail
      have ne := ext_some wr
      have c1 := fun y : Ext wr => gw_cell y C1.out
      refine region_lit (by kernel_rfl) (by kernel_rfl) ?_
      repeat (go_big_quiet_step ((go_at_call 24; exact grow_of (M1.out _))))
      refine wpQuiet_nil ?_
      rintro W1 ⟨y0, rfl⟩
      have B1 := gw_below y0
      generalize gw y0 = W1 at B1 ⊢
      clear c0 c1 ne M1
      have L1 := World.block_lt_of_cell? wr _ C1.out
      have c2 := (B1.cell (p := ⟨g, j * 9 + 2, none⟩) L1).trans C2.out
      have D3 : Hid (W1.cell? ⟨g, j * 9 + 3, none⟩ = some (.string x3)) := (B1.cell (p := ⟨g, j * 9 + 3, none⟩) L1).trans C3.out
      go_wp2_with fail
      have ne := ext_some W1
      have c3 := fun y : Ext W1 => gw_cell y D3.out
      refine region_lit (by kernel_rfl) (by kernel_rfl) ?_
      repeat (go_big_quiet_step ((go_at_call 24; exact grow_of (M3.out _))))
      refine wpQuiet_nil ?_
      rintro W2 ⟨y0, rfl⟩
      have B2 := B1.trans ((gw_below y0).mono B1.size)
      generalize gw y0 = W2 at B2 ⊢
      clear c2 c3 ne M3 D3 B1
      have c4 := (B2.cell (p := ⟨g, j * 9 + 4, none⟩) L1).trans C4.out
      have c5 := (B2.cell (p := ⟨g, j * 9 + 5, none⟩) L1).trans C5.out
      have r4 : (((K + 1 + 1 + 1 + 1) % 3 == 0) != ((K + 1 + 1 + 1 + 1) % 3 == 0)) = false := by simp
      go_wp2_with fail
      refine (heldInts_none _ _).mono ?_
      rintro e W3 ⟨rfl, rfl⟩
      clear c4 c5 r4
      have D6 : Hid (W3.cell? ⟨g, j * 9 + 6, none⟩ = some (.string x6)) := (B2.cell (p := ⟨g, j * 9 + 6, none⟩) L1).trans C6.out
      have hnn : ¬ (K + 1 + 1 + 1 + 1 + 1 < 0) := by omega
      go_wp2_with fail
      have ne := ext_some W3
      have c6 := fun y : Ext W3 => gw_cell y D6.out
      refine region_lit (by kernel_rfl) (by kernel_rfl) ?_
      repeat (go_big_quiet_step ((go_at_call 24; exact grow_of (M6.out _))))
      refine wpQuiet_nil ?_
      rintro W4 ⟨y0, rfl⟩
      have B4 := B2.trans ((gw_below y0).mono B2.size)
      generalize gw y0 = W4 at B4 ⊢
      clear c6 ne M6 D6 B2 hnn
      have c7 := (B4.cell (p := ⟨g, j * 9 + 7, none⟩) L1).trans C7.out
      have c8 := (B4.cell (p := ⟨g, j * 9 + 8, none⟩) L1).trans C8.out
      have b5 := hbw.trans (B4.mono hbw.size)
      have r8 : (((K + 1 + 1 + 1 + 1 + 1 + 1 + 1) % 3 == 0) != ((K + 1 + 1 + 1 + 1 + 1 + 1 + 1) % 3 == 0)) = false := by simp
      clear B4 L1
      go_wp2
      go_roundw
      case rel => exact ⟨j + 1, by omega, by rw [HKN.out], by go_num, b5⟩
      case measure => simp [intOf]; omega
    · obtain rfl : j = 4 := by omega
      go_wp2
      go_ret
      exact ⟨rfl, hbw⟩
end Go.Proofs.Ytmjcbpdggogjmaa.cn
