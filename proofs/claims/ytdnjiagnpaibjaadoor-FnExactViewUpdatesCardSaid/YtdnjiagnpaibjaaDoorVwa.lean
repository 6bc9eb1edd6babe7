/-
  A view, a list of uids: what makes it right; the program's test of it and the specification's.
-/
import Derived.Test.YtdnjiagnpaibjaaDoorOwn
import Derived.Test.YtdnjiagnpaibjaaDoorRows
import Derived.WalkKit
import Derived.WalkLawsBesides
import Derived.Below
import Derived.Deep.QuietTactic
import Derived.BigQuiet
import Derived.Deep.DeepCutAuto
namespace Go.Proofs.YtdnjiagnpaibjaaDoor.vi
open Go.RowKit
open ow (Reads Says says_yes says_no)
set_option linter.unusedVariables false

/-- The number ahead of place k; 0 ahead of the first. -/
def prev (zs : List Int) : Nat → Int
  | 0 => 0
  | k + 1 => zs.getD k 0
/-- The first k numbers rise, from 1 to 1000. -/
def Up (zs : List Int) (k : Nat) : Prop := ∀ j, j < k → prev zs j < zs.getD j 0 ∧ zs.getD j 0 ≤ 1000
def IsV (zs : List Int) : Prop := Up zs zs.length
theorem up_step {zs : List Int} {k : Nat} (h : Up zs k) (h1 : prev zs k < zs.getD k 0) (h2 : zs.getD k 0 ≤ 1000) : Up zs (k + 1) := by
  intro j hj
  by_cases e : j = k
  · subst e; exact ⟨h1, h2⟩
  · exact h j (by omega)
theorem up_pos {zs : List Int} : ∀ {k : Nat}, Up zs k → (k : Int) ≤ prev zs k
  | 0, _ => Int.le_refl _
  | k + 1, h => by
    have h1 := up_pos (k := k) (fun j hj => h j (by omega))
    have h2 := (h k (by omega)).1
    show ((k + 1 : Nat) : Int) ≤ zs.getD k 0
    omega
theorem up_len {zs : List Int} {k : Nat} (h : Up zs k) : k ≤ 1000 := by
  cases k with
  | zero => omega
  | succ k =>
    have h1 := up_pos h
    have h2 := (h k (by omega)).2
    have : prev zs (k + 1) = zs.getD k 0 := rfl
    omega

def dUp (zs : List Int) (k : Nat) : Decidable (Up zs k) := inferInstanceAs (Decidable (∀ j, j < k → prev zs j < zs.getD j 0 ∧ zs.getD j 0 ≤ 1000))
/-- A view is right. -/
def upB (zs : List Int) : Bool := @decide (IsV zs) (dUp zs zs.length)
theorem upB_iff (zs : List Int) : upB zs = true ↔ IsV zs := @decide_eq_true_iff _ (dUp zs zs.length)
set_option maxHeartbeats 1000000 in
set_option maxRecDepth 100000 in
theorem impl_view (v : Value) (zs : List Int) (w : World) (h : Reads .i64 w v zs) (hn : zs.length ≤ 1048576) :
    Calls Tryd.prog 31 #[v] w fun e w' => Says (IsV zs) e ∧ w' = w := by
  obtain ⟨a, cap, rfl, h⟩ := h
  obtain ⟨n, hn'⟩ : ∃ n, n = zs.length := ⟨_, rfl⟩
  have HN : Hid (n = zs.length) := hn'
  have HH : Hid (zs = [] ∨ ∃ b off, a = some ⟨b, off, none⟩ ∧ ∀ j, j < zs.length → w.cell? ⟨b, off + j, none⟩ = some (.int .i64 (zs.getD j 0))) := h
  rw [← hn'] at hn ⊢
  clear h hn'
  go_enter Tryd.func31, Tryd.ntmps31
  go_wp2
  go_loop [3, 8] (fun l i => ∃ k : Nat, k ≤ n ∧ i = .int .i64 k ∧ l = .int .i64 (prev zs k) ∧ Up zs k) (fun _ i => n - (intOf i).toNat)
  case atStart => exact ⟨0, Nat.zero_le _, rfl, rfl, fun j hj => absurd hj (Nat.not_lt_zero _)⟩
  case round =>
    obtain ⟨k, hk, rfl, rfl, hup⟩ := hrel
    have HU : Hid (Up zs k) := hup
    clear hup
    by_cases hlt : k < n
    · have hka : k < zs.length := by rw [← HN.out]; exact hlt
      rcases HH.out with e | ⟨b, off, rfl, hcells⟩
      · rw [e] at hka; simp at hka
      have c0 := hcells k hka
      have HKA : Hid (k < zs.length) := hka
      clear hcells hka
      generalize hp : prev zs k = p
      have HP : Hid (prev zs k = p) := hp
      generalize hx : zs.getD k 0 = x at c0
      have HX : Hid (zs.getD k 0 = x) := hx
      clear hp hx
      have hlt' : (k : Int) < (n : Int) := by omega
      by_cases h1 : x ≤ p
      · go_wp2
        go_ret
        exact ⟨says_no (fun y => by have := (y k HKA.out).1; rw [HP.out, HX.out] at this; omega), rfl⟩
      by_cases h2 : 1000 < x
      · go_wp2
        go_ret
        exact ⟨says_no (fun y => by have := (y k HKA.out).2; rw [HX.out] at this; omega), rfl⟩
      go_wp2
      go_round
      case rel => exact ⟨k + 1, by omega, by go_num, by rw [show prev zs (k + 1) = zs.getD k 0 from rfl, HX.out], up_step HU.out (by rw [HP.out, HX.out]; omega) (by rw [HX.out]; omega)⟩
      case measure => simp [intOf]; omega
    · go_wp2
      go_ret
      exact ⟨says_yes (by have : k = zs.length := by { have := HN.out; omega }; unfold IsV; rw [← this]; exact HU.out), rfl⟩

theorem in_any (n a b : Int) (w : World) : Calls Tryd.prog 40 #[.int .i64 n, .int .i64 a, .int .i64 b] w fun e w' => e = .returned (.bool (decide (a ≤ n ∧ n ≤ b))) ∧ w' = w := by
  by_cases h0 : a ≤ n
  · by_cases h1 : n ≤ b
    · rw [decide_eq_true ⟨h0, h1⟩]
      go_enter Tryd.func40, Tryd.ntmps40
      go_wp2
      go_ret
      exact ⟨rfl, rfl⟩
    · rw [decide_eq_false (by omega)]
      go_enter Tryd.func40, Tryd.ntmps40
      go_wp2
      go_ret
      exact ⟨rfl, rfl⟩
  · rw [decide_eq_false (by omega)]
    go_enter Tryd.func40, Tryd.ntmps40
    go_wp2
    go_ret
    exact ⟨rfl, rfl⟩

set_option maxHeartbeats 2000000 in
set_option maxRecDepth 100000 in
theorem spec_view (v : Value) (zs : List Int) (w : World) (h : Reads .i64 w v zs) (hn : zs.length ≤ 1048576) :
    Calls Tryd.prog 27 #[v] w fun e w' => Says (IsV zs) e ∧ ∃ q, w' = w.drewN q := by
  have HI : Hid (∀ (n a b : Int) (w : World), Calls Tryd.prog 40 #[.int .i64 n, .int .i64 a, .int .i64 b] w fun e w' => e = .returned (.bool (decide (a ≤ n ∧ n ≤ b))) ∧ w' = w) := in_any
  obtain ⟨a, cap, rfl, h⟩ := h
  obtain ⟨n, hn'⟩ : ∃ n, n = zs.length := ⟨_, rfl⟩
  have HN : Hid (n = zs.length) := hn'
  have HH : Hid (zs = [] ∨ ∃ b off, a = some ⟨b, off, none⟩ ∧ ∀ j, j < zs.length → w.cell? ⟨b, off + j, none⟩ = some (.int .i64 (zs.getD j 0))) := h
  rw [← hn'] at hn ⊢
  clear h hn'
  by_cases hbig : 4096 < n
  · go_enter Tryd.func27, Tryd.ntmps27
    go_wp2
    go_ret
    exact ⟨says_no (fun y => by have := up_len y; have := HN.out; omega), 0, rfl⟩
  go_enter Tryd.func27, Tryd.ntmps27
  go_wp2
  go_loopw [3] (fun i wr => ∃ k q : Nat, k ≤ n ∧ i = .int .i64 k ∧ Up zs k ∧ wr = w.drewN q) (fun i _ => n - (intOf i).toNat)
  case atStart => exact ⟨0, 0, Nat.zero_le _, rfl, fun j hj => absurd hj (Nat.not_lt_zero _), rfl⟩
  case round =>
    obtain ⟨k, q, hk, rfl, hup, rfl⟩ := hrel
    have HU : Hid (Up zs k) := hup
    clear hup
    by_cases hlt : k < n
    · have hka : k < zs.length := by rw [← HN.out]; exact hlt
      rcases HH.out with e | ⟨b, off, rfl, hcells⟩
      · rw [e] at hka; simp at hka
      have c0 : (w.drewN q).cell? ⟨b, off + k, none⟩ = some (.int .i64 (zs.getD k 0)) := by rw [World.cell?_drewN]; exact hcells k hka
      have HC : Hid (∀ j, j < zs.length → (w.drewN q).cell? ⟨b, off + j, none⟩ = some (.int .i64 (zs.getD j 0))) := fun j hj => by rw [World.cell?_drewN]; exact hcells j hj
      have HKA : Hid (k < zs.length) := hka
      clear hcells hka
      generalize hx : zs.getD k 0 = x at c0
      have HX : Hid (zs.getD k 0 = x) := hx
      clear hx
      have hlt' : (k : Int) < (n : Int) := by omega
      have hk0 : (0 : Int) ≤ (k : Int) := by omega
      have HQ : Hid (0 ≤ prev zs k) := (show 0 ≤ prev zs k from by have := up_pos HU.out; omega)
      go_wp2_with fail
      generalize hW : w.drewN q = W1 at c0 HC ⊢
      obtain ⟨bad, hbad⟩ : ∃ bad : Bool, (bad = true ↔ ¬ (prev zs k < x ∧ x ≤ 1000)) := ⟨decide (¬ (prev zs k < x ∧ x ≤ 1000)), decide_eq_true_iff⟩
      have HB : Hid (bad = true ↔ ¬ (prev zs k < x ∧ x ≤ 1000)) := hbad
      have HW : Hid (W1 = w.drewN q) := hW.symm
      clear hbad hW
      go_cut [34] (fun t wx => t = .bool bad ∧ ∃ q, wx = W1.drewN q)
      case first =>
        by_cases r1 : ¬ (1 ≤ x ∧ x ≤ 1000)
        · have e1 : decide (1 ≤ x ∧ x ≤ 1000) = false := decide_eq_false r1
          have HBD : Hid (bad = true) := HB.out.2 (fun y => by have := HQ.out; omega)
          clear r1
          go_quiet ((go_at_call 40; exact Calls.quiet_of_same (HI.out _ _ _ _)))
          go_wp2_with fail
          go_meet
          exact ⟨by rw [HBD.out], _, rfl⟩
        have r1 : 1 ≤ x ∧ x ≤ 1000 := Decidable.of_not_not r1
        have e1 : decide (1 ≤ x ∧ x ≤ 1000) = true := decide_eq_true r1
        by_cases hk1 : k = 0
        · have HBD : Hid (bad = false) := Bool.eq_false_iff.2 fun y => HB.out.1 y ⟨by rw [hk1]; show (0 : Int) < x; omega, r1.2⟩
          subst hk1
          have c0z : W1.cell? ⟨b, off, none⟩ = some (.int .i64 x) := c0
          clear c0
          have hkz : decide ((0 : Int) < ((0 : Nat) : Int)) = false := rfl
          go_quiet ((go_at_call 40; exact Calls.quiet_of_same (HI.out _ _ _ _)))
          go_wp2_with fail
          go_meet
          exact ⟨by rw [HBD.out], _, rfl⟩
        obtain ⟨j, rfl⟩ : ∃ j, k = j + 1 := ⟨k - 1, by omega⟩
        have g0 := HC.out j (by have := HKA.out; omega)
        have hl1 : prev zs (j + 1) = zs.getD j 0 := rfl
        generalize hy : zs.getD j 0 = pu at g0 hl1
        have HL1 : Hid (prev zs (j + 1) = pu) := hl1
        clear hl1 hy
        have hjn : (j : Int) < (n : Int) := by omega
        have hj0 : (0 : Int) ≤ (j : Int) := by omega
        have hkz : (0 : Int) < ((j + 1 : Nat) : Int) := by omega
        have hkz2 : decide ((0 : Int) < (j : Int) + 1) = true := decide_eq_true (by omega)
        have hjj2 : (j : Int) + 1 - 1 = (j : Int) := by omega
        have hjj : ((j + 1 : Nat) : Int) - 1 = (j : Int) := by omega
        by_cases r2 : x ≤ pu
        · have HBD : Hid (bad = true) := HB.out.2 (fun y => by have h1 := y.1; rw [HL1.out] at h1; omega)
          go_quiet ((go_at_call 40; exact Calls.quiet_of_same (HI.out _ _ _ _)))
          go_wp2_with fail
          go_meet
          exact ⟨by rw [HBD.out], _, rfl⟩
        have r2' : decide (x ≤ pu) = false := decide_eq_false r2
        have HBD : Hid (bad = false) := Bool.eq_false_iff.2 fun y => HB.out.1 y ⟨by rw [HL1.out]; omega, r1.2⟩
        go_quiet ((go_at_call 40; exact Calls.quiet_of_same (HI.out _ _ _ _)))
        go_wp2_with fail
        go_meet
        exact ⟨by rw [HBD.out], _, rfl⟩
      case rest =>
        obtain ⟨rfl, q2, rfl⟩ := hcut
        cases bad
        · go_wp2
          go_roundw
          case rel => exact ⟨k + 1, q + q2, by omega, by go_num, up_step HU.out (by have := mt HB.out.2 (by simp); rw [HX.out]; omega) (by have := mt HB.out.2 (by simp); rw [HX.out]; omega), by rw [HW.out]; simp⟩
          case measure => simp [intOf]; omega
        · go_wp2
          go_ret
          exact ⟨says_no (fun y => by have h1 := y k HKA.out; rw [HX.out] at h1; exact HB.out.1 (by trivial) h1), q + q2, by rw [HW.out]; simp⟩
    · go_wp2
      go_ret
      exact ⟨says_yes (by have : k = zs.length := by { have := HN.out; omega }; unfold IsV; rw [← this]; exact HU.out), q, rfl⟩
end Go.Proofs.YtdnjiagnpaibjaaDoor.vi
