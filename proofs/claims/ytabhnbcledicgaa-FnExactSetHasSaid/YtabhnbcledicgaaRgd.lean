/-
  Both SetHas functions.
-/
import Derived.Test.YtabhnbcledicgaaRgc
import Derived.Test.YtabhnbcledicgaaGrw
namespace Go.Proofs.Ytabhnbcledicgaa.rg
open Go.RowKit
set_option linter.unusedVariables false

def end1 (a top : Int) : Int := if a = 0 then top else a
def Hit (r : Pr) (n top : Int) : Prop := min (end1 r.1 top) (end1 r.2 top) ≤ n ∧ n ≤ max (end1 r.1 top) (end1 r.2 top)
def Has (ps : List Pr) (n top : Int) : Prop := ∃ j, j < ps.length ∧ Hit (ps.getD j no) n top
def dHas (ps : List Pr) (n top : Int) : Decidable (Has ps n top) := @decidable_of_iff _ (∃ j, ∃ _ : j < ps.length, min (end1 (ps.getD j no).1 top) (end1 (ps.getD j no).2 top) ≤ n ∧ n ≤ max (end1 (ps.getD j no).1 top) (end1 (ps.getD j no).2 top)) ⟨fun ⟨j, h, x⟩ => ⟨j, h, x⟩, fun ⟨j, h, x⟩ => ⟨j, h, x⟩⟩ inferInstance
def hasB (ps : List Pr) (n top : Int) : Bool := @decide (Has ps n top) (dHas ps n top)
theorem hasB_no {ps : List Pr} {n top : Int} (h : ¬ Has ps n top) : hasB ps n top = false := ow.df h
theorem hasB_yes {ps : List Pr} {n top : Int} (h : Has ps n top) : hasB ps n top = true := ow.dt h
def NoneTo (ps : List Pr) (n top : Int) (k : Nat) : Prop := ∀ j, j < k → ¬ Hit (ps.getD j no) n top
theorem none_step {ps : List Pr} {n top : Int} {k : Nat} (h : NoneTo ps n top k) (hk : ¬ Hit (ps.getD k no) n top) : NoneTo ps n top (k + 1) := by
  intro j hj
  by_cases e : j = k
  · subst e; exact hk
  · exact h j (by omega)

theorem in_says (n a b : Int) (w : World) : Calls Try.prog 28 #[.int .i64 n, .int .i64 a, .int .i64 b] w fun e w' => (∃ B : Bool, e = .returned (.bool B) ∧ Hid (B = true ↔ (a ≤ n ∧ n ≤ b))) ∧ w' = w :=
  (in_any n a b w).mono fun e w' ⟨he, hw⟩ => ⟨⟨_, he, (show _ ↔ _ from by simp)⟩, hw⟩
set_option maxHeartbeats 1000000 in
set_option maxRecDepth 100000 in
theorem specHas_any (v : Value) (ps : List Pr) (n top : Int) (w : World) (h : RgAt w v ps) (hl : ps.length ≤ 1048576) :
    Calls Try.prog 42 #[v, .int .i64 n, .int .i64 top] w fun e w' => e = .returned (.bool (hasB ps n top)) ∧ w' = w := by
  obtain ⟨a, cap, rfl, h⟩ := h
  obtain ⟨m, hm⟩ : ∃ m, m = ps.length := ⟨_, rfl⟩
  have HM : Hid (m = ps.length) := hm
  have HH : Hid (ps = [] ∨ ∃ b off, a = some ⟨b, off, none⟩ ∧ ∀ j, j < ps.length → w.cell? ⟨b, off + j * 2, none⟩ = some (.int .i64 (ps.getD j no).1) ∧ w.cell? ⟨b, off + j * 2 + 1, none⟩ = some (.int .i64 (ps.getD j no).2)) := h
  rw [← hm] at hl ⊢
  clear h hm
  go_enter Try.func42, Try.ntmps42
  go_wp2
  go_loopw [7] (fun i wr => ∃ k : Nat, k ≤ m ∧ i = .int .i64 k ∧ NoneTo ps n top k ∧ wr = w) (fun i _ => m - (intOf i).toNat)
  case atStart => exact ⟨0, Nat.zero_le _, rfl, fun j hj => absurd hj (Nat.not_lt_zero _), rfl⟩
  case round =>
    obtain ⟨k, hk, rfl, hno, rfl⟩ := hrel
    have HNO : Hid (NoneTo ps n top k) := hno
    clear hno
    by_cases hlt : k < m
    · have hka : k < ps.length := by rw [← HM.out]; exact hlt
      have HKA : Hid (k < ps.length) := hka
      rcases HH.out with e | ⟨b, off, rfl, hcells⟩
      · rw [e] at hka; simp at hka
      obtain ⟨c0, c1⟩ := hcells k hka
      clear hcells hka
      have HX0 : Hid (∀ x0 x1, (ps.getD k no).1 = x0 → (ps.getD k no).2 = x1 → ps.getD k no = (x0, x1)) := fun x0 x1 e0 e1 => by rw [← e0, ← e1]
      generalize hx0 : (ps.getD k no).1 = x0 at c0
      generalize hx1 : (ps.getD k no).2 = x1 at c1
      have HX : Hid (ps.getD k no = (x0, x1)) := HX0.out _ _ hx0 hx1
      clear hx0 hx1 HX0
      have hlt' : (k : Int) < (m : Int) := by omega
      by_cases e0 : x0 = 0
      · subst e0
        by_cases e1 : x1 = 0
        · subst e1
          go_wp2_with fail
          all_goals
            refine (in_says _ _ _ _).mono ?_
            rintro e w ⟨⟨B, rfl, HB⟩, rfl⟩
            cases B
            · have HQ : Hid (NoneTo ps n top (k + 1)) := none_step HNO.out (by rw [HX.out]; intro y; have q := HB.out.2; have y1 := y.1; have y2 := y.2; simp [end1] at y1 y2; exact absurd (q (by constructor <;> omega)) (by simp))
              clear HB
              go_wp2
              go_roundw
              case rel => exact ⟨k + 1, by omega, by go_num, HQ.out, by trivial⟩
              case measure => simp [intOf]; omega
            · have HQ : Hid (hasB ps n top = true) := hasB_yes ⟨k, HKA.out, by rw [HX.out]; obtain ⟨q0, q1⟩ := HB.out.1 rfl; simp [Hit, end1]; try omega⟩
              clear HB
              go_wp2
              go_ret
              exact ⟨ret_bool HQ.out.symm, rfl⟩
        · have E1 : Hid (¬ x1 = 0) := e1
          have b1 : (x1 == 0) = false := by simpa using e1
          clear e1
          go_wp2_with fail
          all_goals
            refine (in_says _ _ _ _).mono ?_
            rintro e w ⟨⟨B, rfl, HB⟩, rfl⟩
            cases B
            · have HQ : Hid (NoneTo ps n top (k + 1)) := none_step HNO.out (by rw [HX.out]; intro y; have q := HB.out.2; have y1 := y.1; have y2 := y.2; simp [end1, E1.out] at y1 y2; exact absurd (q (by constructor <;> omega)) (by simp))
              clear HB
              go_wp2
              go_roundw
              case rel => exact ⟨k + 1, by omega, by go_num, HQ.out, by trivial⟩
              case measure => simp [intOf]; omega
            · have HQ : Hid (hasB ps n top = true) := hasB_yes ⟨k, HKA.out, by rw [HX.out]; obtain ⟨q0, q1⟩ := HB.out.1 rfl; simp [Hit, end1, E1.out]; try omega⟩
              clear HB
              go_wp2
              go_ret
              exact ⟨ret_bool HQ.out.symm, rfl⟩
      · have E0 : Hid (¬ x0 = 0) := e0
        have b0 : (x0 == 0) = false := by simpa using e0
        clear e0
        by_cases e1 : x1 = 0
        · subst e1
          go_wp2_with fail
          all_goals
            refine (in_says _ _ _ _).mono ?_
            rintro e w ⟨⟨B, rfl, HB⟩, rfl⟩
            cases B
            · have HQ : Hid (NoneTo ps n top (k + 1)) := none_step HNO.out (by rw [HX.out]; intro y; have q := HB.out.2; have y1 := y.1; have y2 := y.2; simp [end1, E0.out] at y1 y2; exact absurd (q (by constructor <;> omega)) (by simp))
              clear HB
              go_wp2
              go_roundw
              case rel => exact ⟨k + 1, by omega, by go_num, HQ.out, by trivial⟩
              case measure => simp [intOf]; omega
            · have HQ : Hid (hasB ps n top = true) := hasB_yes ⟨k, HKA.out, by rw [HX.out]; obtain ⟨q0, q1⟩ := HB.out.1 rfl; simp [Hit, end1, E0.out]; try omega⟩
              clear HB
              go_wp2
              go_ret
              exact ⟨ret_bool HQ.out.symm, rfl⟩
        · have E1 : Hid (¬ x1 = 0) := e1
          have b1 : (x1 == 0) = false := by simpa using e1
          clear e1
          go_wp2_with fail
          all_goals
            refine (in_says _ _ _ _).mono ?_
            rintro e w ⟨⟨B, rfl, HB⟩, rfl⟩
            cases B
            · have HQ : Hid (NoneTo ps n top (k + 1)) := none_step HNO.out (by rw [HX.out]; intro y; have q := HB.out.2; have y1 := y.1; have y2 := y.2; simp [end1, E0.out, E1.out] at y1 y2; exact absurd (q (by constructor <;> omega)) (by simp))
              clear HB
              go_wp2
              go_roundw
              case rel => exact ⟨k + 1, by omega, by go_num, HQ.out, by trivial⟩
              case measure => simp [intOf]; omega
            · have HQ : Hid (hasB ps n top = true) := hasB_yes ⟨k, HKA.out, by rw [HX.out]; obtain ⟨q0, q1⟩ := HB.out.1 rfl; simp [Hit, end1, E0.out, E1.out]; try omega⟩
              clear HB
              go_wp2
              go_ret
              exact ⟨ret_bool HQ.out.symm, rfl⟩
    · have hkn : k = m := by omega
      subst hkn
      have HR : Hid (hasB ps n top = false) := hasB_no (fun ⟨j, hj, y⟩ => HNO.out j (by have := HM.out; omega) y)
      go_wp2
      go_ret
      exact ⟨ret_bool HR.out.symm, rfl⟩
end Go.Proofs.Ytabhnbcledicgaa.rg
