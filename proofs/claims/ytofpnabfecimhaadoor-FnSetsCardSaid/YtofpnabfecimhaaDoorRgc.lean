/-
  Sets of ranges: both tests of them.
-/
import Derived.Test.YtofpnabfecimhaaDoorRga
namespace Go.Proofs.YtofpnabfecimhaaDoor.rg
open Go.RowKit
set_option linter.unusedVariables false

theorem ret_bool {a b : Bool} (h : a = b) : (Ending.returned (.bool a)) = .returned (.bool b) := by rw [h]
abbrev End (n : Int) : Prop := 0 ≤ n ∧ n ≤ 4294967295
abbrev Num (n : Int) : Prop := 1 ≤ n ∧ n ≤ 4294967295
def EndsTo (ps : List Pr) (k : Nat) : Prop := ∀ j, j < k → End (ps.getD j no).1 ∧ End (ps.getD j no).2
def SetIs (ps : List Pr) : Prop := 1 ≤ ps.length ∧ ps.length ≤ 50 ∧ EndsTo ps ps.length
def dEnds (ps : List Pr) (k : Nat) : Decidable (EndsTo ps k) := inferInstanceAs (Decidable (∀ j, j < k → End (ps.getD j no).1 ∧ End (ps.getD j no).2))
def dSet (ps : List Pr) : Decidable (SetIs ps) := @instDecidableAnd _ _ _ (@instDecidableAnd _ _ _ (dEnds ps ps.length))
def setB (ps : List Pr) : Bool := @decide (SetIs ps) (dSet ps)
theorem setB_no {ps : List Pr} (h : ¬ SetIs ps) : setB ps = false := ow.df h
theorem setB_yes {ps : List Pr} (h : SetIs ps) : setB ps = true := ow.dt h
theorem setB_of {ps : List Pr} (h : setB ps = true) : SetIs ps := ow.dof h
theorem ends_step {ps : List Pr} {k : Nat} {a b : Int} (h : EndsTo ps k) (e0 : (ps.getD k no).1 = a) (e1 : (ps.getD k no).2 = b) (h0 : End a) (h1 : End b) : EndsTo ps (k + 1) := by
  intro j hj
  by_cases e : j = k
  · subst e; rw [e0, e1]; exact ⟨h0, h1⟩
  · exact h j (by omega)

theorem in_any (n a b : Int) (w : World) : Calls Tryd.prog 17 #[.int .i64 n, .int .i64 a, .int .i64 b] w fun e w' => e = .returned (.bool (decide (a ≤ n ∧ n ≤ b))) ∧ w' = w := by
  go_enter Tryd.func17, Tryd.ntmps17
  go_wp2
  all_goals (go_ret; exact ⟨ret_bool (by rw [Bool.eq_iff_iff]; simp; try omega), rfl⟩)
theorem isNumber_any (n : Int) (w : World) : Calls Tryd.prog 29 #[.int .i64 n] w fun e w' => e = .returned (.bool (decide (Num n))) ∧ w' = w := by
  go_enter Tryd.func29, Tryd.ntmps29
  go_wp2
  all_goals (go_ret; exact ⟨ret_bool (by rw [Bool.eq_iff_iff]; simp [Num]; try omega), rfl⟩)
theorem isEnd_any (n : Int) (w : World) : Calls Tryd.prog 30 #[.int .i64 n] w fun e w' => e = .returned (.bool (decide (End n))) ∧ w' = w := by
  by_cases h0 : n = 0
  · subst h0
    go_enter Tryd.func30, Tryd.ntmps30
    go_wp2
    go_ret
    exact ⟨rfl, rfl⟩
  · have h0' : (n == 0) = false := by simpa using h0
    have HE : Hid (decide (Num n) = decide (End n)) := decide_eq_decide.2 ⟨fun ⟨y0, y1⟩ => ⟨by omega, y1⟩, fun ⟨y0, y1⟩ => ⟨by omega, y1⟩⟩
    go_enter Tryd.func30, Tryd.ntmps30
    go_wp2_with fail
    refine (isNumber_any n _).mono ?_
    rintro e w1 ⟨rfl, rfl⟩
    generalize decide (Num n) = B at HE ⊢
    go_wp2
    go_ret
    exact ⟨ret_bool HE.out, rfl⟩


set_option maxHeartbeats 1000000 in
set_option maxRecDepth 100000 in
theorem implSet_any (v : Value) (ps : List Pr) (w : World) (h : RgAt w v ps) (hl : ps.length ≤ 1048576) :
    Calls Tryd.prog 27 #[v] w fun e w' => e = .returned (.bool (setB ps)) ∧ Below w.heap.size w w' := by
  obtain ⟨a, cap, rfl, h⟩ := h
  obtain ⟨n, hn⟩ : ∃ n, n = ps.length := ⟨_, rfl⟩
  have HN : Hid (n = ps.length) := hn
  have HH : Hid (ps = [] ∨ ∃ b off, a = some ⟨b, off, none⟩ ∧ ∀ j, j < ps.length → w.cell? ⟨b, off + j * 2, none⟩ = some (.int .i64 (ps.getD j no).1) ∧ w.cell? ⟨b, off + j * 2 + 1, none⟩ = some (.int .i64 (ps.getD j no).2)) := h
  rw [← hn] at hl ⊢
  clear h hn
  by_cases g0 : n = 0
  · subst g0
    have HR : Hid (setB ps = false) := setB_no (fun y => by have := HN.out; have := y.1; omega)
    go_enter Tryd.func27, Tryd.ntmps27
    go_wp2
    go_ret
    exact ⟨ret_bool HR.out.symm, Below.refl _ _⟩
  have g0' : ((n : Int) == 0) = false := by simpa using g0
  by_cases g1 : 50 < n
  · have g1' : (50 : Int) < (n : Int) := by omega
    have HR : Hid (setB ps = false) := setB_no (fun y => by have := HN.out; have := y.2.1; omega)
    go_enter Tryd.func27, Tryd.ntmps27
    go_wp2
    go_ret
    exact ⟨ret_bool HR.out.symm, Below.refl _ _⟩
  have g1' : ¬ (50 : Int) < (n : Int) := by omega
  have HG : Hid (1 ≤ n ∧ n ≤ 50) := (show 1 ≤ n ∧ n ≤ 50 by omega)
  go_enter Tryd.func27, Tryd.ntmps27
  go_wp2
  go_loopw [15] (fun i wr => ∃ k : Nat, k ≤ n ∧ i = .int .i64 k ∧ EndsTo ps k ∧ Below w.heap.size w wr) (fun i _ => n - (intOf i).toNat)
  case atStart => exact ⟨0, Nat.zero_le _, rfl, fun j hj => absurd hj (Nat.not_lt_zero _), Below.refl _ _⟩
  case round =>
    obtain ⟨k, hk, rfl, hen, hbw⟩ := hrel
    have HEN : Hid (EndsTo ps k) := hen
    clear hen
    by_cases hlt : k < n
    · have hka : k < ps.length := by rw [← HN.out]; exact hlt
      have HKA : Hid (k < ps.length) := hka
      rcases HH.out with e | ⟨b, off, rfl, hcells⟩
      · rw [e] at hka; simp at hka
      obtain ⟨v0, v1⟩ := hcells k hka
      have hblt : b < w.heap.size := World.block_lt_of_cell? w _ v0
      have c0 := (hbw.cell (p := ⟨b, off + k * 2, none⟩) hblt).trans v0
      have c1 := (hbw.cell (p := ⟨b, off + k * 2 + 1, none⟩) hblt).trans v1
      clear hcells hka v0 v1
      generalize hx0 : (ps.getD k no).1 = x0 at c0
      generalize hx1 : (ps.getD k no).2 = x1 at c1
      have HX : Hid ((ps.getD k no).1 = x0 ∧ (ps.getD k no).2 = x1) := ⟨hx0, hx1⟩
      clear hx0 hx1
      have hlt' : (k : Int) < (n : Int) := by omega
      have hb2 : ∀ cs T, Below w.heap.size w (wr.alloc (.cells cs T)) := fun cs T => hbw.trans ((new_below wr T cs).mono hbw.size)
      by_cases e0 : End x0
      · have d0 : decide (End x0) = true := by simpa using e0
        by_cases e1 : End x1
        · have d1 : decide (End x1) = true := by simpa using e1
          have HST : Hid (EndsTo ps (k + 1)) := ends_step HEN.out HX.out.1 HX.out.2 e0 e1
          clear e0 e1
          go_wp2_with fail
          refine (isEnd_any _ _).mono ?_
          rintro e w1 ⟨rfl, rfl⟩
          rw [d0]
          go_wp2_with fail
          refine (isEnd_any _ _).mono ?_
          rintro e w1 ⟨rfl, rfl⟩
          rw [d1]
          go_wp2
          go_roundw
          case rel => exact ⟨k + 1, by omega, by go_num, HST.out, hb2 _ _⟩
          case measure => simp [intOf]; omega
        · have d1 : decide (End x1) = false := by simpa using e1
          have HR : Hid (setB ps = false) := setB_no (fun y => e1 (by rw [← HX.out.2]; exact (y.2.2 k HKA.out).2))
          clear e0 e1
          go_wp2_with fail
          refine (isEnd_any _ _).mono ?_
          rintro e w1 ⟨rfl, rfl⟩
          rw [d0]
          go_wp2_with fail
          refine (isEnd_any _ _).mono ?_
          rintro e w1 ⟨rfl, rfl⟩
          rw [d1]
          go_wp2
          go_ret
          exact ⟨ret_bool HR.out.symm, hb2 _ _⟩
      · have d0 : decide (End x0) = false := by simpa using e0
        have HR : Hid (setB ps = false) := setB_no (fun y => e0 (by rw [← HX.out.1]; exact (y.2.2 k HKA.out).1))
        clear e0
        go_wp2_with fail
        refine (isEnd_any _ _).mono ?_
        rintro e w1 ⟨rfl, rfl⟩
        rw [d0]
        go_wp2
        go_ret
        exact ⟨ret_bool HR.out.symm, hb2 _ _⟩
    · have hkn : k = n := by omega
      subst hkn
      have HR : Hid (setB ps = true) := setB_yes ⟨by have := HG.out; have := HN.out; omega, by have := HG.out; have := HN.out; omega, by rw [← HN.out]; exact HEN.out⟩
      go_wp2
      go_ret
      exact ⟨ret_bool HR.out.symm, hbw⟩
end Go.Proofs.YtofpnabfecimhaaDoor.rg
