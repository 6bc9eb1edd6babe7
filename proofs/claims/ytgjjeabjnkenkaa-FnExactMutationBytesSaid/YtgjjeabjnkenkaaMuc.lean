/-
  Both MutationOK functions answer whether a mutation is right: the functions as wholes.
-/
import Derived.Test.YtgjjeabjnkenkaaMub
import Derived.Deep.DeepCutAuto
import Derived.Deep.Cut
import Derived.Deep.CutRange
import Derived.BigRegion
namespace Go.Proofs.Ytgjjeabjnkenkaa.mu
open Go.RowKit
open it
set_option linter.unusedVariables false

theorem kind_is (k u m f : Int) (n : Nat) : kindOK k u m f n = true ↔ ((k = 1 ∨ k = 4) ∧ u = 0 ∧ m = 0 ∧ f = 0 ∧ n = 0 ∨ k = 2 ∧ u = 0 ∧ m = 0 ∧ f = 0 ∧ 0 < n ∨ k = 3 ∧ n = 0 ∧ 1 ≤ u ∧ u ≤ 1000 ∧ 1 ≤ m ∧ m ≤ 3 ∧ 0 ≤ f ∧ f ≤ 31) := by
  simp [kindOK]

theorem isUid_any (u : Int) (w : World) : Calls Try.prog 51 #[.int .i64 u] w fun e w' => e = .returned (.bool (decide (1 ≤ u ∧ u ≤ 1000))) ∧ w' = w := by
  go_enter Try.func51, Try.ntmps51
  go_wp2
  all_goals (go_ret; exact ⟨ret_bool (by rw [Bool.eq_iff_iff]; simp; try omega), rfl⟩)

set_option maxHeartbeats 4000000 in
set_option maxRecDepth 100000 in
theorem impl_mok (x : Mu) (v : Value) (w : World) (h : AttrsAt w v x.ps) (hx : Small x) :
    Calls Try.prog 19 #[MV x v] w fun e w' => e = .returned (.bool (mok x)) ∧ Below w.heap.size w w' := by
  have L0 := lies_new w 34 x v
  have b0 := new_below w 34 #[.int .i64 x.k, .int .i64 x.u, .int .i64 x.m, .int .i64 x.f, .string x.b, v]
  have HA : Hid (AttrsAt (w.alloc (.cells #[.int .i64 x.k, .int .i64 x.u, .int .i64 x.m, .int .i64 x.f, .string x.b, v] 34)) v x.ps) := at_below h b0
  obtain ⟨a, cap, rfl, _⟩ := h
  obtain ⟨hi, hbs, hps⟩ := hx
  have HPS : Hid (it.Small x.ps) := hps
  unfold MV
  clear hi hps
  obtain ⟨k, u, m, f, b, ps⟩ := x
  simp only at L0 b0 HA hbs HPS ⊢
  have HN : Hid (∀ w, Calls Try.prog 49 #[.string b] w fun e w' => e = .returned (.bool (nmB b)) ∧ w' = w) := fun w => impl_name b w hbs
  have HF : Hid (∀ w, Calls Try.prog 52 #[.int .i64 f] w fun e w' => e = .returned (.bool (fOK f)) ∧ w' = w) := fun w => areFlags_any f w
  obtain ⟨n, hn⟩ : ∃ n, n = ps.length := ⟨_, rfl⟩
  have HL : Hid (n = ps.length) := hn
  rw [← hn] at L0 b0 HA ⊢
  clear hn
  have HMN : Hid (nmB b = false → mok ⟨k, u, m, f, b, ps⟩ = false) := fun h => mok_name h
  have HMI : Hid (itsOK ps = false → mok ⟨k, u, m, f, b, ps⟩ = false) := fun h => mok_its h
  have HMK : Hid (nmB b = true → itsOK ps = true → mok ⟨k, u, m, f, b, ps⟩ = kindOK k u m f n) := fun h h2 => by rw [HL.out]; exact mok_kind h h2
  generalize mok ⟨k, u, m, f, b, ps⟩ = MOK at HMN HMI HMK ⊢
  go_enter Try.func19, Try.ntmps19
  go_wp2_with fail
  generalize w.alloc _ = w0 at L0 b0 HA ⊢
  refine (HN.out _).mono ?_
  rintro e w' ⟨rfl, rfl⟩
  generalize nmB b = nb at HMN HMK ⊢
  have c0 := L0.c0
  have c1 := L0.c1
  have c2 := L0.c2
  have c3 := L0.c3
  have c5 := L0.c5
  cases nb
  · go_wp2
    go_ret
    exact ⟨ret_bool (HMN.out (by trivial)).symm, b0⟩
  clear HMN
  go_wp2_with fail
  have HI : Hid (∀ w1, Below w'.heap.size w' w1 → Lies w1 w.heap.size 34 ⟨k, u, m, f, b, ps⟩ (.slice a n cap)) := fun w1 h => L0.keep h
  clear L0
  refine (areItems_any _ ps _ HA.out HPS.out).mono ?_
  rintro e w1 ⟨rfl, hb1⟩
  have L1 := HI.out _ hb1
  have b1 := b0.trans (hb1.mono b0.size)
  clear hb1 b0 HA c0 c1 c2 c3 c5 HI
  generalize itsOK ps = ib at HMI HMK ⊢
  have c0 := L1.c0
  have c1 := L1.c1
  have c2 := L1.c2
  have c3 := L1.c3
  have c5 := L1.c5
  simp only at c0 c1 c2 c3 c5
  clear L1
  cases ib
  · go_wp2
    go_ret
    exact ⟨ret_bool (HMI.out (by trivial)).symm, b1⟩
  have HR : Hid (MOK = kindOK k u m f n) := HMK.out (by trivial) (by trivial)
  clear HMK HMI HN hbs HPS
  have KK : Hid (MOK = true ↔ ((k = 1 ∨ k = 4) ∧ u = 0 ∧ m = 0 ∧ f = 0 ∧ n = 0 ∨ k = 2 ∧ u = 0 ∧ m = 0 ∧ f = 0 ∧ 0 < n ∨ k = 3 ∧ n = 0 ∧ 1 ≤ u ∧ u ≤ 1000 ∧ 1 ≤ m ∧ m ≤ 3 ∧ 0 ≤ f ∧ f ≤ 31)) := by rw [HR.out]; exact kind_is k u m f n
  clear HR HL
  obtain ⟨al, hal⟩ : ∃ al : Bool, (al = true ↔ u = 0 ∧ m = 0 ∧ f = 0) := ⟨decide (u = 0 ∧ m = 0 ∧ f = 0), by simp⟩
  have HAL : Hid (al = true ↔ u = 0 ∧ m = 0 ∧ f = 0) := hal
  clear hal
  go_upto_region 3 with fail
  go_cut [3] (fun t wx => t = .bool al ∧ wx = w1)
  case first =>
    by_cases hu : u = 0
    · have hu' : (u == 0) = true := by simp [hu]
      by_cases hm : m = 0
      · have hm' : (m == 0) = true := by simp [hm]
        by_cases hf : f = 0
        · have hf' : (f == 0) = true := by simp [hf]
          have ha : al = true := HAL.out.2 ⟨hu, hm, hf⟩
          clear hu hm hf
          go_wp2_with fail
          go_meet
          exact ⟨by rw [ha], rfl⟩
        · have hf' : (f == 0) = false := by simp [hf]
          have ha : al = false := Bool.eq_false_iff.2 fun x => hf (HAL.out.1 x).2.2
          clear hu hm hf
          go_wp2_with fail
          go_meet
          exact ⟨by rw [ha], rfl⟩
      · have hm' : (m == 0) = false := by simp [hm]
        have ha : al = false := Bool.eq_false_iff.2 fun x => hm (HAL.out.1 x).2.1
        clear hu hm
        go_wp2_with fail
        go_meet
        exact ⟨by rw [ha], rfl⟩
    · have hu' : (u == 0) = false := by simp [hu]
      have ha : al = false := Bool.eq_false_iff.2 fun x => hu (HAL.out.1 x).1
      clear hu
      go_wp2_with fail
      go_meet
      exact ⟨by rw [ha], rfl⟩
  case rest =>
    obtain ⟨rfl, rfl⟩ := hcut
    by_cases h1 : k = 1
    · subst h1
      cases al
      · have ha : ¬ (u = 0 ∧ m = 0 ∧ f = 0) := fun x => by have := HAL.out.2 x; cases this
        have HZ : Hid (MOK = false) := Bool.eq_false_iff.2 fun x => by have := KK.out.1 x; omega
        clear ha
        go_wp2
        go_ret
        exact ⟨ret_bool HZ.out.symm, b1⟩
      · have HZ : Hid (u = 0 ∧ m = 0 ∧ f = 0) := HAL.out.1 rfl
        by_cases hn : n = 0
        · have hn' : ((n : Int) == 0) = true := by simp [hn]
          have HY : Hid (MOK = true) := KK.out.2 (by obtain ⟨z0, z1, z2⟩ := HZ.out; rw [z0, z1, z2]; omega)
          go_wp2
          go_ret
          exact ⟨ret_bool HY.out.symm, b1⟩
        · have hn' : ((n : Int) == 0) = false := by simp [hn]
          go_wp2
          go_ret
          exact ⟨ret_bool (Bool.eq_false_iff.2 fun x => by have := KK.out.1 x; omega).symm, b1⟩
    by_cases h4 : k = 4
    · subst h4
      cases al
      · have ha : ¬ (u = 0 ∧ m = 0 ∧ f = 0) := fun x => by have := HAL.out.2 x; cases this
        have HZ : Hid (MOK = false) := Bool.eq_false_iff.2 fun x => by have := KK.out.1 x; omega
        clear ha
        go_wp2
        go_ret
        exact ⟨ret_bool HZ.out.symm, b1⟩
      · have HZ : Hid (u = 0 ∧ m = 0 ∧ f = 0) := HAL.out.1 rfl
        by_cases hn : n = 0
        · have hn' : ((n : Int) == 0) = true := by simp [hn]
          have HY : Hid (MOK = true) := KK.out.2 (by obtain ⟨z0, z1, z2⟩ := HZ.out; rw [z0, z1, z2]; omega)
          go_wp2
          go_ret
          exact ⟨ret_bool HY.out.symm, b1⟩
        · have hn' : ((n : Int) == 0) = false := by simp [hn]
          go_wp2
          go_ret
          exact ⟨ret_bool (Bool.eq_false_iff.2 fun x => by have := KK.out.1 x; omega).symm, b1⟩
    by_cases h2 : k = 2
    · subst h2
      cases al
      · have ha : ¬ (u = 0 ∧ m = 0 ∧ f = 0) := fun x => by have := HAL.out.2 x; cases this
        have HZ : Hid (MOK = false) := Bool.eq_false_iff.2 fun x => by have := KK.out.1 x; omega
        clear ha
        go_wp2
        go_ret
        exact ⟨ret_bool HZ.out.symm, b1⟩
      · have HZ : Hid (u = 0 ∧ m = 0 ∧ f = 0) := HAL.out.1 rfl
        by_cases hn : 0 < n
        · have hn' : (0 : Int) < (n : Int) := by omega
          have HY : Hid (MOK = true) := KK.out.2 (by obtain ⟨z0, z1, z2⟩ := HZ.out; rw [z0, z1, z2]; omega)
          go_wp2
          go_ret
          exact ⟨ret_bool HY.out.symm, b1⟩
        · have hn' : (n : Int) ≤ 0 := by omega
          go_wp2
          go_ret
          exact ⟨ret_bool (Bool.eq_false_iff.2 fun x => by have := KK.out.1 x; omega).symm, b1⟩
    have e1 : (k == 1) = false := by simp [h1]
    have e4 : (k == 4) = false := by simp [h4]
    have e2 : (k == 2) = false := by simp [h2]
    by_cases h3 : k = 3
    · subst h3
      clear e1 e4 e2
      by_cases hn : n = 0
      · have hn' : ((n : Int) == 0) = true := by simp [hn]
        have hf : fOK f = decide (0 ≤ f ∧ f ≤ 31) := rfl
        have HU : Hid (∀ w, Calls Try.prog 51 #[.int .i64 u] w fun e w' => e = .returned (.bool (decide (1 ≤ u ∧ u ≤ 1000))) ∧ w' = w) := fun w => isUid_any u w
        go_wp2_with (first | (go_at_call 52; refine (HF.out _).mono ?_; rintro e w' ⟨rfl, rfl⟩; rw [hf]) | (go_at_call 51; refine (HU.out _).mono ?_; rintro e w' ⟨rfl, rfl⟩))
        all_goals (go_ret; refine ⟨ret_bool ?_, b1⟩; rw [Bool.eq_iff_iff, KK.out]; simp; omega)
      · have hn' : ((n : Int) == 0) = false := by simp [hn]
        have HZ : Hid (MOK = false) := Bool.eq_false_iff.2 fun x => by have := KK.out.1 x; omega
        go_wp2
        go_ret
        exact ⟨ret_bool HZ.out.symm, b1⟩
    · have e3 : (k == 3) = false := by simp [h3]
      have HZ : Hid (MOK = false) := Bool.eq_false_iff.2 fun x => by have := KK.out.1 x; omega
      go_wp2
      go_ret
      exact ⟨ret_bool HZ.out.symm, b1⟩
end Go.Proofs.Ytgjjeabjnkenkaa.mu
