/-
  Both SetHas functions.
-/
import Derived.Test.YtofpnabfecimhaaDoorRge
namespace Go.Proofs.YtofpnabfecimhaaDoor.rg
open Go.RowKit
set_option linter.unusedVariables false

set_option maxHeartbeats 1000000 in
set_option maxRecDepth 100000 in
theorem implSH (v : Value) (ps : List Pr) (n top : Int) (w : World) (h : RgAt w v ps) (hl : ps.length ≤ 1048576) :
    Calls Tryd.prog 14 #[v, .int .i64 n, .int .i64 top] w fun e w' => e = .returned (.tuple #[.bool (SH ps n top).1, .int .i64 (SH ps n top).2]) ∧ Below w.heap.size w w' := by
  have HA := h
  obtain ⟨a, cap, rfl, h⟩ := h
  clear h
  have HA : Hid (RgAt w (.slice a ps.length cap) ps) := HA
  obtain ⟨m, hm⟩ : ∃ m, m = ps.length := ⟨_, rfl⟩
  have HM : Hid (m = ps.length) := hm
  have HL : Hid (ps.length ≤ 1048576) := hl
  rw [← hm] at hl HA ⊢
  clear hm
  by_cases g0 : 4096 < m
  · have g0' : (4096 : Int) < (m : Int) := by omega
    have HR : Hid (SH ps n top = (false, 2)) := by unfold SH; rw [if_pos (by rw [← HM.out]; exact g0)]; trivial
    go_enter Tryd.func14, Tryd.ntmps14
    go_wp2
    go_ret2
    exact ⟨by rw [HR.out]; rfl, Below.refl _ _⟩
  have g0' : (m : Int) ≤ 4096 := by omega
  have hlt : ¬ 4096 < ps.length := by rw [← HM.out]; exact g0
  by_cases g1 : setB ps = false
  · have HR : Hid (SH ps n top = (false, 1)) := by unfold SH; rw [if_neg hlt, if_pos g1]; trivial
    clear hlt
    go_enter Tryd.func14, Tryd.ntmps14
    go_wp2_with fail
    refine (implSet_any _ ps w HA.out HL.out).mono ?_
    rintro e w1 ⟨rfl, hb1⟩
    rw [g1]
    clear HA
    go_wp2
    go_ret2
    exact ⟨by rw [HR.out]; rfl, hb1⟩
  have g1 : setB ps = true := by simpa using g1
  by_cases g2 : ¬ Num n
  · have d0 : decide (Num n) = false := by simpa using g2
    have HR : Hid (SH ps n top = (false, 4)) := by unfold SH; rw [if_neg hlt, if_neg (by rw [g1]; simp), if_pos (.inl g2)]; trivial
    clear hlt g2
    go_enter Tryd.func14, Tryd.ntmps14
    go_wp2_with fail
    refine (implSet_any _ ps w HA.out HL.out).mono ?_
    rintro e w1 ⟨rfl, hb1⟩
    rw [g1]
    have b1 : Below w.heap.size w w1 := hb1
    have HA1 : Hid (RgAt w1 (.slice a m cap) ps) := by have q := at_below (by have := HA.out; exact this) b1; exact q
    clear HA hb1
    go_wp2_with fail
    refine (isNumber_any _ _).mono ?_
    rintro e w2 ⟨rfl, hw2⟩
    subst hw2
    rw [d0]
    go_wp2
    go_ret2
    exact ⟨by rw [HR.out]; rfl, b1⟩
  have g2 : Num n := Classical.not_not.1 g2
  have d0 : decide (Num n) = true := by simpa using g2
  by_cases g3 : ¬ End top
  · have d1 : decide (End top) = false := by simpa using g3
    have HR : Hid (SH ps n top = (false, 4)) := by unfold SH; rw [if_neg hlt, if_neg (by rw [g1]; simp), if_pos (.inr g3)]; trivial
    clear hlt g2 g3
    go_enter Tryd.func14, Tryd.ntmps14
    go_wp2_with fail
    refine (implSet_any _ ps w HA.out HL.out).mono ?_
    rintro e w1 ⟨rfl, hb1⟩
    rw [g1]
    have b1 : Below w.heap.size w w1 := hb1
    have HA1 : Hid (RgAt w1 (.slice a m cap) ps) := by have q := at_below (by have := HA.out; exact this) b1; exact q
    clear HA hb1
    go_wp2_with fail
    refine (isNumber_any _ _).mono ?_
    rintro e w2 ⟨rfl, hw2⟩
    subst hw2
    rw [d0]
    go_wp2_with fail
    refine (isEnd_any _ _).mono ?_
    rintro e w2 ⟨rfl, hw2⟩
    subst hw2
    rw [d1]
    go_wp2
    go_ret2
    exact ⟨by rw [HR.out]; rfl, b1⟩
  have g3 : End top := Classical.not_not.1 g3
  have d1 : decide (End top) = true := by simpa using g3
  have HR : Hid (SH ps n top = (hasB ps n top, 0)) := by unfold SH; rw [if_neg hlt, if_neg (by rw [g1]; simp), if_neg (by simp only [not_or, Classical.not_not]; exact ⟨g2, g3⟩)]; trivial
  clear hlt g2 g3
  go_enter Tryd.func14, Tryd.ntmps14
  go_wp2_with fail
  refine (implSet_any _ ps w HA.out HL.out).mono ?_
  rintro e w1 ⟨rfl, hb1⟩
  rw [g1]
  have b1 : Below w.heap.size w w1 := hb1
  have HA1 : Hid (RgAt w1 (.slice a m cap) ps) := by have q := at_below (by have := HA.out; exact this) b1; exact q
  clear HA hb1
  go_wp2_with fail
  refine (isNumber_any _ _).mono ?_
  rintro e w2 ⟨rfl, hw2⟩
  subst hw2
  rw [d0]
  go_wp2_with fail
  refine (isEnd_any _ _).mono ?_
  rintro e w2 ⟨rfl, hw2⟩
  subst hw2
  rw [d1]
  go_wp2_with fail
  refine (inSet_any _ ps n top _ HA1.out HL.out).mono ?_
  rintro e w3 ⟨rfl, hb3⟩
  have b3 : Below w.heap.size w w3 := b1.trans (hb3.mono b1.size)
  clear HA1 hb3
  generalize hasB ps n top = B at HR ⊢
  go_wp2
  go_ret2
  exact ⟨by rw [HR.out]; rfl, b3⟩
end Go.Proofs.YtofpnabfecimhaaDoor.rg
