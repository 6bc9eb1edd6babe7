/-
  Contracts of the functions that end a reading, and of the one that passes parts of seconds by.
-/
import Derived.Test.YtadfdfmebdcfgaaGreatDoorRdc
import Derived.Test.YtadfdfmebdcfgaaGreatDoorShf
import Derived.Shelf.Strings.SlTrimAscii
namespace Go.Proofs.YtadfdfmebdcfgaaGreatDoor.rd
open Go.RowKit
open dt
set_option linter.unusedVariables false

set_option maxHeartbeats 1000000 in
set_option maxRecDepth 100000 in
theorem in_stamp (y m d h i s a : Int) (k : Ok y m d h i s) (a0 : -90000 ≤ a) (a1 : a ≤ 90000) (w : World) :
    Calls Tryz.prog 124 #[C6 y m d h i s, .int .i64 a] w fun e w' => e = .returned (fin y m d h i s a) ∧ Below w.heap.size w w' := by
  have sb := st_bounds k
  have K : Hid (Ok y m d h i s) := k
  have hst := fun w => dw.impl_st y m d h i s w
  unfold C6 at hst ⊢
  clear k
  cases b : dw.inB (st y m d h i s - a) 0 4102444799
  · rw [fin_out K.out b]
    go_enter Tryz.func124, Tryz.ntmps124
    go_wp2_with fail
    refine (hst _).mono ?_
    rintro e w1 ⟨b1, hw⟩
    rcases hw with ⟨_, rfl⟩ | ⟨no, _⟩
    rotate_left
    · exact absurd K.out no
    have b2 : Below w.heap.size w w1 := (dw.bel_box w _).trans (b1.mono (by simp))
    clear b1 hst
    generalize st y m d h i s = n at sb b ⊢
    go_wp2_with (go_at_call 35; refine (dw.stamp_any _ _).mono ?_; rintro e w' ⟨rfl, rfl⟩)
    go_ret2
    exact ⟨rfl, b2⟩
  · rw [fin_in K.out b]
    go_enter Tryz.func124, Tryz.ntmps124
    go_wp2_with fail
    refine (hst _).mono ?_
    rintro e w1 ⟨b1, hw⟩
    rcases hw with ⟨_, rfl⟩ | ⟨no, _⟩
    rotate_left
    · exact absurd K.out no
    have b2 : Below w.heap.size w w1 := (dw.bel_box w _).trans (b1.mono (by simp))
    clear b1 hst
    go_wp2_with (go_at_call 35; refine (dw.stamp_any _ _).mono ?_; rintro e w' ⟨rfl, rfl⟩)
    go_ret2
    exact ⟨rfl, b2⟩

set_option maxHeartbeats 1000000 in
set_option maxRecDepth 100000 in
theorem end_any (y m d h i s a : Int) (a0 : -90000 ≤ a) (a1 : a ≤ 90000) (w : World) :
    Calls Tryz.prog 86 #[C6 y m d h i s, .int .i64 a] w fun e w' => e = .returned (fin y m d h i s a) ∧ Below w.heap.size w w' := by
  have hok := fun w => dw.spec_ok y m d h i s w
  have hst := fun k w => dw.spec_stamp y m d h i s k w
  unfold C6 at hok hst ⊢
  go_enter Tryz.func86, Tryz.ntmps86
  go_wp2_with fail
  refine (hok _).mono ?_
  rintro e w1 ⟨t, rfl, ht, b1⟩
  have L := (dw.lies_new w y m d h i s).below b1
  have b2 : Below w.heap.size w w1 := (dw.bel_box w _).trans (b1.mono (by simp))
  clear b1 hok
  cases t
  · have HN : Hid (¬ Ok y m d h i s) := fun k => by have := ht.2 k; cases this
    clear ht hst
    go_wp2
    go_ret2
    exact ⟨by rw [fin_no HN.out]; rfl, b2⟩
  have K : Hid (Ok y m d h i s) := ht.1 rfl
  have sb := st_bounds K.out
  clear ht
  have c0 := L.c0
  have c1 := L.c1
  have c2 := L.c2
  have c3 := L.c3
  have c4 := L.c4
  have c5 := L.c5
  clear L
  go_wp2_with fail
  refine (hst K.out _).mono ?_
  rintro e w2 ⟨rfl, b3⟩
  have b4 : Below w.heap.size w w2 := b2.trans (b3.mono b2.size)
  clear hst b2 b3 c0 c1 c2 c3 c4 c5
  cases b : dw.inB (st y m d h i s - a) 0 4102444799
  · go_wp2_with (go_at_call 55; refine (dw.in_any _ _ _ _).mono ?_; rintro e w' ⟨rfl, rfl⟩)
    go_ret2
    exact ⟨by rw [fin_out K.out b]; rfl, b4⟩
  · go_wp2_with (go_at_call 55; refine (dw.in_any _ _ _ _).mono ?_; rintro e w' ⟨rfl, rfl⟩)
    go_ret2
    exact ⟨by rw [fin_in K.out b]; rfl, b4⟩

/-- What stands behind a point and its digits. -/
def fi (r : List UInt8) : List UInt8 × Bool := if Lib.hasPrefix r [46] = true then ((r.drop 1).dropWhile isD, decide (((r.drop 1).dropWhile isD).length < (r.drop 1).length)) else (r, true)
theorem fi_no {r : List UInt8} (h : Lib.hasPrefix r [46] = false) : fi r = (r, true) := by unfold fi; rw [if_neg (by rw [h]; decide)]
theorem fi_yes {r : List UInt8} (h : Lib.hasPrefix r [46] = true) : fi r = ((r.drop 1).dropWhile isD, decide (((r.drop 1).dropWhile isD).length < (r.drop 1).length)) := by unfold fi; rw [if_pos h]
def tens : List UInt8 := [48, 49, 50, 51, 52, 53, 54, 55, 56, 57]
theorem tens_isD (b : UInt8) : tens.contains b = isD b := by
  rw [Bool.eq_iff_iff, isD_iff, List.contains_iff_mem]
  constructor
  · intro h
    simp only [tens, List.mem_cons, List.not_mem_nil, or_false] at h
    rcases h with rfl | rfl | rfl | rfl | rfl | rfl | rfl | rfl | rfl | rfl <;> decide
  · rintro ⟨h1, h2⟩
    have : b.toNat = 48 ∨ b.toNat = 49 ∨ b.toNat = 50 ∨ b.toNat = 51 ∨ b.toNat = 52 ∨ b.toNat = 53 ∨ b.toNat = 54 ∨ b.toNat = 55 ∨ b.toNat = 56 ∨ b.toNat = 57 := by omega
    have e : ∀ n, b.toNat = n → n < 256 → b = UInt8.ofNat n := fun n h hn => (nat_of_beq hn).2 (by omega)
    rcases this with h | h | h | h | h | h | h | h | h | h <;> (rw [e _ h (by decide)]; decide)
theorem trim_tens (l : List UInt8) : Lib.trimLeftS l tens = l.dropWhile isD := by
  unfold Lib.trimLeftS
  congr 1
  funext b
  exact tens_isD b

end Go.Proofs.YtadfdfmebdcfgaaGreatDoor.rd
