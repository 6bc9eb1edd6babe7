/-
  Contracts of the specification's zone, and of the program's function that sets a clock.
-/
import Derived.Test.YtadfdfmebdcfgaaGreatDoorRdd
namespace Go.Proofs.YtadfdfmebdcfgaaGreatDoor.rd
open Go.RowKit
open dt
set_option linter.unusedVariables false
theorem zn_sign {g : UInt8} {hh mm : List UInt8} (h1 : g ≠ 43) (h2 : g ≠ 45) : zn g hh mm = none := by
  unfold zn
  rw [if_neg (by rintro ⟨h | h, _⟩ <;> contradiction)]
theorem zn_hh {g : UInt8} {hh mm : List UInt8} (h : dw.inB (nb hh) 0 23 = false) : zn g hh mm = none := by
  unfold zn
  rw [if_neg (by have := dw.in_no_iff.1 h; omega)]
theorem zn_mm {g : UInt8} {hh mm : List UInt8} (h : dw.inB (nb mm) 0 59 = false) : zn g hh mm = none := by
  unfold zn
  rw [if_neg (by have := dw.in_no_iff.1 h; omega)]
theorem zn_in {g : UInt8} {hh mm : List UInt8} (hg : g = 43 ∨ g = 45) (h1 : dw.inB (nb hh) 0 23 = true) (h2 : dw.inB (nb mm) 0 59 = true) : zn g hh mm = some (if g = 45 then -(nb hh * 3600 + nb mm * 60) else nb hh * 3600 + nb mm * 60) := by
  unfold zn
  rw [if_pos ⟨hg, dw.in_iff.1 h1, dw.in_iff.1 h2⟩]

set_option maxHeartbeats 2000000 in
set_option maxRecDepth 100000 in
theorem zone_any (g : UInt8) (p q : ByteArray) (hp : p.size ≤ 4) (hq : q.size ≤ 4) (w : World) :
    Calls Tryz.prog 83 #[.int .u8 (g.toNat : Int), .string p, .string q] w fun e w' => e = .returned (zr (zn g p.data.toList q.data.toList)) ∧ w' = w := by
  have HP : Hid (∀ w, Calls Tryz.prog 82 #[.string p] w fun e w' => e = .returned (.int .i64 (nb p.data.toList)) ∧ w' = w) := fun w => nb_any p hp w
  have HQ : Hid (∀ w, Calls Tryz.prog 82 #[.string q] w fun e w' => e = .returned (.int .i64 (nb q.data.toList)) ∧ w' = w) := fun w => nb_any q hq w
  have p0 := nb_hi (l := p.data.toList) hp
  have q0 := nb_hi (l := q.data.toList) hq
  by_cases s1 : g = 43 ∨ g = 45
  rotate_left
  · have n1 : g ≠ 43 := fun e => s1 (.inl e)
    have n2 : g ≠ 45 := fun e => s1 (.inr e)
    have d1 : ((g.toNat : Int) != 43) = true := bne_iff_ne.2 (fun e => n1 ((nat_of_beq (n := 43) (by decide)).2 e))
    have d2 : ((g.toNat : Int) != 45) = true := bne_iff_ne.2 (fun e => n2 ((nat_of_beq (n := 45) (by decide)).2 e))
    rw [zn_sign n1 n2]
    clear s1 n1 n2
    go_enter Tryz.func83, Tryz.ntmps83
    go_wp2_with fail
    refine (HP.out _).mono ?_
    rintro e w' ⟨rfl, rfl⟩
    go_wp2_with fail
    refine (HQ.out _).mono ?_
    rintro e w' ⟨rfl, rfl⟩
    go_wp2
    go_ret2
    exact ⟨rfl, rfl⟩
  cases h1 : dw.inB (nb p.data.toList) 0 23
  · rw [zn_hh h1]
    generalize nb p.data.toList = A at p0 h1 HP ⊢
    generalize nb q.data.toList = B at q0 HQ ⊢
    rcases s1 with rfl | rfl
    all_goals
      go_enter Tryz.func83, Tryz.ntmps83
      go_wp2_with fail
      refine (HP.out _).mono ?_
      rintro e w' ⟨rfl, rfl⟩
      go_wp2_with fail
      refine (HQ.out _).mono ?_
      rintro e w' ⟨rfl, rfl⟩
      go_wp2_with (go_at_call 55; refine (dw.in_any _ _ _ _).mono ?_; rintro e w' ⟨rfl, rfl⟩)
      go_ret2
      exact ⟨rfl, rfl⟩
  cases h2 : dw.inB (nb q.data.toList) 0 59
  · rw [zn_mm h2]
    generalize nb p.data.toList = A at p0 h1 HP ⊢
    generalize nb q.data.toList = B at q0 h2 HQ ⊢
    rcases s1 with rfl | rfl
    all_goals
      go_enter Tryz.func83, Tryz.ntmps83
      go_wp2_with fail
      refine (HP.out _).mono ?_
      rintro e w' ⟨rfl, rfl⟩
      go_wp2_with fail
      refine (HQ.out _).mono ?_
      rintro e w' ⟨rfl, rfl⟩
      go_wp2_with (go_at_call 55; refine (dw.in_any _ _ _ _).mono ?_; rintro e w' ⟨rfl, rfl⟩)
      go_ret2
      exact ⟨rfl, rfl⟩
  rw [zn_in s1 h1 h2]
  generalize nb p.data.toList = A at p0 h1 HP ⊢
  generalize nb q.data.toList = B at q0 h2 HQ ⊢
  rcases s1 with rfl | rfl
  · rw [if_neg (by decide)]
    go_enter Tryz.func83, Tryz.ntmps83
    go_wp2_with fail
    refine (HP.out _).mono ?_
    rintro e w' ⟨rfl, rfl⟩
    go_wp2_with fail
    refine (HQ.out _).mono ?_
    rintro e w' ⟨rfl, rfl⟩
    go_wp2_with (go_at_call 55; refine (dw.in_any _ _ _ _).mono ?_; rintro e w' ⟨rfl, rfl⟩)
    go_ret2
    exact ⟨rfl, rfl⟩
  · rw [if_pos rfl]
    go_enter Tryz.func83, Tryz.ntmps83
    go_wp2_with fail
    refine (HP.out _).mono ?_
    rintro e w' ⟨rfl, rfl⟩
    go_wp2_with fail
    refine (HQ.out _).mono ?_
    rintro e w' ⟨rfl, rfl⟩
    go_wp2_with (go_at_call 55; refine (dw.in_any _ _ _ _).mono ?_; rintro e w' ⟨rfl, rfl⟩)
    go_ret2
    exact ⟨rfl, rfl⟩

set_option maxHeartbeats 2000000 in
set_option maxRecDepth 100000 in
theorem clock_any (w : World) (b : Nat) (y m d h0 i0 s0 : Int) (c : ByteArray) (L : dw.Lies w b y m d h0 i0 s0) (hc : 8 ≤ c.size) (hc' : c.size ≤ 65536)
    (g1 : dgs (c.extract 0 2).data.toList = true) (g2 : dgs (c.extract 3 5).data.toList = true) (g3 : dgs (c.extract 6 8).data.toList = true) :
    Calls Tryz.prog 167 #[.pointer (some ⟨b, 0, none⟩), .string c] w fun e w' => e = .returned (.tuple #[]) ∧ dw.Lies w' b y m d (num (c.extract 0 2).data.toList) (num (c.extract 3 5).data.toList) (num (c.extract 6 8).data.toList) ∧ ∀ B, B ≤ b → Below B w w' := by
  have HL : Hid (dw.Lies w b y m d h0 i0 s0) := L
  have c3 := L.c3
  have c4 := L.c4
  have c5 := L.c5
  have f3 : w.frozen? ⟨b, 3, none⟩ = false := frozen_of_row _ _ _ _ _ L
  have f4 : w.frozen? ⟨b, 4, none⟩ = false := frozen_of_row _ _ _ _ _ L
  have f5 : w.frozen? ⟨b, 5, none⟩ = false := frozen_of_row _ _ _ _ _ L
  have H1 : Hid (∀ w, Calls Tryz.prog 165 #[.string (c.extract 0 2)] w fun e w' => e = .returned (.int .i64 (num (c.extract 0 2).data.toList)) ∧ w' = w) := fun w => num_any _ (by rw [ext_size]; omega) g1 w
  have H2 : Hid (∀ w, Calls Tryz.prog 165 #[.string (c.extract 3 5)] w fun e w' => e = .returned (.int .i64 (num (c.extract 3 5).data.toList)) ∧ w' = w) := fun w => num_any _ (by rw [ext_size]; omega) g2 w
  have H3 : Hid (∀ w, Calls Tryz.prog 165 #[.string (c.extract 6 8)] w fun e w' => e = .returned (.int .i64 (num (c.extract 6 8).data.toList)) ∧ w' = w) := fun w => num_any _ (by rw [ext_size]; omega) g3 w
  generalize num (c.extract 0 2).data.toList = A1 at H1 ⊢
  generalize num (c.extract 3 5).data.toList = A2 at H2 ⊢
  generalize num (c.extract 6 8).data.toList = A3 at H3 ⊢
  clear L g1 g2 g3
  have s8 : (8 : Int) ≤ (c.size : Int) := by omega
  have s2 : (2 : Int) ≤ (c.size : Int) := by omega
  have s5 : (5 : Int) ≤ (c.size : Int) := by omega
  go_enter Tryz.func167, Tryz.ntmps167
  go_wp2_with fail
  go_region_with (first | (go_at_call_of 165 (c.extract 0 2); refine (H1.out _).mono ?_; rintro e w' ⟨rfl, rfl⟩) | (go_at_call_of 165 (c.extract 3 5); refine (H2.out _).mono ?_; rintro e w' ⟨rfl, rfl⟩) | (go_at_call_of 165 (c.extract 6 8); refine (H3.out _).mono ?_; rintro e w' ⟨rfl, rfl⟩))
  all_goals go_wp2
  refine bodyPost_end (v := .tuple #[]) (by simp [results, Tryz.results167, go_sem]) rfl ⟨rfl, ?_, ?_⟩
  · exact heap_setCell_same _ b 5 _ _ _ (heap_setCell_same _ b 4 _ _ _ (heap_setCell_same _ b 3 _ _ _ HL.out))
  · intro B hB
    exact ((((Below.refl B w).setCell (p := ⟨b, 3, none⟩) hB _).setCell (p := ⟨b, 4, none⟩) hB _).setCell (p := ⟨b, 5, none⟩) hB _).drew
end Go.Proofs.YtadfdfmebdcfgaaGreatDoor.rd
