/-
  spec.MutationOK answers whether a mutation is right.
  The specification's reading of a mutation, as a whole.
-/
import Derived.Test.YtncnbhekgkemfaaGreatDoorPkad
import Derived.Test.YtncnbhekgkemfaaGreatDoorPkbm
import Derived.Deep.RegionWith
import Derived.Deep.DeepCutAuto

namespace Go.Proofs.YtncnbhekgkemfaaGreatDoor.mu
open Go.RowKit
open it
set_option linter.unusedVariables false

set_option maxHeartbeats 4000000 in
set_option maxRecDepth 100000 in
theorem spec_mok (x : Mu) (v : Value) (w : World) (h : AttrsAt w v x.ps) (hx : Small x) :
    Calls Tryz.prog 80 #[MV x v] w fun e w' => e = .returned (.bool (mok x)) ∧ Below w.heap.size w w' := by
  have L0 := lies_new w 104 x v
  have b0 := new_below w 104 #[.int .i64 x.k, .int .i64 x.u, .int .i64 x.m, .int .i64 x.f, .string x.b, v]
  have HA : Hid (AttrsAt (w.alloc (.cells #[.int .i64 x.k, .int .i64 x.u, .int .i64 x.m, .int .i64 x.f, .string x.b, v] 104)) v x.ps) := at_below h b0
  obtain ⟨a, cap, rfl, _⟩ := h
  obtain ⟨hi, hbs, hps⟩ := hx
  have HPS : Hid (it.Small x.ps) := hps
  unfold MV
  clear hi hps
  obtain ⟨k, u, m, f, b, ps⟩ := x
  simp only at L0 b0 HA hbs HPS ⊢
  have HN : Hid (∀ w, Calls Tryz.prog 55 #[.string b] w fun e w' => e = .returned (.bool (nmB b)) ∧ w' = w) := fun w => spec_name b w hbs
  have HI : Hid (∀ (n a b : Int) (w : World), Calls Tryz.prog 48 #[.int .i64 n, .int .i64 a, .int .i64 b] w fun e w' => e = .returned (.bool (decide (a ≤ n ∧ n ≤ b))) ∧ w' = w) := in_any
  obtain ⟨n, hn⟩ : ∃ n, n = ps.length := ⟨_, rfl⟩
  have HL : Hid (n = ps.length) := hn
  have hnl : n ≤ 1048576 := by rw [hn]; exact HPS.out.1
  rw [← hn] at L0 b0 HA ⊢
  clear hn
  have HMN : Hid (nmB b = false → mok ⟨k, u, m, f, b, ps⟩ = false) := fun h => mok_name h
  have HMI : Hid (itsOK ps = false → mok ⟨k, u, m, f, b, ps⟩ = false) := fun h => mok_its h
  have HMK : Hid (nmB b = true → itsOK ps = true → mok ⟨k, u, m, f, b, ps⟩ = kindOK k u m f n) := fun h h2 => by rw [HL.out]; exact mok_kind h h2
  generalize mok ⟨k, u, m, f, b, ps⟩ = MOK at HMN HMI HMK ⊢
  go_enter Tryz.func80, Tryz.ntmps80
  go_wp2_with fail
  generalize w.alloc _ = w0 at L0 b0 HA ⊢
  refine (HN.out _).mono ?_
  rintro e w' ⟨rfl, rfl⟩
  generalize nmB b = nb at HMN HMK ⊢
  have c0 := L0.c0
  have c1 := L0.c1
  have c2 := L0.c2
  have c3 := L0.c3
  have c5 := L0.c5
  simp only at c0 c1 c2 c3 c5
  clear L0 HN
  cases nb
  · go_wp2
    go_ret
    exact ⟨ret_bool (HMN.out (by trivial)).symm, b0⟩
  clear HMN
  by_cases g0 : 20 < n
  · have g0' : (20 : Int) < (n : Int) := by omega
    have HZ : Hid (MOK = false) := HMI.out (its_no (by have := HL.out; omega))
    go_wp2
    go_ret
    exact ⟨ret_bool HZ.out.symm, b0⟩
  have g0' : (n : Int) ≤ 20 := by omega
  have HH : Hid (ps = [] ∨ ∃ b off, a = some ⟨b, off, none⟩ ∧ ∀ j, j < ps.length → w'.cell? ⟨b, off + j * 2, none⟩ = some (.string (ps.getD j no).1) ∧ w'.cell? ⟨b, off + j * 2 + 1, none⟩ = some (.string (ps.getD j no).2)) := by
    obtain ⟨a', cap', hv, h⟩ := HA.out
    cases hv
    exact h
  clear HA
  go_wp2
  go_loopw [3] (fun i wr => ∃ (k : Nat), k ≤ n ∧ i = .int .i64 k ∧ AllTo ps k ∧ wr = w') (fun i _ => n - (intOf i).toNat)
  case atStart => exact ⟨0, Nat.zero_le _, rfl, fun j hj => absurd hj (Nat.not_lt_zero _), rfl⟩
  case round =>
    obtain ⟨q, hk, rfl, hal, rfl⟩ := hrel
    have HAL : Hid (AllTo ps q) := hal
    clear hal
    by_cases hlt : q < n
    · have hka : q < ps.length := by rw [← HL.out]; exact hlt
      rcases HH.out with e | ⟨bb, off, rfl, hcells⟩
      · rw [e] at hka; simp at hka
      obtain ⟨d0, d1⟩ := hcells q hka
      obtain ⟨s0, s1⟩ := HPS.out.2 q hka
      clear hcells
      generalize hn1 : (ps.getD q no).1 = nm at d0 s0
      generalize hv1 : (ps.getD q no).2 = vl at d1 s1
      have HN1 : Hid ((ps.getD q no).1 = nm) := hn1
      have HV1 : Hid ((ps.getD q no).2 = vl) := hv1
      have HKA : Hid (q < ps.length) := hka
      clear hn1 hv1 hka
      have hlt' : (q : Int) < (n : Int) := by omega
      by_cases q0 : 1 ≤ nm.size ∧ nm.size ≤ 200
      · have e0 : decide ((1 : Int) ≤ (nm.size : Int) ∧ (nm.size : Int) ≤ 200) = true := decide_eq_true (by omega)
        by_cases q1 : vl.size ≤ 4000
        · have q1' : (vl.size : Int) ≤ 4000 := by omega
          go_wp2_with (go_at_call 48; refine (HI.out _ _ _ _).mono ?_; rintro e w' ⟨rfl, rfl⟩; rw [e0])
          go_roundw
          case rel => exact ⟨q + 1, by omega, by go_num, all_step HAL.out HN1.out HV1.out (decide_eq_true ⟨q0, q1⟩), by trivial⟩
          case measure => simp [intOf]; omega
        · have q1' : (4000 : Int) < (vl.size : Int) := by omega
          have HR : Hid (MOK = false) := HMI.out (all_bad HKA.out HN1.out HV1.out (decide_eq_false fun x => q1 x.2))
          go_wp2_with (go_at_call 48; refine (HI.out _ _ _ _).mono ?_; rintro e w' ⟨rfl, rfl⟩; rw [e0])
          go_ret
          exact ⟨ret_bool HR.out.symm, b0⟩
      · have e0 : decide ((1 : Int) ≤ (nm.size : Int) ∧ (nm.size : Int) ≤ 200) = false := decide_eq_false (by omega)
        have HR : Hid (MOK = false) := HMI.out (all_bad HKA.out HN1.out HV1.out (decide_eq_false fun x => q0 x.1))
        go_wp2_with (go_at_call 48; refine (HI.out _ _ _ _).mono ?_; rintro e w' ⟨rfl, rfl⟩; rw [e0])
        go_ret
        exact ⟨ret_bool HR.out.symm, b0⟩
    · have HR : Hid (MOK = kindOK k u m f n) := HMK.out (by trivial) (its_yes (by have := HL.out; omega) (fun j hj => HAL.out j (by have := HL.out; omega)))
      have KK : Hid (MOK = true ↔ ((k = 1 ∨ k = 4) ∧ u = 0 ∧ m = 0 ∧ f = 0 ∧ n = 0 ∨ k = 2 ∧ u = 0 ∧ m = 0 ∧ f = 0 ∧ 0 < n ∨ k = 3 ∧ n = 0 ∧ 1 ≤ u ∧ u ≤ 1000 ∧ 1 ≤ m ∧ m ≤ 3 ∧ 0 ≤ f ∧ f ≤ 31)) := by rw [HR.out]; exact kind_is k u m f n
      clear HR HMK HMI HAL HH HPS
      have hbw := b0
      clear b0
      by_cases h1 : k = 1
      · subst h1
        by_cases hu : u = 0
        · have hu' : (u == 0) = true := by simp [hu]
          by_cases hm : m = 0
          · have hm' : (m == 0) = true := by simp [hm]
            by_cases hf : f = 0
            · have hf' : (f == 0) = true := by simp [hf]
              by_cases hn : n = 0
              · have hn' : ((n : Int) == 0) = true := by simp [hn]
                have HY : Hid (MOK = true) := KK.out.2 (by omega)
                go_wp2
                go_ret
                exact ⟨ret_bool (by first | exact HY.out.symm | (rw [HY.out]; simp; omega)), hbw⟩
              · have hn' : ((n : Int) == 0) = false := by simp [hn]
                have HZ : Hid (MOK = false) := Bool.eq_false_iff.2 fun x => by have := KK.out.1 x; omega
                skip
                go_wp2
                go_ret
                exact ⟨ret_bool (by first | exact HZ.out.symm | (rw [HZ.out]; simp; omega)), hbw⟩
            · have hf' : (f == 0) = false := by simp [hf]
              have HZ : Hid (MOK = false) := Bool.eq_false_iff.2 fun x => by have := KK.out.1 x; omega
              clear hf
              go_wp2
              go_ret
              exact ⟨ret_bool (by first | exact HZ.out.symm | (rw [HZ.out]; simp; omega)), hbw⟩
          · have hm' : (m == 0) = false := by simp [hm]
            have HZ : Hid (MOK = false) := Bool.eq_false_iff.2 fun x => by have := KK.out.1 x; omega
            clear hm
            go_wp2
            go_ret
            exact ⟨ret_bool (by first | exact HZ.out.symm | (rw [HZ.out]; simp; omega)), hbw⟩
        · have hu' : (u == 0) = false := by simp [hu]
          have HZ : Hid (MOK = false) := Bool.eq_false_iff.2 fun x => by have := KK.out.1 x; omega
          clear hu
          go_wp2
          go_ret
          exact ⟨ret_bool (by first | exact HZ.out.symm | (rw [HZ.out]; simp; omega)), hbw⟩
      by_cases h4 : k = 4
      · subst h4
        by_cases hu : u = 0
        · have hu' : (u == 0) = true := by simp [hu]
          by_cases hm : m = 0
          · have hm' : (m == 0) = true := by simp [hm]
            by_cases hf : f = 0
            · have hf' : (f == 0) = true := by simp [hf]
              by_cases hn : n = 0
              · have hn' : ((n : Int) == 0) = true := by simp [hn]
                have HY : Hid (MOK = true) := KK.out.2 (by omega)
                go_wp2
                go_ret
                exact ⟨ret_bool (by first | exact HY.out.symm | (rw [HY.out]; simp; omega)), hbw⟩
              · have hn' : ((n : Int) == 0) = false := by simp [hn]
                have HZ : Hid (MOK = false) := Bool.eq_false_iff.2 fun x => by have := KK.out.1 x; omega
                skip
                go_wp2
                go_ret
                exact ⟨ret_bool (by first | exact HZ.out.symm | (rw [HZ.out]; simp; omega)), hbw⟩
            · have hf' : (f == 0) = false := by simp [hf]
              have HZ : Hid (MOK = false) := Bool.eq_false_iff.2 fun x => by have := KK.out.1 x; omega
              clear hf
              go_wp2
              go_ret
              exact ⟨ret_bool (by first | exact HZ.out.symm | (rw [HZ.out]; simp; omega)), hbw⟩
          · have hm' : (m == 0) = false := by simp [hm]
            have HZ : Hid (MOK = false) := Bool.eq_false_iff.2 fun x => by have := KK.out.1 x; omega
            clear hm
            go_wp2
            go_ret
            exact ⟨ret_bool (by first | exact HZ.out.symm | (rw [HZ.out]; simp; omega)), hbw⟩
        · have hu' : (u == 0) = false := by simp [hu]
          have HZ : Hid (MOK = false) := Bool.eq_false_iff.2 fun x => by have := KK.out.1 x; omega
          clear hu
          go_wp2
          go_ret
          exact ⟨ret_bool (by first | exact HZ.out.symm | (rw [HZ.out]; simp; omega)), hbw⟩
      by_cases h2 : k = 2
      · subst h2
        by_cases hu : u = 0
        · have hu' : (u == 0) = true := by simp [hu]
          by_cases hm : m = 0
          · have hm' : (m == 0) = true := by simp [hm]
            by_cases hf : f = 0
            · have hf' : (f == 0) = true := by simp [hf]
              by_cases hn : 0 < n
              · have hn' : (0 : Int) < (n : Int) := by omega
                have HY : Hid (MOK = true) := KK.out.2 (by omega)
                go_wp2
                go_ret
                exact ⟨ret_bool (by first | exact HY.out.symm | (rw [HY.out]; simp; omega)), hbw⟩
              · have hn' : (n : Int) ≤ 0 := by omega
                have HZ : Hid (MOK = false) := Bool.eq_false_iff.2 fun x => by have := KK.out.1 x; omega
                skip
                go_wp2
                go_ret
                exact ⟨ret_bool (by first | exact HZ.out.symm | (rw [HZ.out]; simp; omega)), hbw⟩
            · have hf' : (f == 0) = false := by simp [hf]
              have HZ : Hid (MOK = false) := Bool.eq_false_iff.2 fun x => by have := KK.out.1 x; omega
              clear hf
              go_wp2
              go_ret
              exact ⟨ret_bool (by first | exact HZ.out.symm | (rw [HZ.out]; simp; omega)), hbw⟩
          · have hm' : (m == 0) = false := by simp [hm]
            have HZ : Hid (MOK = false) := Bool.eq_false_iff.2 fun x => by have := KK.out.1 x; omega
            clear hm
            go_wp2
            go_ret
            exact ⟨ret_bool (by first | exact HZ.out.symm | (rw [HZ.out]; simp; omega)), hbw⟩
        · have hu' : (u == 0) = false := by simp [hu]
          have HZ : Hid (MOK = false) := Bool.eq_false_iff.2 fun x => by have := KK.out.1 x; omega
          clear hu
          go_wp2
          go_ret
          exact ⟨ret_bool (by first | exact HZ.out.symm | (rw [HZ.out]; simp; omega)), hbw⟩
      have e1 : (k == 1) = false := by simp [h1]
      have e4 : (k == 4) = false := by simp [h4]
      have e2 : (k == 2) = false := by simp [h2]
      by_cases h3 : k = 3
      · subst h3
        clear e1 e4 e2
        by_cases hu : 1 ≤ u ∧ u ≤ 1000
        · have hu' : decide (1 ≤ u ∧ u ≤ 1000) = true := decide_eq_true hu
          by_cases hm : 1 ≤ m ∧ m ≤ 3
          · have hm' : decide (1 ≤ m ∧ m ≤ 3) = true := decide_eq_true hm
            by_cases hf : 0 ≤ f ∧ f ≤ 31
            · have hf' : decide (0 ≤ f ∧ f ≤ 31) = true := decide_eq_true hf
              by_cases hn : n = 0
              · have hn' : ((n : Int) == 0) = true := by simp [hn]
                have HY : Hid (MOK = true) := KK.out.2 (by omega)
                go_wp2_with (go_at_call 48; refine (HI.out _ _ _ _).mono ?_; rintro e w' ⟨rfl, rfl⟩; first | rw [hu'] | rw [hm'] | rw [hf'])
                go_ret
                exact ⟨ret_bool (by first | exact HY.out.symm | (rw [HY.out]; simp; omega)), hbw⟩
              · have hn' : ((n : Int) == 0) = false := by simp [hn]
                have HZ : Hid (MOK = false) := Bool.eq_false_iff.2 fun x => by have := KK.out.1 x; omega
                skip
                go_wp2_with (go_at_call 48; refine (HI.out _ _ _ _).mono ?_; rintro e w' ⟨rfl, rfl⟩; first | rw [hu'] | rw [hm'] | rw [hf'])
                go_ret
                exact ⟨ret_bool (by first | exact HZ.out.symm | (rw [HZ.out]; simp; omega)), hbw⟩
            · have hf' : decide (0 ≤ f ∧ f ≤ 31) = false := decide_eq_false hf
              have HZ : Hid (MOK = false) := Bool.eq_false_iff.2 fun x => by have := KK.out.1 x; omega
              clear hf
              go_wp2_with (go_at_call 48; refine (HI.out _ _ _ _).mono ?_; rintro e w' ⟨rfl, rfl⟩; first | rw [hu'] | rw [hm'] | rw [hf'])
              go_ret
              exact ⟨ret_bool (by first | exact HZ.out.symm | (rw [HZ.out]; simp; omega)), hbw⟩
          · have hm' : decide (1 ≤ m ∧ m ≤ 3) = false := decide_eq_false hm
            have HZ : Hid (MOK = false) := Bool.eq_false_iff.2 fun x => by have := KK.out.1 x; omega
            clear hm
            go_wp2_with (go_at_call 48; refine (HI.out _ _ _ _).mono ?_; rintro e w' ⟨rfl, rfl⟩; first | rw [hu'] | rw [hm'] | rw [hf'])
            go_ret
            exact ⟨ret_bool (by first | exact HZ.out.symm | (rw [HZ.out]; simp; omega)), hbw⟩
        · have hu' : decide (1 ≤ u ∧ u ≤ 1000) = false := decide_eq_false hu
          have HZ : Hid (MOK = false) := Bool.eq_false_iff.2 fun x => by have := KK.out.1 x; omega
          clear hu
          go_wp2_with (go_at_call 48; refine (HI.out _ _ _ _).mono ?_; rintro e w' ⟨rfl, rfl⟩; first | rw [hu'] | rw [hm'] | rw [hf'])
          go_ret
          exact ⟨ret_bool (by first | exact HZ.out.symm | (rw [HZ.out]; simp; omega)), hbw⟩
      · have e3 : (k == 3) = false := by simp [h3]
        have HZ : Hid (MOK = false) := Bool.eq_false_iff.2 fun x => by have := KK.out.1 x; omega
        go_wp2_with (go_at_call 48; refine (HI.out _ _ _ _).mono ?_; rintro e w' ⟨rfl, rfl⟩; first | rw [hu'] | rw [hm'] | rw [hf'])
        go_ret
        exact ⟨ret_bool (by first | exact HZ.out.symm | (rw [HZ.out]; simp; omega)), hbw⟩
end Go.Proofs.YtncnbhekgkemfaaGreatDoor.mu

namespace Go.Proofs.YtncnbhekgkemfaaGreatDoor.rm
open Go.RowKit Go.Deep
open it
set_option linter.unusedVariables false

/-- A row of items and a variable of a mutation lie apart. -/
theorem row_var {x : World} {base M : Nat} {v : Value} {ps : List Pr} {v0 v1 v2 v3 v4 v5 : Value} (h : Rows2 x base v ps) (hB : B6 x M 104 v0 v1 v2 v3 v4 v5) : v.ownBlock ≠ some M := by
  intro hk
  rcases h.2 with ⟨rfl, _⟩ | ⟨g, cap, cur, rfl, _, hb, _⟩
  · simp [Value.ownBlock] at hk
  · have e : g = M := by simpa [Value.ownBlock] using hk
    subst e
    unfold B6 at hB
    rw [hB] at hb
    simp at hb
theorem wrap64_nat {n : Nat} (h : n < 4294967296) : IntKind.i64.wrap (n : Int) = (n : Int) := by
  simp only [IntKind.wrap, IntKind.bits, IntKind.signed]
  simp
  omega
/-- Where the items begin. -/
structure Hd where
  k0 : Nat
  k1 : Nat
  k2 : Nat
  k5 : Nat
  b : ByteArray
/-- The variable of the mutation that is read, and the one of the answer. -/
def Var (w x : World) (M : Nat) (p : Hd) (v : Value) (ps : List Pr) : Prop :=
  B6 x M 104 (.int .i64 p.k0) (.int .i64 p.k5) (.int .i64 p.k1) (.int .i64 p.k2) (.string p.b) v ∧ Zero x w.heap.size ∧ Rows2 x (w.heap.size + 1) v ps ∧ Below w.heap.size w x ∧ w.heap.size < M

set_option maxHeartbeats 4000000 in
set_option maxRecDepth 100000 in
theorem read_few (t : ByteArray) (w : World) (g1 : t.size < 7) :
    Calls Tryz.prog 52 #[.string t] w fun e w' => (∃ x u, e = .returned (.tuple #[mu.MV x u, .bool (rok t)]) ∧ (rok t = true → x = mtn (t, false)) ∧ Rows2 w' w.heap.size u x.ps) ∧ Below w.heap.size w w' := by
  have b0 : Below w.heap.size w (w.alloc (.cells #[.int .i64 0, .int .i64 0, .int .i64 0, .int .i64 0, .string ⟨#[]⟩, .slice none 0 0] 104)) := (Below.refl _ _).alloc (Nat.le_refl _) _
  have HK : Hid (rok t = false) := rok_few g1
  have g1' : (t.size : Int) < 7 := by omega
  go_enter Tryz.func52, Tryz.ntmps52
  go_wp2
  exact bodyPost_ret (v := .tuple #[.agg #[.int .i64 0, .int .i64 0, .int .i64 0, .int .i64 0, .string ⟨#[]⟩, .slice none 0 0], .bool false]) (by simp [results, Tryz.results52, go_sem]) rfl ⟨⟨noM, _, by rw [HK.out]; rfl, fun h => (by rw [HK.out] at h; cases h), rows_nil _ _⟩, b0⟩

set_option maxHeartbeats 4000000 in
set_option maxRecDepth 100000 in
theorem read_name (t : ByteArray) (w : World) (ht : t.size ≤ 1048576) (g1 : 7 ≤ t.size) (g2 : t.size < 7 + (t[4]).toNat) :
    Calls Tryz.prog 52 #[.string t] w fun e w' => (∃ x u, e = .returned (.tuple #[mu.MV x u, .bool (rok t)]) ∧ (rok t = true → x = mtn (t, false)) ∧ Rows2 w' w.heap.size u x.ps) ∧ Below w.heap.size w w' := by
  have b0 : Below w.heap.size w (w.alloc (.cells #[.int .i64 0, .int .i64 0, .int .i64 0, .int .i64 0, .string ⟨#[]⟩, .slice none 0 0] 104)) := (Below.refl _ _).alloc (Nat.le_refl _) _
  have HK : Hid (rok t = false) := rok_name g1 g2
  have g1' : (7 : Int) ≤ (t.size : Int) := by omega
  have x4 : (4 : Nat) < t.size := by omega
  have q4 : (t[4]).toNat < 256 := (t[4]).toNat_lt
  have g2' : (t.size : Int) < 7 + ((t[4]).toNat : Int) := by omega
  go_enter Tryz.func52, Tryz.ntmps52
  go_wp2
  exact bodyPost_ret (v := .tuple #[.agg #[.int .i64 0, .int .i64 0, .int .i64 0, .int .i64 0, .string ⟨#[]⟩, .slice none 0 0], .bool false]) (by simp [results, Tryz.results52, go_sem]) rfl ⟨⟨noM, _, by rw [HK.out]; rfl, fun h => (by rw [HK.out] at h; cases h), rows_nil _ _⟩, b0⟩
end Go.Proofs.YtncnbhekgkemfaaGreatDoor.rm
