/-
  spec.MutationOK answers whether a mutation is right.
  The specification's ApplyMutation, as a whole.
-/
import Derived.Test.YtgjjeabjnkenkaaPkbi
import Derived.Test.YtgjjeabjnkenkaaPkar

namespace Go.Proofs.Ytgjjeabjnkenkaa.mu
open Go.RowKit
open it
set_option linter.unusedVariables false

set_option maxHeartbeats 4000000 in
set_option maxRecDepth 100000 in
theorem spec_mok (x : Mu) (v : Value) (w : World) (h : AttrsAt w v x.ps) (hx : Small x) :
    Calls Try.prog 18 #[MV x v] w fun e w' => e = .returned (.bool (mok x)) ∧ Below w.heap.size w w' := by
  have L0 := lies_new w 34 x v
  have b0 := new_below w 34 #[.int .i64 x.k, .int .i64 x.u, .int .i64 x.m, .int .i64 x.f, .string x.b, v]
  have HA : Hid (AttrsAt (w.alloc (.cells #[.int .i64 x.k, .int .i64 x.u, .int .i64 x.m, .int .i64 x.f, .string x.b, v] 34)) v x.ps) := at_below h b0
  obtain ⟨a, cap, rfl, _⟩ := h
  obtain ⟨hi, hbs, hps⟩ := hx
  have HPS : Hid (it.Small x.ps) := hps
  unfold MV
  clear hi hps
  obtain ⟨k, u, m, f, b, ps⟩ := x
  simp only at L0 b0 HA hbs HPS ⊢
  have HN : Hid (∀ w, Calls Try.prog 47 #[.string b] w fun e w' => e = .returned (.bool (nmB b)) ∧ w' = w) := fun w => spec_name b w hbs
  have HI : Hid (∀ (n a b : Int) (w : World), Calls Try.prog 48 #[.int .i64 n, .int .i64 a, .int .i64 b] w fun e w' => e = .returned (.bool (decide (a ≤ n ∧ n ≤ b))) ∧ w' = w) := in_any
  obtain ⟨n, hn⟩ : ∃ n, n = ps.length := ⟨_, rfl⟩
  have HL : Hid (n = ps.length) := hn
  have hnl : n ≤ 1048576 := by rw [hn]; exact HPS.out.1
  rw [← hn] at L0 b0 HA ⊢
  clear hn
  have HMN : Hid (nmB b = false → mok ⟨k, u, m, f, b, ps⟩ = false) := fun h => mok_name h
  have HMI : Hid (itsOK ps = false → mok ⟨k, u, m, f, b, ps⟩ = false) := fun h => mok_its h
  have HMK : Hid (nmB b = true → itsOK ps = true → mok ⟨k, u, m, f, b, ps⟩ = kindOK k u m f n) := fun h h2 => by rw [HL.out]; exact mok_kind h h2
  generalize mok ⟨k, u, m, f, b, ps⟩ = MOK at HMN HMI HMK ⊢
  go_enter Try.func18, Try.ntmps18
  go_wp2_with fail
  generalize w.alloc _ = w0 at L0 b0 HA ⊢
  refine (HN.out _).mono ?_
  rintro e w' ⟨rfl, rfl⟩
  generalize nmB b = nb at HMN HMK ⊢
  have c0 := L0.c0
  have c1 := L0.c1
  have c2 := L0.c2
  have c3 := L0.c3
  have c5 := L0.c5
  simp only at c0 c1 c2 c3 c5
  clear L0 HN
  cases nb
  · go_wp2
    go_ret
    exact ⟨ret_bool (HMN.out (by trivial)).symm, b0⟩
  clear HMN
  by_cases g0 : 20 < n
  · have g0' : (20 : Int) < (n : Int) := by omega
    have HZ : Hid (MOK = false) := HMI.out (its_no (by have := HL.out; omega))
    go_wp2
    go_ret
    exact ⟨ret_bool HZ.out.symm, b0⟩
  have g0' : (n : Int) ≤ 20 := by omega
  have HH : Hid (ps = [] ∨ ∃ b off, a = some ⟨b, off, none⟩ ∧ ∀ j, j < ps.length → w'.cell? ⟨b, off + j * 2, none⟩ = some (.string (ps.getD j no).1) ∧ w'.cell? ⟨b, off + j * 2 + 1, none⟩ = some (.string (ps.getD j no).2)) := by
    obtain ⟨a', cap', hv, h⟩ := HA.out
    cases hv
    exact h
  clear HA
  go_wp2
  go_loopw [3] (fun i wr => ∃ (k : Nat), k ≤ n ∧ i = .int .i64 k ∧ AllTo ps k ∧ wr = w') (fun i _ => n - (intOf i).toNat)
  case atStart => exact ⟨0, Nat.zero_le _, rfl, fun j hj => absurd hj (Nat.not_lt_zero _), rfl⟩
  case round =>
    obtain ⟨q, hk, rfl, hal, rfl⟩ := hrel
    have HAL : Hid (AllTo ps q) := hal
    clear hal
    by_cases hlt : q < n
    · have hka : q < ps.length := by rw [← HL.out]; exact hlt
      rcases HH.out with e | ⟨bb, off, rfl, hcells⟩
      · rw [e] at hka; simp at hka
      obtain ⟨d0, d1⟩ := hcells q hka
      obtain ⟨s0, s1⟩ := HPS.out.2 q hka
      clear hcells
      generalize hn1 : (ps.getD q no).1 = nm at d0 s0
      generalize hv1 : (ps.getD q no).2 = vl at d1 s1
      have HN1 : Hid ((ps.getD q no).1 = nm) := hn1
      have HV1 : Hid ((ps.getD q no).2 = vl) := hv1
      have HKA : Hid (q < ps.length) := hka
      clear hn1 hv1 hka
      have hlt' : (q : Int) < (n : Int) := by omega
      by_cases q0 : 1 ≤ nm.size ∧ nm.size ≤ 200
      · have e0 : decide ((1 : Int) ≤ (nm.size : Int) ∧ (nm.size : Int) ≤ 200) = true := decide_eq_true (by omega)
        by_cases q1 : vl.size ≤ 4000
        · have q1' : (vl.size : Int) ≤ 4000 := by omega
          go_wp2_with (go_at_call 48; refine (HI.out _ _ _ _).mono ?_; rintro e w' ⟨rfl, rfl⟩; rw [e0])
          go_roundw
          case rel => exact ⟨q + 1, by omega, by go_num, all_step HAL.out HN1.out HV1.out (decide_eq_true ⟨q0, q1⟩), by trivial⟩
          case measure => simp [intOf]; omega
        · have q1' : (4000 : Int) < (vl.size : Int) := by omega
          have HR : Hid (MOK = false) := HMI.out (all_bad HKA.out HN1.out HV1.out (decide_eq_false fun x => q1 x.2))
          go_wp2_with (go_at_call 48; refine (HI.out _ _ _ _).mono ?_; rintro e w' ⟨rfl, rfl⟩; rw [e0])
          go_ret
          exact ⟨ret_bool HR.out.symm, b0⟩
      · have e0 : decide ((1 : Int) ≤ (nm.size : Int) ∧ (nm.size : Int) ≤ 200) = false := decide_eq_false (by omega)
        have HR : Hid (MOK = false) := HMI.out (all_bad HKA.out HN1.out HV1.out (decide_eq_false fun x => q0 x.1))
        go_wp2_with (go_at_call 48; refine (HI.out _ _ _ _).mono ?_; rintro e w' ⟨rfl, rfl⟩; rw [e0])
        go_ret
        exact ⟨ret_bool HR.out.symm, b0⟩
    · have HR : Hid (MOK = kindOK k u m f n) := HMK.out (by trivial) (its_yes (by have := HL.out; omega) (fun j hj => HAL.out j (by have := HL.out; omega)))
      have KK : Hid (MOK = true ↔ ((k = 1 ∨ k = 4) ∧ u = 0 ∧ m = 0 ∧ f = 0 ∧ n = 0 ∨ k = 2 ∧ u = 0 ∧ m = 0 ∧ f = 0 ∧ 0 < n ∨ k = 3 ∧ n = 0 ∧ 1 ≤ u ∧ u ≤ 1000 ∧ 1 ≤ m ∧ m ≤ 3 ∧ 0 ≤ f ∧ f ≤ 31)) := by rw [HR.out]; exact kind_is k u m f n
      clear HR HMK HMI HAL HH HPS
      have hbw := b0
      clear b0
      by_cases h1 : k = 1
      · subst h1
        by_cases hu : u = 0
        · have hu' : (u == 0) = true := by simp [hu]
          by_cases hm : m = 0
          · have hm' : (m == 0) = true := by simp [hm]
            by_cases hf : f = 0
            · have hf' : (f == 0) = true := by simp [hf]
              by_cases hn : n = 0
              · have hn' : ((n : Int) == 0) = true := by simp [hn]
                have HY : Hid (MOK = true) := KK.out.2 (by omega)
                go_wp2
                go_ret
                exact ⟨ret_bool (by first | exact HY.out.symm | (rw [HY.out]; simp; omega)), hbw⟩
              · have hn' : ((n : Int) == 0) = false := by simp [hn]
                have HZ : Hid (MOK = false) := Bool.eq_false_iff.2 fun x => by have := KK.out.1 x; omega
                skip
                go_wp2
                go_ret
                exact ⟨ret_bool (by first | exact HZ.out.symm | (rw [HZ.out]; simp; omega)), hbw⟩
            · have hf' : (f == 0) = false := by simp [hf]
              have HZ : Hid (MOK = false) := Bool.eq_false_iff.2 fun x => by have := KK.out.1 x; omega
              clear hf
              go_wp2
              go_ret
              exact ⟨ret_bool (by first | exact HZ.out.symm | (rw [HZ.out]; simp; omega)), hbw⟩
          · have hm' : (m == 0) = false := by simp [hm]
            have HZ : Hid (MOK = false) := Bool.eq_false_iff.2 fun x => by have := KK.out.1 x; omega
            clear hm
            go_wp2
            go_ret
            exact ⟨ret_bool (by first | exact HZ.out.symm | (rw [HZ.out]; simp; omega)), hbw⟩
        · have hu' : (u == 0) = false := by simp [hu]
          have HZ : Hid (MOK = false) := Bool.eq_false_iff.2 fun x => by have := KK.out.1 x; omega
          clear hu
          go_wp2
          go_ret
          exact ⟨ret_bool (by first | exact HZ.out.symm | (rw [HZ.out]; simp; omega)), hbw⟩
      by_cases h4 : k = 4
      · subst h4
        by_cases hu : u = 0
        · have hu' : (u == 0) = true := by simp [hu]
          by_cases hm : m = 0
          · have hm' : (m == 0) = true := by simp [hm]
            by_cases hf : f = 0
            · have hf' : (f == 0) = true := by simp [hf]
              by_cases hn : n = 0
              · have hn' : ((n : Int) == 0) = true := by simp [hn]
                have HY : Hid (MOK = true) := KK.out.2 (by omega)
                go_wp2
                go_ret
                exact ⟨ret_bool (by first | exact HY.out.symm | (rw [HY.out]; simp; omega)), hbw⟩
              · have hn' : ((n : Int) == 0) = false := by simp [hn]
                have HZ : Hid (MOK = false) := Bool.eq_false_iff.2 fun x => by have := KK.out.1 x; omega
                skip
                go_wp2
                go_ret
                exact ⟨ret_bool (by first | exact HZ.out.symm | (rw [HZ.out]; simp; omega)), hbw⟩
            · have hf' : (f == 0) = false := by simp [hf]
              have HZ : Hid (MOK = false) := Bool.eq_false_iff.2 fun x => by have := KK.out.1 x; omega
              clear hf
              go_wp2
              go_ret
              exact ⟨ret_bool (by first | exact HZ.out.symm | (rw [HZ.out]; simp; omega)), hbw⟩
          · have hm' : (m == 0) = false := by simp [hm]
            have HZ : Hid (MOK = false) := Bool.eq_false_iff.2 fun x => by have := KK.out.1 x; omega
            clear hm
            go_wp2
            go_ret
            exact ⟨ret_bool (by first | exact HZ.out.symm | (rw [HZ.out]; simp; omega)), hbw⟩
        · have hu' : (u == 0) = false := by simp [hu]
          have HZ : Hid (MOK = false) := Bool.eq_false_iff.2 fun x => by have := KK.out.1 x; omega
          clear hu
          go_wp2
          go_ret
          exact ⟨ret_bool (by first | exact HZ.out.symm | (rw [HZ.out]; simp; omega)), hbw⟩
      by_cases h2 : k = 2
      · subst h2
        by_cases hu : u = 0
        · have hu' : (u == 0) = true := by simp [hu]
          by_cases hm : m = 0
          · have hm' : (m == 0) = true := by simp [hm]
            by_cases hf : f = 0
            · have hf' : (f == 0) = true := by simp [hf]
              by_cases hn : 0 < n
              · have hn' : (0 : Int) < (n : Int) := by omega
                have HY : Hid (MOK = true) := KK.out.2 (by omega)
                go_wp2
                go_ret
                exact ⟨ret_bool (by first | exact HY.out.symm | (rw [HY.out]; simp; omega)), hbw⟩
              · have hn' : (n : Int) ≤ 0 := by omega
                have HZ : Hid (MOK = false) := Bool.eq_false_iff.2 fun x => by have := KK.out.1 x; omega
                skip
                go_wp2
                go_ret
                exact ⟨ret_bool (by first | exact HZ.out.symm | (rw [HZ.out]; simp; omega)), hbw⟩
            · have hf' : (f == 0) = false := by simp [hf]
              have HZ : Hid (MOK = false) := Bool.eq_false_iff.2 fun x => by have := KK.out.1 x; omega
              clear hf
              go_wp2
              go_ret
              exact ⟨ret_bool (by first | exact HZ.out.symm | (rw [HZ.out]; simp; omega)), hbw⟩
          · have hm' : (m == 0) = false := by simp [hm]
            have HZ : Hid (MOK = false) := Bool.eq_false_iff.2 fun x => by have := KK.out.1 x; omega
            clear hm
            go_wp2
            go_ret
            exact ⟨ret_bool (by first | exact HZ.out.symm | (rw [HZ.out]; simp; omega)), hbw⟩
        · have hu' : (u == 0) = false := by simp [hu]
          have HZ : Hid (MOK = false) := Bool.eq_false_iff.2 fun x => by have := KK.out.1 x; omega
          clear hu
          go_wp2
          go_ret
          exact ⟨ret_bool (by first | exact HZ.out.symm | (rw [HZ.out]; simp; omega)), hbw⟩
      have e1 : (k == 1) = false := by simp [h1]
      have e4 : (k == 4) = false := by simp [h4]
      have e2 : (k == 2) = false := by simp [h2]
      by_cases h3 : k = 3
      · subst h3
        clear e1 e4 e2
        by_cases hu : 1 ≤ u ∧ u ≤ 1000
        · have hu' : decide (1 ≤ u ∧ u ≤ 1000) = true := decide_eq_true hu
          by_cases hm : 1 ≤ m ∧ m ≤ 3
          · have hm' : decide (1 ≤ m ∧ m ≤ 3) = true := decide_eq_true hm
            by_cases hf : 0 ≤ f ∧ f ≤ 31
            · have hf' : decide (0 ≤ f ∧ f ≤ 31) = true := decide_eq_true hf
              by_cases hn : n = 0
              · have hn' : ((n : Int) == 0) = true := by simp [hn]
                have HY : Hid (MOK = true) := KK.out.2 (by omega)
                go_wp2_with (go_at_call 48; refine (HI.out _ _ _ _).mono ?_; rintro e w' ⟨rfl, rfl⟩; first | rw [hu'] | rw [hm'] | rw [hf'])
                go_ret
                exact ⟨ret_bool (by first | exact HY.out.symm | (rw [HY.out]; simp; omega)), hbw⟩
              · have hn' : ((n : Int) == 0) = false := by simp [hn]
                have HZ : Hid (MOK = false) := Bool.eq_false_iff.2 fun x => by have := KK.out.1 x; omega
                skip
                go_wp2_with (go_at_call 48; refine (HI.out _ _ _ _).mono ?_; rintro e w' ⟨rfl, rfl⟩; first | rw [hu'] | rw [hm'] | rw [hf'])
                go_ret
                exact ⟨ret_bool (by first | exact HZ.out.symm | (rw [HZ.out]; simp; omega)), hbw⟩
            · have hf' : decide (0 ≤ f ∧ f ≤ 31) = false := decide_eq_false hf
              have HZ : Hid (MOK = false) := Bool.eq_false_iff.2 fun x => by have := KK.out.1 x; omega
              clear hf
              go_wp2_with (go_at_call 48; refine (HI.out _ _ _ _).mono ?_; rintro e w' ⟨rfl, rfl⟩; first | rw [hu'] | rw [hm'] | rw [hf'])
              go_ret
              exact ⟨ret_bool (by first | exact HZ.out.symm | (rw [HZ.out]; simp; omega)), hbw⟩
          · have hm' : decide (1 ≤ m ∧ m ≤ 3) = false := decide_eq_false hm
            have HZ : Hid (MOK = false) := Bool.eq_false_iff.2 fun x => by have := KK.out.1 x; omega
            clear hm
            go_wp2_with (go_at_call 48; refine (HI.out _ _ _ _).mono ?_; rintro e w' ⟨rfl, rfl⟩; first | rw [hu'] | rw [hm'] | rw [hf'])
            go_ret
            exact ⟨ret_bool (by first | exact HZ.out.symm | (rw [HZ.out]; simp; omega)), hbw⟩
        · have hu' : decide (1 ≤ u ∧ u ≤ 1000) = false := decide_eq_false hu
          have HZ : Hid (MOK = false) := Bool.eq_false_iff.2 fun x => by have := KK.out.1 x; omega
          clear hu
          go_wp2_with (go_at_call 48; refine (HI.out _ _ _ _).mono ?_; rintro e w' ⟨rfl, rfl⟩; first | rw [hu'] | rw [hm'] | rw [hf'])
          go_ret
          exact ⟨ret_bool (by first | exact HZ.out.symm | (rw [HZ.out]; simp; omega)), hbw⟩
      · have e3 : (k == 3) = false := by simp [h3]
        have HZ : Hid (MOK = false) := Bool.eq_false_iff.2 fun x => by have := KK.out.1 x; omega
        go_wp2_with (go_at_call 48; refine (HI.out _ _ _ _).mono ?_; rintro e w' ⟨rfl, rfl⟩; first | rw [hu'] | rw [hm'] | rw [hf'])
        go_ret
        exact ⟨ret_bool (by first | exact HZ.out.symm | (rw [HZ.out]; simp; omega)), hbw⟩
end Go.Proofs.Ytgjjeabjnkenkaa.mu

namespace Go.Proofs.Ytgjjeabjnkenkaa.sa
open Go.ChangeShapes Go.WideShapes Go.ChangeAt Go.RowKit Go.Deep Go.Joins
open st gr bx mx bl wi
set_option linter.unusedVariables false

/-- What ApplyMutation comes to. -/
def Ap (xs : List Bx) (m : mu.Mu) (ys : List Bx) (c : Int) : Prop :=
  (4096 < xs.length ∧ ys = [] ∧ c = 2) ∨ (xs.length ≤ 4096 ∧ ¬ (sok xs = true ∧ mu.mok m = true) ∧ ys = [] ∧ c = 1) ∨ (xs.length ≤ 4096 ∧ (sok xs = true ∧ mu.mok m = true) ∧ Am xs m ys c)
theorem ap_one {xs : List Bx} {m : mu.Mu} {ys ys' : List Bx} {c c' : Int} (h : Ap xs m ys c) (h' : Ap xs m ys' c') : ys = ys' ∧ c = c' := by
  rcases h with ⟨h1, e1, e2⟩ | ⟨h1, h2, e1, e2⟩ | ⟨h1, h2, h3⟩
  · rcases h' with ⟨_, e1', e2'⟩ | ⟨h1', _⟩ | ⟨h1', _⟩
    · rw [e1, e1', e2, e2']; exact ⟨rfl, rfl⟩
    · omega
    · omega
  · rcases h' with ⟨h1', _⟩ | ⟨_, _, e1', e2'⟩ | ⟨_, h2', _⟩
    · omega
    · rw [e1, e1', e2, e2']; exact ⟨rfl, rfl⟩
    · exact absurd h2' h2
  · rcases h' with ⟨h1', _⟩ | ⟨_, h2', _⟩ | ⟨_, _, h3'⟩
    · omega
    · exact absurd h2 h2'
    · exact am_one (fun k hk => (sok_box h2.1 hk).2.2.2.1) h3 h3'
def ApRet (xs : List Bx) (m : mu.Mu) (base : Nat) (e : Ending) (w : World) : Prop := ∃ L ys us c, e = .returned (.tuple #[L, .int .i64 c]) ∧ Ap xs m ys c ∧ OwnL w base L ys us
theorem own_none (w : World) (base : Nat) (us : Nat → Value × Value) (h : base ≤ w.heap.size) : OwnL (w.alloc (.cells #[] 62)) base (.slice (some ⟨w.heap.size, 0, none⟩) 0 0) [] us :=
  ⟨World.ownsRow_made w #[] 0 h (Nat.zero_le _) rfl, fun j hj => absurd hj (Nat.not_lt_zero _), fun i j _ hj => absurd hj (Nat.not_lt_zero _)⟩
set_option maxHeartbeats 4000000 in
set_option maxRecDepth 100000 in
theorem spec_am (v : Value) (xs : List Bx) (vs : Nat → Value × Value) (m : mu.Mu) (iv : Value) (w : World) (h : BoxesAt w v xs vs) (hf : Fines xs vs) (hs : bx.Smalls xs) (hc : sm.Caps v xs vs) (hi : it.AttrsAt w iv m.ps) (hm : mu.Small m) :
    Calls Try.prog 9 #[v, mu.MV m iv] w fun e w' => ApRet xs m w.heap.size e w' ∧ Below w.heap.size w w' := by
  have HA : Hid (∀ W, Below w.heap.size w W → BoxesAt W v xs vs ∧ it.AttrsAt W iv m.ps) := fun W hW => ⟨boxes_below h hW, it.at_below hi hW⟩
  have HS : Hid (bx.Smalls xs ∧ Fines xs vs ∧ sm.Caps v xs vs ∧ mu.Small m) := ⟨hs, hf, hc, hm⟩
  obtain ⟨⟨a, cap, rfl, hd1⟩, hd2⟩ := h
  obtain ⟨ia, ic, rfl, hd3⟩ := hi
  clear hd1 hd2 hd3
  have hl := hs.1
  obtain ⟨W, hW⟩ : ∃ W, W = w.alloc (.cells #[.int .i64 m.k, .int .i64 m.u, .int .i64 m.m, .int .i64 m.f, .string m.b, .slice ia m.ps.length ic] 34) := ⟨_, rfl⟩
  have b1 : Below w.heap.size w W := by rw [hW]; exact bx.new_below w _ _
  have k1 : mu.Lies W w.heap.size 34 m (.slice ia m.ps.length ic) := by rw [hW]; exact mu.lies_new _ _ _ _
  have E0 : Hid (∀ X c, Below w.heap.size w X → Ap xs m [] c → ApRet xs m w.heap.size (.returned (.tuple #[.slice (some ⟨X.heap.size, 0, none⟩) 0 0, .int .i64 c])) (X.alloc (.cells #[] 62)) ∧ Below w.heap.size w (X.alloc (.cells #[] 62))) := fun X c hX hA => ⟨⟨_, [], fun _ => (.slice none 0 0, .slice none 0 0), c, rfl, hA, own_none X _ _ hX.size⟩, hX.alloc hX.size _⟩
  have BW : Hid (Below w.heap.size w W ∧ mu.Lies W w.heap.size 34 m (.slice ia m.ps.length ic)) := ⟨b1, k1⟩
  clear b1 k1 hs hf hc hm
  by_cases g1 : 4096 < xs.length
  · have g1' : (4096 : Int) < (xs.length : Int) := by omega
    have HX : Hid (Ap xs m [] 2) := .inl ⟨g1, rfl, rfl⟩
    unfold mu.MV
    go_enter Try.func9, Try.ntmps9
    go_wp2
    go_ret2
    have hh := E0.out _ _ BW.out.1 HX.out
    have e1 : W.heap.size = w.heap.size + 1 := by rw [hW]; simp
    rw [e1, hW] at hh
    exact hh
  have g1' : (xs.length : Int) ≤ 4096 := by omega
  have g1n : ¬ (4096 : Int) < (xs.length : Int) := by omega
  by_cases g2 : sok xs = true
  · have HCO : Hid (Calls Try.prog 31 #[.slice a xs.length cap] W fun e w' => e = .returned (.int .i64 0) ∧ Below W.heap.size W w') := by
      have hh := sm.code_any (.slice a xs.length cap) xs vs W (HA.out W BW.out.1).1 HS.out.1 HS.out.2.2.1
      rw [show sm.cod xs = 0 by simp [sm.cod, g2]; omega] at hh
      exact hh
    have HMO : Hid (∀ X, Below w.heap.size w X → Calls Try.prog 18 #[.agg #[.int .i64 m.k, .int .i64 m.u, .int .i64 m.m, .int .i64 m.f, .string m.b, .slice ia m.ps.length ic]] X fun e w' => e = .returned (.bool (mu.mok m)) ∧ Below X.heap.size X w') := fun X hX => mu.spec_mok m _ X (HA.out X hX).2 HS.out.2.2.2
    unfold mu.MV
    go_enter Try.func9, Try.ntmps9
    go_wp2_with (rw [← hW])
    refine HCO.out.mono ?_
    rintro e w1 ⟨rfl, hb1⟩
    have HB1 : Hid (Below w.heap.size w w1) := BW.out.1.trans (hb1.mono BW.out.1.size)
    have hL1 := BW.out.2.keep hb1
    have c0 := hL1.c0
    have c1 := hL1.c1
    have c2 := hL1.c2
    have c3 := hL1.c3
    have c4 := hL1.c4
    have c5 := hL1.c5
    have HL1 : Hid (mu.Lies w1 w.heap.size 34 m (.slice ia m.ps.length ic)) := hL1
    clear HCO hb1 hL1 hW
    go_wp2_with fail
    refine (HMO.out _ HB1.out).mono ?_
    rintro e w2 ⟨rfl, hb2⟩
    have HB2 : Hid (Below w.heap.size w w2) := HB1.out.trans (hb2.mono HB1.out.size)
    have hL2 := HL1.out.keep hb2
    clear c0 c1 c2 c3 c4 c5
    have c0 := hL2.c0
    have c1 := hL2.c1
    have c2 := hL2.c2
    have c3 := hL2.c3
    have c4 := hL2.c4
    have c5 := hL2.c5
    clear HMO hb2 hL2 HL1 HB1 BW
    cases g3 : mu.mok m
    · have HX : Hid (Ap xs m [] 1) := .inr (.inl ⟨by omega, fun hh => by rw [g3] at hh; exact absurd hh.2 (by decide), rfl, rfl⟩)
      clear g3
      go_wp2
      go_ret2
      exact E0.out _ _ HB2.out HX.out
    · have HAP : Hid (Calls Try.prog 32 #[.slice a xs.length cap, .agg #[.int .i64 m.k, .int .i64 m.u, .int .i64 m.m, .int .i64 m.f, .string m.b, .slice ia m.ps.length ic]] w2 fun e w' => Ls (Am xs m) e w' ∧ Below w2.heap.size w2 w') := apply_any _ xs vs m _ w2 (HA.out w2 HB2.out).1 HS.out.2.1 HS.out.1 (HA.out w2 HB2.out).2 HS.out.2.2.2 g2 g3
      have HG : Hid (sok xs = true ∧ mu.mok m = true) := ⟨g2, g3⟩
      clear g3 g2
      go_wp2_with fail
      refine HAP.out.mono ?_
      rintro e w3 ⟨⟨L', ys, us, c, rfl, hAm, hB, hF⟩, hb3⟩
      have HB3 : Hid (Below w.heap.size w w3) := HB2.out.trans (hb3.mono HB2.out.size)
      have HOW : Hid (Calls Try.prog 33 #[L'] w3 fun e w' => (∃ L us, e = .returned L ∧ OwnL w' w3.heap.size L ys us) ∧ Below w3.heap.size w3 w') := spec_own L' ys us w3 hB hF (am_small HS.out.1 HS.out.2.2.2 HG.out.1 HG.out.2 hAm)
      have HX : Hid (Ap xs m ys c) := .inr (.inr ⟨by omega, HG.out, hAm⟩)
      obtain ⟨⟨La, Lc, rfl, hd1⟩, hd2⟩ := hB
      clear hAm hd1 hd2 hF hb3 HAP c0 c1 c2 c3 c4 c5
      go_wp2_with fail
      refine HOW.out.mono ?_
      rintro e w4 ⟨⟨L4, us4, rfl, hO⟩, hb4⟩
      have HQ : Hid (ApRet xs m w.heap.size (.returned (.tuple #[L4, .int .i64 c])) w4 ∧ Below w.heap.size w w4) := ⟨⟨L4, ys, us4, c, rfl, HX.out, ownL_le hO HB3.out.size⟩, HB3.out.trans (hb4.mono HB3.out.size)⟩
      obtain ⟨Ma, Mn, Mc, rfl⟩ := slice_fine (own_fine hO.1)
      clear hO hb4 HOW HX
      go_wp2
      go_ret2
      exact HQ.out
  · have HCO : Hid (Calls Try.prog 31 #[.slice a xs.length cap] W fun e w' => e = .returned (.int .i64 1) ∧ Below W.heap.size W w') := by
      have hh := sm.code_any (.slice a xs.length cap) xs vs W (HA.out W BW.out.1).1 HS.out.1 HS.out.2.2.1
      rw [show sm.cod xs = 1 by simp [sm.cod, g2]; omega] at hh
      exact hh
    have HX : Hid (Ap xs m [] 1) := .inr (.inl ⟨by omega, fun hh => g2 hh.1, rfl, rfl⟩)
    unfold mu.MV
    go_enter Try.func9, Try.ntmps9
    go_wp2_with (rw [← hW])
    refine HCO.out.mono ?_
    rintro e w1 ⟨rfl, hb1⟩
    have HB1 : Hid (Below w.heap.size w w1) := BW.out.1.trans (hb1.mono BW.out.1.size)
    clear HCO hb1 hW BW
    go_wp2
    go_ret2
    exact E0.out _ _ HB1.out HX.out
end Go.Proofs.Ytgjjeabjnkenkaa.sa
