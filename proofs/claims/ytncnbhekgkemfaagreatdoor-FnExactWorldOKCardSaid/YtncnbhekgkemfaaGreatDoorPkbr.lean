/-
  The specification's SameStore.
-/
import Derived.Test.YtncnbhekgkemfaaGreatDoorPkbq
import Derived.Test.YtncnbhekgkemfaaGreatDoorPkak

namespace Go.Proofs.YtncnbhekgkemfaaGreatDoor.sm
open Go.RowKit Go.WideShapes
open st bx
set_option linter.unusedVariables false

set_option maxHeartbeats 8000000 in
set_option maxRecDepth 100000 in
theorem l09Same_any (v u : Value) (xs ys : List Bx) (vs us : Nat → Value × Value) (w : World) (h1 : BoxesAt w v xs vs) (h2 : BoxesAt w u ys us) (hs : bx.Smalls xs) (hs' : bx.Smalls ys) :
    Calls Tryz.prog 28 #[v, u] w fun e w' => e = .returned (.bool (sameS xs ys)) ∧ Below w.heap.size w w' := by
  have HALL : Hid (BoxesAt w v xs vs ∧ BoxesAt w u ys us) := ⟨h1, h2⟩
  obtain ⟨⟨a, cap, rfl, hc1⟩, _⟩ := h1
  obtain ⟨⟨c, cap2, rfl, hc2⟩, _⟩ := h2
  obtain ⟨n, hn⟩ : ∃ n, n = xs.length := ⟨_, rfl⟩
  obtain ⟨m, hm⟩ : ∃ m, m = ys.length := ⟨_, rfl⟩
  have HN : Hid (n = xs.length) := hn
  have HM : Hid (m = ys.length) := hm
  have hl : n ≤ 1048576 := by rw [hn]; exact hs.1
  have hl2 : m ≤ 1048576 := by rw [hm]; exact hs'.1
  have HS : Hid (bx.Smalls xs ∧ bx.Smalls ys) := ⟨hs, hs'⟩
  have H1 : Hid (xs = [] ∨ ∃ b off, a = some ⟨b, off, none⟩ ∧ b < w.heap.size ∧ ∀ j, j < xs.length → At5 w b (off + j * 5) (xs.getD j noB) (vs j)) := hc1
  have H2 : Hid (ys = [] ∨ ∃ b off, c = some ⟨b, off, none⟩ ∧ b < w.heap.size ∧ ∀ j, j < ys.length → At5 w b (off + j * 5) (ys.getD j noB) (us j)) := hc2
  rw [← hn, ← hm] at HALL
  rw [← hn, ← hm]
  clear hc1 hc2 hs hs' hn hm
  by_cases hnm : ¬ n = m
  · have hnm' : ((n : Int) != (m : Int)) = true := by simp; omega
    have HR : Hid (sameS xs ys = false) := sameS_no (fun y => hnm (by have := y.1; have := HN.out; have := HM.out; omega))
    go_enter Tryz.func28, Tryz.ntmps28
    go_wp2
    go_ret
    exact ⟨mu.ret_bool HR.out.symm, Below.refl _ _⟩
  have hnm : n = m := Decidable.of_not_not hnm
  subst hnm
  have hnm' : ((n : Int) != (n : Int)) = false := by simp
  go_enter Tryz.func28, Tryz.ntmps28
  go_wp2
  go_loopw [5] (fun i wr => ∃ k : Nat, k ≤ n ∧ i = .int .i64 k ∧ (∀ j, j < k → SameB (xs.getD j noB) (ys.getD j noB)) ∧ Below w.heap.size w wr) (fun i _ => n - (intOf i).toNat)
  case atStart => exact ⟨0, Nat.zero_le _, rfl, fun j hj => absurd hj (Nat.not_lt_zero _), Below.refl _ _⟩
  case round =>
    obtain ⟨k, hk, rfl, hal, hbw⟩ := hrel
    have HAL : Hid (∀ j, j < k → SameB (xs.getD j noB) (ys.getD j noB)) := hal
    clear hal
    by_cases hlt : k < n
    · have hka : k < xs.length := by rw [← HN.out]; exact hlt
      have hkb : k < ys.length := by rw [← HM.out]; exact hlt
      rcases H1.out with e | ⟨b, off, rfl, hbl, hcells⟩
      · rw [e] at hka; simp at hka
      rcases H2.out with e | ⟨b2, off2, rfl, hbl2, hcells2⟩
      · rw [e] at hkb; simp at hkb
      have ha := (hcells k hka).keep hbw hbl
      have hb := (hcells2 k hkb).keep hbw hbl2
      have hr1 := rows_more ((boxes_in_below HALL.out.1 hbw (Nat.le_refl _)).2 k hka) hbw.size
      have hr2 := rows_more ((boxes_in_below HALL.out.2 hbw (Nat.le_refl _)).2 k hkb) hbw.size
      have hsa := HS.out.1.2 k hka
      have hsb := HS.out.2.2 k hkb
      have HNE : Hid (¬ SameB (xs.getD k noB) (ys.getD k noB) → sameS xs ys = false) := fun h => sameS_no (fun y => h (y.2 k hka))
      have HEQ : Hid (SameB (xs.getD k noB) (ys.getD k noB) → ∀ j, j < k + 1 → SameB (xs.getD j noB) (ys.getD j noB)) := fun h j hj => by
        by_cases e : j = k
        · rw [e]; exact h
        · exact HAL.out j (by omega)
      clear hcells hka hcells2 hkb
      generalize xs.getD k noB = x at ha hsa hr1 HNE HEQ
      generalize ys.getD k noB = y at hb hsb hr2 HNE HEQ
      generalize vs k = q at ha hr1
      generalize us k = r at hb hr2
      obtain ⟨q1, q2⟩ := q
      obtain ⟨r1, r2⟩ := r
      obtain ⟨c0, c1, c2, c3, c4⟩ := ha
      obtain ⟨d0, d1, d2, d3, d4⟩ := hb
      simp only at c0 c1 c2 c3 c4 d0 d1 d2 d3 d4 hr1 hr2
      have HXY : Hid (bx.Small x ∧ bx.Small y) := ⟨hsa, hsb⟩
      have hlt' : (k : Int) < (n : Int) := by omega
      have hk0 : (0 : Int) ≤ (k : Int) := by omega
      have hd := bx.new_below wr 99 #[.string x.nm, .int .i64 x.vd, .int .i64 x.nx, q1, q2]
      have hb2 := hd.alloc (by simp) (.cells #[.string y.nm, .int .i64 y.vd, .int .i64 y.nx, r1, r2] 99)
      have e0 := (hd.cell (p := ⟨b2, off2 + k * 5, none⟩) (World.block_lt_of_cell? wr _ d0)).trans d0
      have e1 := (hd.cell (p := ⟨b2, off2 + k * 5 + 1, none⟩) (World.block_lt_of_cell? wr _ d1)).trans d1
      have e2 := (hd.cell (p := ⟨b2, off2 + k * 5 + 2, none⟩) (World.block_lt_of_cell? wr _ d2)).trans d2
      have e3 := (hd.cell (p := ⟨b2, off2 + k * 5 + 3, none⟩) (World.block_lt_of_cell? wr _ d3)).trans d3
      have e4 := (hd.cell (p := ⟨b2, off2 + k * 5 + 4, none⟩) (World.block_lt_of_cell? wr _ d4)).trans d4
      have L0 := (lies_new wr 99 x q1 q2).keep (bx.new_below _ 99 #[.string y.nm, .int .i64 y.vd, .int .i64 y.nx, r1, r2])
      have M0 := lies_new (wr.alloc (.cells #[.string x.nm, .int .i64 x.vd, .int .i64 x.nx, q1, q2] 99)) 99 y r1 r2
      rw [show (wr.alloc (.cells #[.string x.nm, .int .i64 x.vd, .int .i64 x.nx, q1, q2] 99)).heap.size = wr.heap.size + 1 by simp] at M0
      have HR1 := rows_below hr1 hb2
      have HR2 := rows_below hr2 hb2
      have hb3 := hbw.trans (hb2.mono hbw.size)
      obtain ⟨⟨a2, cap2, rfl, _⟩, ⟨a3, cap3, rfl, _⟩⟩ := hr1
      obtain ⟨⟨a4, cap4, rfl, _⟩, ⟨a5, cap5, rfl, _⟩⟩ := hr2
      clear hsa hsb hb2 hd hbw
      obtain ⟨nm, vd, nx, ms, ks⟩ := x
      obtain ⟨nm', vd', nx', ms', ks'⟩ := y
      simp only at c0 c1 c2 c3 c4 d0 d1 d2 d3 d4 e0 e1 e2 e3 e4 L0 M0 HR1 HR2 HXY HNE HEQ hb3
      have hm1 : ms.length ≤ 1048576 := HXY.out.1.2.2.1.1
      have hm2 : ms'.length ≤ 1048576 := HXY.out.2.2.2.1.1
      have hk1 : ks.length ≤ 1048576 := HXY.out.1.2.2.2.1
      have hk2 : ks'.length ≤ 1048576 := HXY.out.2.2.2.2.1
      by_cases q0 : ¬ nm = nm'
      · have q0' : (nm.toList == nm'.toList) = false := ky.ne_list q0
        have HZ : Hid (sameS xs ys = false) := HNE.out fun z => q0 z.1
        clear q0
        go_wp2
        go_ret
        exact ⟨mu.ret_bool HZ.out.symm, hb3⟩
      have q0 : nm = nm' := Classical.not_not.1 q0
      have q0' : (nm.toList == nm'.toList) = true := by rw [q0]; simp
      have HQ0 : Hid (nm = nm') := q0
      clear q0
      by_cases q1 : ¬ vd = vd'
      · have q1' : (vd != vd') = true := by simp [q1]
        have HZ : Hid (sameS xs ys = false) := HNE.out fun z => q1 z.2.1
        clear q1
        go_wp2
        go_ret
        exact ⟨mu.ret_bool HZ.out.symm, hb3⟩
      have q1 : vd = vd' := Decidable.of_not_not q1
      have q1' : (vd != vd') = false := by simp [q1]
      have HQ1 : Hid (vd = vd') := q1
      clear q1
      by_cases q2 : ¬ nx = nx'
      · have q2' : (nx != nx') = true := by simp [q2]
        have HZ : Hid (sameS xs ys = false) := HNE.out fun z => q2 z.2.2.1
        clear q2
        go_wp2
        go_ret
        exact ⟨mu.ret_bool HZ.out.symm, hb3⟩
      have q2 : nx = nx' := Decidable.of_not_not q2
      have q2' : (nx != nx') = false := by simp [q2]
      have HQ2 : Hid (nx = nx') := q2
      clear q2
      by_cases q3 : ¬ ms.length = ms'.length
      · have q3' : ((ms.length : Int) != (ms'.length : Int)) = true := by simp; omega
        have HZ : Hid (sameS xs ys = false) := HNE.out fun z => q3 z.2.2.2.1.1
        go_wp2
        go_ret
        exact ⟨mu.ret_bool HZ.out.symm, hb3⟩
      have q3 : ms.length = ms'.length := Decidable.of_not_not q3
      have q3' : ((ms.length : Int) != (ms'.length : Int)) = false := by simp; omega
      have HQ3 : Hid (ms.length = ms'.length) := q3
      clear q3
      by_cases q4 : ¬ ks.length = ks'.length
      · have q4' : ((ks.length : Int) != (ks'.length : Int)) = true := by simp; omega
        have HZ : Hid (sameS xs ys = false) := HNE.out fun z => q4 z.2.2.2.2.1
        go_wp2
        go_ret
        exact ⟨mu.ret_bool HZ.out.symm, hb3⟩
      have q4 : ks.length = ks'.length := Decidable.of_not_not q4
      have q4' : ((ks.length : Int) != (ks'.length : Int)) = false := by simp; omega
      have HQ4 : Hid (ks.length = ks'.length) := q4
      clear q4
      go_wp2
      clear c0 c1 c2 c3 c4 d0 d1 d2 d3 d4 e0 e1 e2 e3 e4 q0' q1' q2' q3' q4'
      generalize (wr.alloc _).alloc _ = W1 at L0 M0 HR1 HR2 hb3 ⊢
      generalize wr.heap.size = B at L0 M0 ⊢
      have HL0 : Hid (∀ wq, Below W1.heap.size W1 wq → Lies wq B 99 ⟨nm, vd, nx, ms, ks⟩ (.slice a2 ms.length cap2) (.slice a3 ks.length cap3)) := fun wq h => L0.keep h
      have HM0 : Hid (∀ wq, Below W1.heap.size W1 wq → Lies wq (B + 1) 99 ⟨nm', vd', nx', ms', ks'⟩ (.slice a4 ms'.length cap4) (.slice a5 ks'.length cap5)) := fun wq h => M0.keep h
      have HR1 : Hid (RowsAt W1 (.slice a2 ms.length cap2) (.slice a3 ks.length cap3) ms ks) := HR1
      have HR2 : Hid (RowsAt W1 (.slice a4 ms'.length cap4) (.slice a5 ks'.length cap5) ms' ks') := HR2
      have HB3 : Hid (∀ wq, Below W1.heap.size W1 wq → Below w.heap.size w wq) := fun wq h => hb3.trans (h.mono hb3.size)
      clear L0 M0 hb3
      go_loopw [8] (fun i wq => ∃ z : Nat, z ≤ ms.length ∧ i = .int .i64 z ∧ (∀ j, j < z → ms.getD j noS = ms'.getD j noS) ∧ Below W1.heap.size W1 wq) (fun i _ => ms.length - (intOf i).toNat)
      case atStart => exact ⟨0, Nat.zero_le _, rfl, fun j hj => absurd hj (Nat.not_lt_zero _), Below.refl _ _⟩
      case round =>
        obtain ⟨z, hz, rfl, hzl, hbq⟩ := hrel
        have HZL : Hid (∀ j, j < z → ms.getD j noS = ms'.getD j noS) := hzl
        clear hzl
        have c3 := (HL0.out _ hbq).c3
        have d3 := (HM0.out _ hbq).c3
        have c4 := (HL0.out _ hbq).c4
        by_cases hzn : z < ms.length
        · have hzn2 : z < ms'.length := by have := HQ3.out; omega
          obtain ⟨b, off, ha, hat⟩ : ∃ b off, a2 = some ⟨b, off, none⟩ ∧ At3 wr b (off + z * 3) (ms.getD z noS) := by
            obtain ⟨a', cap', e, hh⟩ := (rows_below HR1.out hbq).1
            cases e
            rcases hh with e | ⟨b, off, e, hb, hc⟩
            · rw [e] at hzn; simp at hzn
            · exact ⟨b, off, e, hc z hzn⟩
          obtain ⟨b', off', ha', hat'⟩ : ∃ b off, a4 = some ⟨b, off, none⟩ ∧ At3 wr b (off + z * 3) (ms'.getD z noS) := by
            obtain ⟨a', cap', e, hh⟩ := (rows_below HR2.out hbq).1
            cases e
            rcases hh with e | ⟨b, off, e, hb, hc⟩
            · rw [e] at hzn2; simp at hzn2
            · exact ⟨b, off, e, hc z hzn2⟩
          have hsa := HXY.out.1.2.2.1.2 z hzn
          have hsb := HXY.out.2.2.2.1.2 z hzn2
          have HN2 : Hid (¬ ms.getD z noS = ms'.getD z noS → sameS xs ys = false) := fun h => HNE.out fun y => h (y.2.2.2.1.2 z hzn)
          have HE2 : Hid (ms.getD z noS = ms'.getD z noS → ∀ j, j < z + 1 → ms.getD j noS = ms'.getD j noS) := fun h j hj => by
            by_cases e : j = z
            · rw [e]; exact h
            · exact HZL.out j (by omega)
          subst ha ha'
          simp only at hsa hsb
          generalize ms.getD z noS = x at hat hsa HN2 HE2
          generalize ms'.getD z noS = y at hat' hsb HN2 HE2
          have hrun := fun W => ne_run x y hsa hsb W
          have hgd := guard_run
          obtain ⟨g0, g1, g2⟩ := hat
          obtain ⟨f0, f1, f2⟩ := hat'
          clear hsa hsb
          have hz1 : (z : Int) < (ms.length : Int) := by omega
          have hz2 : (z : Int) < (ms'.length : Int) := by omega
          have hz0 : (0 : Int) ≤ (z : Int) := by omega
          by_cases hxy : x = y
          · have HX : Hid (∀ j, j < z + 1 → ms.getD j noS = ms'.getD j noS) := HE2.out hxy
            rw [eqS_yes hxy] at hrun
            simp only [Bool.not_true] at hrun
            clear hxy HN2 HE2
            go_wp2_with fail
            go_quiet (fail)
            have b3 := bel_drewN hbq nq
            clear c3 d3 c4 g0 g1 g2 f0 f1 f2 hrun hbq
            go_wp2
            go_roundw
            case rel => exact ⟨z + 1, by omega, by go_num, HX.out, b3⟩
            case measure => simp [intOf]; omega
          · have HR : Hid (sameS xs ys = false) := HN2.out hxy
            rw [eqS_no hxy] at hrun
            simp only [Bool.not_false] at hrun
            clear hxy HN2 HE2
            go_wp2_with fail
            go_quiet (fail)
            have b3 := bel_drewN hbq nq
            clear c3 d3 c4 g0 g1 g2 f0 f1 f2 hrun hbq
            go_wp2
            go_ret
            exact ⟨mu.ret_bool HR.out.symm, HB3.out _ b3⟩
        have HMM : Hid (SameM ms ms') := ⟨HQ3.out, fun j hj => HZL.out j (by omega)⟩
        have HBQ : Hid (Below W1.heap.size W1 wr) := hbq
        clear HZL hbq
        go_wp2
        clear c3 d3 c4
        go_loopw [9] (fun i wq => ∃ z : Nat, z ≤ ks.length ∧ i = .int .i64 z ∧ (∀ j, j < z → ks.getD j ky.nt = ks'.getD j ky.nt) ∧ Below W1.heap.size W1 wq) (fun i _ => ks.length - (intOf i).toNat)
        case atStart => exact ⟨0, Nat.zero_le _, rfl, fun j hj => absurd hj (Nat.not_lt_zero _), HBQ.out⟩
        case round =>
          clear HBQ
          obtain ⟨z, hz, rfl, hzl, hbq⟩ := hrel
          have HZL : Hid (∀ j, j < z → ks.getD j ky.nt = ks'.getD j ky.nt) := hzl
          clear hzl
          have c4 := (HL0.out _ hbq).c4
          have d4 := (HM0.out _ hbq).c4
          by_cases hzn : z < ks.length
          · have hzn2 : z < ks'.length := by have := HQ4.out; omega
            obtain ⟨b, off, ha, g0⟩ : ∃ b off, a3 = some ⟨b, off, none⟩ ∧ wr.cell? ⟨b, off + z, none⟩ = some (.string (ks.getD z ky.nt)) := by
              obtain ⟨a', cap', e, hh⟩ := (rows_below HR1.out hbq).2
              cases e
              rcases hh with e | ⟨b, off, e, hb, hc⟩
              · rw [e] at hzn; simp at hzn
              · exact ⟨b, off, e, hc z hzn⟩
            obtain ⟨b', off', ha', f0⟩ : ∃ b off, a5 = some ⟨b, off, none⟩ ∧ wr.cell? ⟨b, off + z, none⟩ = some (.string (ks'.getD z ky.nt)) := by
              obtain ⟨a', cap', e, hh⟩ := (rows_below HR2.out hbq).2
              cases e
              rcases hh with e | ⟨b, off, e, hb, hc⟩
              · rw [e] at hzn2; simp at hzn2
              · exact ⟨b, off, e, hc z hzn2⟩
            have HN2 : Hid (¬ ks.getD z ky.nt = ks'.getD z ky.nt → sameS xs ys = false) := fun h => HNE.out fun y => h (y.2.2.2.2.2 z hzn)
            have HE2 : Hid (ks.getD z ky.nt = ks'.getD z ky.nt → ∀ j, j < z + 1 → ks.getD j ky.nt = ks'.getD j ky.nt) := fun h j hj => by
              by_cases e : j = z
              · rw [e]; exact h
              · exact HZL.out j (by omega)
            subst ha ha'
            generalize ks.getD z ky.nt = x at g0 HN2 HE2
            generalize ks'.getD z ky.nt = y at f0 HN2 HE2
            have hz1 : (z : Int) < (ks.length : Int) := by omega
            have hz2 : (z : Int) < (ks'.length : Int) := by omega
            have hz0 : (0 : Int) ≤ (z : Int) := by omega
            by_cases hxy : x = y
            · have HX : Hid (∀ j, j < z + 1 → ks.getD j ky.nt = ks'.getD j ky.nt) := HE2.out hxy
              have hx' : (x.toList == y.toList) = true := by rw [hxy]; simp
              clear hxy HN2 HE2
              go_wp2_with fail
              go_quiet (fail)
              have b3 := bel_drewN hbq nq
              clear c4 d4 g0 f0 hbq
              go_wp2
              go_roundw
              case rel => exact ⟨z + 1, by omega, by go_num, HX.out, b3⟩
              case measure => simp [intOf]; omega
            · have HR : Hid (sameS xs ys = false) := HN2.out hxy
              have hx' : (x.toList == y.toList) = false := ky.ne_list hxy
              clear hxy HN2 HE2
              go_wp2_with fail
              go_quiet (fail)
              have b3 := bel_drewN hbq nq
              clear c4 d4 g0 f0 hbq
              go_wp2
              go_ret
              exact ⟨mu.ret_bool HR.out.symm, HB3.out _ b3⟩
          have HX : Hid (∀ j, j < k + 1 → SameB (xs.getD j noB) (ys.getD j noB)) := HEQ.out ⟨HQ0.out, HQ1.out, HQ2.out, HMM.out, HQ4.out, fun j hj => HZL.out j (by simp only at hj; omega)⟩
          have b3 := HB3.out _ hbq
          go_wp2
          go_roundw
          case rel => exact ⟨k + 1, by omega, by go_num, HX.out, b3⟩
          case measure => simp [intOf]; omega
    · have HR : Hid (sameS xs ys = true) := sameS_yes ⟨by have := HN.out; have := HM.out; omega, fun j hj => HAL.out j (by have := HN.out; omega)⟩
      go_wp2
      go_ret
      exact ⟨mu.ret_bool HR.out.symm, hbw⟩
end Go.Proofs.YtncnbhekgkemfaaGreatDoor.sm
