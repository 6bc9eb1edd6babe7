/-
  The specification's test of a box.
-/
import Derived.Test.YtncnbhekgkemfaaGreatDoorPkai
import Derived.Deep.QuietTactic
import Derived.BigQuiet
import Derived.Deep.DeepCutAuto
import Derived.Deep.Cut
import Derived.Deep.CutRange

namespace Go.Proofs.YtncnbhekgkemfaaGreatDoor.bx
open Go.RowKit
open st
set_option linter.unusedVariables false

theorem bel_drewN {B : Nat} {a w : World} (h : Below B a w) (n : Nat) : Below B a (w.drewN n) := ⟨h.os, h.tape, h.output, h.size, h.block⟩
theorem texts_take {w : World} {N n k cap : Nat} {a : Option Addr} {ks : List ByteArray} (hn : n = ks.length) (h : tx.TextsIn w N (.slice a n cap) ks) (hk : k ≤ n) : ky.TextsAt w (.slice a k cap) (ks.take k) := by
  subst hn
  obtain ⟨a', cap', e, h⟩ := h
  cases e
  refine ⟨a, cap, by rw [List.length_take]; congr 1; omega, ?_⟩
  rcases h with h | ⟨b, off, rfl, _, h⟩
  · exact .inl (by rw [h]; simp)
  · refine .inr ⟨b, off, rfl, fun j hj => ?_⟩
    rw [List.length_take] at hj
    rw [h j (by omega)]
    simp [List.getD_eq_getElem?_getD, show j < k by omega]
theorem take_mem {ks : List ByteArray} {k : Nat} (hk : k ≤ ks.length) (s : ByteArray) : s ∈ ks.take k ↔ ∃ j, j < k ∧ ks.getD j ky.nt = s := by
  constructor
  · intro h
    obtain ⟨j, hj, e⟩ := List.mem_iff_getElem.1 h
    rw [List.length_take] at hj
    refine ⟨j, by omega, ?_⟩
    rw [List.getElem_take] at e
    rw [List.getD_eq_getElem?_getD, List.getElem?_eq_getElem (by omega)]
    exact e
  · rintro ⟨j, hj, rfl⟩
    rw [List.getD_eq_getElem?_getD, List.getElem?_eq_getElem (by omega)]
    refine List.mem_iff_getElem.2 ⟨j, by rw [List.length_take]; omega, ?_⟩
    rw [List.getElem_take]
    rfl
theorem dist_step {ks : List ByteArray} {k : Nat} (hk : k < ks.length) (h : bk.Dist ks k) {x : ByteArray} (hx : ks.getD k ky.nt = x) (hh : ky.has (ks.take k) x = false) : bk.Dist ks (k + 1) := by
  intro i j hij hj
  by_cases e : j = k
  · subst e
    intro y
    have : x ∈ ks.take j := (take_mem (by omega) x).2 ⟨i, hij, y.trans hx⟩
    rw [ky.has_yes this] at hh
    cases hh
  · exact h i j hij (by omega)
theorem dist_bad {ks : List ByteArray} {k : Nat} (hk : k < ks.length) {x : ByteArray} (hx : ks.getD k ky.nt = x) (hh : ky.has (ks.take k) x = true) : bk.dist ks = false := by
  refine ow.df fun h => ?_
  obtain ⟨j, hj, e⟩ := (take_mem (by omega) x).1 (ky.has_of hh)
  exact h j k hj hk (e.trans hx.symm)
theorem dist_yes {ks : List ByteArray} (h : bk.Dist ks ks.length) : bk.dist ks = true := ow.dt h

set_option maxHeartbeats 8000000 in
set_option maxRecDepth 100000 in
theorem spec_bok (x : Bx) (v u : Value) (w : World) (h : RowsAt w v u x.ms x.ks) (hx : Small x) (hcap : ∀ a n c, u = .slice a n c → n ≤ c) :
    Calls Tryz.prog 49 #[BV x v u] w fun e w' => e = .returned (.bool (bok x)) ∧ Below w.heap.size w w' := by
  have L0 := lies_new w 99 x v u
  have b0 := new_below w 99 #[.string x.nm, .int .i64 x.vd, .int .i64 x.nx, v, u]
  have HA : Hid (RowsIn (w.alloc (.cells #[.string x.nm, .int .i64 x.vd, .int .i64 x.nx, v, u] 99)) w.heap.size v u x.ms x.ks) := rows_in_below h b0 (Nat.le_refl _)
  have hsz : w.heap.size < (w.alloc (.cells #[.string x.nm, .int .i64 x.vd, .int .i64 x.nx, v, u] 99)).heap.size := by simp
  have HF : Hid (¬ (mu.nmB x.nm = true ∧ (1 ≤ x.vd ∧ x.vd ≤ 1000000) ∧ (1 ≤ x.nx ∧ x.nx ≤ 1001) ∧ mailsB x.ms x.nx = true ∧ (x.ks.length : Int) = x.nx - 1 ∧ keysB x.ks = true ∧ bk.dist x.ks = true) → bok x = false) := fun hh => Bool.eq_false_iff.2 fun y => hh ((bok_of x).1 y)
  have HT : Hid (mu.nmB x.nm = true ∧ (1 ≤ x.vd ∧ x.vd ≤ 1000000) ∧ (1 ≤ x.nx ∧ x.nx ≤ 1001) ∧ mailsB x.ms x.nx = true ∧ (x.ks.length : Int) = x.nx - 1 ∧ keysB x.ks = true ∧ bk.dist x.ks = true → bok x = true) := (bok_of x).2
  obtain ⟨⟨a, cap, rfl, _⟩, ⟨a1, cap1, rfl, _⟩⟩ := h
  obtain ⟨nm, vd, nx, ms, ks⟩ := x
  obtain ⟨hi, hnm, hms, hks⟩ := hx
  have HMS : Hid (st.Smalls ms) := hms
  have HKS : Hid (tx.Smalls ks) := hks
  unfold BV
  simp only at L0 b0 HA hsz HF HT hnm ⊢
  obtain ⟨n, hn⟩ : ∃ n, n = ms.length := ⟨_, rfl⟩
  obtain ⟨p, hp⟩ : ∃ p, p = ks.length := ⟨_, rfl⟩
  have HLM : Hid (n = ms.length) := hn
  have HLK : Hid (p = ks.length) := hp
  have hnl : n ≤ 1048576 := by rw [hn]; exact hms.1
  have hpl : p ≤ 1048576 := by rw [hp]; exact hks.1
  have hcp : p ≤ cap1 := by rw [hp]; exact hcap _ _ _ rfl
  clear hcap
  rw [← hn, ← hp] at L0 b0 HA hsz ⊢
  rw [← hp] at HF HT
  clear hi hms hks hn hp
  have HNM : Hid (∀ w, Calls Tryz.prog 55 #[.string nm] w fun e w' => e = .returned (.bool (mu.nmB nm)) ∧ w' = w) := fun w => mu.spec_name nm w hnm
  have HI : Hid (∀ (n a b : Int) (w : World), Calls Tryz.prog 48 #[.int .i64 n, .int .i64 a, .int .i64 b] w fun e w' => e = .returned (.bool (decide (a ≤ n ∧ n ≤ b))) ∧ w' = w) := mu.in_any
  generalize bok ⟨nm, vd, nx, ms, ks⟩ = R at HF HT ⊢
  go_enter Tryz.func49, Tryz.ntmps49
  go_wp2_with fail
  generalize w.alloc _ = w0 at L0 b0 HA hsz ⊢
  refine (HNM.out _).mono ?_
  rintro e w' ⟨rfl, rfl⟩
  have c0 := L0.c0
  have c1 := L0.c1
  have c2 := L0.c2
  have c3 := L0.c3
  have c4 := L0.c4
  simp only at c0 c1 c2 c3 c4
  generalize hq : mu.nmB nm = nb at HF HT ⊢
  clear hq HNM
  cases nb
  · have HZ : Hid (R = false) := HF.out (fun x => by have := x.1; simp at this)
    go_wp2
    go_ret
    exact ⟨mu.ret_bool HZ.out.symm, b0⟩
  by_cases q1 : ¬ (1 ≤ vd ∧ vd ≤ 1000000)
  · have e1 : decide (1 ≤ vd ∧ vd ≤ 1000000) = false := decide_eq_false q1
    have HZ : Hid (R = false) := HF.out (fun x => q1 x.2.1)
    clear q1
    go_wp2_with (go_at_call 48; refine (HI.out _ _ _ _).mono ?_; rintro e w' ⟨rfl, rfl⟩; rw [e1])
    go_ret
    exact ⟨mu.ret_bool HZ.out.symm, b0⟩
  have q1 : 1 ≤ vd ∧ vd ≤ 1000000 := Decidable.of_not_not q1
  have e1 : decide (1 ≤ vd ∧ vd ≤ 1000000) = true := decide_eq_true q1
  have HQ1 : Hid (1 ≤ vd ∧ vd ≤ 1000000) := q1
  clear q1
  by_cases q2 : ¬ (1 ≤ nx ∧ nx ≤ 1001)
  · have e2 : decide (1 ≤ nx ∧ nx ≤ 1001) = false := decide_eq_false q2
    have HZ : Hid (R = false) := HF.out (fun x => q2 x.2.2.1)
    clear q2
    go_wp2_with (go_at_call 48; refine (HI.out _ _ _ _).mono ?_; rintro e w' ⟨rfl, rfl⟩; first | rw [e1] | rw [e2])
    go_ret
    exact ⟨mu.ret_bool HZ.out.symm, b0⟩
  have q2 : 1 ≤ nx ∧ nx ≤ 1001 := Decidable.of_not_not q2
  have e2 : decide (1 ≤ nx ∧ nx ≤ 1001) = true := decide_eq_true q2
  obtain ⟨n1, n2⟩ := q2
  by_cases q3 : 30 < n
  · have q3' : (30 : Int) < (n : Int) := by omega
    have HZ : Hid (R = false) := HF.out (fun x => by have := (mails_of x.2.2.2.1).1; have := HLM.out; omega)
    go_wp2_with (go_at_call 48; refine (HI.out _ _ _ _).mono ?_; rintro e w' ⟨rfl, rfl⟩; first | rw [e1] | rw [e2])
    go_ret
    exact ⟨mu.ret_bool HZ.out.symm, b0⟩
  have q3' : (n : Int) ≤ 30 := by omega
  by_cases q4 : 60 < p
  · have q4' : (60 : Int) < (p : Int) := by omega
    have HZ : Hid (R = false) := HF.out (fun x => by have := (keys_of x.2.2.2.2.2.1).1; have := HLK.out; omega)
    go_wp2_with (go_at_call 48; refine (HI.out _ _ _ _).mono ?_; rintro e w' ⟨rfl, rfl⟩; first | rw [e1] | rw [e2])
    go_ret
    exact ⟨mu.ret_bool HZ.out.symm, b0⟩
  have q4' : (p : Int) ≤ 60 := by omega
  by_cases q5 : ¬ (p : Int) = nx - 1
  · have q5' : ((p : Int) != nx - 1) = true := by simp [q5]
    have HZ : Hid (R = false) := HF.out (fun x => q5 x.2.2.2.2.1)
    clear q5
    go_wp2_with (go_at_call 48; refine (HI.out _ _ _ _).mono ?_; rintro e w' ⟨rfl, rfl⟩; first | rw [e1] | rw [e2])
    go_ret
    exact ⟨mu.ret_bool HZ.out.symm, b0⟩
  have q5 : (p : Int) = nx - 1 := by omega
  have q5' : ((p : Int) != nx - 1) = false := by simp [q5]
  have HQ5 : Hid ((p : Int) = nx - 1) := q5
  clear q5
  go_wp2_with (go_at_call 48; refine (HI.out _ _ _ _).mono ?_; rintro e w' ⟨rfl, rfl⟩; first | rw [e1] | rw [e2])
  clear c0 c1 c2 c3 c4
  have HL0 : Hid (∀ wr, Below w'.heap.size w' wr → Lies wr w.heap.size 99 ⟨nm, vd, nx, ms, ks⟩ (.slice a n cap) (.slice a1 p cap1)) := fun wr h => L0.keep h
  have HBB : Hid (∀ wr, Below w'.heap.size w' wr → Below w.heap.size w wr) := fun wr h => b0.trans (h.mono b0.size)
  clear L0 b0 e1 e2
  go_loopw [3] (fun i wr => ∃ (k : Nat), k ≤ n ∧ i = .int .i64 k ∧ MGood ms nx k ∧ Below w'.heap.size w' wr) (fun i _ => n - (intOf i).toNat)
  case atStart => exact ⟨0, Nat.zero_le _, rfl, fun j hj => absurd hj (Nat.not_lt_zero _), Below.refl _ _⟩
  case round =>
    obtain ⟨k, hk, rfl, hal, hbw⟩ := hrel
    have HAL : Hid (MGood ms nx k) := hal
    clear hal
    have Lr := HL0.out _ hbw
    have HAr : Hid (RowsIn wr w.heap.size (.slice a n cap) (.slice a1 p cap1) ms ks) := rows_in_below HA.out hbw (Nat.le_of_lt hsz)
    have c2 := Lr.c2
    have c3 := Lr.c3
    have c4 := Lr.c4
    simp only at c2 c3 c4
    by_cases hlt : k < n
    · have hka : k < ms.length := by rw [← HLM.out]; exact hlt
      obtain ⟨b, off, ha, hbN, hcells⟩ : ∃ b off, a = some ⟨b, off, none⟩ ∧ b < w.heap.size ∧ ∀ j, j < ms.length → At3 wr b (off + j * 3) (ms.getD j noS) := by
        obtain ⟨a', cap', e, hh⟩ := HAr.out.1
        cases e
        rcases hh with e | ⟨b, off, e, hb, hc⟩
        · rw [e] at hka; simp at hka
        · exact ⟨b, off, e, hb, hc⟩
      have hat := hcells k hka
      have HPR : Hid (∀ j, j < ms.length → At3 wr b (off + j * 3) (ms.getD j noS)) := hcells
      have HKA : Hid (k < ms.length) := hka
      subst ha
      clear hcells hka
      generalize hx : ms.getD k noS = x at hat
      have HX : Hid (ms.getD k noS = x) := hx
      clear hx
      obtain ⟨uu, f, t⟩ := x
      obtain ⟨d0, d1, d2⟩ := hat
      simp only at d0 d1 d2
      have hlt' : (k : Int) < (n : Int) := by omega
      have hk0 : (0 : Int) ≤ (k : Int) := by omega
      go_upto_region 7 with fail
      have hb2 := new_below wr 110 #[.int .i64 uu, .int .i64 f, .string t]
      have M0 : (wr.alloc (.cells #[.int .i64 uu, .int .i64 f, .string t] 110)).heap[wr.heap.size]? = some (.cells #[.int .i64 uu, .int .i64 f, .string t] 110 (0, 0)) := heap_new _ _
      have L1 := Lr.keep hb2
      have HPR1 : Hid (∀ j, j < ms.length → At3 (wr.alloc (.cells #[.int .i64 uu, .int .i64 f, .string t] 110)) b (off + j * 3) (ms.getD j noS)) := fun j hj => (HPR.out j hj).keep hb2 (HPR.out j hj).lt
      have hbw1 := hbw.trans (hb2.mono hbw.size)
      generalize wr.alloc _ = W1 at M0 L1 HPR1 hbw1 ⊢
      have l2 := L1.c2
      have l3 := L1.c3
      have m0 : W1.cell? ⟨wr.heap.size, 0, none⟩ = some (.int .i64 uu) := by rw [cell_of_row W1 _ _ _ _ _ M0]; rfl
      have m1 : W1.cell? ⟨wr.heap.size, 0 + 1, none⟩ = some (.int .i64 f) := by rw [cell_of_row W1 _ _ _ _ _ M0]; rfl
      have m2 : W1.cell? ⟨wr.heap.size, 0 + 2, none⟩ = some (.string t) := by rw [cell_of_row W1 _ _ _ _ _ M0]; rfl
      simp only at l2 l3
      have HQ : Hid (0 ≤ last ms k) := last_pos HAL.out
      clear c2 c3 c4 d0 d1 d2 M0 L1 Lr hbw hb2 HPR
      obtain ⟨bad, hbad⟩ : ∃ bad : Bool, (bad = true ↔ ¬ mOK nx (last ms k) ⟨uu, f, t⟩) := ⟨@decide _ (Classical.propDecidable _), @decide_eq_true_iff _ (Classical.propDecidable _)⟩
      have HB : Hid (bad = true ↔ ¬ mOK nx (last ms k) ⟨uu, f, t⟩) := hbad
      clear hbad
      go_cut [89] (fun t wx => t = .bool bad ∧ ∃ q, wx = W1.drewN q)
      case first =>
        by_cases r1 : ¬ (1 ≤ uu ∧ uu ≤ nx - 1)
        · have e1 : decide (1 ≤ uu ∧ uu ≤ nx - 1) = false := decide_eq_false r1
          have hbd : bad = true := HB.out.2 (fun y => by have h1 := y.1; have h2 := y.2.1; have h3 := HQ.out; simp only at h1 h2; omega)
          have HBD : Hid (bad = true) := hbd
          clear r1 hbd
          go_quiet ((go_at_call 48; exact Calls.quiet_of_same (HI.out _ _ _ _)))
          go_wp2_with fail
          go_meet
          exact ⟨by rw [HBD.out], _, rfl⟩
        have r1 : 1 ≤ uu ∧ uu ≤ nx - 1 := Decidable.of_not_not r1
        have e1 : decide (1 ≤ uu ∧ uu ≤ nx - 1) = true := decide_eq_true r1
        by_cases hk1 : k = 0
        · have hl0 : last ms k = 0 := by rw [hk1]; rfl
          have HL1 : Hid (last ms k = 0) := hl0
          subst hk1
          clear hl0
          have hkz : decide ((0 : Int) < ((0 : Nat) : Int)) = false := rfl
          by_cases r3 : ¬ (0 ≤ f ∧ f ≤ 31)
          · have e3 : decide (0 ≤ f ∧ f ≤ 31) = false := decide_eq_false r3
            have hbd : bad = true := HB.out.2 (fun y => r3 y.2.2.1)
            have HBD : Hid (bad = true) := hbd
            clear r3 hbd
            go_quiet ((go_at_call 48; exact Calls.quiet_of_same (HI.out _ _ _ _)))
            go_wp2_with fail
            go_meet
            exact ⟨by rw [HBD.out], _, rfl⟩
          have r3 : 0 ≤ f ∧ f ≤ 31 := Decidable.of_not_not r3
          have e3 : decide (0 ≤ f ∧ f ≤ 31) = true := decide_eq_true r3
          by_cases r4 : 4000 < t.size
          · have r4' : (4000 : Int) < (t.size : Int) := by omega
            have hbd : bad = true := HB.out.2 (fun y => by have := y.2.2.2; simp only at this; omega)
            have HBD : Hid (bad = true) := hbd
            clear r3 r4 hbd
            go_quiet ((go_at_call 48; exact Calls.quiet_of_same (HI.out _ _ _ _)))
            go_wp2_with fail
            go_meet
            exact ⟨by rw [HBD.out], _, rfl⟩
          have r4' : decide ((4000 : Int) < (t.size : Int)) = false := decide_eq_false (by omega)
          have hbd : bad = false := Bool.eq_false_iff.2 fun y => HB.out.1 y ⟨by simp only; rw [HL1.out]; omega, by simp only; omega, r3, by simp only; omega⟩
          have HBD : Hid (bad = false) := hbd
          clear r3 r4 hbd
          go_quiet ((go_at_call 48; exact Calls.quiet_of_same (HI.out _ _ _ _)))
          go_wp2_with fail
          go_meet
          exact ⟨by rw [HBD.out], _, rfl⟩
        obtain ⟨j, rfl⟩ : ∃ j, k = j + 1 := ⟨k - 1, by omega⟩
        have hpr := HPR1.out j (by have := HKA.out; omega)
        have hl1 : last ms (j + 1) = (ms.getD j noS).u := last_succ _ _
        generalize hy : ms.getD j noS = y at hpr hl1
        have HL1 : Hid (last ms (j + 1) = y.u) := hl1
        obtain ⟨g0, _, _⟩ := hpr
        generalize y.u = pu at g0 HL1
        clear hl1 hy
        have hjn : (j : Int) < (n : Int) := by omega
        have hj0 : (0 : Int) ≤ (j : Int) := by omega
        have hkz : (0 : Int) < ((j + 1 : Nat) : Int) := by omega
        have hkz2 : decide ((0 : Int) < (j : Int) + 1) = true := decide_eq_true (by omega)
        have hjj2 : (j : Int) + 1 - 1 = (j : Int) := by omega
        have hjj : ((j + 1 : Nat) : Int) - 1 = (j : Int) := by omega
        by_cases r2 : uu ≤ pu
        · have hbd : bad = true := HB.out.2 (fun y => by have h1 := y.1; rw [HL1.out] at h1; simp only at h1; omega)
          have HBD : Hid (bad = true) := hbd
          clear hbd
          go_quiet ((go_at_call 48; exact Calls.quiet_of_same (HI.out _ _ _ _)))
          go_wp2_with fail
          go_meet
          exact ⟨by rw [HBD.out], _, rfl⟩
        have r2' : decide (uu ≤ pu) = false := decide_eq_false r2
        by_cases r3 : ¬ (0 ≤ f ∧ f ≤ 31)
        · have e3 : decide (0 ≤ f ∧ f ≤ 31) = false := decide_eq_false r3
          have hbd : bad = true := HB.out.2 (fun y => r3 y.2.2.1)
          have HBD : Hid (bad = true) := hbd
          clear r3 hbd
          go_quiet ((go_at_call 48; exact Calls.quiet_of_same (HI.out _ _ _ _)))
          go_wp2_with fail
          go_meet
          exact ⟨by rw [HBD.out], _, rfl⟩
        have r3 : 0 ≤ f ∧ f ≤ 31 := Decidable.of_not_not r3
        have e3 : decide (0 ≤ f ∧ f ≤ 31) = true := decide_eq_true r3
        by_cases r4 : 4000 < t.size
        · have r4' : (4000 : Int) < (t.size : Int) := by omega
          have hbd : bad = true := HB.out.2 (fun y => by have := y.2.2.2; simp only at this; omega)
          have HBD : Hid (bad = true) := hbd
          clear r3 r4 hbd
          go_quiet ((go_at_call 48; exact Calls.quiet_of_same (HI.out _ _ _ _)))
          go_wp2_with fail
          go_meet
          exact ⟨by rw [HBD.out], _, rfl⟩
        have r4' : decide ((4000 : Int) < (t.size : Int)) = false := decide_eq_false (by omega)
        have hbd : bad = false := Bool.eq_false_iff.2 fun y => HB.out.1 y ⟨by simp only; rw [HL1.out]; omega, by simp only; omega, r3, by simp only; omega⟩
        have HBD : Hid (bad = false) := hbd
        clear r3 r4 hbd
        go_quiet ((go_at_call 48; exact Calls.quiet_of_same (HI.out _ _ _ _)))
        go_wp2_with fail
        go_meet
        exact ⟨by rw [HBD.out], _, rfl⟩
      case rest =>
        obtain ⟨rfl, q, rfl⟩ := hcut
        have hbw2 := bel_drewN hbw1 q
        clear hbw1 l2 l3 m0 m1 m2
        generalize W1.drewN q = W2 at hbw2 ⊢
        cases bad
        · have hok : mOK nx (last ms k) ⟨uu, f, t⟩ := Classical.not_not.1 fun h => by have := HB.out.2 h; simp at this
          have HR : Hid (MGood ms nx (k + 1)) := mgood_step HAL.out HX.out hok
          clear hok
          go_wp2
          go_roundw
          case rel => exact ⟨k + 1, by omega, by go_num, HR.out, hbw2⟩
          case measure => simp [intOf]; omega
        · have HZ : Hid (R = false) := HF.out (fun y => HB.out.1 (by trivial) (HX.out ▸ (mails_of y.2.2.2.1).2 k HKA.out))
          go_wp2
          go_ret
          exact ⟨mu.ret_bool HZ.out.symm, HBB.out _ hbw2⟩
    · have hkn : k = n := by omega
      have hmb : mailsB ms nx = true := mails_yes (by have := HLM.out; omega) (fun j hj => HAL.out j (by have := HLM.out; omega))
      have HMB : Hid (mailsB ms nx = true) := hmb
      clear hmb HAL c2 c3 c4 Lr HAr
      have Lr := HL0.out _ hbw
      have c3 := Lr.c3
      have c4 := Lr.c4
      clear Lr
      go_wp2
      clear c3 c4
      have HBW : Hid (Below w'.heap.size w' wr) := hbw
      clear hbw
      go_loopw [5] (fun i wq => ∃ (z : Nat), z ≤ p ∧ i = .int .i64 z ∧ KGood ks z ∧ bk.Dist ks z ∧ Below w'.heap.size w' wq) (fun i _ => p - (intOf i).toNat)
      case atStart => exact ⟨0, Nat.zero_le _, rfl, fun j hj => absurd hj (Nat.not_lt_zero _), fun i j _ hj => absurd hj (Nat.not_lt_zero _), HBW.out⟩
      case round =>
        clear HBW hkn hlt hk
        obtain ⟨z, hz, rfl, hkg, hdi, hbq⟩ := hrel
        have HKG : Hid (KGood ks z) := hkg
        have HDI : Hid (bk.Dist ks z) := hdi
        clear hkg hdi
        have Lq := HL0.out _ hbq
        have HAq : Hid (RowsIn wr w.heap.size (.slice a n cap) (.slice a1 p cap1) ms ks) := rows_in_below HA.out hbq (Nat.le_of_lt hsz)
        have c4 := Lq.c4
        clear Lq
        by_cases hzp : z < p
        · have hka : z < ks.length := by rw [← HLK.out]; exact hzp
          obtain ⟨b, off, ha, hbN, hcells⟩ : ∃ b off, a1 = some ⟨b, off, none⟩ ∧ b < w.heap.size ∧ ∀ j, j < ks.length → wr.cell? ⟨b, off + j, none⟩ = some (.string (ks.getD j ky.nt)) := by
            obtain ⟨a', cap', e, hh⟩ := HAq.out.2
            cases e
            rcases hh with e | ⟨b, off, e, hb, hc⟩
            · rw [e] at hka; simp at hka
            · exact ⟨b, off, e, hb, hc⟩
          have d0 := hcells z hka
          have HKA : Hid (z < ks.length) := hka
          have HTK : Hid (∀ W, W.heap = wr.heap → ky.TextsAt W (.slice a1 z cap1) (ks.take z)) := fun W hW => by
            have := texts_take HLK.out HAq.out.2 (Nat.le_of_lt hzp)
            obtain ⟨a', cp, e, hh⟩ := this
            refine ⟨a', cp, e, ?_⟩
            rcases hh with hh | ⟨b, off, e2, hc⟩
            · exact .inl hh
            · exact .inr ⟨b, off, e2, fun j hj => by rw [← hc j hj]; simp only [World.cell?, hW]⟩
          subst ha
          clear hcells hka
          generalize hx : ks.getD z ky.nt = x at d0
          have HX : Hid (ks.getD z ky.nt = x) := hx
          clear hx
          have hlt' : (z : Int) < (p : Int) := by omega
          have hz0 : (0 : Int) ≤ (z : Int) := by omega
          have hzp' : (z : Int) ≤ (p : Int) := by omega
          have hzc : (z : Int) ≤ (cap1 : Int) := by omega
          have htl : (ks.take z).length ≤ 1048576 := by rw [List.length_take]; omega
          have HH : Hid (∀ W, W.heap = wr.heap → Calls Tryz.prog 77 #[.slice (some ⟨b, off, none⟩) z cap1, .string x] W fun e w' => e = .returned (.bool (ky.has (ks.take z) x)) ∧ w' = W) := fun W hW => ky.spec_has _ _ _ _ (HTK.out W hW) htl
          have HBD : Hid (ky.has (ks.take z) x = false → bk.Dist ks (z + 1)) := fun h => dist_step HKA.out HDI.out HX.out h
          have HBN : Hid (ky.has (ks.take z) x = true → bk.dist ks = false) := fun h => dist_bad HKA.out HX.out h
          clear htl HTK
          go_upto_region 12 with fail
          by_cases r1 : ¬ (1 ≤ x.size ∧ x.size ≤ 200)
          · have e1 : decide ((1 : Int) ≤ (x.size : Int) ∧ (x.size : Int) ≤ 200) = false := decide_eq_false (by omega)
            have HZ : Hid (R = false) := HF.out (fun y => r1 (HX.out ▸ (keys_of y.2.2.2.2.2.1).2 z HKA.out))
            clear r1
            go_quiet ((first | (go_at_call 48; exact Calls.quiet_of_same (HI.out _ _ _ _)) | (go_at_call 77; exact Calls.quiet_of_same (HH.out _ rfl))))
            have hb3 := bel_drewN hbq nq
            clear c4 d0 hbq
            go_wp2
            go_ret
            exact ⟨mu.ret_bool HZ.out.symm, HBB.out _ hb3⟩
          have r1 : 1 ≤ x.size ∧ x.size ≤ 200 := Decidable.of_not_not r1
          have e1 : decide ((1 : Int) ≤ (x.size : Int) ∧ (x.size : Int) ≤ 200) = true := decide_eq_true (by omega)
          have HKG1 : Hid (KGood ks (z + 1)) := kgood_step HKG.out HX.out r1
          clear r1
          generalize hhs : ky.has (ks.take z) x = hs at HH HBD HBN
          clear hhs
          cases hs
          · go_quiet ((first | (go_at_call 48; exact Calls.quiet_of_same (HI.out _ _ _ _)) | (go_at_call 77; exact Calls.quiet_of_same (HH.out _ rfl))))
            have hb3 := bel_drewN hbq nq
            clear c4 d0 hbq
            go_wp2
            go_roundw
            case rel => exact ⟨z + 1, by omega, by go_num, HKG1.out, HBD.out (by trivial), hb3⟩
            case measure => simp [intOf]; omega
          · have HZ : Hid (R = false) := HF.out (fun y => by have h1 := HBN.out (by trivial); rw [h1] at y; simp at y)
            go_quiet ((first | (go_at_call 48; exact Calls.quiet_of_same (HI.out _ _ _ _)) | (go_at_call 77; exact Calls.quiet_of_same (HH.out _ rfl))))
            have hb3 := bel_drewN hbq nq
            clear c4 d0 hbq
            go_wp2
            go_ret
            exact ⟨mu.ret_bool HZ.out.symm, HBB.out _ hb3⟩
        · have HZ : Hid (R = true) := HT.out ⟨by trivial, HQ1.out, ⟨n1, n2⟩, HMB.out, HQ5.out, keys_yes (by have := HLK.out; omega) (fun j hj => HKG.out j (by have := HLK.out; omega)), dist_yes (fun i j hij hj => HDI.out i j hij (by have := HLK.out; omega))⟩
          go_wp2
          go_ret
          exact ⟨mu.ret_bool HZ.out.symm, HBB.out _ hbq⟩
end Go.Proofs.YtncnbhekgkemfaaGreatDoor.bx
