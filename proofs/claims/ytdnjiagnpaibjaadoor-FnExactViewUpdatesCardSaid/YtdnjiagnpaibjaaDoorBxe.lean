/-
  The program's own test of a box, as a whole.
-/
import Derived.Test.YtdnjiagnpaibjaaDoorBxd
namespace Go.Proofs.YtdnjiagnpaibjaaDoor.bx
open Go.RowKit
open st
set_option linter.unusedVariables false

theorem bok_of (x : Bx) : bok x = true ↔ mu.nmB x.nm = true ∧ (1 ≤ x.vd ∧ x.vd ≤ 1000000) ∧ (1 ≤ x.nx ∧ x.nx ≤ 1001) ∧ mailsB x.ms x.nx = true ∧ (x.ks.length : Int) = x.nx - 1 ∧ keysB x.ks = true ∧ bk.dist x.ks = true := by
  simp [bok, and_assoc]
theorem bok_last {x : Bx} (h : mu.nmB x.nm = true ∧ (1 ≤ x.vd ∧ x.vd ≤ 1000000) ∧ (1 ≤ x.nx ∧ x.nx ≤ 1001) ∧ mailsB x.ms x.nx = true ∧ (x.ks.length : Int) = x.nx - 1 ∧ keysB x.ks = true) : bok x = bk.dist x.ks := by
  rw [Bool.eq_iff_iff, bok_of]
  exact ⟨fun y => y.2.2.2.2.2.2, fun y => ⟨h.1, h.2.1, h.2.2.1, h.2.2.2.1, h.2.2.2.2.1, h.2.2.2.2.2, y⟩⟩

set_option maxHeartbeats 4000000 in
set_option maxRecDepth 100000 in
theorem isRight_any (x : Bx) (v u : Value) (B n0 N : Nat) (D0 : DataW Unit) (w : World) (h : RowsIn w N v u x.ms x.ks) (hN : N ≤ B) (hown : bk.Own w B n0 D0) (hx : Small x) :
    Calls Tryd.prog 51 #[BV x v u, .map (some B)] w fun e w' => e = .returned (.bool (bok x)) ∧ (∃ n D, bk.Own w' B n D) ∧ Below B w w' := by
  have L0 := lies_new w 32 x v u
  have hlt := hown.lt
  have b0 := (new_below w 32 #[.string x.nm, .int .i64 x.vd, .int .i64 x.nx, v, u]).mono (Nat.le_of_lt hlt)
  have O0 := hown.alloc (.cells #[.string x.nm, .int .i64 x.vd, .int .i64 x.nx, v, u] 32)
  have HA : Hid (RowsIn (w.alloc (.cells #[.string x.nm, .int .i64 x.vd, .int .i64 x.nx, v, u] 32)) N v u x.ms x.ks) := rows_in_below h b0 hN
  have hls : B < (w.alloc (.cells #[.string x.nm, .int .i64 x.vd, .int .i64 x.nx, v, u] 32)).heap.size := by simp; omega
  have HF : Hid (¬ (mu.nmB x.nm = true ∧ (1 ≤ x.vd ∧ x.vd ≤ 1000000) ∧ (1 ≤ x.nx ∧ x.nx ≤ 1001) ∧ mailsB x.ms x.nx = true ∧ (x.ks.length : Int) = x.nx - 1 ∧ keysB x.ks = true) → bok x = false) := fun hh => Bool.eq_false_iff.2 fun y => hh (by have := (bok_of x).1 y; exact ⟨this.1, this.2.1, this.2.2.1, this.2.2.2.1, this.2.2.2.2.1, this.2.2.2.2.2.1⟩)
  have HT : Hid (mu.nmB x.nm = true ∧ (1 ≤ x.vd ∧ x.vd ≤ 1000000) ∧ (1 ≤ x.nx ∧ x.nx ≤ 1001) ∧ mailsB x.ms x.nx = true ∧ (x.ks.length : Int) = x.nx - 1 ∧ keysB x.ks = true → bok x = bk.dist x.ks) := bok_last
  obtain ⟨⟨a, cap, rfl, _⟩, ⟨a1, cap1, rfl, _⟩⟩ := h
  obtain ⟨nm, vd, nx, ms, ks⟩ := x
  obtain ⟨hi, hnm, hms, hks⟩ := hx
  have HMS : Hid (st.Smalls ms) := hms
  have HKS : Hid (tx.Smalls ks) := hks
  have HNX : Hid (In nx) := hi.2
  unfold BV
  simp only at L0 b0 O0 HA hls HF HT hnm ⊢
  have hkl : ks.length ≤ 1048576 := hks.1
  clear hi hms hks hown
  have HNM : Hid (∀ w, Calls Tryd.prog 75 #[.string nm] w fun e w' => e = .returned (.bool (mu.nmB nm)) ∧ w' = w) := fun w => mu.impl_name nm w hnm
  generalize bok ⟨nm, vd, nx, ms, ks⟩ = R at HF HT ⊢
  go_enter Tryd.func51, Tryd.ntmps51
  go_wp2_with fail
  generalize w.alloc _ = w0 at L0 b0 O0 HA hls ⊢
  refine (HNM.out _).mono ?_
  rintro e w' ⟨rfl, rfl⟩
  have O0 : Hid (bk.Own w' B n0 D0) := O0
  have c0 := L0.c0
  have c1 := L0.c1
  have c2 := L0.c2
  have c3 := L0.c3
  have c4 := L0.c4
  simp only at c0 c1 c2 c3 c4
  generalize hq : mu.nmB nm = nb at HF HT ⊢
  clear hq HNM
  cases nb
  · have HZ : Hid (R = false) := HF.out (fun x => by have := x.1; simp at this)
    go_wp2
    go_ret
    exact ⟨mu.ret_bool HZ.out.symm, ⟨_, _, O0.out⟩, b0⟩
  by_cases q1' : vd < 1
  · skip
    have HZ : Hid (R = false) := HF.out (fun x => by have := x.2.1.1; omega)
    go_wp2
    go_ret
    exact ⟨mu.ret_bool HZ.out.symm, ⟨_, _, O0.out⟩, b0⟩
  have q1 : 1 ≤ vd := by omega
  by_cases q2' : 1000000 < vd
  · skip
    have HZ : Hid (R = false) := HF.out (fun x => by have := x.2.1.2; omega)
    go_wp2
    go_ret
    exact ⟨mu.ret_bool HZ.out.symm, ⟨_, _, O0.out⟩, b0⟩
  have q2 : vd ≤ 1000000 := by omega
  by_cases q3' : nx < 1
  · skip
    have HZ : Hid (R = false) := HF.out (fun x => by have := x.2.2.1.1; omega)
    go_wp2
    go_ret
    exact ⟨mu.ret_bool HZ.out.symm, ⟨_, _, O0.out⟩, b0⟩
  have q3 : 1 ≤ nx := by omega
  by_cases q4' : 1001 < nx
  · skip
    have HZ : Hid (R = false) := HF.out (fun x => by have := x.2.2.1.2; omega)
    go_wp2
    go_ret
    exact ⟨mu.ret_bool HZ.out.symm, ⟨_, _, O0.out⟩, b0⟩
  have q4 : nx ≤ 1001 := by omega
  go_wp2_with fail
  refine (areMails_any N _ ms nx _ HA.out.1 (Nat.le_trans hN (Nat.le_of_lt hls)) HMS.out HNX.out).mono ?_
  rintro e w1 ⟨rfl, hb1⟩
  have L1 := L0.keep hb1
  have HO1 : Hid (bk.Own w1 B n0 D0) := bk.own_keep O0.out hb1 hls
  have HA1 : Hid (RowsIn w1 N (.slice a ms.length cap) (.slice a1 ks.length cap1) ms ks) := rows_in_below HA.out hb1 (Nat.le_trans hN (Nat.le_of_lt hls))
  have b1 := b0.trans (hb1.mono (Nat.le_of_lt hls))
  have hls1 : B < w1.heap.size := Nat.lt_of_lt_of_le hls hb1.size
  clear hb1 L0 O0 HA b0 hls c0 c1 c2 c3 c4
  have c2 := L1.c2
  have c4 := L1.c4
  simp only at c2 c4
  generalize hq : mailsB ms nx = mb at HF HT ⊢
  clear hq
  cases mb
  · have HZ : Hid (R = false) := HF.out (fun x => by have := x.2.2.2.1; simp at this)
    go_wp2
    go_ret
    exact ⟨mu.ret_bool HZ.out.symm, ⟨_, _, HO1.out⟩, b1⟩
  by_cases q5 : ¬ (ks.length : Int) = nx - 1
  · have q5' : ((ks.length : Int) == nx - 1) = false := by simp [q5]
    have HZ : Hid (R = false) := HF.out (fun x => q5 x.2.2.2.2.1)
    clear q5
    go_wp2
    go_ret
    exact ⟨mu.ret_bool HZ.out.symm, ⟨_, _, HO1.out⟩, b1⟩
  have q5 : (ks.length : Int) = nx - 1 := by omega
  have q5' : ((ks.length : Int) == nx - 1) = true := by simp [q5]
  have HQ5 : Hid ((ks.length : Int) = nx - 1) := q5
  clear q5
  go_wp2_with fail
  refine (areKeys_any N _ ks _ HA1.out.2 HKS.out).mono ?_
  rintro e w2 ⟨rfl, rfl⟩
  generalize hq : keysB ks = kb at HF HT ⊢
  clear hq
  cases kb
  · have HZ : Hid (R = false) := HF.out (fun x => by have := x.2.2.2.2.2; simp at this)
    go_wp2
    go_ret
    exact ⟨mu.ret_bool HZ.out.symm, ⟨_, _, HO1.out⟩, b1⟩
  go_wp2_with fail
  refine (bk.learn_any B n0 N D0 _ ks _ HO1.out HA1.out.2 hN HKS.out).mono ?_
  rintro e w3 ⟨rfl, ⟨n, D, ho, _⟩, hb3⟩
  have HZ : Hid (R = bk.dist ks) := HT.out ⟨by trivial, ⟨q1, q2⟩, ⟨q3, q4⟩, by trivial, HQ5.out, by trivial⟩
  have HO3 : Hid (bk.Own w3 B n D) := ho
  have b3 := b1.trans hb3
  clear ho hb3 b1 HO1 HA1 c2 c4
  generalize bk.dist ks = dd at HZ ⊢
  cases dd
  · go_wp2
    go_ret
    exact ⟨mu.ret_bool HZ.out.symm, ⟨_, _, HO3.out⟩, b3⟩
  · go_wp2
    go_ret
    exact ⟨mu.ret_bool HZ.out.symm, ⟨_, _, HO3.out⟩, b3⟩

set_option maxHeartbeats 1000000 in
set_option maxRecDepth 100000 in
theorem impl_bok (x : Bx) (v u : Value) (w : World) (h : RowsAt w v u x.ms x.ks) (hx : Small x) :
    Calls Tryd.prog 30 #[BV x v u] w fun e w' => e = .returned (.bool (bok x)) ∧ Below w.heap.size w w' := by
  have hmm := @run_makeMap Tryd.prog
  have L0 := lies_new w 32 x v u
  have b0 := new_below w 32 #[.string x.nm, .int .i64 x.vd, .int .i64 x.nx, v, u]
  have HA := rows_in_below h b0 (Nat.le_refl _)
  obtain ⟨W, hW⟩ : ∃ W, W = w.alloc (.cells #[.string x.nm, .int .i64 x.vd, .int .i64 x.nx, v, u] 32) := ⟨_, rfl⟩
  rw [← hW] at HA b0
  have O1 := World.ownsMap_made (H := Unit) W Tryd.prog 9 (plainElem Tryd.prog 3)
  have b1 : Below W.heap.size W (W.alloc (.map #[] 0)) := (Below.refl _ _).alloc (Nat.le_refl _) _
  have HA1 : Hid (RowsIn (W.alloc (.map #[] 0)) w.heap.size v u x.ms x.ks) := rows_in_below HA b1 b0.size
  have hsz : W.heap.size = w.heap.size + 1 := by rw [hW]; simp
  rw [hsz] at O1
  have HO1 : Hid (bk.Own (W.alloc (.map #[] 0)) (w.heap.size + 1) 0 (.map [])) := O1
  have b2 := b0.trans (b1.mono b0.size)
  have HX : Hid (Small x) := hx
  clear O1 HA b1 hx
  rw [hW] at HA1 HO1 b2
  obtain ⟨⟨a, cap, rfl, _⟩, ⟨a1, cap1, rfl, _⟩⟩ := h
  obtain ⟨nm, vd, nx, ms, ks⟩ := x
  unfold BV
  simp only at L0 b0 HA1 HO1 b2 ⊢
  go_enter Tryd.func30, Tryd.ntmps30
  go_wp2_with fail
  refine (isRight_any ⟨nm, vd, nx, ms, ks⟩ _ _ (w.heap.size + 1) 0 w.heap.size (.map []) _ HA1.out (by omega) HO1.out HX.out).mono ?_
  rintro e w3 ⟨rfl, _, hb3⟩
  have b3 := b2.trans (hb3.mono (by omega))
  clear b2 hb3 HA1 HO1 L0 hmm
  go_wp2
  go_ret
  exact ⟨rfl, b3⟩
end Go.Proofs.YtdnjiagnpaibjaaDoor.bx
