/-
  The program's own test of a box, as a whole.
-/
import Derived.Test.YtbhjinhedbgmnabBxd
namespace Go.Proofs.Ytbhjinhedbgmnab.bx
open Go.RowKit
open st
set_option linter.unusedVariables false

theorem bok_of (x : Bx) : bok x = true ↔ mu.nmB x.nm = true ∧ (1 ≤ x.vd ∧ x.vd ≤ 1000000) ∧ (1 ≤ x.nx ∧ x.nx ≤ 1001) ∧ mailsB x.ms x.nx = true ∧ (x.ks.length : Int) = x.nx - 1 ∧ keysB x.ks = true ∧ bk.dist x.ks = true := by
  simp [bok, and_assoc]
theorem bok_last {x : Bx} (h : mu.nmB x.nm = true ∧ (1 ≤ x.vd ∧ x.vd ≤ 1000000) ∧ (1 ≤ x.nx ∧ x.nx ≤ 1001) ∧ mailsB x.ms x.nx = true ∧ (x.ks.length : Int) = x.nx - 1 ∧ keysB x.ks = true) : bok x = bk.dist x.ks := by
  rw [Bool.eq_iff_iff, bok_of]
  exact ⟨fun y => y.2.2.2.2.2.2, fun y => ⟨h.1, h.2.1, h.2.2.1, h.2.2.2.1, h.2.2.2.2.1, h.2.2.2.2.2, y⟩⟩

set_option maxHeartbeats 4000000 in
set_option maxRecDepth 100000 in
theorem isRight_any (x : Bx) (v u : Value) (B n0 N : Nat) (D0 : DataW Unit) (w : World) (h : RowsIn w N v u x.ms x.ks) (hN : N ≤ B) (hown : bk.Own w B n0 D0) (hx : Small x) :
    Calls Try.prog 59 #[BV x v u, .map (some B)] w fun e w' => e = .returned (.bool (bok x)) ∧ (∃ n D, bk.Own w' B n D) ∧ Below B w w' := by
  have L0 := lies_new w 27 x v u
  have hlt := hown.lt
  have b0 := (new_below w 27 #[.string x.nm, .int .i64 x.vd, .int .i64 x.nx, v, u]).mono (Nat.le_of_lt hlt)
  have O0 := hown.alloc (.cells #[.string x.nm, .int .i64 x.vd, .int .i64 x.nx, v, u] 27)
  have HA : Hid (RowsIn (w.alloc (.cells #[.string x.nm, .int .i64 x.vd, .int .i64 x.nx, v, u] 27)) N v u x.ms x.ks) := rows_in_below h b0 hN
  have hls : B < (w.alloc (.cells #[.string x.nm, .int .i64 x.vd, .int .i64 x.nx, v, u] 27)).heap.size := by simp; omega
  have HF : Hid (¬ (mu.nmB x.nm = true ∧ (1 ≤ x.vd ∧ x.vd ≤ 1000000) ∧ (1 ≤ x.nx ∧ x.nx ≤ 1001) ∧ mailsB x.ms x.nx = true ∧ (x.ks.length : Int) = x.nx - 1 ∧ keysB x.ks = true) → bok x = false) := fun hh => Bool.eq_false_iff.2 fun y => hh (by have := (bok_of x).1 y; exact ⟨this.1, this.2.1, this.2.2.1, this.2.2.2.1, this.2.2.2.2.1, this.2.2.2.2.2.1⟩)
  have HT : Hid (mu.nmB x.nm = true ∧ (1 ≤ x.vd ∧ x.vd ≤ 1000000) ∧ (1 ≤ x.nx ∧ x.nx ≤ 1001) ∧ mailsB x.ms x.nx = true ∧ (x.ks.length : Int) = x.nx - 1 ∧ keysB x.ks = true → bok x = bk.dist x.ks) := bok_last
  obtain ⟨⟨a, cap, rfl, _⟩, ⟨a1, cap1, rfl, _⟩⟩ := h
  obtain ⟨nm, vd, nx, ms, ks⟩ := x
  obtain ⟨hi, hnm, hms, hks⟩ := hx
  have HMS : Hid (st.Smalls ms) := hms
  have HKS : Hid (tx.Smalls ks) := hks
  have HNX : Hid (In nx) := hi.2
  unfold BV
  simp only at L0 b0 O0 HA hls HF HT hnm ⊢
  have hkl : ks.length ≤ 1048576 := hks.1
  clear hi hms hks hown
  have HNM : Hid (∀ w, Calls Try.prog 70 #[.string nm] w fun e w' => e = .returned (.bool (mu.nmB nm)) ∧ w' = w) := fun w => mu.impl_name nm w hnm
  generalize bok ⟨nm, vd, nx, ms, ks⟩ = R at HF HT ⊢
  go_enter Try.func59, Try.ntmps59
  go_wp2_with fail
  generalize w.alloc _ = w0 at L0 b0 O0 HA hls ⊢
  refine (HNM.out _).mono ?_
  rintro e w' ⟨rfl, rfl⟩
  have O0 : Hid (bk.Own w' B n0 D0) := O0
  have c0 := L0.c0
  have c1 := L0.c1
  have c2 := L0.c2
  have c3 := L0.c3
  have c4 := L0.c4
  simp only at c0 c1 c2 c3 c4
  generalize hq : mu.nmB nm = nb at HF HT ⊢
  clear hq HNM
  cases nb
  · have HZ : Hid (R = false) := HF.out (fun x => by have := x.1; simp at this)
    go_wp2
    go_ret
    exact ⟨mu.ret_bool HZ.out.symm, ⟨_, _, O0.out⟩, b0⟩
  by_cases q1' : vd < 1
  · skip
    have HZ : Hid (R = false) := HF.out (fun x => by have := x.2.1.1; omega)
    go_wp2
    go_ret
    exact ⟨mu.ret_bool HZ.out.symm, ⟨_, _, O0.out⟩, b0⟩
  have q1 : 1 ≤ vd := by omega
  by_cases q2' : 1000000 < vd
  · skip
    have HZ : Hid (R = false) := HF.out (fun x => by have := x.2.1.2; omega)
    go_wp2
    go_ret
    exact ⟨mu.ret_bool HZ.out.symm, ⟨_, _, O0.out⟩, b0⟩
  have q2 : vd ≤ 1000000 := by omega
  by_cases q3' : nx < 1
  · skip
    have HZ : Hid (R = false) := HF.out (fun x => by have := x.2.2.1.1; omega)
    go_wp2
    go_ret
    exact ⟨mu.ret_bool HZ.out.symm, ⟨_, _, O0.out⟩, b0⟩
  have q3 : 1 ≤ nx := by omega
  by_cases q4' : 1001 < nx
  · skip
    have HZ : Hid (R = false) := HF.out (fun x => by have := x.2.2.1.2; omega)
    go_wp2
    go_ret
    exact ⟨mu.ret_bool HZ.out.symm, ⟨_, _, O0.out⟩, b0⟩
  have q4 : nx ≤ 1001 := by omega
  go_wp2_with fail
  refine (areMails_any N _ ms nx _ HA.out.1 (Nat.le_trans hN (Nat.le_of_lt hls)) HMS.out HNX.out).mono ?_
  rintro e w1 ⟨rfl, hb1⟩
  have L1 := L0.keep hb1
  have HO1 : Hid (bk.Own w1 B n0 D0) := bk.own_keep O0.out hb1 hls
  have HA1 : Hid (RowsIn w1 N (.slice a ms.length cap) (.slice a1 ks.length cap1) ms ks) := rows_in_below HA.out hb1 (Nat.le_trans hN (Nat.le_of_lt hls))
  have b1 := b0.trans (hb1.mono (Nat.le_of_lt hls))
  have hls1 : B < w1.heap.size := Nat.lt_of_lt_of_le hls hb1.size
  clear hb1 L0 O0 HA b0 hls c0 c1 c2 c3 c4
  have c2 := L1.c2
  have c4 := L1.c4
  simp only at c2 c4
  generalize hq : mailsB ms nx = mb at HF HT ⊢
  clear hq
  cases mb
  · have HZ : Hid (R = false) := HF.out (fun x => by have := x.2.2.2.1; simp at this)
    go_wp2
    go_ret
    exact ⟨mu.ret_bool HZ.out.symm, ⟨_, _, HO1.out⟩, b1⟩
  by_cases q5 : ¬ (ks.length : Int) = nx - 1
  · have q5' : ((ks.length : Int) == nx - 1) = false := by simp [q5]
    have HZ : Hid (R = false) := HF.out (fun x => q5 x.2.2.2.2.1)
    clear q5
    go_wp2
    go_ret
    exact ⟨mu.ret_bool HZ.out.symm, ⟨_, _, HO1.out⟩, b1⟩
  have q5 : (ks.length : Int) = nx - 1 := by omega
  have q5' : ((ks.length : Int) == nx - 1) = true := by simp [q5]
  have HQ5 : Hid ((ks.length : Int) = nx - 1) := q5
  clear q5
  go_wp2_with fail
  refine (areKeys_any N _ ks _ HA1.out.2 HKS.out).mono ?_
  rintro e w2 ⟨rfl, rfl⟩
  generalize hq : keysB ks = kb at HF HT ⊢
  clear hq
  cases kb
  · have HZ : Hid (R = false) := HF.out (fun x => by have := x.2.2.2.2.2; simp at this)
    go_wp2
    go_ret
    exact ⟨mu.ret_bool HZ.out.symm, ⟨_, _, HO1.out⟩, b1⟩
  go_wp2_with fail
  refine (bk.learn_any B n0 N D0 _ ks _ HO1.out HA1.out.2 hN HKS.out).mono ?_
  rintro e w3 ⟨rfl, ⟨n, D, ho, _⟩, hb3⟩
  have HZ : Hid (R = bk.dist ks) := HT.out ⟨by trivial, ⟨q1, q2⟩, ⟨q3, q4⟩, by trivial, HQ5.out, by trivial⟩
  have HO3 : Hid (bk.Own w3 B n D) := ho
  have b3 := b1.trans hb3
  clear ho hb3 b1 HO1 HA1 c2 c4
  generalize bk.dist ks = dd at HZ ⊢
  cases dd
  · go_wp2
    go_ret
    exact ⟨mu.ret_bool HZ.out.symm, ⟨_, _, HO3.out⟩, b3⟩
  · go_wp2
    go_ret
    exact ⟨mu.ret_bool HZ.out.symm, ⟨_, _, HO3.out⟩, b3⟩

end Go.Proofs.Ytbhjinhedbgmnab.bx
