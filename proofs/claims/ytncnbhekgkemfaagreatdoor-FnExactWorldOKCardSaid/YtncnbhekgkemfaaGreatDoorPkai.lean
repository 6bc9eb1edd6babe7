/-
  The program's own test of a box: its mails, its keys, the whole.
  The program's own test of a box, as a whole.
  The place of a box among boxes, and the program's own test of boxes.
-/
import Derived.Test.YtncnbhekgkemfaaGreatDoorPkah
import Derived.Test.YtncnbhekgkemfaaGreatDoorPkad

namespace Go.Proofs.YtncnbhekgkemfaaGreatDoor.bx
open Go.RowKit
open st
set_option linter.unusedVariables false

def mOK (nx prev : Int) (e : St) : Prop := prev < e.u ∧ e.u < nx ∧ (0 ≤ e.f ∧ e.f ≤ 31) ∧ e.t.size ≤ 4000
def last (ms : List St) (k : Nat) : Int := if k = 0 then 0 else (ms.getD (k - 1) noS).u
def MGood (ms : List St) (nx : Int) (k : Nat) : Prop := ∀ j, j < k → mOK nx (last ms j) (ms.getD j noS)
theorem last_succ (ms : List St) (k : Nat) : last ms (k + 1) = (ms.getD k noS).u := by simp [last]
theorem last_pos {ms : List St} {nx : Int} : ∀ {k : Nat}, MGood ms nx k → 0 ≤ last ms k
  | 0, _ => by simp [last]
  | k + 1, h => by
    rw [last_succ]
    have h1 := last_pos (k := k) (fun j hj => h j (by omega))
    have h2 := (h k (by omega)).1
    omega
theorem mgood_step {ms : List St} {nx : Int} {k : Nat} (h : MGood ms nx k) {x : St} (hx : ms.getD k noS = x) (hm : mOK nx (last ms k) x) : MGood ms nx (k + 1) := by
  intro j hj
  by_cases e : j = k
  · subst e; rw [hx]; exact hm
  · exact h j (by omega)
def dMail (ms : List St) (nx : Int) (k : Nat) : Decidable (MGood ms nx k) := inferInstanceAs (Decidable (∀ j, j < k → last ms j < (ms.getD j noS).u ∧ (ms.getD j noS).u < nx ∧ (0 ≤ (ms.getD j noS).f ∧ (ms.getD j noS).f ≤ 31) ∧ (ms.getD j noS).t.size ≤ 4000))
def mailsB (ms : List St) (nx : Int) : Bool := @decide (ms.length ≤ 30 ∧ MGood ms nx ms.length) (@instDecidableAnd _ _ _ (dMail ms nx ms.length))
theorem mails_no {ms : List St} {nx : Int} (h : ¬ (ms.length ≤ 30 ∧ MGood ms nx ms.length)) : mailsB ms nx = false := ow.df h
theorem mails_yes {ms : List St} {nx : Int} (h : ms.length ≤ 30) (h2 : MGood ms nx ms.length) : mailsB ms nx = true := ow.dt ⟨h, h2⟩
theorem mails_of {ms : List St} {nx : Int} (h : mailsB ms nx = true) : ms.length ≤ 30 ∧ MGood ms nx ms.length := ow.dof h
theorem mails_bad {ms : List St} {nx : Int} {k : Nat} (hk : k < ms.length) {x : St} (hx : ms.getD k noS = x) (hm : ¬ mOK nx (last ms k) x) : mailsB ms nx = false := mails_no fun h => hm (hx ▸ h.2 k hk)
def KGood (ks : List ByteArray) (k : Nat) : Prop := ∀ j, j < k → 1 ≤ (ks.getD j ky.nt).size ∧ (ks.getD j ky.nt).size ≤ 200
def dKeys (ks : List ByteArray) (k : Nat) : Decidable (KGood ks k) := inferInstanceAs (Decidable (∀ j, j < k → 1 ≤ (ks.getD j ky.nt).size ∧ (ks.getD j ky.nt).size ≤ 200))
def keysB (ks : List ByteArray) : Bool := @decide (ks.length ≤ 60 ∧ KGood ks ks.length) (@instDecidableAnd _ _ _ (dKeys ks ks.length))
theorem keys_no {ks : List ByteArray} (h : ¬ (ks.length ≤ 60 ∧ KGood ks ks.length)) : keysB ks = false := ow.df h
theorem keys_yes {ks : List ByteArray} (h : ks.length ≤ 60) (h2 : KGood ks ks.length) : keysB ks = true := ow.dt ⟨h, h2⟩
theorem keys_of {ks : List ByteArray} (h : keysB ks = true) : ks.length ≤ 60 ∧ KGood ks ks.length := ow.dof h
theorem kgood_step {ks : List ByteArray} {k : Nat} (h : KGood ks k) {x : ByteArray} (hx : ks.getD k ky.nt = x) (hm : 1 ≤ x.size ∧ x.size ≤ 200) : KGood ks (k + 1) := by
  intro j hj
  by_cases e : j = k
  · subst e; rw [hx]; exact hm
  · exact h j (by omega)
/-- A box is right. -/
def bok (x : Bx) : Bool := mu.nmB x.nm && decide (1 ≤ x.vd ∧ x.vd ≤ 1000000) && decide (1 ≤ x.nx ∧ x.nx ≤ 1001) && mailsB x.ms x.nx && decide ((x.ks.length : Int) = x.nx - 1) && keysB x.ks && bk.dist x.ks

set_option maxHeartbeats 2000000 in
set_option maxRecDepth 100000 in
theorem areMails_any (N : Nat) (v : Value) (ms : List St) (nx : Int) (w : World) (h : MailsIn w N v ms) (hN : N ≤ w.heap.size) (hs : st.Smalls ms) (hnx : In nx) :
    Calls Tryz.prog 125 #[v, .int .i64 nx] w fun e w' => e = .returned (.bool (mailsB ms nx)) ∧ Below w.heap.size w w' := by
  obtain ⟨a, cap, rfl, h⟩ := h
  obtain ⟨n, hn⟩ : ∃ n, n = ms.length := ⟨_, rfl⟩
  have HN : Hid (n = ms.length) := hn
  have HH : Hid (ms = [] ∨ ∃ b off, a = some ⟨b, off, none⟩ ∧ b < N ∧ ∀ j, j < ms.length → At3 w b (off + j * 3) (ms.getD j noS)) := h
  have HS : Hid (st.Smalls ms) := hs
  have hl : n ≤ 1048576 := by rw [hn]; exact hs.1
  rw [← hn]
  clear h hs hn hnx
  have HF : Hid (∀ f w, Calls Tryz.prog 119 #[.int .i64 f] w fun e w' => e = .returned (.bool (mu.fOK f)) ∧ w' = w) := fun f w => mu.areFlags_any f w
  by_cases g0 : 30 < n
  · have g0' : (30 : Int) < (n : Int) := by omega
    rw [mails_no (by have := HN.out; omega)]
    go_enter Tryz.func125, Tryz.ntmps125
    go_wp2
    go_ret
    exact ⟨rfl, Below.refl _ _⟩
  have g0' : (n : Int) ≤ 30 := by omega
  go_enter Tryz.func125, Tryz.ntmps125
  go_wp2
  go_loopw [5, 13] (fun l i wr => ∃ (k : Nat), k ≤ n ∧ l = .int .i64 (last ms k) ∧ i = .int .i64 k ∧ MGood ms nx k ∧ Below w.heap.size w wr) (fun _ i _ => n - (intOf i).toNat)
  case atStart => exact ⟨0, Nat.zero_le _, rfl, rfl, fun j hj => absurd hj (Nat.not_lt_zero _), Below.refl _ _⟩
  case round =>
    obtain ⟨k, hk, rfl, rfl, hal, hbw⟩ := hrel
    have HAL : Hid (MGood ms nx k) := hal
    clear hal
    obtain ⟨l, hl⟩ : ∃ l, l = last ms k := ⟨_, rfl⟩
    have HLL : Hid (l = last ms k) := hl
    rw [← hl]
    clear hl
    by_cases hlt : k < n
    · have hka : k < ms.length := by rw [← HN.out]; exact hlt
      rcases HH.out with e | ⟨b, off, rfl, _, hcells⟩
      · rw [e] at hka; simp at hka
      have hat := (hcells k hka).keep hbw (hcells k hka).lt
      have HKA : Hid (k < ms.length) := hka
      clear hcells hka
      generalize hx : ms.getD k noS = x at hat
      have HX : Hid (ms.getD k noS = x) := hx
      clear hx
      obtain ⟨u, f, t⟩ := x
      obtain ⟨c0, c1, c2⟩ := hat
      simp only at c0 c1 c2
      have hlt' : (k : Int) < (n : Int) := by omega
      have hb2 : Below w.heap.size w (wr.alloc (.cells #[.int .i64 u, .int .i64 f, .string t] 110)) := hbw.alloc hbw.size _
      have HB : Hid (¬ mOK nx l ⟨u, f, t⟩ → mailsB ms nx = false) := fun h => mails_bad HKA.out HX.out (by rw [← HLL.out]; exact h)
      have HG : Hid (mOK nx l ⟨u, f, t⟩ → MGood ms nx (k + 1)) := fun h => mgood_step HAL.out HX.out (by rw [← HLL.out]; exact h)
      have hls : last ms (k + 1) = u := by rw [last_succ, HX.out]
      have HLS : Hid (last ms (k + 1) = u) := hls
      clear hls
      clear HAL HX HKA HLL
      by_cases q0 : u ≤ l
      · have HR : Hid (mailsB ms nx = false) := HB.out (fun x => by have := x.1; simp only at this; omega)
        go_wp2
        go_ret
        exact ⟨mu.ret_bool HR.out.symm, hb2⟩
      have q0' : l < u := by omega
      by_cases q1 : nx ≤ u
      · have HR : Hid (mailsB ms nx = false) := HB.out (fun x => by have := x.2.1; simp only at this; omega)
        go_wp2
        go_ret
        exact ⟨mu.ret_bool HR.out.symm, hb2⟩
      have q1' : u < nx := by omega
      by_cases q2 : 0 ≤ f ∧ f ≤ 31
      · have e2 : mu.fOK f = true := decide_eq_true q2
        by_cases q3 : t.size ≤ 4000
        · have q3' : (t.size : Int) ≤ 4000 := by omega
          have HR : Hid (MGood ms nx (k + 1)) := HG.out ⟨q0', q1', q2, q3⟩
          go_wp2_with (go_at_call 119; refine (HF.out _ _).mono ?_; rintro e w' ⟨rfl, rfl⟩; rw [e2])
          go_roundw
          case rel => exact ⟨k + 1, by omega, by rw [HLS.out], by go_num, HR.out, hb2⟩
          case measure => simp [intOf]; omega
        · have q3' : (4000 : Int) < (t.size : Int) := by omega
          have HR : Hid (mailsB ms nx = false) := HB.out (fun x => q3 x.2.2.2)
          go_wp2_with (go_at_call 119; refine (HF.out _ _).mono ?_; rintro e w' ⟨rfl, rfl⟩; rw [e2])
          go_ret
          exact ⟨mu.ret_bool HR.out.symm, hb2⟩
      · have e2 : mu.fOK f = false := decide_eq_false q2
        have HR : Hid (mailsB ms nx = false) := HB.out (fun x => q2 x.2.2.1)
        go_wp2_with (go_at_call 119; refine (HF.out _ _).mono ?_; rintro e w' ⟨rfl, rfl⟩; rw [e2])
        go_ret
        exact ⟨mu.ret_bool HR.out.symm, hb2⟩
    · have HR : Hid (mailsB ms nx = true) := mails_yes (by have := HN.out; omega) (fun j hj => HAL.out j (by have := HN.out; omega))
      go_wp2
      go_ret
      exact ⟨mu.ret_bool HR.out.symm, hbw⟩

set_option maxHeartbeats 2000000 in
set_option maxRecDepth 100000 in
theorem areKeys_any (N : Nat) (v : Value) (ks : List ByteArray) (w : World) (h : tx.TextsIn w N v ks) (hs : tx.Smalls ks) :
    Calls Tryz.prog 126 #[v] w fun e w' => e = .returned (.bool (keysB ks)) ∧ w' = w := by
  obtain ⟨a, cap, rfl, h⟩ := h
  obtain ⟨n, hn⟩ : ∃ n, n = ks.length := ⟨_, rfl⟩
  have HN : Hid (n = ks.length) := hn
  have HH : Hid (ks = [] ∨ ∃ b off, a = some ⟨b, off, none⟩ ∧ b < N ∧ ∀ j, j < ks.length → w.cell? ⟨b, off + j, none⟩ = some (.string (ks.getD j ky.nt))) := h
  have hl : n ≤ 1048576 := by rw [hn]; exact hs.1
  rw [← hn]
  clear h hs hn
  have HF : Hid (∀ s w, Calls Tryz.prog 131 #[.string s] w fun e w' => e = .returned (.bool (mu.kOK s.size)) ∧ w' = w) := fun f w => mu.isKey_any f w
  by_cases g0 : 60 < n
  · have g0' : (60 : Int) < (n : Int) := by omega
    rw [keys_no (by have := HN.out; omega)]
    go_enter Tryz.func126, Tryz.ntmps126
    go_wp2
    go_ret
    exact ⟨rfl, rfl⟩
  have g0' : (n : Int) ≤ 60 := by omega
  go_enter Tryz.func126, Tryz.ntmps126
  go_wp2
  go_loopw [10] (fun i wr => ∃ (k : Nat), k ≤ n ∧ i = .int .i64 k ∧ KGood ks k ∧ wr = w) (fun i _ => n - (intOf i).toNat)
  case atStart => exact ⟨0, Nat.zero_le _, rfl, fun j hj => absurd hj (Nat.not_lt_zero _), rfl⟩
  case round =>
    obtain ⟨k, hk, rfl, hal, rfl⟩ := hrel
    have HAL : Hid (KGood ks k) := hal
    clear hal
    by_cases hlt : k < n
    · have hka : k < ks.length := by rw [← HN.out]; exact hlt
      rcases HH.out with e | ⟨b, off, rfl, _, hcells⟩
      · rw [e] at hka; simp at hka
      have c0 := hcells k hka
      have HKA : Hid (k < ks.length) := hka
      clear hcells hka
      generalize hx : ks.getD k ky.nt = x at c0
      have HX : Hid (ks.getD k ky.nt = x) := hx
      clear hx
      have hlt' : (k : Int) < (n : Int) := by omega
      by_cases q : 1 ≤ x.size ∧ x.size ≤ 200
      · have e2 : mu.kOK x.size = true := decide_eq_true q
        have HR : Hid (KGood ks (k + 1)) := kgood_step HAL.out HX.out q
        clear q
        go_wp2_with (go_at_call 131; refine (HF.out _ _).mono ?_; rintro e w' ⟨rfl, rfl⟩; rw [e2])
        go_roundw
        case rel => exact ⟨k + 1, by omega, by go_num, HR.out, by trivial⟩
        case measure => simp [intOf]; omega
      · have e2 : mu.kOK x.size = false := decide_eq_false q
        have HR : Hid (keysB ks = false) := keys_no (fun y => q (HX.out ▸ y.2 k HKA.out))
        clear q
        go_wp2_with (go_at_call 131; refine (HF.out _ _).mono ?_; rintro e w' ⟨rfl, rfl⟩; rw [e2])
        go_ret
        exact ⟨mu.ret_bool HR.out.symm, rfl⟩
    · have HR : Hid (keysB ks = true) := keys_yes (by have := HN.out; omega) (fun j hj => HAL.out j (by have := HN.out; omega))
      go_wp2
      go_ret
      exact ⟨mu.ret_bool HR.out.symm, rfl⟩
end Go.Proofs.YtncnbhekgkemfaaGreatDoor.bx

namespace Go.Proofs.YtncnbhekgkemfaaGreatDoor.bx
open Go.RowKit
open st
set_option linter.unusedVariables false

theorem bok_of (x : Bx) : bok x = true ↔ mu.nmB x.nm = true ∧ (1 ≤ x.vd ∧ x.vd ≤ 1000000) ∧ (1 ≤ x.nx ∧ x.nx ≤ 1001) ∧ mailsB x.ms x.nx = true ∧ (x.ks.length : Int) = x.nx - 1 ∧ keysB x.ks = true ∧ bk.dist x.ks = true := by
  simp [bok, and_assoc]
theorem bok_last {x : Bx} (h : mu.nmB x.nm = true ∧ (1 ≤ x.vd ∧ x.vd ≤ 1000000) ∧ (1 ≤ x.nx ∧ x.nx ≤ 1001) ∧ mailsB x.ms x.nx = true ∧ (x.ks.length : Int) = x.nx - 1 ∧ keysB x.ks = true) : bok x = bk.dist x.ks := by
  rw [Bool.eq_iff_iff, bok_of]
  exact ⟨fun y => y.2.2.2.2.2.2, fun y => ⟨h.1, h.2.1, h.2.2.1, h.2.2.2.1, h.2.2.2.2.1, h.2.2.2.2.2, y⟩⟩

set_option maxHeartbeats 4000000 in
set_option maxRecDepth 100000 in
theorem isRight_any (x : Bx) (v u : Value) (B n0 N : Nat) (D0 : DataW Unit) (w : World) (h : RowsIn w N v u x.ms x.ks) (hN : N ≤ B) (hown : bk.Own w B n0 D0) (hx : Small x) :
    Calls Tryz.prog 99 #[BV x v u, .map (some B)] w fun e w' => e = .returned (.bool (bok x)) ∧ (∃ n D, bk.Own w' B n D) ∧ Below B w w' := by
  have L0 := lies_new w 99 x v u
  have hlt := hown.lt
  have b0 := (new_below w 99 #[.string x.nm, .int .i64 x.vd, .int .i64 x.nx, v, u]).mono (Nat.le_of_lt hlt)
  have O0 := hown.alloc (.cells #[.string x.nm, .int .i64 x.vd, .int .i64 x.nx, v, u] 99)
  have HA : Hid (RowsIn (w.alloc (.cells #[.string x.nm, .int .i64 x.vd, .int .i64 x.nx, v, u] 99)) N v u x.ms x.ks) := rows_in_below h b0 hN
  have hls : B < (w.alloc (.cells #[.string x.nm, .int .i64 x.vd, .int .i64 x.nx, v, u] 99)).heap.size := by simp; omega
  have HF : Hid (¬ (mu.nmB x.nm = true ∧ (1 ≤ x.vd ∧ x.vd ≤ 1000000) ∧ (1 ≤ x.nx ∧ x.nx ≤ 1001) ∧ mailsB x.ms x.nx = true ∧ (x.ks.length : Int) = x.nx - 1 ∧ keysB x.ks = true) → bok x = false) := fun hh => Bool.eq_false_iff.2 fun y => hh (by have := (bok_of x).1 y; exact ⟨this.1, this.2.1, this.2.2.1, this.2.2.2.1, this.2.2.2.2.1, this.2.2.2.2.2.1⟩)
  have HT : Hid (mu.nmB x.nm = true ∧ (1 ≤ x.vd ∧ x.vd ≤ 1000000) ∧ (1 ≤ x.nx ∧ x.nx ≤ 1001) ∧ mailsB x.ms x.nx = true ∧ (x.ks.length : Int) = x.nx - 1 ∧ keysB x.ks = true → bok x = bk.dist x.ks) := bok_last
  obtain ⟨⟨a, cap, rfl, _⟩, ⟨a1, cap1, rfl, _⟩⟩ := h
  obtain ⟨nm, vd, nx, ms, ks⟩ := x
  obtain ⟨hi, hnm, hms, hks⟩ := hx
  have HMS : Hid (st.Smalls ms) := hms
  have HKS : Hid (tx.Smalls ks) := hks
  have HNX : Hid (In nx) := hi.2
  unfold BV
  simp only at L0 b0 O0 HA hls HF HT hnm ⊢
  have hkl : ks.length ≤ 1048576 := hks.1
  clear hi hms hks hown
  have HNM : Hid (∀ w, Calls Tryz.prog 59 #[.string nm] w fun e w' => e = .returned (.bool (mu.nmB nm)) ∧ w' = w) := fun w => mu.impl_name nm w hnm
  generalize bok ⟨nm, vd, nx, ms, ks⟩ = R at HF HT ⊢
  go_enter Tryz.func99, Tryz.ntmps99
  go_wp2_with fail
  generalize w.alloc _ = w0 at L0 b0 O0 HA hls ⊢
  refine (HNM.out _).mono ?_
  rintro e w' ⟨rfl, rfl⟩
  have O0 : Hid (bk.Own w' B n0 D0) := O0
  have c0 := L0.c0
  have c1 := L0.c1
  have c2 := L0.c2
  have c3 := L0.c3
  have c4 := L0.c4
  simp only at c0 c1 c2 c3 c4
  generalize hq : mu.nmB nm = nb at HF HT ⊢
  clear hq HNM
  cases nb
  · have HZ : Hid (R = false) := HF.out (fun x => by have := x.1; simp at this)
    go_wp2
    go_ret
    exact ⟨mu.ret_bool HZ.out.symm, ⟨_, _, O0.out⟩, b0⟩
  by_cases q1' : vd < 1
  · skip
    have HZ : Hid (R = false) := HF.out (fun x => by have := x.2.1.1; omega)
    go_wp2
    go_ret
    exact ⟨mu.ret_bool HZ.out.symm, ⟨_, _, O0.out⟩, b0⟩
  have q1 : 1 ≤ vd := by omega
  by_cases q2' : 1000000 < vd
  · skip
    have HZ : Hid (R = false) := HF.out (fun x => by have := x.2.1.2; omega)
    go_wp2
    go_ret
    exact ⟨mu.ret_bool HZ.out.symm, ⟨_, _, O0.out⟩, b0⟩
  have q2 : vd ≤ 1000000 := by omega
  by_cases q3' : nx < 1
  · skip
    have HZ : Hid (R = false) := HF.out (fun x => by have := x.2.2.1.1; omega)
    go_wp2
    go_ret
    exact ⟨mu.ret_bool HZ.out.symm, ⟨_, _, O0.out⟩, b0⟩
  have q3 : 1 ≤ nx := by omega
  by_cases q4' : 1001 < nx
  · skip
    have HZ : Hid (R = false) := HF.out (fun x => by have := x.2.2.1.2; omega)
    go_wp2
    go_ret
    exact ⟨mu.ret_bool HZ.out.symm, ⟨_, _, O0.out⟩, b0⟩
  have q4 : nx ≤ 1001 := by omega
  go_wp2_with fail
  refine (areMails_any N _ ms nx _ HA.out.1 (Nat.le_trans hN (Nat.le_of_lt hls)) HMS.out HNX.out).mono ?_
  rintro e w1 ⟨rfl, hb1⟩
  have L1 := L0.keep hb1
  have HO1 : Hid (bk.Own w1 B n0 D0) := bk.own_keep O0.out hb1 hls
  have HA1 : Hid (RowsIn w1 N (.slice a ms.length cap) (.slice a1 ks.length cap1) ms ks) := rows_in_below HA.out hb1 (Nat.le_trans hN (Nat.le_of_lt hls))
  have b1 := b0.trans (hb1.mono (Nat.le_of_lt hls))
  have hls1 : B < w1.heap.size := Nat.lt_of_lt_of_le hls hb1.size
  clear hb1 L0 O0 HA b0 hls c0 c1 c2 c3 c4
  have c2 := L1.c2
  have c4 := L1.c4
  simp only at c2 c4
  generalize hq : mailsB ms nx = mb at HF HT ⊢
  clear hq
  cases mb
  · have HZ : Hid (R = false) := HF.out (fun x => by have := x.2.2.2.1; simp at this)
    go_wp2
    go_ret
    exact ⟨mu.ret_bool HZ.out.symm, ⟨_, _, HO1.out⟩, b1⟩
  by_cases q5 : ¬ (ks.length : Int) = nx - 1
  · have q5' : ((ks.length : Int) == nx - 1) = false := by simp [q5]
    have HZ : Hid (R = false) := HF.out (fun x => q5 x.2.2.2.2.1)
    clear q5
    go_wp2
    go_ret
    exact ⟨mu.ret_bool HZ.out.symm, ⟨_, _, HO1.out⟩, b1⟩
  have q5 : (ks.length : Int) = nx - 1 := by omega
  have q5' : ((ks.length : Int) == nx - 1) = true := by simp [q5]
  have HQ5 : Hid ((ks.length : Int) = nx - 1) := q5
  clear q5
  go_wp2_with fail
  refine (areKeys_any N _ ks _ HA1.out.2 HKS.out).mono ?_
  rintro e w2 ⟨rfl, rfl⟩
  generalize hq : keysB ks = kb at HF HT ⊢
  clear hq
  cases kb
  · have HZ : Hid (R = false) := HF.out (fun x => by have := x.2.2.2.2.2; simp at this)
    go_wp2
    go_ret
    exact ⟨mu.ret_bool HZ.out.symm, ⟨_, _, HO1.out⟩, b1⟩
  go_wp2_with fail
  refine (bk.learn_any B n0 N D0 _ ks _ HO1.out HA1.out.2 hN HKS.out).mono ?_
  rintro e w3 ⟨rfl, ⟨n, D, ho, _⟩, hb3⟩
  have HZ : Hid (R = bk.dist ks) := HT.out ⟨by trivial, ⟨q1, q2⟩, ⟨q3, q4⟩, by trivial, HQ5.out, by trivial⟩
  have HO3 : Hid (bk.Own w3 B n D) := ho
  have b3 := b1.trans hb3
  clear ho hb3 b1 HO1 HA1 c2 c4
  generalize bk.dist ks = dd at HZ ⊢
  cases dd
  · go_wp2
    go_ret
    exact ⟨mu.ret_bool HZ.out.symm, ⟨_, _, HO3.out⟩, b3⟩
  · go_wp2
    go_ret
    exact ⟨mu.ret_bool HZ.out.symm, ⟨_, _, HO3.out⟩, b3⟩

end Go.Proofs.YtncnbhekgkemfaaGreatDoor.bx

namespace Go.Proofs.YtncnbhekgkemfaaGreatDoor.bx
open Go.RowKit
open st
set_option linter.unusedVariables false

def SOK (xs : List Bx) (k : Nat) : Prop := ∀ j, j < k → bok (xs.getD j noB) = true ∧ (xs.getD j noB).vd = (j : Int) + 1 ∧ ∀ i, i < j → (xs.getD i noB).nm ≠ (xs.getD j noB).nm
def dSok (xs : List Bx) (k : Nat) : Decidable (SOK xs k) :=
  @decidable_of_iff _ (∀ j, j < k → bok (xs.getD j noB) = true ∧ (xs.getD j noB).vd = (j : Int) + 1 ∧ ∀ i, i < j → (xs.getD i noB).nm.data ≠ (xs.getD j noB).nm.data) ⟨fun h j hj => ⟨(h j hj).1, (h j hj).2.1, fun i hi e => (h j hj).2.2 i hi (by rw [e])⟩, fun h j hj => ⟨(h j hj).1, (h j hj).2.1, fun i hi e => (h j hj).2.2 i hi (ByteArray.ext e)⟩⟩ inferInstance
/-- Boxes are right. -/
def sok (xs : List Bx) : Bool := @decide (xs.length ≤ 4 ∧ SOK xs xs.length) (@instDecidableAnd _ _ _ (dSok xs xs.length))
theorem sok_no {xs : List Bx} (h : ¬ (xs.length ≤ 4 ∧ SOK xs xs.length)) : sok xs = false := ow.df h
theorem sok_yes {xs : List Bx} (h : xs.length ≤ 4) (h2 : SOK xs xs.length) : sok xs = true := ow.dt ⟨h, h2⟩
theorem sok_of {xs : List Bx} (h : sok xs = true) : xs.length ≤ 4 ∧ SOK xs xs.length := ow.dof h
theorem sok_step {xs : List Bx} {k : Nat} (h : SOK xs k) {x : Bx} (hx : xs.getD k noB = x) (h1 : bok x = true) (h2 : x.vd = (k : Int) + 1) (h3 : ∀ i, i < k → (xs.getD i noB).nm ≠ x.nm) : SOK xs (k + 1) := by
  intro j hj
  by_cases e : j = k
  · subst e; rw [hx]; exact ⟨h1, h2, h3⟩
  · exact h j (by omega)
/-- The first box of a name. -/
def Plc (xs : List Bx) (s : ByteArray) (r : Int) : Prop := (∃ k : Nat, r = k ∧ k < xs.length ∧ (xs.getD k noB).nm = s ∧ ∀ j, j < k → (xs.getD j noB).nm ≠ s) ∨ (r = -1 ∧ ∀ j, j < xs.length → (xs.getD j noB).nm ≠ s)

set_option maxHeartbeats 1000000 in
set_option maxRecDepth 100000 in
theorem named_any (x : Bx) (p : Value × Value) (s : ByteArray) (g : Nat) (w : World) (hg : w.cell? ⟨g, 0, none⟩ = some (.string s)) (hp : ∃ a n c a' n' c', p = (.slice a n c, .slice a' n' c')) :
    Calls Tryz.prog 91 #[.agg #[.string x.nm, .int .i64 x.vd, .int .i64 x.nx, p.1, p.2], .pointer (some ⟨g, 0, none⟩)] w fun e w' => (∃ b : Bool, e = .returned (.bool b) ∧ (b = true ↔ x.nm = s)) ∧ Below w.heap.size w w' := by
  obtain ⟨a, n, c, a', n', c', rfl⟩ := hp
  simp only
  have hb := new_below w 99 #[.string x.nm, .int .i64 x.vd, .int .i64 x.nx, .slice a n c, .slice a' n' c']
  have hg2 := (hb.cell (p := ⟨g, 0, none⟩) (World.block_lt_of_cell? w _ hg)).trans hg
  obtain ⟨nm, vd, nx, ms, ks⟩ := x
  simp only at hb hg2 ⊢
  have hgl : g < w.heap.size := World.block_lt_of_cell? w _ hg
  have hgn : w.heap.size ≠ g := by omega
  have hgn2 : g ≠ w.heap.size := by omega
  by_cases he : nm = s
  · have he' : (nm.toList == s.toList) = true := by rw [he]; simp
    have HE : Hid (nm = s) := he
    clear he
    go_enter Tryz.func91, Tryz.ntmps91
    go_wp2
    go_ret
    exact ⟨⟨true, rfl, by simp [HE.out]⟩, hb⟩
  · have he' : (nm.toList == s.toList) = false := ky.ne_list he
    have HE : Hid (¬ nm = s) := he
    clear he
    go_enter Tryz.func91, Tryz.ntmps91
    go_wp2
    go_ret
    exact ⟨⟨false, rfl, by simp [HE.out]⟩, hb⟩

theorem rows_form {w : World} {n : Nat} {v u : Value} {ms : List St} {ks : List ByteArray} (h : RowsIn w n v u ms ks) : ∃ a n c a' n' c', (v, u) = (Value.slice a n c, Value.slice a' n' c') := by
  obtain ⟨⟨a, cap, rfl, _⟩, ⟨a1, cap1, rfl, _⟩⟩ := h
  exact ⟨_, _, _, _, _, _, rfl⟩

set_option maxHeartbeats 2000000 in
set_option maxRecDepth 100000 in
theorem index_any (N : Nat) (v : Value) (xs : List Bx) (vs : Nat → Value × Value) (s : ByteArray) (g : Nat) (w : World) (h : BoxesIn w N v xs vs) (hN : N ≤ w.heap.size) (hg : w.cell? ⟨g, 0, none⟩ = some (.string s)) (hn : xs.length ≤ 1048576) :
    Calls Tryz.prog 90 #[v, .func (Fn.func 91) #[] #[.pointer (some ⟨g, 0, none⟩)]] w fun e w' => (∃ r : Int, e = .returned (.int .i64 r) ∧ Plc xs s r) ∧ Below w.heap.size w w' := by
  have HALL : Hid (BoxesIn w N v xs vs) := h
  obtain ⟨⟨a, cap, rfl, hc⟩, _⟩ := h
  obtain ⟨n, hn'⟩ : ∃ n, n = xs.length := ⟨_, rfl⟩
  have HN : Hid (n = xs.length) := hn'
  have HH : Hid (xs = [] ∨ ∃ b off, a = some ⟨b, off, none⟩ ∧ b < N ∧ ∀ j, j < xs.length → At5 w b (off + j * 5) (xs.getD j noB) (vs j)) := hc
  have HG : Hid (w.cell? ⟨g, 0, none⟩ = some (.string s)) := hg
  have hgl : g < w.heap.size := World.block_lt_of_cell? w _ hg
  rw [← hn'] at hn HALL ⊢
  clear hc hn' hg
  go_enter Tryz.func90, Tryz.ntmps90
  go_wp2
  go_loopw [8] (fun i wr => ∃ k : Nat, k ≤ n ∧ i = .int .i64 k ∧ (∀ j, j < k → (xs.getD j noB).nm ≠ s) ∧ Below w.heap.size w wr) (fun i _ => n - (intOf i).toNat)
  case atStart => exact ⟨0, Nat.zero_le _, rfl, fun j hj => absurd hj (Nat.not_lt_zero _), Below.refl _ _⟩
  case round =>
    obtain ⟨k, hk, rfl, hno, hbw⟩ := hrel
    have HNO : Hid (∀ j, j < k → (xs.getD j noB).nm ≠ s) := hno
    clear hno
    by_cases hlt : k < n
    · have hka : k < xs.length := by rw [← HN.out]; exact hlt
      rcases HH.out with e | ⟨b, off, rfl, hbl, hcells⟩
      · rw [e] at hka; simp at hka
      have hat := (hcells k hka).keep hbw (by omega)
      have hfm := rows_form (HALL.out.2 k hka)
      have HKA : Hid (k < xs.length) := hka
      clear hcells hka
      generalize hx : xs.getD k noB = x at hat
      have HX : Hid (xs.getD k noB = x) := hx
      generalize hq : vs k = q at hat hfm
      clear hx hq
      obtain ⟨q1, q2⟩ := q
      obtain ⟨c0, c1, c2, c3, c4⟩ := hat
      simp only at c0 c1 c2 c3 c4 hfm
      have HC : Hid (wr.cell? ⟨g, 0, none⟩ = some (.string s)) := (hbw.cell (p := ⟨g, 0, none⟩) hgl).trans HG.out
      have HFM : Hid (∃ a n c a' n' c', (q1, q2) = (Value.slice a n c, Value.slice a' n' c')) := hfm
      obtain ⟨_, _, _, _, _, _, e⟩ := hfm
      cases e
      have hlt' : (k : Int) < (n : Int) := by omega
      go_wp2_with fail
      refine (named_any x _ s g wr HC.out HFM.out).mono ?_
      rintro e w2 ⟨⟨bb, rfl, hbb⟩, hb2⟩
      have b2 := hbw.trans (hb2.mono hbw.size)
      have HBB : Hid (bb = true ↔ x.nm = s) := hbb
      clear hb2 hbw c0 c1 c2 c3 c4 HC HFM hbb
      cases bb
      · have HE : Hid (∀ j, j < k + 1 → (xs.getD j noB).nm ≠ s) := fun j hj => by
          by_cases e : j = k
          · rw [e, HX.out]; intro y; have := HBB.out.2 y; simp at this
          · exact HNO.out j (by omega)
        go_wp2
        go_roundw
        case rel => exact ⟨k + 1, by omega, by go_num, HE.out, b2⟩
        case measure => simp [intOf]; omega
      · have HE : Hid (Plc xs s k) := .inl ⟨k, rfl, HKA.out, by rw [HX.out]; exact HBB.out.1 (by trivial), HNO.out⟩
        go_wp2
        go_ret
        exact ⟨⟨k, rfl, HE.out⟩, b2⟩
    · have HE : Hid (Plc xs s (-1)) := .inr ⟨rfl, fun j hj => HNO.out j (by have := HN.out; omega)⟩
      go_wp2
      go_ret
      exact ⟨⟨-1, rfl, HE.out⟩, hbw⟩

set_option maxHeartbeats 1000000 in
set_option maxRecDepth 100000 in
theorem place_any (N : Nat) (v : Value) (xs : List Bx) (vs : Nat → Value × Value) (s : ByteArray) (w : World) (h : BoxesIn w N v xs vs) (hN : N ≤ w.heap.size) (hn : xs.length ≤ 1048576) :
    Calls Tryz.prog 61 #[v, .string s] w fun e w' => (∃ r : Int, e = .returned (.int .i64 r) ∧ Plc xs s r) ∧ Below w.heap.size w w' := by
  have b0 := new_below w 9 #[.string s]
  have HA : Hid (BoxesIn (w.alloc (.cells #[.string s] 9)) N v xs vs) := boxes_in_below h b0 hN
  have hN1 : N ≤ (w.alloc (.cells #[.string s] 9)).heap.size := by simp; omega
  have HC : Hid ((w.alloc (.cells #[.string s] 9)).cell? ⟨w.heap.size, 0, none⟩ = some (.string s)) := by
    have h2 := heap_new w (.cells #[.string s] 9)
    exact (by rw [cell_of_row _ _ _ _ _ _ h2]; rfl : (w.alloc (.cells #[.string s] 9)).cell? ⟨w.heap.size, 0, none⟩ = some (.string s))
  obtain ⟨⟨a, cap, rfl, _⟩, _⟩ := h
  go_enter Tryz.func61, Tryz.ntmps61
  go_wp2_with fail
  generalize w.alloc _ = w0 at b0 HA hN1 HC ⊢
  refine (index_any N _ xs vs s w.heap.size w0 HA.out hN1 HC.out hn).mono ?_
  rintro e w2 ⟨⟨r, rfl, hr⟩, hb2⟩
  have b2 := b0.trans (hb2.mono b0.size)
  have HR : Hid (Plc xs s r) := hr
  clear b0 hb2 hr HA HC
  go_wp2
  go_ret
  exact ⟨⟨r, rfl, HR.out⟩, b2⟩

set_option maxHeartbeats 4000000 in
set_option maxRecDepth 100000 in
theorem impl_sok (v : Value) (xs : List Bx) (vs : Nat → Value × Value) (w : World) (h : BoxesAt w v xs vs) (hs : Smalls xs) :
    Calls Tryz.prog 68 #[v] w fun e w' => e = .returned (.bool (sok xs)) ∧ Below w.heap.size w w' := by
  have hmm := @run_makeMap Tryz.prog
  have O0 := World.ownsMap_made (H := Unit) w Tryz.prog 9 (plainElem Tryz.prog 3)
  have bm : Below w.heap.size w (w.alloc (.map #[] 0)) := (Below.refl _ _).alloc (Nat.le_refl _) _
  have HALL : Hid (BoxesIn w w.heap.size v xs vs) := h
  obtain ⟨⟨a, cap, rfl, hc⟩, _⟩ := h
  obtain ⟨n, hn⟩ : ∃ n, n = xs.length := ⟨_, rfl⟩
  have HN : Hid (n = xs.length) := hn
  have HH : Hid (xs = [] ∨ ∃ b off, a = some ⟨b, off, none⟩ ∧ b < w.heap.size ∧ ∀ j, j < xs.length → At5 w b (off + j * 5) (xs.getD j noB) (vs j)) := hc
  have HS : Hid (Smalls xs) := hs
  have hl : n ≤ 1048576 := by rw [hn]; exact hs.1
  rw [← hn] at HALL ⊢
  clear hc hs hn
  by_cases g0 : 4 < n
  · have g0' : (4 : Int) < (n : Int) := by omega
    have HR : Hid (sok xs = false) := sok_no (by have := HN.out; omega)
    go_enter Tryz.func68, Tryz.ntmps68
    go_wp2
    go_ret
    exact ⟨mu.ret_bool HR.out.symm, Below.refl _ _⟩
  have g0' : (n : Int) ≤ 4 := by omega
  have O0 : Hid (bk.Own (w.alloc (.map #[] 0)) w.heap.size 0 (.map [])) := O0
  have hml : w.heap.size < (w.alloc (.map #[] 0)).heap.size := by simp
  go_enter Tryz.func68, Tryz.ntmps68
  go_wp2
  generalize w.alloc _ = w0 at O0 bm hml ⊢
  go_loopw [12] (fun i wr => ∃ (k m : Nat) (D : DataW Unit), k ≤ n ∧ i = .int .i64 k ∧ SOK xs k ∧ bk.Own wr w.heap.size m D ∧ Below w.heap.size w wr) (fun i _ => n - (intOf i).toNat)
  case atStart => exact ⟨0, 0, _, Nat.zero_le _, rfl, fun j hj => absurd hj (Nat.not_lt_zero _), O0.out, bm⟩
  case round =>
    clear O0 bm hml
    obtain ⟨k, m, D, hk, rfl, hal, hown, hbw⟩ := hrel
    have HAL : Hid (SOK xs k) := hal
    have HO : Hid (bk.Own wr w.heap.size m D) := hown
    have hwl : w.heap.size < wr.heap.size := hown.lt
    clear hal hown
    by_cases hlt : k < n
    · have hka : k < xs.length := by rw [← HN.out]; exact hlt
      rcases HH.out with e | ⟨b, off, rfl, hbl, hcells⟩
      · rw [e] at hka; simp at hka
      have hat := (hcells k hka).keep hbw hbl
      have hrw := (boxes_in_below HALL.out hbw (Nat.le_refl _)).2 k hka
      have HAR : Hid (BoxesIn wr w.heap.size (.slice (some ⟨b, off, none⟩) n cap) xs vs) := boxes_in_below HALL.out hbw (Nat.le_refl _)
      have hsk := HS.out.2 k hka
      have HKA : Hid (k < xs.length) := hka
      clear hcells hka
      generalize hx : xs.getD k noB = x at hat hsk hrw
      have HX : Hid (xs.getD k noB = x) := hx
      generalize vs k = q at hat hrw
      clear hx
      obtain ⟨q1, q2⟩ := q
      obtain ⟨c0, c1, c2, c3, c4⟩ := hat
      simp only at c0 c1 c2 c3 c4 hrw
      have HSK : Hid (Small x) := hsk
      have hin : In x.vd := hsk.1.1
      have hlt' : (k : Int) < (n : Int) := by omega
      have L0 := lies_new wr 99 x q1 q2
      have hb2 := new_below wr 99 #[.string x.nm, .int .i64 x.vd, .int .i64 x.nx, q1, q2]
      have HRW := rows_in_below hrw hb2 (Nat.le_of_lt hwl)
      have HAR2 := boxes_in_below HAR.out hb2 (Nat.le_of_lt hwl)
      have HO2 := bk.own_keep HO.out hb2 hwl
      have hb3 := hbw.trans (hb2.mono hbw.size)
      have hwl2 : w.heap.size < (wr.alloc (.cells #[.string x.nm, .int .i64 x.vd, .int .i64 x.nx, q1, q2] 99)).heap.size := Nat.lt_of_lt_of_le hwl hb2.size
      clear hsk HAR HO hb2 hbw
      obtain ⟨⟨a2, cap2, rfl, _⟩, ⟨a3, cap3, rfl, _⟩⟩ := hrw
      obtain ⟨nm, vd, nx, ms, ks⟩ := x
      simp only at c0 c1 c2 c3 c4 L0 HRW HAR2 HO2 hb3 hwl2 hin
      by_cases r1 : ¬ vd = (k : Int) + 1
      · have r1' : (vd != (k : Int) + 1) = true := by simp [r1]
        have HR : Hid (sok xs = false) := sok_no (fun y => r1 (by have := (y.2 k HKA.out).2.1; rw [HX.out] at this; exact this))
        clear r1
        go_wp2
        go_ret
        exact ⟨mu.ret_bool HR.out.symm, hb3⟩
      have r1 : vd = (k : Int) + 1 := Decidable.of_not_not r1
      have r1' : (vd != (k : Int) + 1) = false := by simp [r1]
      have HR1 : Hid (vd = (k : Int) + 1) := r1
      clear r1
      go_wp2_with fail
      generalize hBB : wr.heap.size = BB at L0 ⊢
      generalize wr.alloc _ = w2 at L0 HRW HAR2 HO2 hb3 hwl2 ⊢
      have HRW : Hid (RowsIn w2 w.heap.size (.slice a2 ms.length cap2) (.slice a3 ks.length cap3) ms ks) := HRW
      have HAR2 : Hid (BoxesIn w2 w.heap.size (.slice (some ⟨b, off, none⟩) n cap) xs vs) := HAR2
      have HO2 : Hid (bk.Own w2 w.heap.size m D) := HO2
      refine (place_any w.heap.size _ xs vs nm w2 HAR2.out (Nat.le_of_lt hwl2) (by have := HN.out; omega)).mono ?_
      rintro e w4 ⟨⟨r, rfl, hr⟩, hb4⟩
      have L4 := L0.keep hb4
      have HRW4 : Hid (RowsIn w4 w.heap.size (.slice a2 ms.length cap2) (.slice a3 ks.length cap3) ms ks) := rows_in_below HRW.out hb4 (Nat.le_of_lt hwl2)
      have HO4 : Hid (bk.Own w4 w.heap.size m D) := bk.own_keep HO2.out hb4 hwl2
      have b4 := hb3.trans (hb4.mono hb3.size)
      have HPL : Hid (Plc xs nm r) := hr
      clear L0 HRW HAR2 HO2 hb3 hb4 hr hwl2 c0 c1 c2 c3 c4 hBB
      have e0 := L4.c0
      have e1 := L4.c1
      have e2 := L4.c2
      have e3 := L4.c3
      have e4 := L4.c4
      simp only at e0 e1 e2
      clear L4
      by_cases r2 : ¬ r = (k : Int)
      · have r2' : (r != (k : Int)) = true := by simp [r2]
        have HR : Hid (sok xs = false) := sok_no (fun y => by
          rcases HPL.out with ⟨j, rfl, hj, hjn, hjf⟩ | ⟨rfl, hno⟩
          · by_cases ejk : j < k
            · exact (y.2 k HKA.out).2.2 j ejk (by rw [HX.out]; exact hjn)
            · have : k < j := by omega
              exact hjf k this (by rw [HX.out])
          · exact hno k HKA.out (by rw [HX.out]))
        clear r2
        go_wp2
        go_ret
        exact ⟨mu.ret_bool HR.out.symm, b4⟩
      have r2 : r = (k : Int) := Decidable.of_not_not r2
      have r2' : (r != (k : Int)) = false := by simp [r2]
      have HFR : Hid (∀ j, j < k → (xs.getD j noB).nm ≠ nm) := by
        rcases HPL.out with ⟨j, hj, _, _, hjf⟩ | ⟨hj, _⟩
        · have : j = k := by omega
          subst this
          exact hjf
        · omega
      clear HPL
      subst r2
      go_wp2_with fail
      refine (isRight_any ⟨nm, vd, nx, ms, ks⟩ _ _ w.heap.size m w.heap.size D w4 HRW4.out (Nat.le_refl _) HO4.out HSK.out).mono ?_
      rintro e w5 ⟨rfl, ⟨m5, D5, ho5⟩, hb5⟩
      have HO5 : Hid (bk.Own w5 w.heap.size m5 D5) := ho5
      have b5 := b4.trans hb5
      clear b4 hb5 ho5 HO4 HRW4 e0 e1 e2 e3 e4
      have HT : Hid (bok ⟨nm, vd, nx, ms, ks⟩ = true → SOK xs (k + 1)) := fun h => sok_step HAL.out HX.out h HR1.out HFR.out
      have HF : Hid (bok ⟨nm, vd, nx, ms, ks⟩ = false → sok xs = false) := fun h => sok_no (fun y => by have := (y.2 k HKA.out).1; rw [HX.out, h] at this; cases this)
      generalize bok ⟨nm, vd, nx, ms, ks⟩ = R at HT HF ⊢
      cases R
      · have HR : Hid (sok xs = false) := HF.out (by trivial)
        go_wp2
        go_ret
        exact ⟨mu.ret_bool HR.out.symm, b5⟩
      · have HR : Hid (SOK xs (k + 1)) := HT.out (by trivial)
        go_wp2
        go_roundw
        case rel => exact ⟨k + 1, m5, D5, by omega, by go_num, HR.out, HO5.out, b5⟩
        case measure => simp [intOf]; omega
    · have HR : Hid (sok xs = true) := sok_yes (by have := HN.out; omega) (fun j hj => HAL.out j (by have := HN.out; omega))
      go_wp2
      go_ret
      exact ⟨mu.ret_bool HR.out.symm, hbw⟩
end Go.Proofs.YtncnbhekgkemfaaGreatDoor.bx
