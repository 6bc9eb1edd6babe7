/-
  The program's own test of a box: its mails, its keys, the whole.
-/
import Derived.Test.YtdnjiagnpaibjaaDoorBxc
import Derived.Test.YtdnjiagnpaibjaaDoorMub
namespace Go.Proofs.YtdnjiagnpaibjaaDoor.bx
open Go.RowKit
open st
set_option linter.unusedVariables false

def mOK (nx prev : Int) (e : St) : Prop := prev < e.u ∧ e.u < nx ∧ (0 ≤ e.f ∧ e.f ≤ 31) ∧ e.t.size ≤ 4000
def last (ms : List St) (k : Nat) : Int := if k = 0 then 0 else (ms.getD (k - 1) noS).u
def MGood (ms : List St) (nx : Int) (k : Nat) : Prop := ∀ j, j < k → mOK nx (last ms j) (ms.getD j noS)
theorem last_succ (ms : List St) (k : Nat) : last ms (k + 1) = (ms.getD k noS).u := by simp [last]
theorem last_pos {ms : List St} {nx : Int} : ∀ {k : Nat}, MGood ms nx k → 0 ≤ last ms k
  | 0, _ => by simp [last]
  | k + 1, h => by
    rw [last_succ]
    have h1 := last_pos (k := k) (fun j hj => h j (by omega))
    have h2 := (h k (by omega)).1
    omega
theorem mgood_step {ms : List St} {nx : Int} {k : Nat} (h : MGood ms nx k) {x : St} (hx : ms.getD k noS = x) (hm : mOK nx (last ms k) x) : MGood ms nx (k + 1) := by
  intro j hj
  by_cases e : j = k
  · subst e; rw [hx]; exact hm
  · exact h j (by omega)
def dMail (ms : List St) (nx : Int) (k : Nat) : Decidable (MGood ms nx k) := inferInstanceAs (Decidable (∀ j, j < k → last ms j < (ms.getD j noS).u ∧ (ms.getD j noS).u < nx ∧ (0 ≤ (ms.getD j noS).f ∧ (ms.getD j noS).f ≤ 31) ∧ (ms.getD j noS).t.size ≤ 4000))
def mailsB (ms : List St) (nx : Int) : Bool := @decide (ms.length ≤ 30 ∧ MGood ms nx ms.length) (@instDecidableAnd _ _ _ (dMail ms nx ms.length))
theorem mails_no {ms : List St} {nx : Int} (h : ¬ (ms.length ≤ 30 ∧ MGood ms nx ms.length)) : mailsB ms nx = false := ow.df h
theorem mails_yes {ms : List St} {nx : Int} (h : ms.length ≤ 30) (h2 : MGood ms nx ms.length) : mailsB ms nx = true := ow.dt ⟨h, h2⟩
theorem mails_of {ms : List St} {nx : Int} (h : mailsB ms nx = true) : ms.length ≤ 30 ∧ MGood ms nx ms.length := ow.dof h
theorem mails_bad {ms : List St} {nx : Int} {k : Nat} (hk : k < ms.length) {x : St} (hx : ms.getD k noS = x) (hm : ¬ mOK nx (last ms k) x) : mailsB ms nx = false := mails_no fun h => hm (hx ▸ h.2 k hk)
def KGood (ks : List ByteArray) (k : Nat) : Prop := ∀ j, j < k → 1 ≤ (ks.getD j ky.nt).size ∧ (ks.getD j ky.nt).size ≤ 200
def dKeys (ks : List ByteArray) (k : Nat) : Decidable (KGood ks k) := inferInstanceAs (Decidable (∀ j, j < k → 1 ≤ (ks.getD j ky.nt).size ∧ (ks.getD j ky.nt).size ≤ 200))
def keysB (ks : List ByteArray) : Bool := @decide (ks.length ≤ 60 ∧ KGood ks ks.length) (@instDecidableAnd _ _ _ (dKeys ks ks.length))
theorem keys_no {ks : List ByteArray} (h : ¬ (ks.length ≤ 60 ∧ KGood ks ks.length)) : keysB ks = false := ow.df h
theorem keys_yes {ks : List ByteArray} (h : ks.length ≤ 60) (h2 : KGood ks ks.length) : keysB ks = true := ow.dt ⟨h, h2⟩
theorem keys_of {ks : List ByteArray} (h : keysB ks = true) : ks.length ≤ 60 ∧ KGood ks ks.length := ow.dof h
theorem kgood_step {ks : List ByteArray} {k : Nat} (h : KGood ks k) {x : ByteArray} (hx : ks.getD k ky.nt = x) (hm : 1 ≤ x.size ∧ x.size ≤ 200) : KGood ks (k + 1) := by
  intro j hj
  by_cases e : j = k
  · subst e; rw [hx]; exact hm
  · exact h j (by omega)
/-- A box is right. -/
def bok (x : Bx) : Bool := mu.nmB x.nm && decide (1 ≤ x.vd ∧ x.vd ≤ 1000000) && decide (1 ≤ x.nx ∧ x.nx ≤ 1001) && mailsB x.ms x.nx && decide ((x.ks.length : Int) = x.nx - 1) && keysB x.ks && bk.dist x.ks

set_option maxHeartbeats 2000000 in
set_option maxRecDepth 100000 in
theorem areMails_any (N : Nat) (v : Value) (ms : List St) (nx : Int) (w : World) (h : MailsIn w N v ms) (hN : N ≤ w.heap.size) (hs : st.Smalls ms) (hnx : In nx) :
    Calls Tryd.prog 76 #[v, .int .i64 nx] w fun e w' => e = .returned (.bool (mailsB ms nx)) ∧ Below w.heap.size w w' := by
  obtain ⟨a, cap, rfl, h⟩ := h
  obtain ⟨n, hn⟩ : ∃ n, n = ms.length := ⟨_, rfl⟩
  have HN : Hid (n = ms.length) := hn
  have HH : Hid (ms = [] ∨ ∃ b off, a = some ⟨b, off, none⟩ ∧ b < N ∧ ∀ j, j < ms.length → At3 w b (off + j * 3) (ms.getD j noS)) := h
  have HS : Hid (st.Smalls ms) := hs
  have hl : n ≤ 1048576 := by rw [hn]; exact hs.1
  rw [← hn]
  clear h hs hn hnx
  have HF : Hid (∀ f w, Calls Tryd.prog 42 #[.int .i64 f] w fun e w' => e = .returned (.bool (mu.fOK f)) ∧ w' = w) := fun f w => mu.areFlags_any f w
  by_cases g0 : 30 < n
  · have g0' : (30 : Int) < (n : Int) := by omega
    rw [mails_no (by have := HN.out; omega)]
    go_enter Tryd.func76, Tryd.ntmps76
    go_wp2
    go_ret
    exact ⟨rfl, Below.refl _ _⟩
  have g0' : (n : Int) ≤ 30 := by omega
  go_enter Tryd.func76, Tryd.ntmps76
  go_wp2
  go_loopw [5, 13] (fun l i wr => ∃ (k : Nat), k ≤ n ∧ l = .int .i64 (last ms k) ∧ i = .int .i64 k ∧ MGood ms nx k ∧ Below w.heap.size w wr) (fun _ i _ => n - (intOf i).toNat)
  case atStart => exact ⟨0, Nat.zero_le _, rfl, rfl, fun j hj => absurd hj (Nat.not_lt_zero _), Below.refl _ _⟩
  case round =>
    obtain ⟨k, hk, rfl, rfl, hal, hbw⟩ := hrel
    have HAL : Hid (MGood ms nx k) := hal
    clear hal
    obtain ⟨l, hl⟩ : ∃ l, l = last ms k := ⟨_, rfl⟩
    have HLL : Hid (l = last ms k) := hl
    rw [← hl]
    clear hl
    by_cases hlt : k < n
    · have hka : k < ms.length := by rw [← HN.out]; exact hlt
      rcases HH.out with e | ⟨b, off, rfl, _, hcells⟩
      · rw [e] at hka; simp at hka
      have hat := (hcells k hka).keep hbw (hcells k hka).lt
      have HKA : Hid (k < ms.length) := hka
      clear hcells hka
      generalize hx : ms.getD k noS = x at hat
      have HX : Hid (ms.getD k noS = x) := hx
      clear hx
      obtain ⟨u, f, t⟩ := x
      obtain ⟨c0, c1, c2⟩ := hat
      simp only at c0 c1 c2
      have hlt' : (k : Int) < (n : Int) := by omega
      have hb2 : Below w.heap.size w (wr.alloc (.cells #[.int .i64 u, .int .i64 f, .string t] 49)) := hbw.alloc hbw.size _
      have HB : Hid (¬ mOK nx l ⟨u, f, t⟩ → mailsB ms nx = false) := fun h => mails_bad HKA.out HX.out (by rw [← HLL.out]; exact h)
      have HG : Hid (mOK nx l ⟨u, f, t⟩ → MGood ms nx (k + 1)) := fun h => mgood_step HAL.out HX.out (by rw [← HLL.out]; exact h)
      have hls : last ms (k + 1) = u := by rw [last_succ, HX.out]
      have HLS : Hid (last ms (k + 1) = u) := hls
      clear hls
      clear HAL HX HKA HLL
      by_cases q0 : u ≤ l
      · have HR : Hid (mailsB ms nx = false) := HB.out (fun x => by have := x.1; simp only at this; omega)
        go_wp2
        go_ret
        exact ⟨mu.ret_bool HR.out.symm, hb2⟩
      have q0' : l < u := by omega
      by_cases q1 : nx ≤ u
      · have HR : Hid (mailsB ms nx = false) := HB.out (fun x => by have := x.2.1; simp only at this; omega)
        go_wp2
        go_ret
        exact ⟨mu.ret_bool HR.out.symm, hb2⟩
      have q1' : u < nx := by omega
      by_cases q2 : 0 ≤ f ∧ f ≤ 31
      · have e2 : mu.fOK f = true := decide_eq_true q2
        by_cases q3 : t.size ≤ 4000
        · have q3' : (t.size : Int) ≤ 4000 := by omega
          have HR : Hid (MGood ms nx (k + 1)) := HG.out ⟨q0', q1', q2, q3⟩
          go_wp2_with (go_at_call 42; refine (HF.out _ _).mono ?_; rintro e w' ⟨rfl, rfl⟩; rw [e2])
          go_roundw
          case rel => exact ⟨k + 1, by omega, by rw [HLS.out], by go_num, HR.out, hb2⟩
          case measure => simp [intOf]; omega
        · have q3' : (4000 : Int) < (t.size : Int) := by omega
          have HR : Hid (mailsB ms nx = false) := HB.out (fun x => q3 x.2.2.2)
          go_wp2_with (go_at_call 42; refine (HF.out _ _).mono ?_; rintro e w' ⟨rfl, rfl⟩; rw [e2])
          go_ret
          exact ⟨mu.ret_bool HR.out.symm, hb2⟩
      · have e2 : mu.fOK f = false := decide_eq_false q2
        have HR : Hid (mailsB ms nx = false) := HB.out (fun x => q2 x.2.2.1)
        go_wp2_with (go_at_call 42; refine (HF.out _ _).mono ?_; rintro e w' ⟨rfl, rfl⟩; rw [e2])
        go_ret
        exact ⟨mu.ret_bool HR.out.symm, hb2⟩
    · have HR : Hid (mailsB ms nx = true) := mails_yes (by have := HN.out; omega) (fun j hj => HAL.out j (by have := HN.out; omega))
      go_wp2
      go_ret
      exact ⟨mu.ret_bool HR.out.symm, hbw⟩

set_option maxHeartbeats 2000000 in
set_option maxRecDepth 100000 in
theorem areKeys_any (N : Nat) (v : Value) (ks : List ByteArray) (w : World) (h : tx.TextsIn w N v ks) (hs : tx.Smalls ks) :
    Calls Tryd.prog 77 #[v] w fun e w' => e = .returned (.bool (keysB ks)) ∧ w' = w := by
  obtain ⟨a, cap, rfl, h⟩ := h
  obtain ⟨n, hn⟩ : ∃ n, n = ks.length := ⟨_, rfl⟩
  have HN : Hid (n = ks.length) := hn
  have HH : Hid (ks = [] ∨ ∃ b off, a = some ⟨b, off, none⟩ ∧ b < N ∧ ∀ j, j < ks.length → w.cell? ⟨b, off + j, none⟩ = some (.string (ks.getD j ky.nt))) := h
  have hl : n ≤ 1048576 := by rw [hn]; exact hs.1
  rw [← hn]
  clear h hs hn
  have HF : Hid (∀ s w, Calls Tryd.prog 101 #[.string s] w fun e w' => e = .returned (.bool (mu.kOK s.size)) ∧ w' = w) := fun f w => mu.isKey_any f w
  by_cases g0 : 60 < n
  · have g0' : (60 : Int) < (n : Int) := by omega
    rw [keys_no (by have := HN.out; omega)]
    go_enter Tryd.func77, Tryd.ntmps77
    go_wp2
    go_ret
    exact ⟨rfl, rfl⟩
  have g0' : (n : Int) ≤ 60 := by omega
  go_enter Tryd.func77, Tryd.ntmps77
  go_wp2
  go_loopw [10] (fun i wr => ∃ (k : Nat), k ≤ n ∧ i = .int .i64 k ∧ KGood ks k ∧ wr = w) (fun i _ => n - (intOf i).toNat)
  case atStart => exact ⟨0, Nat.zero_le _, rfl, fun j hj => absurd hj (Nat.not_lt_zero _), rfl⟩
  case round =>
    obtain ⟨k, hk, rfl, hal, rfl⟩ := hrel
    have HAL : Hid (KGood ks k) := hal
    clear hal
    by_cases hlt : k < n
    · have hka : k < ks.length := by rw [← HN.out]; exact hlt
      rcases HH.out with e | ⟨b, off, rfl, _, hcells⟩
      · rw [e] at hka; simp at hka
      have c0 := hcells k hka
      have HKA : Hid (k < ks.length) := hka
      clear hcells hka
      generalize hx : ks.getD k ky.nt = x at c0
      have HX : Hid (ks.getD k ky.nt = x) := hx
      clear hx
      have hlt' : (k : Int) < (n : Int) := by omega
      by_cases q : 1 ≤ x.size ∧ x.size ≤ 200
      · have e2 : mu.kOK x.size = true := decide_eq_true q
        have HR : Hid (KGood ks (k + 1)) := kgood_step HAL.out HX.out q
        clear q
        go_wp2_with (go_at_call 101; refine (HF.out _ _).mono ?_; rintro e w' ⟨rfl, rfl⟩; rw [e2])
        go_roundw
        case rel => exact ⟨k + 1, by omega, by go_num, HR.out, by trivial⟩
        case measure => simp [intOf]; omega
      · have e2 : mu.kOK x.size = false := decide_eq_false q
        have HR : Hid (keysB ks = false) := keys_no (fun y => q (HX.out ▸ y.2 k HKA.out))
        clear q
        go_wp2_with (go_at_call 101; refine (HF.out _ _).mono ?_; rintro e w' ⟨rfl, rfl⟩; rw [e2])
        go_ret
        exact ⟨mu.ret_bool HR.out.symm, rfl⟩
    · have HR : Hid (keysB ks = true) := keys_yes (by have := HN.out; omega) (fun j hj => HAL.out j (by have := HN.out; omega))
      go_wp2
      go_ret
      exact ⟨mu.ret_bool HR.out.symm, rfl⟩
end Go.Proofs.YtdnjiagnpaibjaaDoor.bx
