/-
  Both MutationOK functions answer whether a mutation is right.
-/
import Derived.Test.YtgjjeabjnkenkaaMua
import Derived.Test.YtgjjeabjnkenkaaNmw
namespace Go.Proofs.Ytgjjeabjnkenkaa.mu
open Go.RowKit
open it
set_option linter.unusedVariables false

def dGood (s : ByteArray) (j : Nat) : Decidable (nm.good s j) :=
  if h : j < s.size then decidable_of_iff (nm.letB ((s[j]'h).toNat : Int) = true ∨ (0 < j ∧ nm.digB ((s[j]'h).toNat : Int) = true)) ⟨fun x => ⟨h, x⟩, fun ⟨_, x⟩ => x⟩ else isFalse (fun ⟨h', _⟩ => h h')
def dAllGood (s : ByteArray) : Decidable (∀ j, j < s.size → nm.good s j) := @Nat.decidableBallLT s.size (fun j _ => nm.good s j) (fun j _ => dGood s j)
def dName (s : ByteArray) : Decidable (nm.IsName s) := @instDecidableAnd _ _ _ (@instDecidableAnd _ _ _ (dAllGood s))
/-- A text is a name. -/
def nmB (s : ByteArray) : Bool := @decide (nm.IsName s) (dName s)
theorem nm_of {s : ByteArray} {e : Ending} (h : nm.NameRet s e) : e = .returned (.bool (nmB s)) := by
  obtain ⟨b, rfl, h⟩ := h
  have : b = nmB s := by
    unfold nmB
    cases b
    · exact (ow.df (fun x => by have := h.2 x; cases this)).symm
    · exact (ow.dt (h.1 rfl)).symm
  rw [this]
theorem impl_name (s : ByteArray) (w : World) (hs : s.size ≤ 1048576) : Calls Try.prog 49 #[.string s] w fun e w' => e = .returned (.bool (nmB s)) ∧ w' = w :=
  (nm.implName_any s w hs).mono fun e w' ⟨h, h2⟩ => ⟨nm_of h, h2⟩
theorem spec_name (s : ByteArray) (w : World) (hs : s.size ≤ 1048576) : Calls Try.prog 47 #[.string s] w fun e w' => e = .returned (.bool (nmB s)) ∧ w' = w :=
  (nm.specName_any s w hs).mono fun e w' ⟨h, h2⟩ => ⟨nm_of h, h2⟩

/-- A key's length. -/
def kOK (n : Nat) : Bool := decide (1 ≤ n ∧ n ≤ 200)
/-- Flags. -/
def fOK (f : Int) : Bool := decide (0 ≤ f ∧ f ≤ 31)
def iOK (p : Pr) : Bool := decide ((1 ≤ p.1.size ∧ p.1.size ≤ 200) ∧ p.2.size ≤ 4000)
def AllTo (ps : List Pr) (k : Nat) : Prop := ∀ j, j < k → iOK (ps.getD j no) = true
def dAll (ps : List Pr) (k : Nat) : Decidable (AllTo ps k) := inferInstanceAs (Decidable (∀ j, j < k → iOK (ps.getD j no) = true))
def itsOK (ps : List Pr) : Bool := @decide (ps.length ≤ 20 ∧ AllTo ps ps.length) (@instDecidableAnd _ _ _ (dAll ps ps.length))
theorem its_no {ps : List Pr} (h : ¬ (ps.length ≤ 20 ∧ AllTo ps ps.length)) : itsOK ps = false := ow.df h
theorem its_yes {ps : List Pr} (h : ps.length ≤ 20) (h2 : AllTo ps ps.length) : itsOK ps = true := ow.dt ⟨h, h2⟩
theorem its_of {ps : List Pr} (h : itsOK ps = true) : ps.length ≤ 20 ∧ AllTo ps ps.length := ow.dof h
theorem all_step {ps : List Pr} {k : Nat} (h : AllTo ps k) {a b : ByteArray} (ha : (ps.getD k no).1 = a) (hb : (ps.getD k no).2 = b) (hi : iOK (a, b) = true) : AllTo ps (k + 1) := by
  intro j hj
  by_cases e : j = k
  · subst e
    have : ps.getD j no = (a, b) := by rw [← ha, ← hb]
    rw [this]
    exact hi
  · exact h j (by omega)
theorem all_bad {ps : List Pr} {k : Nat} (hk : k < ps.length) {a b : ByteArray} (ha : (ps.getD k no).1 = a) (hb : (ps.getD k no).2 = b) (hi : iOK (a, b) = false) : itsOK ps = false := by
  refine its_no fun x => ?_
  have h := x.2 k hk
  have : ps.getD k no = (a, b) := by rw [← ha, ← hb]
  rw [this, hi] at h
  cases h
/-- What goes with a kind. -/
def kindOK (k u m f : Int) (n : Nat) : Bool := decide ((k = 1 ∨ k = 4) ∧ u = 0 ∧ m = 0 ∧ f = 0 ∧ n = 0 ∨ k = 2 ∧ u = 0 ∧ m = 0 ∧ f = 0 ∧ 0 < n ∨ k = 3 ∧ n = 0 ∧ 1 ≤ u ∧ u ≤ 1000 ∧ 1 ≤ m ∧ m ≤ 3 ∧ 0 ≤ f ∧ f ≤ 31)
/-- A mutation is right. -/
def mok (x : Mu) : Bool := nmB x.b && itsOK x.ps && kindOK x.k x.u x.m x.f x.ps.length
theorem ret_bool {a b : Bool} (h : a = b) : Ending.returned (.bool a) = .returned (.bool b) := by rw [h]
theorem mok_name {x : Mu} (h : nmB x.b = false) : mok x = false := by simp [mok, h]
theorem mok_its {x : Mu} (h : itsOK x.ps = false) : mok x = false := by simp [mok, h]
theorem mok_kind {x : Mu} (h : nmB x.b = true) (h2 : itsOK x.ps = true) : mok x = kindOK x.k x.u x.m x.f x.ps.length := by simp [mok, h, h2]

theorem isKey_any (s : ByteArray) (w : World) : Calls Try.prog 82 #[.string s] w fun e w' => e = .returned (.bool (kOK s.size)) ∧ w' = w := by
  go_enter Try.func82, Try.ntmps82
  go_wp2
  all_goals (go_ret; exact ⟨ret_bool (by rw [Bool.eq_iff_iff]; simp [kOK]; omega), rfl⟩)
theorem areFlags_any (f : Int) (w : World) : Calls Try.prog 52 #[.int .i64 f] w fun e w' => e = .returned (.bool (fOK f)) ∧ w' = w := by
  go_enter Try.func52, Try.ntmps52
  go_wp2
  all_goals (go_ret; exact ⟨ret_bool (by rw [Bool.eq_iff_iff]; simp [fOK]; omega), rfl⟩)
theorem in_any (n a b : Int) (w : World) : Calls Try.prog 48 #[.int .i64 n, .int .i64 a, .int .i64 b] w fun e w' => e = .returned (.bool (decide (a ≤ n ∧ n ≤ b))) ∧ w' = w := by
  go_enter Try.func48, Try.ntmps48
  go_wp2
  all_goals (go_ret; exact ⟨ret_bool (by rw [Bool.eq_iff_iff]; simp; try omega), rfl⟩)

set_option maxHeartbeats 1000000 in
theorem areItems_any (v : Value) (ps : List Pr) (w : World) (h : AttrsAt w v ps) (hs : it.Small ps) :
    Calls Try.prog 50 #[v] w fun e w' => e = .returned (.bool (itsOK ps)) ∧ Below w.heap.size w w' := by
  obtain ⟨a, cap, rfl, h⟩ := h
  obtain ⟨n, hn⟩ : ∃ n, n = ps.length := ⟨_, rfl⟩
  have HN : Hid (n = ps.length) := hn
  have HH : Hid (ps = [] ∨ ∃ b off, a = some ⟨b, off, none⟩ ∧ ∀ j, j < ps.length → w.cell? ⟨b, off + j * 2, none⟩ = some (.string (ps.getD j no).1) ∧ w.cell? ⟨b, off + j * 2 + 1, none⟩ = some (.string (ps.getD j no).2)) := h
  have HS : Hid (it.Small ps) := hs
  have hl : n ≤ 1048576 := by rw [hn]; exact hs.1
  rw [← hn]
  clear h hs hn
  by_cases g0 : 20 < n
  · have g0' : (20 : Int) < (n : Int) := by omega
    rw [its_no (by have := HN.out; omega)]
    go_enter Try.func50, Try.ntmps50
    go_wp2
    go_ret
    exact ⟨rfl, Below.refl _ _⟩
  have g0' : (n : Int) ≤ 20 := by omega
  go_enter Try.func50, Try.ntmps50
  go_wp2
  go_loopw [10] (fun i wr => ∃ (k : Nat), k ≤ n ∧ i = .int .i64 k ∧ AllTo ps k ∧ Below w.heap.size w wr) (fun i _ => n - (intOf i).toNat)
  case atStart => exact ⟨0, Nat.zero_le _, rfl, fun j hj => absurd hj (Nat.not_lt_zero _), Below.refl _ _⟩
  case round =>
    obtain ⟨k, hk, rfl, hal, hbw⟩ := hrel
    have HAL : Hid (AllTo ps k) := hal
    clear hal
    by_cases hlt : k < n
    · have hka : k < ps.length := by rw [← HN.out]; exact hlt
      rcases HH.out with e | ⟨b, off, rfl, hcells⟩
      · rw [e] at hka; simp at hka
      obtain ⟨v0, v1⟩ := hcells k hka
      obtain ⟨s0, s1⟩ := HS.out.2 k hka
      have hblt : b < w.heap.size := World.block_lt_of_cell? w _ v0
      have c0 := (hbw.cell (p := ⟨b, off + k * 2, none⟩) hblt).trans v0
      have c1 := (hbw.cell (p := ⟨b, off + k * 2 + 1, none⟩) hblt).trans v1
      clear hcells v0 v1
      generalize hn1 : (ps.getD k no).1 = nm at c0 s0
      generalize hv1 : (ps.getD k no).2 = vl at c1 s1
      have HN1 : Hid ((ps.getD k no).1 = nm) := hn1
      have HV1 : Hid ((ps.getD k no).2 = vl) := hv1
      have HKA : Hid (k < ps.length) := hka
      clear hn1 hv1 hka
      have hlt' : (k : Int) < (n : Int) := by omega
      have hb2 : Below w.heap.size w (wr.alloc (.cells #[.string nm, .string vl] 75)) := hbw.alloc hbw.size _
      by_cases q0 : 1 ≤ nm.size ∧ nm.size ≤ 200
      · have e0 : kOK nm.size = true := decide_eq_true q0
        by_cases q1 : vl.size ≤ 4000
        · have q1' : (vl.size : Int) ≤ 4000 := by omega
          go_wp2_with (go_at_call 82; refine (isKey_any _ _).mono ?_; rintro e w' ⟨rfl, rfl⟩; rw [e0])
          go_roundw
          case rel => exact ⟨k + 1, by omega, by go_num, all_step HAL.out HN1.out HV1.out (decide_eq_true ⟨q0, q1⟩), hb2⟩
          case measure => simp [intOf]; omega
        · have q1' : (4000 : Int) < (vl.size : Int) := by omega
          have HR : Hid (itsOK ps = false) := all_bad HKA.out HN1.out HV1.out (decide_eq_false fun x => q1 x.2)
          go_wp2_with (go_at_call 82; refine (isKey_any _ _).mono ?_; rintro e w' ⟨rfl, rfl⟩; rw [e0])
          go_ret
          exact ⟨ret_bool HR.out.symm, hb2⟩
      · have e0 : kOK nm.size = false := decide_eq_false q0
        have HR : Hid (itsOK ps = false) := all_bad HKA.out HN1.out HV1.out (decide_eq_false fun x => q0 x.1)
        go_wp2_with (go_at_call 82; refine (isKey_any _ _).mono ?_; rintro e w' ⟨rfl, rfl⟩; rw [e0])
        go_ret
        exact ⟨ret_bool HR.out.symm, hb2⟩
    · have HR : Hid (itsOK ps = true) := its_yes (by have := HN.out; omega) (fun j hj => HAL.out j (by have := HN.out; omega))
      go_wp2
      go_ret
      exact ⟨ret_bool HR.out.symm, hbw⟩
end Go.Proofs.Ytgjjeabjnkenkaa.mu
