/-
  A log as an argument: opened; measured and copied by the law's own functions; both LogOK functions.
-/
import Derived.Test.YtcmhpkgboacojaaDoorOwn
import Derived.Test.YtcmhpkgboacojaaDoorRows
import Derived.WalkKit
import Derived.WalkLawsBesides
import Derived.ProofKit
import Derived.OpenShut
import Derived.ChangeOld
import Derived.Below
import Derived.Deep.Fields
import Derived.Lib.SmallJoins
namespace Go.Proofs.YtcmhpkgboacojaaDoor.lg
open Go.ChangeShapes Go.WideShapes Go.ChangeAt Go.RowKit Go.Deep Go.Joins
set_option linter.unusedVariables false

/-- A log of room r, data d, of which s bytes are sure. -/
def LV (r : Int) (d : ByteArray) (s : Int) : Value := .agg #[.int .i64 r, .string d, .int .i64 s]
/-- A number that an int can be. -/
def In (z : Int) : Prop := -9223372036854775808 ≤ z ∧ z ≤ 9223372036854775807
/-- What LogOK says. -/
def ok (r : Int) (n : Nat) (s : Int) : Bool := decide (0 ≤ r ∧ r ≤ 60000 ∧ (n : Int) ≤ r ∧ 0 ≤ s ∧ s ≤ (n : Int))
theorem in_of_wf {z : Int} (h : (Lit.int .i64 z).wf = true) : In z := by
  have h1 : IntKind.i64.min = -9223372036854775808 := rfl
  have h2 : IntKind.i64.max = 9223372036854775807 := rfl
  simp [Lit.wf, h1, h2] at h
  exact ⟨by omega, by omega⟩
section
variable {H : Type} {enc : TypeId × Value → H} {w : World} {base : Nat} {spare : Nat → Bool} {held : Bool}
set_option maxRecDepth 100000 in
theorem open_log {r : Reach} {b0 : Nat} {v : Value} {d : DataW H} {p : List MemPlace} (hv : Value.okWide Tryd.prog w r b0 23 v) (h : DataW.Trod enc Tryd.prog w base spare held 23 v d p) :
    ∃ (r : Int) (dd : ByteArray) (s : Int), v = LV r dd s ∧ In r ∧ dd.size ≤ maxLen ∧ In s := by
  obtain ⟨v0, v1, v2, y0, y1, y2, n, rfl, _, _, t0, t1, t2⟩ := open_agg3 Tryd.underlying23 (by kernel_rfl) (by kernel_rfl) hv h
  obtain ⟨z0, e0, _, f0⟩ := DataW.trod_int Tryd.underlying3 t0
  obtain ⟨s1, e1, _, f1⟩ := DataW.trod_string Tryd.underlying9 t1
  obtain ⟨z2, e2, _, f2⟩ := DataW.trod_int Tryd.underlying3 t2
  simp only [List.cons.injEq, and_true] at e0 e1 e2
  subst e0 e1 e2
  exact ⟨z0, s1, z2, rfl, in_of_wf f0, f1, in_of_wf f2⟩
end
/-- A log that lies as a variable. -/
def LiesL (w : World) (b : Nat) (T : TypeId) (r : Int) (d : ByteArray) (s : Int) : Prop := w.heap[b]? = some (.cells #[.int .i64 r, .string d, .int .i64 s] T (0, 0))
section
variable {w w' : World} {b : Nat} {T : TypeId} {r : Int} {d : ByteArray} {s : Int}
theorem LiesL.c0 (h : LiesL w b T r d s) : w.cell? ⟨b, 0, none⟩ = some (.int .i64 r) := by rw [cell_of_row w _ _ _ _ _ h]; rfl
theorem LiesL.c1 (h : LiesL w b T r d s) : w.cell? ⟨b, 0 + 1, none⟩ = some (.string d) := by rw [cell_of_row w _ _ _ _ _ h]; rfl
theorem LiesL.c2 (h : LiesL w b T r d s) : w.cell? ⟨b, 0 + 2, none⟩ = some (.int .i64 s) := by rw [cell_of_row w _ _ _ _ _ h]; rfl
theorem LiesL.lt (h : LiesL w b T r d s) : b < w.heap.size := World.block_lt_of_cell? w _ h.c0
theorem LiesL.keep (h : LiesL w b T r d s) (hb : Below w.heap.size w w') : LiesL w' b T r d s := (hb.block b h.lt).trans h
theorem lies_new (w : World) (T : TypeId) (r : Int) (d : ByteArray) (s : Int) : LiesL (w.alloc (.cells #[.int .i64 r, .string d, .int .i64 s] T)) w.heap.size T r d s := by show (w.heap.push _)[w.heap.size]? = _; simp
end
theorem new_below (w : World) (T : TypeId) (cs : Array Value) : Below w.heap.size w (w.alloc (.cells cs T)) := (Below.refl _ _).alloc (Nat.le_refl _) _

set_option maxHeartbeats 1000000 in
theorem szLog_any (r : Int) (d : ByteArray) (s : Int) (w : World) (hd : d.size ≤ maxLen) :
    Calls Tryd.prog 7 #[LV r d s, .int .i64 1048576] w fun e w' => (∃ z : Int, e = .returned (.int .i64 z) ∧ (z < 0 ∨ d.size ≤ 1048576) ∧ z ≤ 1048576 ∧ -1 ≤ z) ∧ Below w.heap.size w w' := by
  have hd' : d.size ≤ 9223372036854775807 := hd
  have hbw := new_below w 23 #[.int .i64 r, .string d, .int .i64 s]
  unfold LV
  by_cases g0 : (1048576 : Int) - (d.size : Int) < 0
  · go_enter Tryd.func7, Tryd.ntmps7
    go_wp2
    go_ret
    exact ⟨⟨-1, rfl, by omega, by omega, by omega⟩, hbw⟩
  · go_enter Tryd.func7, Tryd.ntmps7
    go_wp2
    go_ret
    exact ⟨⟨_, rfl, by omega, by omega, by omega⟩, hbw⟩

set_option maxHeartbeats 1000000 in
set_option maxRecDepth 100000 in
theorem toLog_any (r : Int) (d : ByteArray) (s : Int) (w : World) : Calls Tryd.prog 9 #[LV r d s] w fun e w' => e = .returned (LV r d s) ∧ Below w.heap.size w w' := by
  unfold LV
  go_enter Tryd.func9, Tryd.ntmps9
  go_wp2
  refine bodyPost_ret (v := .agg #[.int .i64 r, .string d, .int .i64 s]) (by simp [results, Tryd.results9, go_sem]) rfl ⟨rfl, ?_⟩
  exact (((Below.refl _ w).alloc (Nat.le_refl _) _).alloc (by simp) _).alloc (by simp; omega) _

set_option maxHeartbeats 1000000 in
set_option maxRecDepth 100000 in
theorem eqLog_same (r : Int) (d : ByteArray) (s : Int) (w : World) : Calls Tryd.prog 16 #[LV r d s, LV r d s] w fun e w' => e = .returned (.bool true) ∧ Below w.heap.size w w' := by
  unfold LV
  have hb := ((Below.refl w.heap.size w).alloc (Nat.le_refl _) (.cells #[.int .i64 r, .string d, .int .i64 s] 28)).alloc (by simp) (.cells #[.int .i64 r, .string d, .int .i64 s] 28)
  have h0 : (r != r) = false := by simp
  have h2 : (s != s) = false := by simp
  go_enter Tryd.func16, Tryd.ntmps16
  go_wp2
  go_ret
  exact ⟨rfl, hb⟩

set_option maxHeartbeats 2000000 in
set_option maxRecDepth 100000 in
theorem impl_ok (r : Int) (d : ByteArray) (s : Int) (w : World) (hr : In r) (hd : d.size ≤ maxLen) (hs : In s) :
    Calls Tryd.prog 22 #[LV r d s] w fun e w' => e = .returned (.bool (ok r d.size s)) ∧ Below w.heap.size w w' := by
  have hd' : d.size ≤ 9223372036854775807 := hd
  have hbw := new_below w 28 #[.int .i64 r, .string d, .int .i64 s]
  unfold LV
  have hk : ok r d.size s = decide (0 ≤ r ∧ r ≤ 60000 ∧ (d.size : Int) ≤ r ∧ 0 ≤ s ∧ s ≤ (d.size : Int)) := rfl
  by_cases g0 : 0 ≤ r
  · by_cases g1 : r ≤ 60000
    · by_cases g2 : (d.size : Int) ≤ r
      · by_cases g3 : 0 ≤ s
        · by_cases g4 : s ≤ (d.size : Int)
          · rw [hk, decide_eq_true ⟨g0, g1, g2, g3, g4⟩]
            go_enter Tryd.func22, Tryd.ntmps22
            go_wp2
            go_ret
            exact ⟨rfl, hbw⟩
          · rw [hk, decide_eq_false (by omega)]
            go_enter Tryd.func22, Tryd.ntmps22
            go_wp2
            go_ret
            exact ⟨rfl, hbw⟩
        · rw [hk, decide_eq_false (by omega)]
          go_enter Tryd.func22, Tryd.ntmps22
          go_wp2
          go_ret
          exact ⟨rfl, hbw⟩
      · rw [hk, decide_eq_false (by omega)]
        go_enter Tryd.func22, Tryd.ntmps22
        go_wp2
        go_ret
        exact ⟨rfl, hbw⟩
    · rw [hk, decide_eq_false (by omega)]
      go_enter Tryd.func22, Tryd.ntmps22
      go_wp2
      go_ret
      exact ⟨rfl, hbw⟩
  · rw [hk, decide_eq_false (by omega)]
    go_enter Tryd.func22, Tryd.ntmps22
    go_wp2
    go_ret
    exact ⟨rfl, hbw⟩

theorem spec_in (n a b : Int) (w : World) : Calls Tryd.prog 40 #[.int .i64 n, .int .i64 a, .int .i64 b] w fun e w' => e = .returned (.bool (decide (a ≤ n ∧ n ≤ b))) ∧ w' = w := by
  by_cases h0 : a ≤ n
  · by_cases h1 : n ≤ b
    · rw [decide_eq_true ⟨h0, h1⟩]
      go_enter Tryd.func40, Tryd.ntmps40
      go_wp2
      go_ret
      exact ⟨rfl, rfl⟩
    · rw [decide_eq_false (by omega)]
      go_enter Tryd.func40, Tryd.ntmps40
      go_wp2
      go_ret
      exact ⟨rfl, rfl⟩
  · rw [decide_eq_false (by omega)]
    go_enter Tryd.func40, Tryd.ntmps40
    go_wp2
    go_ret
    exact ⟨rfl, rfl⟩

set_option maxHeartbeats 2000000 in
set_option maxRecDepth 100000 in
theorem spec_ok (r : Int) (d : ByteArray) (s : Int) (w : World) (hr : In r) (hd : d.size ≤ maxLen) (hs : In s) :
    Calls Tryd.prog 27 #[LV r d s] w fun e w' => e = .returned (.bool (ok r d.size s)) ∧ Below w.heap.size w w' := by
  have hd' : d.size ≤ 9223372036854775807 := hd
  have hbw := new_below w 28 #[.int .i64 r, .string d, .int .i64 s]
  have hk : ok r d.size s = decide (0 ≤ r ∧ r ≤ 60000 ∧ (d.size : Int) ≤ r ∧ 0 ≤ s ∧ s ≤ (d.size : Int)) := rfl
  have HI : Hid (∀ (n a b : Int) (w : World), Calls Tryd.prog 40 #[.int .i64 n, .int .i64 a, .int .i64 b] w fun e w' => e = .returned (.bool (decide (a ≤ n ∧ n ≤ b))) ∧ w' = w) := spec_in
  unfold LV
  by_cases g0 : 0 ≤ r ∧ r ≤ 60000
  · by_cases g2 : (d.size : Int) ≤ r
    · by_cases g3 : 0 ≤ s ∧ s ≤ (d.size : Int)
      · rw [hk, decide_eq_true ⟨g0.1, g0.2, g2, g3.1, g3.2⟩]
        go_enter Tryd.func27, Tryd.ntmps27
        go_wp2_with fail
        refine (HI.out r 0 60000 _).mono ?_
        rintro e w' ⟨rfl, rfl⟩
        rw [decide_eq_true g0]
        go_wp2_with fail
        refine (HI.out s 0 d.size _).mono ?_
        rintro e w' ⟨rfl, rfl⟩
        rw [decide_eq_true g3]
        go_wp2
        go_ret
        exact ⟨rfl, hbw⟩
      · rw [hk, decide_eq_false (by omega)]
        go_enter Tryd.func27, Tryd.ntmps27
        go_wp2_with fail
        refine (HI.out r 0 60000 _).mono ?_
        rintro e w' ⟨rfl, rfl⟩
        rw [decide_eq_true g0]
        go_wp2_with fail
        refine (HI.out s 0 d.size _).mono ?_
        rintro e w' ⟨rfl, rfl⟩
        rw [decide_eq_false g3]
        go_wp2
        go_ret
        exact ⟨rfl, hbw⟩
    · rw [hk, decide_eq_false (by omega)]
      go_enter Tryd.func27, Tryd.ntmps27
      go_wp2_with fail
      refine (HI.out r 0 60000 _).mono ?_
      rintro e w' ⟨rfl, rfl⟩
      rw [decide_eq_true g0]
      go_wp2
      go_ret
      exact ⟨rfl, hbw⟩
  · rw [hk, decide_eq_false (by omega)]
    go_enter Tryd.func27, Tryd.ntmps27
    go_wp2_with fail
    refine (HI.out r 0 60000 _).mono ?_
    rintro e w' ⟨rfl, rfl⟩
    rw [decide_eq_false g0]
    go_wp2
    go_ret
    exact ⟨rfl, hbw⟩
end Go.Proofs.YtcmhpkgboacojaaDoor.lg
