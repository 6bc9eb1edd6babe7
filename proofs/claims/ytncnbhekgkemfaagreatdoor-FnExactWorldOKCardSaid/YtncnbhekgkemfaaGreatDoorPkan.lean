/-
  A log as an argument: opened; measured and copied by the law's own functions; both LogOK functions.
  An engine as an argument: it is measured, copied, compared.
-/
import Derived.Test.YtncnbhekgkemfaaGreatDoorPkaa
import Derived.Test.YtncnbhekgkemfaaGreatDoorRows
import Derived.WalkKit
import Derived.WalkLawsBesides
import Derived.ProofKit
import Derived.OpenShut
import Derived.ChangeOld
import Derived.Below
import Derived.Deep.Fields
import Derived.Lib.SmallJoins
import Derived.Test.YtncnbhekgkemfaaGreatDoorPkam

namespace Go.Proofs.YtncnbhekgkemfaaGreatDoor.lg
open Go.ChangeShapes Go.WideShapes Go.ChangeAt Go.RowKit Go.Deep Go.Joins
set_option linter.unusedVariables false

/-- A log of room r, data d, of which s bytes are sure. -/
def LV (r : Int) (d : ByteArray) (s : Int) : Value := .agg #[.int .i64 r, .string d, .int .i64 s]
/-- A number that an int can be. -/
def In (z : Int) : Prop := -9223372036854775808 ≤ z ∧ z ≤ 9223372036854775807
/-- What LogOK says. -/
def ok (r : Int) (n : Nat) (s : Int) : Bool := decide (0 ≤ r ∧ r ≤ 60000 ∧ (n : Int) ≤ r ∧ 0 ≤ s ∧ s ≤ (n : Int))
theorem in_of_wf {z : Int} (h : (Lit.int .i64 z).wf = true) : In z := by
  have h1 : IntKind.i64.min = -9223372036854775808 := rfl
  have h2 : IntKind.i64.max = 9223372036854775807 := rfl
  simp [Lit.wf, h1, h2] at h
  exact ⟨by omega, by omega⟩
section
variable {H : Type} {enc : TypeId × Value → H} {w : World} {base : Nat} {spare : Nat → Bool} {held : Bool}
set_option maxRecDepth 100000 in
theorem open_log {r : Reach} {b0 : Nat} {v : Value} {d : DataW H} {p : List MemPlace} (hv : Value.okWide Tryz.prog w r b0 23 v) (h : DataW.Trod enc Tryz.prog w base spare held 23 v d p) :
    ∃ (r : Int) (dd : ByteArray) (s : Int), v = LV r dd s ∧ In r ∧ dd.size ≤ maxLen ∧ In s := by
  obtain ⟨v0, v1, v2, y0, y1, y2, n, rfl, _, _, t0, t1, t2⟩ := open_agg3 Tryz.underlying23 (by kernel_rfl) (by kernel_rfl) hv h
  obtain ⟨z0, e0, _, f0⟩ := DataW.trod_int Tryz.underlying3 t0
  obtain ⟨s1, e1, _, f1⟩ := DataW.trod_string Tryz.underlying9 t1
  obtain ⟨z2, e2, _, f2⟩ := DataW.trod_int Tryz.underlying3 t2
  simp only [List.cons.injEq, and_true] at e0 e1 e2
  subst e0 e1 e2
  exact ⟨z0, s1, z2, rfl, in_of_wf f0, f1, in_of_wf f2⟩
end
/-- A log that lies as a variable. -/
def LiesL (w : World) (b : Nat) (T : TypeId) (r : Int) (d : ByteArray) (s : Int) : Prop := w.heap[b]? = some (.cells #[.int .i64 r, .string d, .int .i64 s] T (0, 0))
section
variable {w w' : World} {b : Nat} {T : TypeId} {r : Int} {d : ByteArray} {s : Int}
theorem LiesL.c0 (h : LiesL w b T r d s) : w.cell? ⟨b, 0, none⟩ = some (.int .i64 r) := by rw [cell_of_row w _ _ _ _ _ h]; rfl
theorem LiesL.c1 (h : LiesL w b T r d s) : w.cell? ⟨b, 0 + 1, none⟩ = some (.string d) := by rw [cell_of_row w _ _ _ _ _ h]; rfl
theorem LiesL.c2 (h : LiesL w b T r d s) : w.cell? ⟨b, 0 + 2, none⟩ = some (.int .i64 s) := by rw [cell_of_row w _ _ _ _ _ h]; rfl
theorem LiesL.lt (h : LiesL w b T r d s) : b < w.heap.size := World.block_lt_of_cell? w _ h.c0
theorem LiesL.keep (h : LiesL w b T r d s) (hb : Below w.heap.size w w') : LiesL w' b T r d s := (hb.block b h.lt).trans h
theorem lies_new (w : World) (T : TypeId) (r : Int) (d : ByteArray) (s : Int) : LiesL (w.alloc (.cells #[.int .i64 r, .string d, .int .i64 s] T)) w.heap.size T r d s := by show (w.heap.push _)[w.heap.size]? = _; simp
end
theorem new_below (w : World) (T : TypeId) (cs : Array Value) : Below w.heap.size w (w.alloc (.cells cs T)) := (Below.refl _ _).alloc (Nat.le_refl _) _

set_option maxHeartbeats 1000000 in
theorem szLog_any (r : Int) (d : ByteArray) (s : Int) (w : World) (hd : d.size ≤ maxLen) :
    Calls Tryz.prog 21 #[LV r d s, .int .i64 1048576] w fun e w' => (∃ z : Int, e = .returned (.int .i64 z) ∧ (z < 0 ∨ d.size ≤ 1048576) ∧ z ≤ 1048576 ∧ -1 ≤ z) ∧ Below w.heap.size w w' := by
  have hd' : d.size ≤ 9223372036854775807 := hd
  have hbw := new_below w 23 #[.int .i64 r, .string d, .int .i64 s]
  unfold LV
  by_cases g0 : (1048576 : Int) - (d.size : Int) < 0
  · go_enter Tryz.func21, Tryz.ntmps21
    go_wp2
    go_ret
    exact ⟨⟨-1, rfl, by omega, by omega, by omega⟩, hbw⟩
  · go_enter Tryz.func21, Tryz.ntmps21
    go_wp2
    go_ret
    exact ⟨⟨_, rfl, by omega, by omega, by omega⟩, hbw⟩

set_option maxHeartbeats 1000000 in
set_option maxRecDepth 100000 in
theorem toLog_any (r : Int) (d : ByteArray) (s : Int) (w : World) : Calls Tryz.prog 32 #[LV r d s] w fun e w' => e = .returned (LV r d s) ∧ Below w.heap.size w w' := by
  unfold LV
  go_enter Tryz.func32, Tryz.ntmps32
  go_wp2
  refine bodyPost_ret (v := .agg #[.int .i64 r, .string d, .int .i64 s]) (by simp [results, Tryz.results32, go_sem]) rfl ⟨rfl, ?_⟩
  exact (((Below.refl _ w).alloc (Nat.le_refl _) _).alloc (by simp) _).alloc (by simp; omega) _

set_option maxHeartbeats 1000000 in
set_option maxRecDepth 100000 in
theorem eqLog_same (r : Int) (d : ByteArray) (s : Int) (w : World) : Calls Tryz.prog 42 #[LV r d s, LV r d s] w fun e w' => e = .returned (.bool true) ∧ Below w.heap.size w w' := by
  unfold LV
  have hb := ((Below.refl w.heap.size w).alloc (Nat.le_refl _) (.cells #[.int .i64 r, .string d, .int .i64 s] 32)).alloc (by simp) (.cells #[.int .i64 r, .string d, .int .i64 s] 32)
  have h0 : (r != r) = false := by simp
  have h2 : (s != s) = false := by simp
  go_enter Tryz.func42, Tryz.ntmps42
  go_wp2
  go_ret
  exact ⟨rfl, hb⟩

set_option maxHeartbeats 2000000 in
set_option maxRecDepth 100000 in
theorem impl_ok (r : Int) (d : ByteArray) (s : Int) (w : World) (hr : In r) (hd : d.size ≤ maxLen) (hs : In s) :
    Calls Tryz.prog 63 #[LV r d s] w fun e w' => e = .returned (.bool (ok r d.size s)) ∧ Below w.heap.size w w' := by
  have hd' : d.size ≤ 9223372036854775807 := hd
  have hbw := new_below w 32 #[.int .i64 r, .string d, .int .i64 s]
  unfold LV
  have hk : ok r d.size s = decide (0 ≤ r ∧ r ≤ 60000 ∧ (d.size : Int) ≤ r ∧ 0 ≤ s ∧ s ≤ (d.size : Int)) := rfl
  by_cases g0 : 0 ≤ r
  · by_cases g1 : r ≤ 60000
    · by_cases g2 : (d.size : Int) ≤ r
      · by_cases g3 : 0 ≤ s
        · by_cases g4 : s ≤ (d.size : Int)
          · rw [hk, decide_eq_true ⟨g0, g1, g2, g3, g4⟩]
            go_enter Tryz.func63, Tryz.ntmps63
            go_wp2
            go_ret
            exact ⟨rfl, hbw⟩
          · rw [hk, decide_eq_false (by omega)]
            go_enter Tryz.func63, Tryz.ntmps63
            go_wp2
            go_ret
            exact ⟨rfl, hbw⟩
        · rw [hk, decide_eq_false (by omega)]
          go_enter Tryz.func63, Tryz.ntmps63
          go_wp2
          go_ret
          exact ⟨rfl, hbw⟩
      · rw [hk, decide_eq_false (by omega)]
        go_enter Tryz.func63, Tryz.ntmps63
        go_wp2
        go_ret
        exact ⟨rfl, hbw⟩
    · rw [hk, decide_eq_false (by omega)]
      go_enter Tryz.func63, Tryz.ntmps63
      go_wp2
      go_ret
      exact ⟨rfl, hbw⟩
  · rw [hk, decide_eq_false (by omega)]
    go_enter Tryz.func63, Tryz.ntmps63
    go_wp2
    go_ret
    exact ⟨rfl, hbw⟩

theorem spec_in (n a b : Int) (w : World) : Calls Tryz.prog 48 #[.int .i64 n, .int .i64 a, .int .i64 b] w fun e w' => e = .returned (.bool (decide (a ≤ n ∧ n ≤ b))) ∧ w' = w := by
  by_cases h0 : a ≤ n
  · by_cases h1 : n ≤ b
    · rw [decide_eq_true ⟨h0, h1⟩]
      go_enter Tryz.func48, Tryz.ntmps48
      go_wp2
      go_ret
      exact ⟨rfl, rfl⟩
    · rw [decide_eq_false (by omega)]
      go_enter Tryz.func48, Tryz.ntmps48
      go_wp2
      go_ret
      exact ⟨rfl, rfl⟩
  · rw [decide_eq_false (by omega)]
    go_enter Tryz.func48, Tryz.ntmps48
    go_wp2
    go_ret
    exact ⟨rfl, rfl⟩

set_option maxHeartbeats 2000000 in
set_option maxRecDepth 100000 in
theorem spec_ok (r : Int) (d : ByteArray) (s : Int) (w : World) (hr : In r) (hd : d.size ≤ maxLen) (hs : In s) :
    Calls Tryz.prog 24 #[LV r d s] w fun e w' => e = .returned (.bool (ok r d.size s)) ∧ Below w.heap.size w w' := by
  have hd' : d.size ≤ 9223372036854775807 := hd
  have hbw := new_below w 32 #[.int .i64 r, .string d, .int .i64 s]
  have hk : ok r d.size s = decide (0 ≤ r ∧ r ≤ 60000 ∧ (d.size : Int) ≤ r ∧ 0 ≤ s ∧ s ≤ (d.size : Int)) := rfl
  have HI : Hid (∀ (n a b : Int) (w : World), Calls Tryz.prog 48 #[.int .i64 n, .int .i64 a, .int .i64 b] w fun e w' => e = .returned (.bool (decide (a ≤ n ∧ n ≤ b))) ∧ w' = w) := spec_in
  unfold LV
  by_cases g0 : 0 ≤ r ∧ r ≤ 60000
  · by_cases g2 : (d.size : Int) ≤ r
    · by_cases g3 : 0 ≤ s ∧ s ≤ (d.size : Int)
      · rw [hk, decide_eq_true ⟨g0.1, g0.2, g2, g3.1, g3.2⟩]
        go_enter Tryz.func24, Tryz.ntmps24
        go_wp2_with fail
        refine (HI.out r 0 60000 _).mono ?_
        rintro e w' ⟨rfl, rfl⟩
        rw [decide_eq_true g0]
        go_wp2_with fail
        refine (HI.out s 0 d.size _).mono ?_
        rintro e w' ⟨rfl, rfl⟩
        rw [decide_eq_true g3]
        go_wp2
        go_ret
        exact ⟨rfl, hbw⟩
      · rw [hk, decide_eq_false (by omega)]
        go_enter Tryz.func24, Tryz.ntmps24
        go_wp2_with fail
        refine (HI.out r 0 60000 _).mono ?_
        rintro e w' ⟨rfl, rfl⟩
        rw [decide_eq_true g0]
        go_wp2_with fail
        refine (HI.out s 0 d.size _).mono ?_
        rintro e w' ⟨rfl, rfl⟩
        rw [decide_eq_false g3]
        go_wp2
        go_ret
        exact ⟨rfl, hbw⟩
    · rw [hk, decide_eq_false (by omega)]
      go_enter Tryz.func24, Tryz.ntmps24
      go_wp2_with fail
      refine (HI.out r 0 60000 _).mono ?_
      rintro e w' ⟨rfl, rfl⟩
      rw [decide_eq_true g0]
      go_wp2
      go_ret
      exact ⟨rfl, hbw⟩
  · rw [hk, decide_eq_false (by omega)]
    go_enter Tryz.func24, Tryz.ntmps24
    go_wp2_with fail
    refine (HI.out r 0 60000 _).mono ?_
    rintro e w' ⟨rfl, rfl⟩
    rw [decide_eq_false g0]
    go_wp2
    go_ret
    exact ⟨rfl, hbw⟩
end Go.Proofs.YtncnbhekgkemfaaGreatDoor.lg

namespace Go.Proofs.YtncnbhekgkemfaaGreatDoor.eg
open Go.ChangeShapes Go.WideShapes Go.ChangeAt Go.RowKit Go.Deep Go.Joins
open bx
open lg (LV)
set_option linter.unusedVariables false

/-- An engine: its log's three cells, its boxes. -/
def EV (r : Int) (d : ByteArray) (s : Int) (v : Value) : Value := .agg #[.int .i64 r, .string d, .int .i64 s, v]
section
variable {H : Type} {enc : TypeId × Value → H} {w : World} {base : Nat} {spare : Nat → Bool} {held : Bool}
theorem four_list {α : Type} {l : List α} (h : l.length = 4) : ∃ a b c d, l = [a, b, c, d] := by
  match l, h with
  | [a, b, c, d], _ => exact ⟨a, b, c, d, rfl⟩
set_option maxRecDepth 100000 in
theorem open_engine {r : Reach} {b0 : Nat} {v : Value} {d : DataW H} {p : List MemPlace} (hv : Value.okWide Tryz.prog w r b0 26 v) (h : DataW.Trod enc Tryz.prog w base spare held 26 v d p) :
    ∃ (r : Int) (dd : ByteArray) (s : Int) (u : Value) (xs : List Bx) (vs : Nat → Value × Value), v = EV r dd s u ∧ lg.In r ∧ dd.size ≤ maxLen ∧ lg.In s ∧ BoxesAt w u xs vs ∧ xs.length ≤ maxLen ∧ ∀ j, j < xs.length → Held (xs.getD j noB) := by
  obtain ⟨cs, rfl, hsz⟩ := okWide_struct Tryz.underlying26 hv
  obtain ⟨fuel, hf⟩ := h
  have hcs : (Value.agg cs).cells.toList = cs.toList := by simp [Value.cells]
  rw [hcs] at hf
  obtain ⟨y0, y1, n, _, hl, t0, t1⟩ := trod_struct2 Tryz.underlying26 hf
  have hl4 : cs.toList.length = 4 := hl.trans (by kernel_rfl)
  obtain ⟨c0, c1, c2, c3, hc⟩ := four_list hl4
  rw [hc] at t0 t1
  have t0' : DataW.trod enc Tryz.prog w base spare held n 23 [c0, c1, c2] = some y0 := t0
  have t1' : DataW.trod enc Tryz.prog w base spare held n 24 [c3] = some y1 := t1
  obtain ⟨z0, z1, z2, n2, _, _, s0, s1, s2⟩ := trod_struct3 Tryz.underlying23 t0'
  have s0' : DataW.trod enc Tryz.prog w base spare held n2 3 [c0] = some z0 := s0
  have s1' : DataW.trod enc Tryz.prog w base spare held n2 9 [c1] = some z1 := s1
  have s2' : DataW.trod enc Tryz.prog w base spare held n2 3 [c2] = some z2 := s2
  obtain ⟨i0, e0, _, f0⟩ := DataW.trod_int Tryz.underlying3 s0'
  obtain ⟨i1, e1, _, f1⟩ := DataW.trod_string Tryz.underlying9 s1'
  obtain ⟨i2, e2, _, f2⟩ := DataW.trod_int Tryz.underlying3 s2'
  simp only [List.cons.injEq, and_true] at e0 e1 e2
  subst e0 e1 e2
  obtain ⟨xs, vs, hat, hxl, hh⟩ := open_boxes t1'
  exact ⟨i0, i1, i2, c3, xs, vs, congrArg Value.agg (Array.toList_inj.1 hc), lg.in_of_wf f0, f1, lg.in_of_wf f2, hat, hxl, hh⟩
end
/-- An engine that lies as a variable. -/
def LiesE (w : World) (b : Nat) (T : TypeId) (r : Int) (d : ByteArray) (s : Int) (v : Value) : Prop := w.heap[b]? = some (.cells #[.int .i64 r, .string d, .int .i64 s, v] T (0, 0))
section
variable {w w' : World} {b : Nat} {T : TypeId} {r : Int} {d : ByteArray} {s : Int} {v : Value}
theorem LiesE.c0 (h : LiesE w b T r d s v) : w.cell? ⟨b, 0, none⟩ = some (.int .i64 r) := by rw [cell_of_row w _ _ _ _ _ h]; rfl
theorem LiesE.c1 (h : LiesE w b T r d s v) : w.cell? ⟨b, 0 + 1, none⟩ = some (.string d) := by rw [cell_of_row w _ _ _ _ _ h]; rfl
theorem LiesE.c2 (h : LiesE w b T r d s v) : w.cell? ⟨b, 0 + 2, none⟩ = some (.int .i64 s) := by rw [cell_of_row w _ _ _ _ _ h]; rfl
theorem LiesE.c3 (h : LiesE w b T r d s v) : w.cell? ⟨b, 0 + 3, none⟩ = some v := by rw [cell_of_row w _ _ _ _ _ h]; rfl
theorem LiesE.f (h : LiesE w b T r d s v) (j : Nat) : w.frozen? ⟨b, j, none⟩ = false := frozen_of_row _ _ _ _ _ h
theorem LiesE.lt (h : LiesE w b T r d s v) : b < w.heap.size := World.block_lt_of_cell? w _ h.c0
theorem LiesE.keep (h : LiesE w b T r d s v) (hb : Below w.heap.size w w') : LiesE w' b T r d s v := (hb.block b h.lt).trans h
theorem liesE_new (w : World) (T : TypeId) (r : Int) (d : ByteArray) (s : Int) (v : Value) : LiesE (w.alloc (.cells #[.int .i64 r, .string d, .int .i64 s, v] T)) w.heap.size T r d s v := by show (w.heap.push _)[w.heap.size]? = _; simp
end
theorem new_below (w : World) (T : TypeId) (cs : Array Value) : Below w.heap.size w (w.alloc (.cells cs T)) := (Below.refl _ _).alloc (Nat.le_refl _) _
/-- Boxes whose rows lie in blocks from B on are as they were where those blocks are. -/
theorem boxes_hi {w w' : World} {B n c : Nat} {xs : List Bx} {vs : Nat → Value × Value} (h : BoxesAt w (.slice (some ⟨B, 0, none⟩) n c) xs vs) (hm : Rws w B xs vs xs.length) (hw : ∀ q, B ≤ q → w'.heap[q]? = w.heap[q]?) (hs : w'.heap.size = w.heap.size) : BoxesAt w' (.slice (some ⟨B, 0, none⟩) n c) xs vs := by
  obtain ⟨⟨a, cap, e, h⟩, h2⟩ := h
  have hB := hw B (Nat.le_refl _)
  refine ⟨⟨a, cap, e, ?_⟩, fun j hj => ?_⟩
  · rcases h with h | ⟨b, off, rfl, hb, h⟩
    · exact .inl h
    · cases e
      refine .inr ⟨B, 0, rfl, by rw [hs]; exact hb, fun j hj => ?_⟩
      obtain ⟨h0, h1, h2, h3, h4⟩ := h j hj
      exact ⟨by rw [← h0]; simp only [World.cell?, hB], by rw [← h1]; simp only [World.cell?, hB], by rw [← h2]; simp only [World.cell?, hB], by rw [← h3]; simp only [World.cell?, hB], by rw [← h4]; simp only [World.cell?, hB]⟩
  · obtain ⟨g, g', e2, l1, l2, _, _⟩ := hm j hj
    have := h2 j hj
    rw [e2] at this ⊢
    exact ⟨mails_other this.1 (hw g (by omega)) (fun h => by rw [hs]; exact h), texts_other this.2 (hw g' (by omega)) (fun h => by rw [hs]; exact h)⟩
theorem rws_hi {w w' : World} {B k : Nat} {xs : List Bx} {vs : Nat → Value × Value} (hm : Rws w B xs vs k) (hw : ∀ q, B ≤ q → w'.heap[q]? = w.heap[q]?) : Rws w' B xs vs k := fun j hj => by
  obtain ⟨g, g', e, h1, h2, ⟨c1, h3⟩, ⟨c2, h4⟩⟩ := hm j hj
  exact ⟨g, g', e, h1, h2, ⟨c1, mu.own_block h3 (hw g (by omega))⟩, ⟨c2, mu.own_block h4 (hw g' (by omega))⟩⟩

theorem mine_hi {w w' : World} {B : Nat} {xs : List Bx} {vs : Nat → Value × Value} (h : Mine w B xs vs) (hw : ∀ q, B ≤ q → w'.heap[q]? = w.heap[q]?) : Mine w' B xs vs := by
  obtain ⟨⟨cs, h1, h2⟩, h3⟩ := h
  exact ⟨⟨cs, mu.own_block h1 (hw B (Nat.le_refl _)), h2⟩, rws_hi h3 hw⟩

set_option maxHeartbeats 1000000 in
set_option maxRecDepth 100000 in
theorem szEngine_any (r : Int) (d : ByteArray) (s : Int) (v : Value) (xs : List Bx) (vs : Nat → Value × Value) (w : World) (h : BoxesAt w v xs vs) (hd : d.size ≤ maxLen) (hl : xs.length ≤ maxLen) (hh : ∀ j, j < xs.length → Held (xs.getD j noB)) :
    Calls Tryz.prog 9 #[EV r d s v, .int .i64 1048576] w fun e w' => (∃ z : Int, e = .returned (.int .i64 z) ∧ z ≤ 1048576 ∧ -1 ≤ z ∧ (0 ≤ z → d.size ≤ 1048576 ∧ Smalls xs)) ∧ Below w.heap.size w w' := by
  have L0 := liesE_new w 26 r d s v
  have b0 := new_below w 26 #[.int .i64 r, .string d, .int .i64 s, v]
  have HA : Hid (BoxesAt w v xs vs) := h
  have HH : Hid (∀ j, j < xs.length → Held (xs.getD j noB)) := hh
  obtain ⟨⟨a, cap, rfl, _⟩, _⟩ := h
  clear hh
  unfold EV
  have c0 := L0.c0
  have c1 := L0.c1
  have c2 := L0.c2
  have c3 := L0.c3
  go_enter Tryz.func9, Tryz.ntmps9
  go_wp2_with fail
  generalize w.alloc _ = w0 at L0 b0 c0 c1 c2 c3 ⊢
  refine (lg.szLog_any r d s w0 hd).mono ?_
  rintro e w1 ⟨⟨z, rfl, hz0, hz1, hz2⟩, hb1⟩
  have L1 := L0.keep hb1
  have b1 := b0.trans (hb1.mono b0.size)
  have d3 := L1.c3
  clear c0 c1 c2 c3 L0 L1 b0 hb1
  by_cases hz : z < 0
  · go_wp2
    go_ret
    exact ⟨⟨_, rfl, by omega, by omega, fun h => by omega⟩, b1⟩
  go_wp2_with fail
  refine (szBoxS_any _ xs vs z w1 (boxes_below HA.out b1) (by omega) hz1 hl HH.out).mono ?_
  rintro e w2 ⟨⟨z2, rfl, hy0, hy1, hy2⟩, hb2⟩
  have b2 := b1.trans (hb2.mono b1.size)
  have HY : Hid (0 ≤ z2 → Smalls xs) := hy2
  clear b1 hb2 hy2 d3 HA HH
  by_cases hy : z2 < 0
  · go_wp2
    go_ret
    exact ⟨⟨_, rfl, by omega, by omega, fun h => by omega⟩, b2⟩
  · go_wp2
    go_ret
    exact ⟨⟨_, rfl, by omega, by omega, fun h => ⟨by omega, HY.out h⟩⟩, b2⟩

/-- What the copy of an engine leaves behind its boxes. -/
def fin (w2 : World) (b : Nat) (r : Int) (d : ByteArray) (s : Int) (V : Value) : World := ((((w2.setCell ⟨b + 1 + 1, 3, none⟩ V).setCell ⟨b + 1, 0, none⟩ (.int .i64 r)).setCell ⟨b + 1, 1, none⟩ (.string d)).setCell ⟨b + 1, 2, none⟩ (.int .i64 s)).setCell ⟨b + 1, 3, none⟩ V
theorem fin_block {w2 : World} {b : Nat} {T : TypeId} {u0 u1 u2 u3 : Value} (h : w2.heap[b + 1]? = some (.cells #[u0, u1, u2, u3] T (0, 0))) (r : Int) (d : ByteArray) (s : Int) (V : Value) : LiesE (fin w2 b r d s V) (b + 1) T r d s V := by
  have M1 := (heap_setCell_other w2 ⟨b + 1 + 1, 3, none⟩ (b + 1) V (by simp)).trans h
  exact heap_setCell_same _ (b + 1) 3 _ _ _ (heap_setCell_same _ (b + 1) 2 _ _ _ (heap_setCell_same _ (b + 1) 1 _ _ _ (heap_setCell_same _ (b + 1) 0 _ _ _ M1)))
theorem fin_other (w2 : World) (b g : Nat) (r : Int) (d : ByteArray) (s : Int) (V : Value) (h1 : g ≠ b + 1) (h2 : g ≠ b + 1 + 1) : (fin w2 b r d s V).heap[g]? = w2.heap[g]? := by
  unfold fin
  rw [heap_setCell_other _ _ _ _ h1, heap_setCell_other _ _ _ _ h1, heap_setCell_other _ _ _ _ h1, heap_setCell_other _ _ _ _ h1, heap_setCell_other _ _ _ _ h2]
theorem fin_size (w2 : World) (b : Nat) (r : Int) (d : ByteArray) (s : Int) (V : Value) : (fin w2 b r d s V).heap.size = w2.heap.size := by
  unfold fin
  simp
theorem fin_below {w w2 : World} {b : Nat} (h : Below b w w2) (r : Int) (d : ByteArray) (s : Int) (V : Value) : Below b w (fin w2 b r d s V) := by
  unfold fin
  exact ((((h.setCell (by simp; omega) _).setCell (by simp) _).setCell (by simp) _).setCell (by simp) _).setCell (by simp) _
/-- What the copy of its log leaves. -/
def put3 (w : World) (g : Nat) (r : Int) (d : ByteArray) (s : Int) : World := ((w.setCell ⟨g, 0, none⟩ (.int .i64 r)).setCell ⟨g, 1, none⟩ (.string d)).setCell ⟨g, 2, none⟩ (.int .i64 s)
theorem put3_block {w : World} {g : Nat} {T : TypeId} {r0 s0 : Int} {d0 : ByteArray} {v : Value} (h : LiesE w g T r0 d0 s0 v) (r : Int) (d : ByteArray) (s : Int) : LiesE (put3 w g r d s) g T r d s v :=
  heap_setCell_same _ g 2 _ _ _ (heap_setCell_same _ g 1 _ _ _ (heap_setCell_same _ g 0 _ _ _ h))
theorem put3_other (w : World) (b g : Nat) (r : Int) (d : ByteArray) (s : Int) (h1 : g ≠ b) : (put3 w b r d s).heap[g]? = w.heap[g]? := by
  unfold put3
  rw [heap_setCell_other _ _ _ _ h1, heap_setCell_other _ _ _ _ h1, heap_setCell_other _ _ _ _ h1]
theorem put3_size (w : World) (b : Nat) (r : Int) (d : ByteArray) (s : Int) : (put3 w b r d s).heap.size = w.heap.size := by
  unfold put3
  simp
theorem put3_below {w w2 : World} {b g : Nat} (h : Below b w w2) (hg : b ≤ g) (r : Int) (d : ByteArray) (s : Int) : Below b w (put3 w2 g r d s) := by
  unfold put3
  exact ((h.setCell hg _).setCell hg _).setCell hg _
/-- A copy of boxes: all their rows in blocks of their own from B on. -/
def CopyB (w : World) (B : Nat) (v : Value) (xs : List Bx) (vs : Nat → Value × Value) : Prop := v = .slice (some ⟨B, 0, none⟩) xs.length xs.length ∧ BoxesAt w v xs vs ∧ Mine w B xs vs ∧ ∀ j, j < xs.length → ∀ a n c, (vs j).2 = .slice a n c → n ≤ c

set_option maxHeartbeats 2000000 in
set_option maxRecDepth 100000 in
theorem toEngine_any (r : Int) (d : ByteArray) (s : Int) (v : Value) (xs : List Bx) (vs : Nat → Value × Value) (w : World) (h : BoxesAt w v xs vs) (hs : Smalls xs) :
    Calls Tryz.prog 13 #[EV r d s v] w fun e w' => ∃ B u us, e = .returned (EV r d s u) ∧ CopyB w' B u xs us ∧ w.heap.size ≤ B ∧ Below w.heap.size w w' := by
  have HA : Hid (BoxesAt w v xs vs) := h
  have HS : Hid (Smalls xs) := hs
  obtain ⟨⟨a, cap, rfl, _⟩, _⟩ := h
  clear hs
  obtain ⟨W, hW⟩ : ∃ W, W = (((w.alloc (.cells #[.int .i64 r, .string d, .int .i64 s, .slice a xs.length cap] 26)).alloc (.cells #[.int .i64 0, .string ⟨#[]⟩, .int .i64 0, .slice none 0 0] 35)).alloc (.cells #[.int .i64 0, .string ⟨#[]⟩, .int .i64 0, .slice none 0 0] 35)) := ⟨_, rfl⟩
  unfold EV
  go_enter Tryz.func13, Tryz.ntmps13
  go_wp2_with fail
  have b3 : Below w.heap.size w W := by rw [hW]; exact ((new_below w _ _).alloc (by simp) _).alloc (by simp; omega) _
  have sz : W.heap.size = w.heap.size + 3 := by rw [hW]; simp
  have k0 : LiesE W w.heap.size 26 r d s (.slice a xs.length cap) := by
    rw [hW]; exact ((liesE_new w 26 r d s (.slice a xs.length cap)).keep (new_below _ _ _)).keep (new_below _ _ _)
  have k1 : LiesE W (w.heap.size + 1) 35 0 ⟨#[]⟩ 0 (.slice none 0 0) := by rw [hW]; exact new1 _ _ _ _
  have k2 : LiesE W (w.heap.size + 1 + 1) 35 0 ⟨#[]⟩ 0 (.slice none 0 0) := by rw [hW]; exact new2 _ _ _ _
  rw [← hW]
  clear hW
  refine (lg.toLog_any r d s W).mono ?_
  rintro e w2 ⟨rfl, hb2⟩
  have m0 := k0.keep hb2
  have m1 := k1.keep hb2
  have m2 := k2.keep hb2
  have b4 := b3.trans (hb2.mono b3.size)
  have hs2 : w.heap.size + 3 ≤ w2.heap.size := by rw [← sz]; exact hb2.size
  clear k0 k1 k2 hb2 b3 sz
  have c03 := m0.c3
  have c20 := m2.c0
  have c21 := m2.c1
  have c22 := m2.c2
  have f20 := m2.f 0
  have f21 := m2.f 1
  have f22 := m2.f 2
  unfold LV
  have HM : Hid (LiesE w2 w.heap.size 26 r d s (.slice a xs.length cap) ∧ LiesE w2 (w.heap.size + 1) 35 0 ⟨#[]⟩ 0 (.slice none 0 0) ∧ LiesE w2 (w.heap.size + 1 + 1) 35 0 ⟨#[]⟩ 0 (.slice none 0 0)) := ⟨m0, m1, m2⟩
  clear m0 m1 m2
  go_wp2_with fail
  have b5 : Below w.heap.size w (put3 w2 (w.heap.size + 1 + 1) r d s) := put3_below b4 (by omega) r d s
  have n2 : LiesE (put3 w2 (w.heap.size + 1 + 1) r d s) (w.heap.size + 1 + 1) 35 r d s (.slice none 0 0) := put3_block HM.out.2.2 r d s
  have n1 : LiesE (put3 w2 (w.heap.size + 1 + 1) r d s) (w.heap.size + 1) 35 0 ⟨#[]⟩ 0 (.slice none 0 0) := (put3_other w2 _ _ r d s (by omega)).trans HM.out.2.1
  have s3 : (put3 w2 (w.heap.size + 1 + 1) r d s).heap.size = w2.heap.size := put3_size _ _ _ _ _
  refine (toBoxS_own _ xs vs (put3 w2 (w.heap.size + 1 + 1) r d s) (boxes_below HA.out b5) HS.out).mono ?_
  rintro e w4 ⟨rfl, ⟨us, hB, hM, hC⟩, hb4⟩
  generalize put3 w2 (w.heap.size + 1 + 1) r d s = w3 at b5 n2 n1 s3 hB hM hC hb4 ⊢
  have q1 := n1.keep hb4
  have q2 := n2.keep hb4
  have b6 := b5.trans (hb4.mono b5.size)
  have h4 := hb4.size
  have hB3 : w.heap.size + 3 ≤ w3.heap.size := by rw [s3]; exact hs2
  have HC : Hid (BoxesAt w4 (.slice (some ⟨w3.heap.size, 0, none⟩) xs.length xs.length) xs us ∧ Mine w4 w3.heap.size xs us ∧ ∀ j, j < xs.length → ∀ a n c, (us j).2 = .slice a n c → n ≤ c) := ⟨hB, hM, hC⟩
  clear hB hM hC hb4 n1 n2 b5 s3 c03 c20 c21 c22 f20 f21 f22 HM HA HS b4
  have c10 := q1.c0
  have c11 := q1.c1
  have c12 := q1.c2
  have c13 := q1.c3
  have c20 := q2.c0
  have c21 := q2.c1
  have c22 := q2.c2
  have c23 := q2.c3
  have f1 : ∀ j, w4.frozen? ⟨w.heap.size + 1, j, none⟩ = false := fun j => q1.f j
  have f2 : ∀ j, w4.frozen? ⟨w.heap.size + 1 + 1, j, none⟩ = false := fun j => q2.f j
  have f2' : w4.frozen? ⟨w.heap.size + 1 + 1, 0 + 3, none⟩ = false := q2.f 3
  have HQ1 : Hid (LiesE w4 (w.heap.size + 1) 35 0 ⟨#[]⟩ 0 (.slice none 0 0)) := q1
  clear q1 q2
  go_wp2
  change bodyPost _ _ _ _ _ (fin w4 w.heap.size r d s (.slice (some ⟨w3.heap.size, 0, none⟩) xs.length xs.length))
  have M5 := fin_block HQ1.out r d s (.slice (some ⟨w3.heap.size, 0, none⟩) xs.length xs.length)
  have b7 := fin_below b6 r d s (.slice (some ⟨w3.heap.size, 0, none⟩) xs.length xs.length)
  have hoth : ∀ q, w3.heap.size ≤ q → (fin w4 w.heap.size r d s (.slice (some ⟨w3.heap.size, 0, none⟩) xs.length xs.length)).heap[q]? = w4.heap[q]? := fun q hq => fin_other _ _ _ _ _ _ _ (by omega) (by omega)
  have hsz := fin_size w4 w.heap.size r d s (.slice (some ⟨w3.heap.size, 0, none⟩) xs.length xs.length)
  have HB := boxes_hi HC.out.1 HC.out.2.1.2 hoth hsz
  have HRW := mine_hi HC.out.2.1 hoth
  generalize fin w4 w.heap.size r d s (.slice (some ⟨w3.heap.size, 0, none⟩) xs.length xs.length) = X at M5 b7 HB HRW ⊢
  have x0 : X.cell? ⟨w.heap.size + 1, 0, none⟩ = some (.int .i64 r) := M5.c0
  have x1 : X.cell? ⟨w.heap.size + 1, 1, none⟩ = some (.string d) := M5.c1
  have x2 : X.cell? ⟨w.heap.size + 1, 2, none⟩ = some (.int .i64 s) := M5.c2
  have x3 : X.cell? ⟨w.heap.size + 1, 3, none⟩ = some (.slice (some ⟨w3.heap.size, 0, none⟩) xs.length xs.length) := M5.c3
  exact bodyPost_ret (v := .agg #[.int .i64 r, .string d, .int .i64 s, .slice (some ⟨w3.heap.size, 0, none⟩) xs.length xs.length]) (by simp [results, Tryz.results13, go_sem, x0, x1, x2, x3]) rfl ⟨_, _, us, rfl, ⟨rfl, HB, HRW, HC.out.2.2⟩, by omega, b7⟩

set_option maxHeartbeats 2000000 in
set_option maxRecDepth 100000 in
theorem eqEngine_any (r : Int) (d : ByteArray) (s : Int) (v u : Value) (xs : List Bx) (vs us : Nat → Value × Value) (w : World) (h1 : BoxesAt w v xs vs) (h2 : BoxesAt w u xs us) (hs : Smalls xs) :
    Calls Tryz.prog 19 #[EV r d s v, EV r d s u] w fun e w' => e = .returned (.bool true) ∧ Below w.heap.size w w' := by
  have HA : Hid (BoxesAt w v xs vs ∧ BoxesAt w u xs us ∧ Smalls xs) := ⟨h1, h2, hs⟩
  obtain ⟨⟨a, cap, rfl, _⟩, _⟩ := h1
  obtain ⟨⟨a', cap', rfl, _⟩, _⟩ := h2
  clear hs
  unfold EV
  have L0 := (liesE_new w 35 r d s (.slice a xs.length cap)).keep (new_below _ 35 #[.int .i64 r, .string d, .int .i64 s, .slice a' xs.length cap'])
  have M0 := liesE_new (w.alloc (.cells #[.int .i64 r, .string d, .int .i64 s, .slice a xs.length cap] 35)) 35 r d s (.slice a' xs.length cap')
  have b0 := (new_below w 35 #[.int .i64 r, .string d, .int .i64 s, .slice a xs.length cap]).alloc (by simp) (.cells #[.int .i64 r, .string d, .int .i64 s, .slice a' xs.length cap'] 35)
  rw [show (w.alloc (.cells #[.int .i64 r, .string d, .int .i64 s, .slice a xs.length cap] 35)).heap.size = w.heap.size + 1 by simp] at M0
  go_enter Tryz.func19, Tryz.ntmps19
  go_wp2_with fail
  generalize World.alloc _ _ = w0 at b0 L0 M0 ⊢
  refine (lg.eqLog_same r d s _).mono ?_
  rintro e w2 ⟨rfl, hb2⟩
  have c3 := (L0.keep hb2).c3
  have d3 := (M0.keep hb2).c3
  have b3 := b0.trans (hb2.mono b0.size)
  clear b0 hb2 L0 M0
  go_wp2_with fail
  refine (eqBoxS_any _ _ xs vs us w2 (boxes_below HA.out.1 b3) (boxes_below HA.out.2.1 b3) HA.out.2.2).mono ?_
  rintro e w3 ⟨rfl, hb3⟩
  have b4 := b3.trans (hb3.mono b3.size)
  clear c3 d3 HA hb3 b3
  go_wp2
  go_ret
  exact ⟨rfl, b4⟩
end Go.Proofs.YtncnbhekgkemfaaGreatDoor.eg
