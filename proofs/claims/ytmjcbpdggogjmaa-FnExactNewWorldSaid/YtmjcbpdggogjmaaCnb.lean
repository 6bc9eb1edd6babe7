/-
  Both functions that make a new world.
-/
import Derived.Test.YtmjcbpdggogjmaaCna
import Derived.Deep.RegionWith
namespace Go.Proofs.Ytmjcbpdggogjmaa.cn
open Go.ChangeShapes Go.WideShapes Go.ChangeAt Go.RowKit Go.Deep Go.Joins
open en lg
set_option linter.unusedVariables false

/-- A world: its engine's four cells, its connections. -/
def WV (r : Int) (d : ByteArray) (s : Int) (v c : Value) : Value := .agg #[.int .i64 r, .string d, .int .i64 s, v, c]
/-- A world that lies as a variable. -/
def LiesW (w : World) (b : Nat) (r : Int) (d : ByteArray) (s : Int) (v c : Value) : Prop := w.heap[b]? = some (.cells #[.int .i64 r, .string d, .int .i64 s, v, c] 29 (0, 0))
section
variable {w w' : World} {b : Nat} {r : Int} {d : ByteArray} {s : Int} {v c : Value}
theorem LiesW.c0 (h : LiesW w b r d s v c) : w.cell? ⟨b, 0, none⟩ = some (.int .i64 r) := by rw [cell_of_row w _ _ _ _ _ h]; rfl
theorem LiesW.c1 (h : LiesW w b r d s v c) : w.cell? ⟨b, 0 + 1, none⟩ = some (.string d) := by rw [cell_of_row w _ _ _ _ _ h]; rfl
theorem LiesW.c2 (h : LiesW w b r d s v c) : w.cell? ⟨b, 0 + 2, none⟩ = some (.int .i64 s) := by rw [cell_of_row w _ _ _ _ _ h]; rfl
theorem LiesW.c3 (h : LiesW w b r d s v c) : w.cell? ⟨b, 0 + 3, none⟩ = some v := by rw [cell_of_row w _ _ _ _ _ h]; rfl
theorem LiesW.c4 (h : LiesW w b r d s v c) : w.cell? ⟨b, 0 + 4, none⟩ = some c := by rw [cell_of_row w _ _ _ _ _ h]; rfl
theorem LiesW.c1' (h : LiesW w b r d s v c) : w.cell? ⟨b, 1, none⟩ = some (.string d) := h.c1
theorem LiesW.c2' (h : LiesW w b r d s v c) : w.cell? ⟨b, 2, none⟩ = some (.int .i64 s) := h.c2
theorem LiesW.c3' (h : LiesW w b r d s v c) : w.cell? ⟨b, 3, none⟩ = some v := h.c3
theorem LiesW.c4' (h : LiesW w b r d s v c) : w.cell? ⟨b, 4, none⟩ = some c := h.c4
theorem LiesW.f (h : LiesW w b r d s v c) (j : Nat) : w.frozen? ⟨b, j, none⟩ = false := frozen_of_row _ _ _ _ _ h
theorem LiesW.lt (h : LiesW w b r d s v c) : b < w.heap.size := World.block_lt_of_cell? w _ h.c0
theorem LiesW.keep (h : LiesW w b r d s v c) (hb : Below w.heap.size w w') : LiesW w' b r d s v c := (hb.block b h.lt).trans h
theorem liesW_new (w : World) (r : Int) (d : ByteArray) (s : Int) (v c : Value) : LiesW (w.alloc (.cells #[.int .i64 r, .string d, .int .i64 s, v, c] 29)) w.heap.size r d s v c := by show (w.heap.push _)[w.heap.size]? = _; simp
def put5 (w : World) (g : Nat) (a b c d e : Value) : World := ((((w.setCell ⟨g, 0, none⟩ a).setCell ⟨g, 1, none⟩ b).setCell ⟨g, 2, none⟩ c).setCell ⟨g, 3, none⟩ d).setCell ⟨g, 4, none⟩ e
theorem LiesW.put {r' : Int} {d' : ByteArray} {s' : Int} {v' c' : Value} (h : LiesW w b r d s v c) : LiesW (put5 w b (.int .i64 r') (.string d') (.int .i64 s') v' c') b r' d' s' v' c' :=
  heap_setCell_same _ b 4 _ _ _ (heap_setCell_same _ b 3 _ _ _ (heap_setCell_same _ b 2 _ _ _ (heap_setCell_same _ b 1 _ _ _ (heap_setCell_same _ b 0 _ _ _ h))))
theorem put5_below {B g : Nat} {w0 : World} {a b c d e : Value} (k : Below B w0 w) (hb : B ≤ g) : Below B w0 (put5 w g a b c d e) :=
  ((((k.setCell (p := ⟨g, 0, none⟩) hb _).setCell (p := ⟨g, 1, none⟩) hb _).setCell (p := ⟨g, 2, none⟩) hb _).setCell (p := ⟨g, 3, none⟩) hb _).setCell (p := ⟨g, 4, none⟩) hb _
theorem put5_other {g k : Nat} {a b c d e : Value} (h : k ≠ g) : (put5 w g a b c d e).heap[k]? = w.heap[k]? := by
  unfold put5
  rw [heap_setCell_other _ _ _ _ h, heap_setCell_other _ _ _ _ h, heap_setCell_other _ _ _ _ h, heap_setCell_other _ _ _ _ h, heap_setCell_other _ _ _ _ h]
end
/-- What a new world is: with a code nothing; else an engine that is new, and four that are closed. -/
def NW (B : Nat) (room : Int) (x : Value) (w' : World) : Prop :=
  (¬ (0 ≤ room ∧ room ≤ 60000) ∧ x = .tuple #[WV 0 ⟨#[]⟩ 0 (.slice none 0 0) (.slice none 0 0), .int .i64 4]) ∨
  ((0 ≤ room ∧ room ≤ 60000) ∧ ∃ a c g, x = .tuple #[WV room ⟨#[]⟩ 0 (.slice a 0 c) (.slice (some ⟨g, 0, none⟩) 4 4), .int .i64 0] ∧ B ≤ g ∧ Row w' g zf)

set_option maxHeartbeats 1000000 in
set_option maxRecDepth 100000 in
theorem impl_nw (room : Int) (w : World) : Calls Try.prog 5 #[.int .i64 room] w fun e w' => (∃ x, e = .returned x ∧ NW w.heap.size room x w') ∧ Below w.heap.size w w' := by
  have hk : newLog room = if 0 ≤ room ∧ room ≤ 60000 then RV room ⟨#[]⟩ 0 0 else RV 0 ⟨#[]⟩ 0 4 := rfl
  have L0 := liesW_new w 0 ⟨#[]⟩ 0 (.slice none 0 0) (.slice none 0 0)
  have b0 := new_below w 29 #[.int .i64 0, .string ⟨#[]⟩, .int .i64 0, .slice none 0 0, .slice none 0 0]
  by_cases hr : 0 ≤ room ∧ room ≤ 60000
  · rw [if_pos hr] at hk
    go_enter Try.func5, Try.ntmps5
    go_wp2_with fail
    generalize w.alloc _ = w0 at L0 b0 ⊢
    refine (impl_ne room _).mono ?_
    rintro e w1 ⟨⟨r, d, s, c, v, hx, ⟨a, cp, rfl⟩, rfl⟩, b1⟩
    rw [hk] at hx
    unfold RV LV at hx
    simp only [Value.tuple.injEq, Array.mk.injEq, List.cons.injEq, Value.agg.injEq, Value.int.injEq, Value.string.injEq, true_and, and_true] at hx
    obtain ⟨⟨rfl, rfl, rfl⟩, rfl⟩ := hx
    unfold EV
    have L1 := (L0.keep b1).keep (new_below w1 26 #[.int .i64 room, .string ⟨#[]⟩, .int .i64 0, .slice a 0 cp])
    have E1 := liesE_new w1 room ⟨#[]⟩ 0 (.slice a 0 cp)
    have b2 := (b0.trans (b1.mono b0.size))
    have b3 := b2.trans ((new_below w1 26 #[.int .i64 room, .string ⟨#[]⟩, .int .i64 0, .slice a 0 cp]).mono b2.size)
    clear L0 b0 b1 b2 hk
    obtain ⟨G, hG⟩ : ∃ G, G = w1.heap.size := ⟨_, rfl⟩
    rw [← hG] at E1
    go_wp2_with fail
    rw [← hG]
    clear hG
    generalize w1.alloc _ = W1 at L1 E1 b3 ⊢
    have c0 := E1.c0
    have c1 := E1.c1
    have c2 := E1.c2
    have c3 := E1.c3
    have HL : Hid (LiesW W1 w.heap.size 0 ⟨#[]⟩ 0 (.slice none 0 0) (.slice none 0 0)) := L1
    have HE : Hid (LiesE W1 G room ⟨#[]⟩ 0 (.slice a 0 cp)) := E1
    have HB : Hid (Below w.heap.size w W1) := b3
    have hgl : G < W1.heap.size := E1.lt
    clear L1 E1 b3
    have HC : Hid (∀ X : World, Calls Try.prog 12 #[] X fun e w' => e = .returned (.slice (some ⟨X.heap.size, 0, none⟩) 4 4) ∧ Row w' X.heap.size zf ∧ Below X.heap.size X w') := closed_any
    go_region_with (go_at_call 12; refine (HC.out _).mono ?_; rintro e X ⟨rfl, HR, HX⟩; have HL2 : LiesW X w.heap.size 0 ⟨#[]⟩ 0 (.slice none 0 0) (.slice none 0 0) := HL.out.keep (w := W1.drew) HX; have HE2 : LiesE X G room ⟨#[]⟩ 0 (.slice a 0 cp) := HE.out.keep (w := W1.drew) HX; have e0 := HE2.c0; have e1 := HE2.c1; have e2 := HE2.c2; have e3 := HE2.c3; have l0 := HL2.c0; have l1 := HL2.c1; have l2 := HL2.c2; have l3 := HL2.c3; have l4 := HL2.c4; have lf := HL2.f)
    all_goals (
      have hlt : w.heap.size < W1.heap.size := HL.out.lt
      have HRR : Row X W1.heap.size zf := HR
      have A5 := HL2.put (r' := room) (d' := ⟨#[]⟩) (s' := 0) (v' := .slice a 0 cp) (c' := .slice (some ⟨W1.heap.size, 0, none⟩) 4 4)
      have R5 : Row (put5 X w.heap.size (.int .i64 room) (.string ⟨#[]⟩) (.int .i64 0) (.slice a 0 cp) (.slice (some ⟨W1.heap.size, 0, none⟩) 4 4)) W1.heap.size zf := HRR.keep (put5_other (fun e => by omega))
      have b4 : Below w.heap.size w X := HB.out.drew.trans (HX.mono (Nat.le_of_lt hlt))
      have b5 := put5_below (a := .int .i64 room) (b := .string ⟨#[]⟩) (c := .int .i64 0) (d := .slice a 0 cp) (e := .slice (some ⟨W1.heap.size, 0, none⟩) 4 4) b4 (Nat.le_refl w.heap.size)
      have HLT : Hid (w.heap.size < W1.heap.size) := hlt
      have HQ : Hid (0 ≤ room ∧ room ≤ 60000) := hr
      clear hlt hr b4 HR HRR HX HL HE HB HC HL2 HE2 e0 e1 e2 e3 c0 c1 c2 c3 hgl l0 l1 l2 l3 l4 lf
      go_wp2
      change bodyPost _ _ _ _ _ (put5 _ w.heap.size (.int .i64 room) (.string ⟨#[]⟩) (.int .i64 0) (.slice a 0 cp) (.slice (some ⟨W1.heap.size, 0, none⟩) 4 4))
      generalize put5 _ _ _ _ _ _ _ = W5 at A5 b5 R5 ⊢
      have d0 := A5.c0
      have d1 := A5.c1'
      have d2 := A5.c2'
      have d3 := A5.c3'
      have d4 := A5.c4'
      exact bodyPost_ret (v := .tuple #[WV room ⟨#[]⟩ 0 (.slice a 0 cp) (.slice (some ⟨W1.heap.size, 0, none⟩) 4 4), .int .i64 0]) (by simp [results, Try.results5, go_sem, d0, d1, d2, d3, d4, WV]) rfl ⟨⟨_, rfl, .inr ⟨HQ.out, _, _, _, rfl, Nat.le_of_lt HLT.out, R5⟩⟩, b5⟩)
  · rw [if_neg hr] at hk
    go_enter Try.func5, Try.ntmps5
    go_wp2_with fail
    generalize w.alloc _ = w0 at L0 b0 ⊢
    refine (impl_ne room _).mono ?_
    rintro e w1 ⟨⟨r, d, s, c, v, hx, ⟨a, cp, rfl⟩, rfl⟩, b1⟩
    rw [hk] at hx
    unfold RV LV at hx
    simp only [Value.tuple.injEq, Array.mk.injEq, List.cons.injEq, Value.agg.injEq, Value.int.injEq, Value.string.injEq, true_and, and_true] at hx
    obtain ⟨⟨rfl, rfl, rfl⟩, rfl⟩ := hx
    unfold EV
    have L1 := (L0.keep b1).keep (new_below w1 26 #[.int .i64 0, .string ⟨#[]⟩, .int .i64 0, .slice a 0 cp])
    have b2 := (b0.trans (b1.mono b0.size))
    have b3 := b2.trans ((new_below w1 26 #[.int .i64 0, .string ⟨#[]⟩, .int .i64 0, .slice a 0 cp]).mono b2.size)
    clear L0 b0 b1 b2 hk
    have l0 := L1.c0
    have l1 := L1.c1
    have l2 := L1.c2
    have l3 := L1.c3
    have l4 := L1.c4
    have f0 := L1.f 0
    have f1 := L1.f 1
    have f2 := L1.f 2
    have f3 := L1.f 3
    have f4 := L1.f 4
    have HL : Hid (LiesW (w1.alloc (.cells #[.int .i64 0, .string ⟨#[]⟩, .int .i64 0, .slice a 0 cp] 26)) w.heap.size 0 ⟨#[]⟩ 0 (.slice none 0 0) (.slice none 0 0)) := L1
    have HQ : Hid (¬ (0 ≤ room ∧ room ≤ 60000)) := hr
    clear hr L1
    go_wp2
    have A5 := HL.out.put (r' := 0) (d' := ⟨#[]⟩) (s' := 0) (v' := .slice none 0 0) (c' := .slice none 0 0)
    have b5 := put5_below (a := .int .i64 0) (b := .string ⟨#[]⟩) (c := .int .i64 0) (d := .slice none 0 0) (e := .slice none 0 0) b3 (Nat.le_refl w.heap.size)
    change bodyPost _ _ _ _ _ (put5 _ w.heap.size (.int .i64 0) (.string ⟨#[]⟩) (.int .i64 0) (.slice none 0 0) (.slice none 0 0))
    generalize put5 _ _ _ _ _ _ _ = W5 at A5 b5 ⊢
    have d0 := A5.c0
    have d1 := A5.c1'
    have d2 := A5.c2'
    have d3 := A5.c3'
    have d4 := A5.c4'
    exact bodyPost_ret (v := .tuple #[WV 0 ⟨#[]⟩ 0 (.slice none 0 0) (.slice none 0 0), .int .i64 4]) (by simp [results, Try.results5, go_sem, d0, d1, d2, d3, d4, WV]) rfl ⟨⟨_, rfl, .inl ⟨HQ.out, rfl⟩⟩, b5⟩

set_option maxHeartbeats 1000000 in
set_option maxRecDepth 100000 in
theorem l15New_any (room : Int) (w : World) : Calls Try.prog 10 #[.int .i64 room] w fun e w' => (∃ a c g, e = .returned (WV room ⟨#[]⟩ 0 (.slice a 0 c) (.slice (some ⟨g, 0, none⟩) 4 4)) ∧ w.heap.size ≤ g ∧ Row w' g zf) ∧ Below w.heap.size w w' := by
  obtain ⟨i0, hi, hz0, hz1, hz2⟩ := info_parts infoC
  have L0 := liesW_new w 0 ⟨#[]⟩ 0 (.slice none 0 0) (.slice none 0 0)
  have b0 := new_below w 29 #[.int .i64 0, .string ⟨#[]⟩, .int .i64 0, .slice none 0 0, .slice none 0 0]
  have L1 := L0.keep (new_below _ 63 #[])
  have b1 := b0.trans ((new_below (w.alloc (.cells #[.int .i64 0, .string ⟨#[]⟩, .int .i64 0, .slice none 0 0, .slice none 0 0] 29)) 63 #[]).mono b0.size)
  clear L0 b0
  go_enter Try.func10, Try.ntmps10
  go_wp2_with (at_make; refine wpList_make_full _ rfl _ _ 27 rfl w.heap.size 55 i0 _ 9 Try.underlying27 hi hz0 hz1 _ _ _ _ 4 rfl rfl rfl rfl (by rw [hz2]; omega) (by unfold maxLen; omega) (by simp; omega) ?_; intro w1 hown1 hg1; have hr := row_own hown1; have b2 := grown_none hg1; have L2 := L1.keep b2; have b3 := b1.trans (b2.mono b1.size); clear hown1 hg1 b2 L1 b1 hi hz0 hz1 hz2; have l0 := L2.c0; have l1 := L2.c1; have l2 := L2.c2; have l3 := L2.c3; have l4 := L2.c4; have f0 := L2.f 0; have f1 := L2.f 1; have f2 := L2.f 2; have f3 := L2.f 3; have f4 := L2.f 4; have HL : Hid (LiesW w1 w.heap.size 0 ⟨#[]⟩ 0 (.slice none 0 0) (.slice none 0 0)) := L2; clear L2)
  have hr : Row w1 (w.heap.size + 1 + 1) zf := by simpa using hr
  have A5 := HL.out.put (r' := room) (d' := ⟨#[]⟩) (s' := 0) (v' := .slice (some ⟨w.heap.size + 1, 0, none⟩) 0 0) (c' := .slice (some ⟨w.heap.size + 1 + 1, 0, none⟩) 4 4)
  have R5 := hr.keep (put5_other (w := w1) (g := w.heap.size) (a := .int .i64 room) (b := .string ⟨#[]⟩) (c := .int .i64 0) (d := .slice (some ⟨w.heap.size + 1, 0, none⟩) 0 0) (e := .slice (some ⟨w.heap.size + 1 + 1, 0, none⟩) 4 4) (by omega))
  have b5 := put5_below (a := .int .i64 room) (b := .string ⟨#[]⟩) (c := .int .i64 0) (d := .slice (some ⟨w.heap.size + 1, 0, none⟩) 0 0) (e := .slice (some ⟨w.heap.size + 1 + 1, 0, none⟩) 4 4) b3 (Nat.le_refl w.heap.size)
  change bodyPost _ _ _ _ _ (put5 _ w.heap.size (.int .i64 room) (.string ⟨#[]⟩) (.int .i64 0) (.slice (some ⟨w.heap.size + 1, 0, none⟩) 0 0) (.slice (some ⟨w.heap.size + 1 + 1, 0, none⟩) 4 4))
  generalize put5 _ _ _ _ _ _ _ = W5 at A5 b5 R5 ⊢
  have d0 := A5.c0
  have d1 := A5.c1'
  have d2 := A5.c2'
  have d3 := A5.c3'
  have d4 := A5.c4'
  exact bodyPost_ret (v := WV room ⟨#[]⟩ 0 (.slice (some ⟨w.heap.size + 1, 0, none⟩) 0 0) (.slice (some ⟨w.heap.size + 1 + 1, 0, none⟩) 4 4)) (by simp [results, Try.results10, go_sem, d0, d1, d2, d3, d4, WV]) rfl ⟨⟨_, _, _, rfl, by omega, R5⟩, b5⟩

set_option maxHeartbeats 1000000 in
set_option maxRecDepth 100000 in
theorem spec_nw (room : Int) (w : World) : Calls Try.prog 4 #[.int .i64 room] w fun e w' => (∃ x, e = .returned x ∧ NW w.heap.size room x w') ∧ Below w.heap.size w w' := by
  have HI : Hid (∀ (n a b : Int) (w : World), Calls Try.prog 9 #[.int .i64 n, .int .i64 a, .int .i64 b] w fun e w' => e = .returned (.bool (decide (a ≤ n ∧ n ≤ b))) ∧ w' = w) := spec_in
  have L0 := liesW_new w 0 ⟨#[]⟩ 0 (.slice none 0 0) (.slice none 0 0)
  have b0 := new_below w 29 #[.int .i64 0, .string ⟨#[]⟩, .int .i64 0, .slice none 0 0, .slice none 0 0]
  by_cases hr : 0 ≤ room ∧ room ≤ 60000
  · have HQ : Hid (0 ≤ room ∧ room ≤ 60000) := hr
    have hd : decide (0 ≤ room ∧ room ≤ 60000) = true := decide_eq_true hr
    clear hr
    go_enter Try.func4, Try.ntmps4
    go_wp2_with fail
    generalize w.alloc _ = w0 at L0 b0 ⊢
    refine (HI.out room 0 60000 _).mono ?_
    rintro e w' ⟨rfl, rfl⟩
    rw [hd]
    clear hd
    go_wp2_with fail
    refine (l15New_any room _).mono ?_
    rintro e w1 ⟨⟨a, c, g, rfl, hg, hR⟩, b1⟩
    unfold WV
    have L1 := L0.keep b1
    have b2 := b0.trans (b1.mono b0.size)
    have hlt : w.heap.size < g := Nat.lt_of_lt_of_le L0.lt hg
    clear L0 b0 b1 hg
    have l0 := L1.c0
    have l1 := L1.c1
    have l2 := L1.c2
    have l3 := L1.c3
    have l4 := L1.c4
    have f0 := L1.f 0
    have f1 := L1.f 1
    have f2 := L1.f 2
    have f3 := L1.f 3
    have f4 := L1.f 4
    have HL : Hid (LiesW w1 w.heap.size 0 ⟨#[]⟩ 0 (.slice none 0 0) (.slice none 0 0)) := L1
    have HLT : Hid (w.heap.size < g) := hlt
    have HR : Hid (Row w1 g zf) := hR
    clear L1 hlt hR
    go_wp2
    have A5 := HL.out.put (r' := room) (d' := ⟨#[]⟩) (s' := 0) (v' := .slice a 0 c) (c' := .slice (some ⟨g, 0, none⟩) 4 4)
    have R5 := HR.out.keep (put5_other (w := w1) (g := w.heap.size) (a := .int .i64 room) (b := .string ⟨#[]⟩) (c := .int .i64 0) (d := .slice a 0 c) (e := .slice (some ⟨g, 0, none⟩) 4 4) (Nat.ne_of_gt HLT.out))
    have b5 := put5_below (a := .int .i64 room) (b := .string ⟨#[]⟩) (c := .int .i64 0) (d := .slice a 0 c) (e := .slice (some ⟨g, 0, none⟩) 4 4) b2 (Nat.le_refl w.heap.size)
    change bodyPost _ _ _ _ _ (put5 _ w.heap.size (.int .i64 room) (.string ⟨#[]⟩) (.int .i64 0) (.slice a 0 c) (.slice (some ⟨g, 0, none⟩) 4 4))
    generalize put5 _ _ _ _ _ _ _ = W5 at A5 b5 R5 ⊢
    have d0 := A5.c0
    have d1 := A5.c1'
    have d2 := A5.c2'
    have d3 := A5.c3'
    have d4 := A5.c4'
    exact bodyPost_ret (v := .tuple #[WV room ⟨#[]⟩ 0 (.slice a 0 c) (.slice (some ⟨g, 0, none⟩) 4 4), .int .i64 0]) (by simp [results, Try.results4, go_sem, d0, d1, d2, d3, d4, WV]) rfl ⟨⟨_, rfl, .inr ⟨HQ.out, _, _, _, rfl, Nat.le_of_lt HLT.out, R5⟩⟩, b5⟩
  · have HQ : Hid (¬ (0 ≤ room ∧ room ≤ 60000)) := hr
    have hd : decide (0 ≤ room ∧ room ≤ 60000) = false := decide_eq_false hr
    clear hr
    go_enter Try.func4, Try.ntmps4
    go_wp2_with fail
    generalize w.alloc _ = w0 at L0 b0 ⊢
    refine (HI.out room 0 60000 _).mono ?_
    rintro e w' ⟨rfl, rfl⟩
    rw [hd]
    clear hd
    have l0 := L0.c0
    have l1 := L0.c1
    have l2 := L0.c2
    have l3 := L0.c3
    have l4 := L0.c4
    have f0 := L0.f 0
    have f1 := L0.f 1
    have f2 := L0.f 2
    have f3 := L0.f 3
    have f4 := L0.f 4
    have HL : Hid (LiesW w' w.heap.size 0 ⟨#[]⟩ 0 (.slice none 0 0) (.slice none 0 0)) := L0
    clear L0
    go_wp2
    have A5 := HL.out.put (r' := 0) (d' := ⟨#[]⟩) (s' := 0) (v' := .slice none 0 0) (c' := .slice none 0 0)
    have b5 := put5_below (a := .int .i64 0) (b := .string ⟨#[]⟩) (c := .int .i64 0) (d := .slice none 0 0) (e := .slice none 0 0) b0 (Nat.le_refl w.heap.size)
    change bodyPost _ _ _ _ _ (put5 _ w.heap.size (.int .i64 0) (.string ⟨#[]⟩) (.int .i64 0) (.slice none 0 0) (.slice none 0 0))
    generalize put5 _ _ _ _ _ _ _ = W5 at A5 b5 ⊢
    have d0 := A5.c0
    have d1 := A5.c1'
    have d2 := A5.c2'
    have d3 := A5.c3'
    have d4 := A5.c4'
    exact bodyPost_ret (v := .tuple #[WV 0 ⟨#[]⟩ 0 (.slice none 0 0) (.slice none 0 0), .int .i64 4]) (by simp [results, Try.results4, go_sem, d0, d1, d2, d3, d4, WV]) rfl ⟨⟨_, rfl, .inl ⟨HQ.out, rfl⟩⟩, b5⟩
end Go.Proofs.Ytmjcbpdggogjmaa.cn
