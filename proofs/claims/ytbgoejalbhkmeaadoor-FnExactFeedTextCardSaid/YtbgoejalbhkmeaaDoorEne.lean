/-
  A feed: compared, measured and copied by the law's own functions.
-/
import Derived.Test.YtbgoejalbhkmeaaDoorEnd
namespace Go.Proofs.YtbgoejalbhkmeaaDoor.en
open Go.RowKit
open gr
set_option linter.unusedVariables false

set_option maxHeartbeats 1000000 in
set_option maxRecDepth 100000 in
theorem eqEntry_any (x : En) (w : World) : Calls Tryd.prog 31 #[.agg #[.string x.i, .string x.t, .string x.l, .string x.a, .int .i64 x.d, .string x.c], .agg #[.string x.i, .string x.t, .string x.l, .string x.a, .int .i64 x.d, .string x.c]] w fun e w' => e = .returned (.bool true) ∧ Below w.heap.size w w' := by
  obtain ⟨i, t, l, a, d, c⟩ := x
  simp only
  have dd : ((d : Int) != d) = false := by simp
  go_enter Tryd.func31, Tryd.ntmps31
  go_wp2
  go_ret
  exact ⟨rfl, ((Below.refl _ w).alloc (Nat.le_refl _) _).alloc (by simp) _⟩

set_option maxHeartbeats 2000000 in
set_option maxRecDepth 100000 in
theorem eqEntryS_any (v u : Value) (es : List En) (w : World) (h1 : EntsAt w v es) (h2 : EntsAt w u es) (hn : es.length ≤ 1048576) :
    Calls Tryd.prog 18 #[v, u] w fun e w' => e = .returned (.bool true) ∧ Below w.heap.size w w' := by
  obtain ⟨a, cap, rfl, h1⟩ := h1
  obtain ⟨c, cap2, rfl, h2⟩ := h2
  obtain ⟨n, hn'⟩ : ∃ n, n = es.length := ⟨_, rfl⟩
  have HN : Hid (n = es.length) := hn'
  have H1 : Hid (es = [] ∨ ∃ b off, a = some ⟨b, off, none⟩ ∧ ∀ j, j < es.length → At6 w b (off + j * 6) (es.getD j noE)) := h1
  have H2 : Hid (es = [] ∨ ∃ b off, c = some ⟨b, off, none⟩ ∧ ∀ j, j < es.length → At6 w b (off + j * 6) (es.getD j noE)) := h2
  rw [← hn'] at hn ⊢
  clear h1 h2 hn'
  have hnn : ((n : Int) != (n : Int)) = false := by simp
  go_enter Tryd.func18, Tryd.ntmps18
  go_wp2
  go_loopw [5] (fun i wr => ∃ k : Nat, k ≤ n ∧ i = .int .i64 k ∧ Below w.heap.size w wr) (fun i _ => n - (intOf i).toNat)
  case atStart => exact ⟨0, Nat.zero_le _, rfl, Below.refl _ _⟩
  case round =>
    obtain ⟨k, hk, rfl, hbw⟩ := hrel
    by_cases hlt : k < n
    · have hka : k < es.length := by rw [← HN.out]; exact hlt
      rcases H1.out with e | ⟨b, off, rfl, hcells⟩
      · rw [e] at hka; simp at hka
      rcases H2.out with e | ⟨b2, off2, rfl, hcells2⟩
      · rw [e] at hka; simp at hka
      have ha := (hcells k hka).keep hbw (hcells k hka).lt
      have hb := (hcells2 k hka).keep hbw (hcells2 k hka).lt
      clear hcells hka hcells2
      generalize es.getD k noE = x at ha hb
      obtain ⟨c0, c1, c2, c3, c4, c5⟩ := ha
      obtain ⟨d0, d1, d2, d3, d4, d5⟩ := hb
      have hlt' : (k : Int) < (n : Int) := by omega
      have hk0 : (0 : Int) ≤ (k : Int) := by omega
      go_wp2_with fail
      have ne := ext_some wr
      have c0 := fun x : Ext wr => gw_cell x c0
      have c1 := fun x : Ext wr => gw_cell x c1
      have c2 := fun x : Ext wr => gw_cell x c2
      have c3 := fun x : Ext wr => gw_cell x c3
      have c4 := fun x : Ext wr => gw_cell x c4
      have c5 := fun x : Ext wr => gw_cell x c5
      have d0 := fun x : Ext wr => gw_cell x d0
      have d1 := fun x : Ext wr => gw_cell x d1
      have d2 := fun x : Ext wr => gw_cell x d2
      have d3 := fun x : Ext wr => gw_cell x d3
      have d4 := fun x : Ext wr => gw_cell x d4
      have d5 := fun x : Ext wr => gw_cell x d5
      refine region_lit (by kernel_rfl) (by kernel_rfl) ?_
      repeat (go_big_quiet_step ((go_at_call 31; exact grow_of (eqEntry_any _ _))))
      refine wpQuiet_nil ?_
      rintro W' ⟨y, rfl⟩
      have b3 := hbw.trans ((gw_below y).mono hbw.size)
      generalize gw y = W' at b3 ⊢
      clear c0 c1 c2 c3 c4 c5 d0 d1 d2 d3 d4 d5 hbw
      go_wp2
      go_roundw
      case rel => exact ⟨k + 1, by omega, by go_num, b3⟩
      case measure => simp [intOf]; omega
    · go_wp2
      go_ret
      exact ⟨rfl, hbw⟩

/-- A feed as the program has it. -/
def FV (f : Bool) (t : ByteArray) (v : Value) : Value := .agg #[.bool f, .string t, v]
def LiesF (w : World) (b : Nat) (T : TypeId) (f : Bool) (t : ByteArray) (v : Value) : Prop := w.heap[b]? = some (.cells #[.bool f, .string t, v] T (0, 0))
section
variable {w w' : World} {b : Nat} {T : TypeId} {f : Bool} {t : ByteArray} {v : Value}
theorem LiesF.c0 (h : LiesF w b T f t v) : w.cell? ⟨b, 0, none⟩ = some (.bool f) := by rw [cell_of_row w _ _ _ _ _ h]; rfl
theorem LiesF.c1 (h : LiesF w b T f t v) : w.cell? ⟨b, 0 + 1, none⟩ = some (.string t) := by rw [cell_of_row w _ _ _ _ _ h]; rfl
theorem LiesF.c2 (h : LiesF w b T f t v) : w.cell? ⟨b, 0 + 2, none⟩ = some v := by rw [cell_of_row w _ _ _ _ _ h]; rfl
theorem LiesF.lt (h : LiesF w b T f t v) : b < w.heap.size := World.block_lt_of_cell? w _ h.c0
theorem LiesF.keep (h : LiesF w b T f t v) (hb : Below w.heap.size w w') : LiesF w' b T f t v := (hb.block b h.lt).trans h
theorem liesF_new (w : World) (T : TypeId) (f : Bool) (t : ByteArray) (v : Value) : LiesF (w.alloc (.cells #[.bool f, .string t, v] T)) w.heap.size T f t v := by show (w.heap.push _)[w.heap.size]? = _; simp
end

set_option maxHeartbeats 1000000 in
set_option maxRecDepth 100000 in
theorem szFeed_any (f : Bool) (t : ByteArray) (v : Value) (es : List En) (left : Int) (w : World) (h : EntsAt w v es) (h0 : 0 ≤ left) (h1 : left ≤ 1048576) (ht : t.size ≤ maxLen) (hl : es.length ≤ maxLen) (hs : ∀ j, j < es.length → Held (es.getD j noE)) :
    Calls Tryd.prog 4 #[FV f t v, .int .i64 left] w fun e w' => (∃ z : Int, e = .returned (.int .i64 z) ∧ z ≤ left ∧ -1 ≤ z ∧ (0 ≤ z → Smalls es ∧ t.size ≤ 1048576)) ∧ Below w.heap.size w w' := by
  unfold FV
  have ht' : t.size ≤ 9223372036854775807 := ht
  have hbw : Below w.heap.size w (w.alloc (.cells #[.bool f, .string t, v] 24)) := (Below.refl _ _).alloc (Nat.le_refl _) _
  have hz := h
  obtain ⟨a, cap, hv, _⟩ := hz
  by_cases g0 : left - (t.size : Int) < 0
  · subst hv
    go_enter Tryd.func4, Tryd.ntmps4
    go_wp2
    go_ret
    exact ⟨⟨-1, rfl, by omega, by omega, by omega⟩, hbw⟩
  have h2 := ents_below h hbw
  have HS : Hid (∀ j, j < es.length → Held (es.getD j noE)) := hs
  have H2 : Hid (EntsAt (w.alloc (.cells #[.bool f, .string t, v] 24)) v es) := h2
  clear h h2 hs
  subst hv
  go_enter Tryd.func4, Tryd.ntmps4
  go_wp2_with fail
  refine (szEntryS_any _ es _ _ H2.out (by omega) (by omega) hl HS.out).mono ?_
  rintro e w2 ⟨⟨z, rfl, hz0, hz1, hz2⟩, hb2⟩
  have HZ : Hid (0 ≤ z → Smalls es) := hz2
  have hb3 := hbw.trans (hb2.mono hbw.size)
  clear hz2 H2 HS hbw hb2
  by_cases hz : z < 0
  · go_wp2
    go_ret
    exact ⟨⟨-1, rfl, by omega, by omega, by omega⟩, hb3⟩
  · go_wp2
    go_ret
    exact ⟨⟨_, rfl, by omega, by omega, fun _ => ⟨HZ.out (by omega), by omega⟩⟩, hb3⟩

theorem heap_new (w : World) (o : Obj) : (w.alloc o).heap[w.heap.size]? = some o := (MapKept.heap_alloc w _).1
theorem new0 (w : World) (o0 o1 o2 : Obj) : (((w.alloc o0).alloc o1).alloc o2).heap[w.heap.size]? = some o0 := by
  rw [Below.heap_alloc _ _ _ (by simp; omega), Below.heap_alloc _ _ _ (by simp), heap_new]
theorem new1 (w : World) (o0 o1 o2 : Obj) : (((w.alloc o0).alloc o1).alloc o2).heap[w.heap.size + 1]? = some o1 := by
  have h := heap_new (w.alloc o0) o1
  rw [show (w.alloc o0).heap.size = w.heap.size + 1 by simp] at h
  rw [Below.heap_alloc _ _ _ (by simp), h]
theorem new2 (w : World) (o0 o1 o2 : Obj) : (((w.alloc o0).alloc o1).alloc o2).heap[w.heap.size + 1 + 1]? = some o2 := by
  have h := heap_new ((w.alloc o0).alloc o1) o2
  rw [show ((w.alloc o0).alloc o1).heap.size = w.heap.size + 1 + 1 by simp] at h
  exact h
/-- What the copy of a feed leaves. -/
def fin (w2 : World) (b : Nat) (f : Bool) (t : ByteArray) (V : Value) : World := (((w2.setCell ⟨b + 1 + 1, 2, none⟩ V).setCell ⟨b + 1, 0, none⟩ (.bool f)).setCell ⟨b + 1, 1, none⟩ (.string t)).setCell ⟨b + 1, 2, none⟩ V
theorem fin_block {w2 : World} {b : Nat} {T : TypeId} {u0 u1 u2 : Value} (h : w2.heap[b + 1]? = some (.cells #[u0, u1, u2] T (0, 0))) (f : Bool) (t : ByteArray) (V : Value) :
    (fin w2 b f t V).heap[b + 1]? = some (.cells #[.bool f, .string t, V] T (0, 0)) := by
  have M1 := (heap_setCell_other w2 ⟨b + 1 + 1, 2, none⟩ (b + 1) V (by simp)).trans h
  have M2 := heap_setCell_same _ (b + 1) 0 _ _ (.bool f) M1
  have M3 := heap_setCell_same _ (b + 1) 1 _ _ (.string t) M2
  exact heap_setCell_same _ (b + 1) 2 _ _ V M3
theorem fin_other (w2 : World) (b g : Nat) (f : Bool) (t : ByteArray) (V : Value) (h1 : g ≠ b + 1) (h2 : g ≠ b + 1 + 1) : (fin w2 b f t V).heap[g]? = w2.heap[g]? := by
  unfold fin
  rw [heap_setCell_other _ _ _ _ h1, heap_setCell_other _ _ _ _ h1, heap_setCell_other _ _ _ _ h1, heap_setCell_other _ _ _ _ h2]
theorem fin_below {w w2 : World} {b : Nat} (h : Below b w w2) (f : Bool) (t : ByteArray) (V : Value) : Below b w (fin w2 b f t V) := by
  unfold fin
  exact (((h.setCell (by simp; omega) _).setCell (by simp) _).setCell (by simp) _).setCell (by simp) _

set_option maxHeartbeats 1000000 in
set_option maxRecDepth 100000 in
theorem toFeed_any (f : Bool) (t : ByteArray) (v : Value) (es : List En) (w : World) (h : EntsAt w v es) (hn : es.length ≤ 1048576) :
    Calls Tryd.prog 6 #[FV f t v] w fun e w' => ∃ g, e = .returned (FV f t (.slice (some ⟨g, 0, none⟩) es.length es.length)) ∧ OwnE w' w.heap.size (.slice (some ⟨g, 0, none⟩) es.length es.length) es ∧ Below w.heap.size w w' := by
  unfold FV
  have hz := h
  obtain ⟨a, cap, hv, _⟩ := hz
  have hbw : Below w.heap.size w (w.alloc (.cells #[.bool f, .string t, v] 24)) := (Below.refl _ _).alloc (Nat.le_refl _) _
  have HB : Hid (EntsAt w v es) := h
  clear h
  subst hv
  go_enter Tryd.func6, Tryd.ntmps6
  go_wp2_with fail
  obtain ⟨W, hW⟩ : ∃ W, W = (((w.alloc (.cells #[.bool f, .string t, .slice a es.length cap] 24)).alloc (.cells #[.bool false, .string ⟨#[]⟩, .slice none 0 0] 30)).alloc (.cells #[.bool f, .string t, .slice none 0 0] 30)) := ⟨_, rfl⟩
  have b3 : Below w.heap.size w W := by rw [hW]; exact (hbw.alloc (by simp) _).alloc (by simp; omega) _
  have sz : W.heap.size = w.heap.size + 3 := by rw [hW]; simp
  have k1 : W.heap[w.heap.size + 1]? = some (.cells #[.bool false, .string ⟨#[]⟩, .slice none 0 0] 30 (0, 0)) := by rw [hW]; exact new1 _ _ _ _
  have k2 : W.heap[w.heap.size + 1 + 1]? = some (.cells #[.bool f, .string t, .slice none 0 0] 30 (0, 0)) := by rw [hW]; exact new2 _ _ _ _
  rw [← hW]
  have HA : Hid (EntsAt W (.slice a es.length cap) es) := ents_below HB.out b3
  clear HB hbw hW
  refine (toEntryS_any _ es _ HA.out hn).mono ?_
  rintro e w2 ⟨rfl, hv', hb2⟩
  have HV : Hid (OwnE w2 W.heap.size (.slice (some ⟨W.heap.size, 0, none⟩) es.length es.length) es) := hv'
  clear hv'
  have m1 := (hb2.block (w.heap.size + 1) (by omega)).trans k1
  have m2 := (hb2.block (w.heap.size + 1 + 1) (by omega)).trans k2
  have b4 := b3.trans (hb2.mono b3.size)
  have HW : Hid (w.heap.size ≤ W.heap.size) := b3.size
  clear k1 k2 HA hb2 b3
  have c10 : w2.cell? ⟨w.heap.size + 1, 0, none⟩ = some (.bool false) := by rw [cell_of_row w2 _ _ _ _ _ m1]; rfl
  have c11 : w2.cell? ⟨w.heap.size + 1, 0 + 1, none⟩ = some (.string ⟨#[]⟩) := by rw [cell_of_row w2 _ _ _ _ _ m1]; rfl
  have c12 : w2.cell? ⟨w.heap.size + 1, 0 + 2, none⟩ = some (.slice none 0 0) := by rw [cell_of_row w2 _ _ _ _ _ m1]; rfl
  have c20 : w2.cell? ⟨w.heap.size + 1 + 1, 0, none⟩ = some (.bool f) := by rw [cell_of_row w2 _ _ _ _ _ m2]; rfl
  have c21 : w2.cell? ⟨w.heap.size + 1 + 1, 0 + 1, none⟩ = some (.string t) := by rw [cell_of_row w2 _ _ _ _ _ m2]; rfl
  have c22 : w2.cell? ⟨w.heap.size + 1 + 1, 0 + 2, none⟩ = some (.slice none 0 0) := by rw [cell_of_row w2 _ _ _ _ _ m2]; rfl
  have f1 : ∀ j, w2.frozen? ⟨w.heap.size + 1, j, none⟩ = false := fun j => frozen_of_row w2 _ j _ _ m1
  have f2 : ∀ j, w2.frozen? ⟨w.heap.size + 1 + 1, j, none⟩ = false := fun j => frozen_of_row w2 _ j _ _ m2
  have HM1 : Hid (w2.heap[w.heap.size + 1]? = some (.cells #[.bool false, .string ⟨#[]⟩, .slice none 0 0] 30 (0, 0))) := m1
  have HSZ : Hid (W.heap.size = w.heap.size + 3) := sz
  clear m1 m2 sz
  go_wp2
  have M5 := fin_block HM1.out f t (.slice (some ⟨W.heap.size, 0, none⟩) es.length es.length)
  have b5 := fin_below b4 f t (.slice (some ⟨W.heap.size, 0, none⟩) es.length es.length)
  have hat := own_less (own_other HV.out (fin_other w2 w.heap.size W.heap.size f t (.slice (some ⟨W.heap.size, 0, none⟩) es.length es.length) (by rw [HSZ.out]; omega) (by rw [HSZ.out]; omega))) HW.out
  clear c10 c11 c12 c20 c21 c22 f1 f2 HV b4 HM1
  change bodyPost _ _ _ _ _ (fin w2 w.heap.size f t (.slice (some ⟨W.heap.size, 0, none⟩) es.length es.length))
  generalize fin w2 w.heap.size f t (.slice (some ⟨W.heap.size, 0, none⟩) es.length es.length) = X at M5 b5 hat ⊢
  have x0 : X.cell? ⟨w.heap.size + 1, 0, none⟩ = some (.bool f) := by rw [cell_of_row X _ _ _ _ _ M5]; rfl
  have x1 : X.cell? ⟨w.heap.size + 1, 1, none⟩ = some (.string t) := by rw [cell_of_row X _ _ _ _ _ M5]; rfl
  have x2 : X.cell? ⟨w.heap.size + 1, 2, none⟩ = some (.slice (some ⟨W.heap.size, 0, none⟩) es.length es.length) := by rw [cell_of_row X _ _ _ _ _ M5]; rfl
  exact bodyPost_ret (v := .agg #[.bool f, .string t, .slice (some ⟨W.heap.size, 0, none⟩) es.length es.length]) (by simp [results, Tryd.results6, go_sem, x0, x1, x2]) rfl ⟨_, rfl, hat, b5⟩

set_option maxHeartbeats 1000000 in
set_option maxRecDepth 100000 in
theorem eqFeed_any (f : Bool) (t : ByteArray) (v u : Value) (es : List En) (w : World) (h1 : EntsAt w v es) (h2 : EntsAt w u es) (hn : es.length ≤ 1048576) :
    Calls Tryd.prog 8 #[FV f t v, FV f t u] w fun e w' => e = .returned (.bool true) ∧ Below w.heap.size w w' := by
  unfold FV
  have hbw : Below w.heap.size w ((w.alloc (.cells #[.bool f, .string t, v] 30)).alloc (.cells #[.bool f, .string t, u] 30)) := ((Below.refl _ _).alloc (Nat.le_refl _) _).alloc (by simp) _
  have HA : Hid (EntsAt ((w.alloc (.cells #[.bool f, .string t, v] 30)).alloc (.cells #[.bool f, .string t, u] 30)) v es) := ents_below h1 hbw
  have HB : Hid (EntsAt ((w.alloc (.cells #[.bool f, .string t, v] 30)).alloc (.cells #[.bool f, .string t, u] 30)) u es) := ents_below h2 hbw
  obtain ⟨a, cap, rfl, _⟩ := h1
  obtain ⟨a', cap', rfl, _⟩ := h2
  have kk : ((f : Bool) != f) = false := by simp
  go_enter Tryd.func8, Tryd.ntmps8
  go_wp2_with fail
  refine (eqEntryS_any _ _ es _ HA.out HB.out hn).mono ?_
  rintro e w2 ⟨rfl, hb2⟩
  have b3 := hbw.trans (hb2.mono hbw.size)
  clear hbw hb2 HA HB
  go_wp2
  go_ret
  exact ⟨rfl, b3⟩
end Go.Proofs.YtbgoejalbhkmeaaDoor.en
