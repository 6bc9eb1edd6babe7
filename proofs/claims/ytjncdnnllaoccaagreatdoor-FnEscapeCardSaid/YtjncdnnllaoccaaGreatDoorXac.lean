/-
  The laws' own comparison of attributes, and of a token, that are the same; the measure and the copy of a token.
-/
import Derived.Test.YtjncdnnllaoccaaGreatDoorXab
import Derived.Test.YtjncdnnllaoccaaGreatDoorGrw
namespace Go.Proofs.YtjncdnnllaoccaaGreatDoor.xa
open Go.RowKit
open gr
set_option linter.unusedVariables false

set_option maxHeartbeats 1000000 in
set_option maxRecDepth 100000 in
theorem eqAttr_any (n v : ByteArray) (w : World) : Calls Tryz.prog 97 #[.agg #[.string n, .string v], .agg #[.string n, .string v]] w fun e w' => e = .returned (.bool true) ∧ Below w.heap.size w w' := by
  go_enter Tryz.func97, Tryz.ntmps97
  go_wp2
  go_ret
  exact ⟨rfl, ((Below.refl _ w).alloc (Nat.le_refl _) _).alloc (by simp) _⟩

set_option maxHeartbeats 1000000 in
set_option maxRecDepth 100000 in
theorem eqAttrS_any (v u : Value) (ps : List Pr) (w : World) (h1 : AttrsAt w v ps) (h2 : AttrsAt w u ps) (hn : ps.length ≤ 1048576) :
    Calls Tryz.prog 66 #[v, u] w fun e w' => e = .returned (.bool true) ∧ Below w.heap.size w w' := by
  obtain ⟨a, cap, rfl, h1⟩ := h1
  obtain ⟨c, cap2, rfl, h2⟩ := h2
  obtain ⟨n, hn'⟩ : ∃ n, n = ps.length := ⟨_, rfl⟩
  have HN : Hid (n = ps.length) := hn'
  have H1 : Hid (ps = [] ∨ ∃ b off, a = some ⟨b, off, none⟩ ∧ ∀ j, j < ps.length → w.cell? ⟨b, off + j * 2, none⟩ = some (.string (ps.getD j no).1) ∧ w.cell? ⟨b, off + j * 2 + 1, none⟩ = some (.string (ps.getD j no).2)) := h1
  have H2 : Hid (ps = [] ∨ ∃ b off, c = some ⟨b, off, none⟩ ∧ ∀ j, j < ps.length → w.cell? ⟨b, off + j * 2, none⟩ = some (.string (ps.getD j no).1) ∧ w.cell? ⟨b, off + j * 2 + 1, none⟩ = some (.string (ps.getD j no).2)) := h2
  rw [← hn'] at hn ⊢
  clear h1 h2 hn'
  have hnn : ((n : Int) != (n : Int)) = false := by simp
  go_enter Tryz.func66, Tryz.ntmps66
  go_wp2
  go_loopw [5] (fun i wr => ∃ k : Nat, k ≤ n ∧ i = .int .i64 k ∧ Below w.heap.size w wr) (fun i _ => n - (intOf i).toNat)
  case atStart => exact ⟨0, Nat.zero_le _, rfl, Below.refl _ _⟩
  case round =>
    obtain ⟨k, hk, rfl, hbw⟩ := hrel
    by_cases hlt : k < n
    · have hka : k < ps.length := by rw [← HN.out]; exact hlt
      rcases H1.out with e | ⟨b, off, rfl, hcells⟩
      · rw [e] at hka; simp at hka
      rcases H2.out with e | ⟨b2, off2, rfl, hcells2⟩
      · rw [e] at hka; simp at hka
      obtain ⟨v0, v1⟩ := hcells k hka
      obtain ⟨u0, u1⟩ := hcells2 k hka
      have hblt : b < w.heap.size := World.block_lt_of_cell? w _ v0
      have hblt2 : b2 < w.heap.size := World.block_lt_of_cell? w _ u0
      have c0 := (hbw.cell (p := ⟨b, off + k * 2, none⟩) hblt).trans v0
      have c1 := (hbw.cell (p := ⟨b, off + k * 2 + 1, none⟩) hblt).trans v1
      have d0 := (hbw.cell (p := ⟨b2, off2 + k * 2, none⟩) hblt2).trans u0
      have d1 := (hbw.cell (p := ⟨b2, off2 + k * 2 + 1, none⟩) hblt2).trans u1
      clear hcells v0 v1 hka hcells2 u0 u1
      generalize (ps.getD k no).1 = nm at c0 d0
      generalize (ps.getD k no).2 = vl at c1 d1
      have hlt' : (k : Int) < (n : Int) := by omega
      have hk0 : (0 : Int) ≤ (k : Int) := by omega
      go_wp2_with fail
      have ne := ext_some wr
      have c0 := fun x : Ext wr => gw_cell x c0
      have c1 := fun x : Ext wr => gw_cell x c1
      have d0 := fun x : Ext wr => gw_cell x d0
      have d1 := fun x : Ext wr => gw_cell x d1
      refine region_lit (by kernel_rfl) (by kernel_rfl) ?_
      repeat (go_big_quiet_step ((go_at_call 97; exact grow_of (eqAttr_any _ _ _))))
      refine wpQuiet_nil ?_
      rintro W' ⟨x, rfl⟩
      have b3 := hbw.trans ((gw_below x).mono hbw.size)
      generalize gw x = W' at b3 ⊢
      clear c0 c1 d0 d1 hbw
      go_wp2
      go_roundw
      case rel => exact ⟨k + 1, by omega, by go_num, b3⟩
      case measure => simp [intOf]; omega
    · go_wp2
      go_ret
      exact ⟨rfl, hbw⟩

theorem heap_new (w : World) (o : Obj) : (w.alloc o).heap[w.heap.size]? = some o := (MapKept.heap_alloc w _).1
theorem new0 (w : World) (o0 o1 o2 : Obj) : (((w.alloc o0).alloc o1).alloc o2).heap[w.heap.size]? = some o0 := by
  rw [Below.heap_alloc _ _ _ (by simp; omega), Below.heap_alloc _ _ _ (by simp), heap_new]
theorem new1 (w : World) (o0 o1 o2 : Obj) : (((w.alloc o0).alloc o1).alloc o2).heap[w.heap.size + 1]? = some o1 := by
  have h := heap_new (w.alloc o0) o1
  rw [show (w.alloc o0).heap.size = w.heap.size + 1 by simp] at h
  rw [Below.heap_alloc _ _ _ (by simp), h]
theorem new2 (w : World) (o0 o1 o2 : Obj) : (((w.alloc o0).alloc o1).alloc o2).heap[w.heap.size + 1 + 1]? = some o2 := by
  have h := heap_new ((w.alloc o0).alloc o1) o2
  rw [show ((w.alloc o0).alloc o1).heap.size = w.heap.size + 1 + 1 by simp] at h
  exact h
theorem at_other {w w' : World} {g n cap : Nat} {ps : List Pr} (h : AttrsAt w (.slice (some ⟨g, 0, none⟩) n cap) ps) (hb : w'.heap[g]? = w.heap[g]?) : AttrsAt w' (.slice (some ⟨g, 0, none⟩) n cap) ps := by
  obtain ⟨a, c, hv, h⟩ := h
  cases hv
  refine ⟨_, _, rfl, ?_⟩
  rcases h with h | ⟨b, off, hv, h⟩
  · exact .inl h
  · cases hv
    refine .inr ⟨_, _, rfl, fun j hj => ?_⟩
    obtain ⟨h0, h1⟩ := h j hj
    exact ⟨(World.cell?_of_block (w := w) (a := ⟨g, 0 + j * 2, none⟩) hb).trans h0, (World.cell?_of_block (w := w) (a := ⟨g, 0 + j * 2 + 1, none⟩) hb).trans h1⟩

/-- What the copy of a token leaves. -/
def fin (w2 : World) (b : Nat) (k : Int) (n t : ByteArray) (V : Value) : World := (((((w2.setCell ⟨b + 1 + 1, 2, none⟩ V).setCell ⟨b + 1 + 1, 3, none⟩ (.string t)).setCell ⟨b + 1, 0, none⟩ (.int .i64 k)).setCell ⟨b + 1, 1, none⟩ (.string n)).setCell ⟨b + 1, 2, none⟩ V).setCell ⟨b + 1, 3, none⟩ (.string t)
theorem fin_block {w2 : World} {b : Nat} {T : TypeId} {u0 u1 u2 u3 : Value} (h : w2.heap[b + 1]? = some (.cells #[u0, u1, u2, u3] T (0, 0))) (k : Int) (n t : ByteArray) (V : Value) :
    (fin w2 b k n t V).heap[b + 1]? = some (.cells #[.int .i64 k, .string n, V, .string t] T (0, 0)) := by
  have M0 := (heap_setCell_other w2 ⟨b + 1 + 1, 2, none⟩ (b + 1) V (by simp)).trans h
  have M1 := (heap_setCell_other _ ⟨b + 1 + 1, 3, none⟩ (b + 1) (.string t) (by simp)).trans M0
  have M2 := heap_setCell_same _ (b + 1) 0 _ _ (.int .i64 k) M1
  have M3 := heap_setCell_same _ (b + 1) 1 _ _ (.string n) M2
  have M4 := heap_setCell_same _ (b + 1) 2 _ _ V M3
  exact heap_setCell_same _ (b + 1) 3 _ _ (.string t) M4
theorem fin_other (w2 : World) (b g : Nat) (k : Int) (n t : ByteArray) (V : Value) (h1 : g ≠ b + 1) (h2 : g ≠ b + 1 + 1) : (fin w2 b k n t V).heap[g]? = w2.heap[g]? := by
  unfold fin
  rw [heap_setCell_other _ _ _ _ h1, heap_setCell_other _ _ _ _ h1, heap_setCell_other _ _ _ _ h1, heap_setCell_other _ _ _ _ h1, heap_setCell_other _ _ _ _ h2, heap_setCell_other _ _ _ _ h2]
theorem fin_below {w w2 : World} {b : Nat} (h : Below b w w2) (k : Int) (n t : ByteArray) (V : Value) : Below b w (fin w2 b k n t V) := by
  unfold fin
  exact (((((h.setCell (by simp; omega) _).setCell (by simp; omega) _).setCell (by simp) _).setCell (by simp) _).setCell (by simp) _).setCell (by simp) _

/-- A token as the program has it. -/
def TV (k : Int) (n : ByteArray) (a : Value) (t : ByteArray) : Value := .agg #[.int .i64 k, .string n, a, .string t]

set_option maxHeartbeats 1000000 in
set_option maxRecDepth 100000 in
theorem szToken_any (k : Int) (n t : ByteArray) (v : Value) (ps : List Pr) (left : Int) (w : World) (h : AttrsAt w v ps) (h0 : 0 ≤ left) (h1 : left ≤ 1048576) (hn : n.size ≤ maxLen) (ht : t.size ≤ maxLen)
    (hl : ps.length ≤ maxLen) (hs : ∀ j, j < ps.length → (ps.getD j no).1.size ≤ maxLen ∧ (ps.getD j no).2.size ≤ maxLen) :
    Calls Tryz.prog 32 #[TV k n v t, .int .i64 left] w fun e w' => (∃ z : Int, e = .returned (.int .i64 z) ∧ z ≤ left ∧ -1 ≤ z ∧ (0 ≤ z → Small ps ∧ n.size ≤ 1048576 ∧ t.size ≤ 1048576)) ∧ Below w.heap.size w w' := by
  unfold TV
  have hn' : n.size ≤ 9223372036854775807 := hn
  have ht' : t.size ≤ 9223372036854775807 := ht
  have hbw : Below w.heap.size w (w.alloc (.cells #[.int .i64 k, .string n, v, .string t] 63)) := (Below.refl _ _).alloc (Nat.le_refl _) _
  have hz := h
  obtain ⟨a, cap, hv, _⟩ := hz
  by_cases g0 : left - (n.size : Int) < 0
  · subst hv
    go_enter Tryz.func32, Tryz.ntmps32
    go_wp2
    go_ret
    exact ⟨⟨-1, rfl, by omega, by omega, by omega⟩, hbw⟩
  have h2 := at_below h hbw
  have HS : Hid (∀ j, j < ps.length → (ps.getD j no).1.size ≤ maxLen ∧ (ps.getD j no).2.size ≤ maxLen) := hs
  have H2 : Hid (AttrsAt (w.alloc (.cells #[.int .i64 k, .string n, v, .string t] 63)) v ps) := h2
  clear h h2 hs
  subst hv
  go_enter Tryz.func32, Tryz.ntmps32
  go_wp2_with fail
  refine (szAttrS_any _ ps _ _ H2.out (by omega) (by omega) hl HS.out).mono ?_
  rintro e w2 ⟨⟨z, rfl, hz0, hz1, hz2⟩, hb2⟩
  have HZ : Hid (0 ≤ z → Small ps) := hz2
  clear hz2 H2 HS
  have c3 : w2.cell? ⟨w.heap.size, 0 + 3, none⟩ = some (.string t) := (hb2.cell (p := ⟨w.heap.size, 0 + 3, none⟩) (by simp)).trans (ow.cell_new w [.int .i64 k, .string n, .slice a ps.length cap, .string t] 63 3 _ rfl)
  have hb3 := hbw.trans (hb2.mono hbw.size)
  clear hbw hb2
  by_cases hz : z < 0
  · go_wp2
    go_ret
    exact ⟨⟨-1, rfl, by omega, by omega, by omega⟩, hb3⟩
  by_cases g1 : z - (t.size : Int) < 0
  · go_wp2
    go_ret
    exact ⟨⟨-1, rfl, by omega, by omega, by omega⟩, hb3⟩
  · go_wp2
    go_ret
    exact ⟨⟨_, rfl, by omega, by omega, fun _ => ⟨HZ.out (by omega), by omega, by omega⟩⟩, hb3⟩

set_option maxHeartbeats 1000000 in
set_option maxRecDepth 100000 in
theorem toToken_any (k : Int) (n t : ByteArray) (v : Value) (ps : List Pr) (w : World) (h : AttrsAt w v ps) (hn : ps.length ≤ 1048576) :
    Calls Tryz.prog 36 #[TV k n v t] w fun e w' => ∃ v', e = .returned (TV k n v' t) ∧ AttrsAt w' v' ps ∧ Below w.heap.size w w' := by
  unfold TV
  have hz := h
  obtain ⟨a, cap, hv, _⟩ := hz
  have hbw : Below w.heap.size w (w.alloc (.cells #[.int .i64 k, .string n, v, .string t] 63)) := (Below.refl _ _).alloc (Nat.le_refl _) _
  have HB : Hid (AttrsAt w v ps) := h
  clear h
  subst hv
  go_enter Tryz.func36, Tryz.ntmps36
  go_wp2_with fail
  obtain ⟨W, hW⟩ : ∃ W, W = (((w.alloc (.cells #[.int .i64 k, .string n, .slice a ps.length cap, .string t] 63)).alloc (.cells #[.int .i64 0, .string ⟨#[]⟩, .slice none 0 0, .string ⟨#[]⟩] 34)).alloc (.cells #[.int .i64 k, .string n, .slice none 0 0, .string ⟨#[]⟩] 34)) := ⟨_, rfl⟩
  have b3 : Below w.heap.size w W := by rw [hW]; exact (hbw.alloc (by simp) _).alloc (by simp; omega) _
  have sz : W.heap.size = w.heap.size + 3 := by rw [hW]; simp
  have k0 : W.heap[w.heap.size]? = some (.cells #[.int .i64 k, .string n, .slice a ps.length cap, .string t] 63 (0, 0)) := by rw [hW]; exact new0 _ _ _ _
  have k1 : W.heap[w.heap.size + 1]? = some (.cells #[.int .i64 0, .string ⟨#[]⟩, .slice none 0 0, .string ⟨#[]⟩] 34 (0, 0)) := by rw [hW]; exact new1 _ _ _ _
  have k2 : W.heap[w.heap.size + 1 + 1]? = some (.cells #[.int .i64 k, .string n, .slice none 0 0, .string ⟨#[]⟩] 34 (0, 0)) := by rw [hW]; exact new2 _ _ _ _
  rw [← hW]
  have HA : Hid (AttrsAt W (.slice a ps.length cap) ps) := at_below HB.out b3
  clear HB hbw hW
  refine (toAttrS_any _ ps _ HA.out hn).mono ?_
  rintro e w2 ⟨rfl, hv', hb2⟩
  have HV : Hid (AttrsAt w2 (.slice (some ⟨W.heap.size, 0, none⟩) ps.length ps.length) ps) := hv'
  clear hv'
  have m0 := (hb2.block w.heap.size (by omega)).trans k0
  have m1 := (hb2.block (w.heap.size + 1) (by omega)).trans k1
  have m2 := (hb2.block (w.heap.size + 1 + 1) (by omega)).trans k2
  have b4 := b3.trans (hb2.mono b3.size)
  clear k0 k1 k2 HA hb2 b3
  have c03 : w2.cell? ⟨w.heap.size, 0 + 3, none⟩ = some (.string t) := by rw [cell_of_row w2 _ _ _ _ _ m0]; rfl
  have c10 : w2.cell? ⟨w.heap.size + 1, 0, none⟩ = some (.int .i64 0) := by rw [cell_of_row w2 _ _ _ _ _ m1]; rfl
  have c11 : w2.cell? ⟨w.heap.size + 1, 0 + 1, none⟩ = some (.string ⟨#[]⟩) := by rw [cell_of_row w2 _ _ _ _ _ m1]; rfl
  have c12 : w2.cell? ⟨w.heap.size + 1, 0 + 2, none⟩ = some (.slice none 0 0) := by rw [cell_of_row w2 _ _ _ _ _ m1]; rfl
  have c13 : w2.cell? ⟨w.heap.size + 1, 0 + 3, none⟩ = some (.string ⟨#[]⟩) := by rw [cell_of_row w2 _ _ _ _ _ m1]; rfl
  have c20 : w2.cell? ⟨w.heap.size + 1 + 1, 0, none⟩ = some (.int .i64 k) := by rw [cell_of_row w2 _ _ _ _ _ m2]; rfl
  have c21 : w2.cell? ⟨w.heap.size + 1 + 1, 0 + 1, none⟩ = some (.string n) := by rw [cell_of_row w2 _ _ _ _ _ m2]; rfl
  have c22 : w2.cell? ⟨w.heap.size + 1 + 1, 0 + 2, none⟩ = some (.slice none 0 0) := by rw [cell_of_row w2 _ _ _ _ _ m2]; rfl
  have c23 : w2.cell? ⟨w.heap.size + 1 + 1, 0 + 3, none⟩ = some (.string ⟨#[]⟩) := by rw [cell_of_row w2 _ _ _ _ _ m2]; rfl
  have f1 : ∀ j, w2.frozen? ⟨w.heap.size + 1, j, none⟩ = false := fun j => frozen_of_row w2 _ j _ _ m1
  have f2 : ∀ j, w2.frozen? ⟨w.heap.size + 1 + 1, j, none⟩ = false := fun j => frozen_of_row w2 _ j _ _ m2
  have HM1 : Hid (w2.heap[w.heap.size + 1]? = some (.cells #[.int .i64 0, .string ⟨#[]⟩, .slice none 0 0, .string ⟨#[]⟩] 34 (0, 0))) := m1
  have HSZ : Hid (W.heap.size = w.heap.size + 3) := sz
  clear m0 m1 m2 sz
  go_wp2
  have M5 := fin_block HM1.out k n t (.slice (some ⟨W.heap.size, 0, none⟩) ps.length ps.length)
  have b5 := fin_below b4 k n t (.slice (some ⟨W.heap.size, 0, none⟩) ps.length ps.length)
  have hat := at_other HV.out (fin_other w2 w.heap.size W.heap.size k n t (.slice (some ⟨W.heap.size, 0, none⟩) ps.length ps.length) (by rw [HSZ.out]; omega) (by rw [HSZ.out]; omega))
  clear c10 c11 c12 c13 c20 c21 c22 c23 c03 f1 f2 HV b4 HM1
  change bodyPost _ _ _ _ _ (fin w2 w.heap.size k n t (.slice (some ⟨W.heap.size, 0, none⟩) ps.length ps.length))
  generalize fin w2 w.heap.size k n t (.slice (some ⟨W.heap.size, 0, none⟩) ps.length ps.length) = X at M5 b5 hat ⊢
  have x0 : X.cell? ⟨w.heap.size + 1, 0, none⟩ = some (.int .i64 k) := by rw [cell_of_row X _ _ _ _ _ M5]; rfl
  have x1 : X.cell? ⟨w.heap.size + 1, 1, none⟩ = some (.string n) := by rw [cell_of_row X _ _ _ _ _ M5]; rfl
  have x2 : X.cell? ⟨w.heap.size + 1, 2, none⟩ = some (.slice (some ⟨W.heap.size, 0, none⟩) ps.length ps.length) := by rw [cell_of_row X _ _ _ _ _ M5]; rfl
  have x3 : X.cell? ⟨w.heap.size + 1, 3, none⟩ = some (.string t) := by rw [cell_of_row X _ _ _ _ _ M5]; rfl
  exact bodyPost_ret (v := .agg #[.int .i64 k, .string n, .slice (some ⟨W.heap.size, 0, none⟩) ps.length ps.length, .string t]) (by simp [results, Tryz.results36, go_sem, x0, x1, x2, x3]) rfl ⟨_, rfl, hat, b5⟩
end Go.Proofs.YtjncdnnllaoccaaGreatDoor.xa
