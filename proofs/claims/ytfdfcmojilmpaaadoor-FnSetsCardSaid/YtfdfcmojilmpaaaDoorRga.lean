/-
  Ranges as rows of pairs of numbers: the law's own measure, copy and comparison of them.
-/
import Derived.Test.YtfdfcmojilmpaaaDoorRows
import Derived.Test.YtfdfcmojilmpaaaDoorOwn
import Derived.Test.YtfdfcmojilmpaaaDoorGrw
import Derived.WalkKit
import Derived.WalkLawsBesides
import Derived.Below
import Derived.BigRegion
namespace Go.Proofs.YtfdfcmojilmpaaaDoor.rg
open Go.RowKit
set_option linter.unusedVariables false

abbrev Pr := Int × Int
def no : Pr := (0, 0)
/-- A number that an int can be. -/
def In (z : Int) : Prop := -9223372036854775808 ≤ z ∧ z ≤ 9223372036854775807
theorem in_of_wf {z : Int} (h : (Lit.int .i64 z).wf = true) : In z := by
  have h1 : IntKind.i64.min = -9223372036854775808 := rfl
  have h2 : IntKind.i64.max = 9223372036854775807 := rfl
  simp [Lit.wf, h1, h2] at h
  exact ⟨by omega, by omega⟩
def Ins (ps : List Pr) : Prop := ∀ j, j < ps.length → In (ps.getD j no).1 ∧ In (ps.getD j no).2
/-- A slice of ranges. -/
def RgAt (w : World) (v : Value) (ps : List Pr) : Prop :=
  ∃ a cap, v = .slice a ps.length cap ∧ (ps = [] ∨ ∃ b off, a = some ⟨b, off, none⟩ ∧ ∀ j, j < ps.length → w.cell? ⟨b, off + j * 2, none⟩ = some (.int .i64 (ps.getD j no).1) ∧ w.cell? ⟨b, off + j * 2 + 1, none⟩ = some (.int .i64 (ps.getD j no).2))
theorem at_below {w w' : World} {v : Value} {ps : List Pr} (h : RgAt w v ps) (hb : Below w.heap.size w w') : RgAt w' v ps := by
  obtain ⟨a, cap, rfl, h⟩ := h
  refine ⟨a, cap, rfl, ?_⟩
  rcases h with h | ⟨b, off, rfl, h⟩
  · exact .inl h
  · refine .inr ⟨b, off, rfl, fun j hj => ?_⟩
    obtain ⟨h0, h1⟩ := h j hj
    have hl := World.block_lt_of_cell? w _ h0
    exact ⟨(hb.cell (p := ⟨b, off + j * 2, none⟩) hl).trans h0, (hb.cell (p := ⟨b, off + j * 2 + 1, none⟩) hl).trans h1⟩
theorem at_nil (w : World) : RgAt w (.slice none 0 0) [] := ⟨none, 0, rfl, .inl rfl⟩
theorem new_below (w : World) (T : TypeId) (cs : Array Value) : Below w.heap.size w (w.alloc (.cells cs T)) := (Below.refl _ _).alloc (Nat.le_refl _) _

theorem infoAt : (Tryd.prog.info? 34).map (fun i => (i.zero, i.size, i.bytes)) = some (some (.agg #[.int .i64 0, .int .i64 0]), 2, 16) := by kernel_rfl

def Lay (ps : List Pr) (k : Nat) (xs : List Value) : Prop := ∀ j, j < k → xs[j * 2]? = some (.int .i64 (ps.getD j no).1) ∧ xs[j * 2 + 1]? = some (.int .i64 (ps.getD j no).2)
theorem lay_step {ps : List Pr} {k : Nat} {xs : List Value} (h : Lay ps k xs) (hl : k * 2 + 1 < xs.length) {a b : Int} (ha : (ps.getD k no).1 = a) (hb : (ps.getD k no).2 = b) : Lay ps (k + 1) ((xs.set (k * 2) (.int .i64 a)).set (k * 2 + 1) (.int .i64 b)) := by
  intro j hj
  by_cases e : j = k
  · subst e
    rw [ha, hb]
    refine ⟨?_, ?_⟩
    · rw [List.getElem?_set_ne (by omega), List.getElem?_set_self (by omega)]
    · rw [List.getElem?_set_self (by rw [List.length_set]; omega)]
  · obtain ⟨h0, h1⟩ := h j (by omega)
    refine ⟨?_, ?_⟩
    · rw [List.getElem?_set_ne (by omega), List.getElem?_set_ne (by omega)]; exact h0
    · rw [List.getElem?_set_ne (by omega), List.getElem?_set_ne (by omega)]; exact h1
theorem rg_lay {w : World} {base e g n cap : Nat} {ps : List Pr} {xs : List Value} (hn : n = ps.length) (h : w.ownsRow base e 2 (.slice (some ⟨g, 0, none⟩) n cap) n xs) (hl : Lay ps n xs) : RgAt w (.slice (some ⟨g, 0, none⟩) n cap) ps := by
  subst hn
  refine ⟨_, cap, rfl, .inr ⟨g, 0, rfl, fun j hj => ?_⟩⟩
  obtain ⟨h0, h1⟩ := hl j hj
  refine ⟨?_, ?_⟩
  · rw [Nat.zero_add, h.cellAt (j * 2) (by omega), h0]
  · rw [Nat.zero_add, h.cellAt (j * 2 + 1) (by omega), h1]

open gr
set_option maxHeartbeats 1000000 in
set_option maxRecDepth 100000 in
theorem eqRange_any (n v : Int) (w : World) : Calls Tryd.prog 86 #[.agg #[.int .i64 n, .int .i64 v], .agg #[.int .i64 n, .int .i64 v]] w fun e w' => e = .returned (.bool true) ∧ Below w.heap.size w w' := by
  go_enter Tryd.func86, Tryd.ntmps86
  go_wp2
  go_ret
  exact ⟨rfl, ((Below.refl _ w).alloc (Nat.le_refl _) _).alloc (by simp) _⟩

set_option maxHeartbeats 1000000 in
set_option maxRecDepth 100000 in
theorem eqRangeS_any (v u : Value) (ps : List Pr) (w : World) (h1 : RgAt w v ps) (h2 : RgAt w u ps) (hn : ps.length ≤ 1048576) :
    Calls Tryd.prog 69 #[v, u] w fun e w' => e = .returned (.bool true) ∧ Below w.heap.size w w' := by
  obtain ⟨a, cap, rfl, h1⟩ := h1
  obtain ⟨c, cap2, rfl, h2⟩ := h2
  obtain ⟨n, hn'⟩ : ∃ n, n = ps.length := ⟨_, rfl⟩
  have HN : Hid (n = ps.length) := hn'
  have H1 : Hid (ps = [] ∨ ∃ b off, a = some ⟨b, off, none⟩ ∧ ∀ j, j < ps.length → w.cell? ⟨b, off + j * 2, none⟩ = some (.int .i64 (ps.getD j no).1) ∧ w.cell? ⟨b, off + j * 2 + 1, none⟩ = some (.int .i64 (ps.getD j no).2)) := h1
  have H2 : Hid (ps = [] ∨ ∃ b off, c = some ⟨b, off, none⟩ ∧ ∀ j, j < ps.length → w.cell? ⟨b, off + j * 2, none⟩ = some (.int .i64 (ps.getD j no).1) ∧ w.cell? ⟨b, off + j * 2 + 1, none⟩ = some (.int .i64 (ps.getD j no).2)) := h2
  rw [← hn'] at hn ⊢
  clear h1 h2 hn'
  have hnn : ((n : Int) != (n : Int)) = false := by simp
  go_enter Tryd.func69, Tryd.ntmps69
  go_wp2
  go_loopw [5] (fun i wr => ∃ k : Nat, k ≤ n ∧ i = .int .i64 k ∧ Below w.heap.size w wr) (fun i _ => n - (intOf i).toNat)
  case atStart => exact ⟨0, Nat.zero_le _, rfl, Below.refl _ _⟩
  case round =>
    obtain ⟨k, hk, rfl, hbw⟩ := hrel
    by_cases hlt : k < n
    · have hka : k < ps.length := by rw [← HN.out]; exact hlt
      rcases H1.out with e | ⟨b, off, rfl, hcells⟩
      · rw [e] at hka; simp at hka
      rcases H2.out with e | ⟨b2, off2, rfl, hcells2⟩
      · rw [e] at hka; simp at hka
      obtain ⟨v0, v1⟩ := hcells k hka
      obtain ⟨u0, u1⟩ := hcells2 k hka
      have hblt : b < w.heap.size := World.block_lt_of_cell? w _ v0
      have hblt2 : b2 < w.heap.size := World.block_lt_of_cell? w _ u0
      have c0 := (hbw.cell (p := ⟨b, off + k * 2, none⟩) hblt).trans v0
      have c1 := (hbw.cell (p := ⟨b, off + k * 2 + 1, none⟩) hblt).trans v1
      have d0 := (hbw.cell (p := ⟨b2, off2 + k * 2, none⟩) hblt2).trans u0
      have d1 := (hbw.cell (p := ⟨b2, off2 + k * 2 + 1, none⟩) hblt2).trans u1
      clear hcells v0 v1 hka hcells2 u0 u1
      generalize (ps.getD k no).1 = nm at c0 d0
      generalize (ps.getD k no).2 = vl at c1 d1
      have hlt' : (k : Int) < (n : Int) := by omega
      have hk0 : (0 : Int) ≤ (k : Int) := by omega
      go_wp2_with fail
      have ne := ext_some wr
      have c0 := fun x : Ext wr => gw_cell x c0
      have c1 := fun x : Ext wr => gw_cell x c1
      have d0 := fun x : Ext wr => gw_cell x d0
      have d1 := fun x : Ext wr => gw_cell x d1
      refine region_lit (by kernel_rfl) (by kernel_rfl) ?_
      repeat (go_big_quiet_step ((go_at_call 86; exact grow_of (eqRange_any _ _ _))))
      refine wpQuiet_nil ?_
      rintro W' ⟨x, rfl⟩
      have b3 := hbw.trans ((gw_below x).mono hbw.size)
      generalize gw x = W' at b3 ⊢
      clear c0 c1 d0 d1 hbw
      go_wp2
      go_roundw
      case rel => exact ⟨k + 1, by omega, by go_num, b3⟩
      case measure => simp [intOf]; omega
    · go_wp2
      go_ret
      exact ⟨rfl, hbw⟩
end Go.Proofs.YtfdfcmojilmpaaaDoor.rg
