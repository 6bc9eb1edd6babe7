/-
  The program's own way to ask whether a set has a number, and both SetHas functions.
-/
import Derived.Test.YtofpnabfecimhaaDoorRgd
namespace Go.Proofs.YtofpnabfecimhaaDoor.rg
open Go.RowKit
open gr
set_option linter.unusedVariables false

theorem heap_new (w : World) (o : Obj) : (w.alloc o).heap[w.heap.size]? = some o := (MapKept.heap_alloc w _).1
theorem endAt_any (a top : Int) (w : World) : Calls Tryd.prog 48 #[.int .i64 a, .int .i64 top] w fun e w' => e = .returned (.int .i64 (end1 a top)) ∧ w' = w := by
  by_cases h : a = 0
  · subst h
    go_enter Tryd.func48, Tryd.ntmps48
    go_wp2
    go_ret
    exact ⟨rfl, rfl⟩
  · have hb : (a == 0) = false := by simpa using h
    have HE : Hid (end1 a top = a) := if_neg h
    clear h
    go_enter Tryd.func48, Tryd.ntmps48
    go_wp2
    go_ret
    exact ⟨by rw [HE.out]; rfl, rfl⟩

set_option maxHeartbeats 1000000 in
set_option maxRecDepth 100000 in
theorem hit_any (r : Pr) (n top : Int) (g g' : Nat) (w : World) (hg : w.cell? ⟨g, 0, none⟩ = some (.int .i64 n)) (hg' : w.cell? ⟨g', 0, none⟩ = some (.int .i64 top)) :
    Calls Tryd.prog 47 #[.agg #[.int .i64 r.1, .int .i64 r.2], .pointer (some ⟨g', 0, none⟩), .pointer (some ⟨g, 0, none⟩)] w fun e w' => ow.Says (Hit r n top) e ∧ Below w.heap.size w w' := by
  obtain ⟨x0, x1⟩ := r
  simp only
  have hb := new_below w 38 #[.int .i64 x0, .int .i64 x1]
  have k1 := (hb.cell (p := ⟨g, 0, none⟩) (World.block_lt_of_cell? w _ hg)).trans hg
  have k2 := (hb.cell (p := ⟨g', 0, none⟩) (World.block_lt_of_cell? w _ hg')).trans hg'
  have k3 : (w.alloc (.cells #[.int .i64 x0, .int .i64 x1] 38)).cell? ⟨w.heap.size, 0, none⟩ = some (.int .i64 x0) := by
    rw [cell_of_row _ _ _ _ _ _ (heap_new w _)]; rfl
  have k4 : (w.alloc (.cells #[.int .i64 x0, .int .i64 x1] 38)).cell? ⟨w.heap.size, 0 + 1, none⟩ = some (.int .i64 x1) := by
    rw [cell_of_row _ _ _ _ _ _ (heap_new w _)]; rfl
  have HE : Hid (∀ a b : Int, end1 x0 top = a → end1 x1 top = b → ∀ B : Bool, (B = true ↔ (min a b ≤ n ∧ n ≤ max a b)) → (B = true ↔ Hit (x0, x1) n top)) := by
    intro a b ea eb B hB
    unfold Hit
    rw [ea, eb]
    exact hB
  clear hg hg'
  go_enter Tryd.func47, Tryd.ntmps47
  go_wp2_with fail
  generalize w.alloc _ = w0 at hb k1 k2 k3 k4 ⊢
  have HA : Hid (∀ a w, Calls Tryd.prog 48 #[.int .i64 a, .int .i64 top] w fun e w' => e = .returned (.int .i64 (end1 a top)) ∧ w' = w) := fun a w => endAt_any a top w
  go_quiet ((go_at_call 48; exact Calls.quiet_of_same (HA.out _ _)))
  generalize ha : end1 x0 top = a
  generalize hbb : end1 x1 top = b
  have HB : Hid (∀ B : Bool, (B = true ↔ (min a b ≤ n ∧ n ≤ max a b)) → (B = true ↔ Hit (x0, x1) n top)) := HE.out a b ha hbb
  have HQ : Hid (∀ q, Below w.heap.size w (w0.drewN q)) := fun q => below_drewN hb q
  clear ha hbb HE
  go_wp2
  all_goals (go_ret; exact ⟨⟨_, rfl, HB.out _ (by simp; try omega)⟩, HQ.out _⟩)

/-- The first range that has the number. -/
def Fst (ps : List Pr) (n top r : Int) : Prop := (∃ k : Nat, r = k ∧ k < ps.length ∧ Hit (ps.getD k no) n top) ∨ (r = -1 ∧ NoneTo ps n top ps.length)

set_option maxHeartbeats 2000000 in
set_option maxRecDepth 100000 in
theorem index_any (v : Value) (ps : List Pr) (n top : Int) (g g' : Nat) (w : World) (h : RgAt w v ps) (hg : w.cell? ⟨g, 0, none⟩ = some (.int .i64 n)) (hg' : w.cell? ⟨g', 0, none⟩ = some (.int .i64 top)) (hl : ps.length ≤ 1048576) :
    Calls Tryd.prog 62 #[v, .func (Fn.func 47) #[] #[.pointer (some ⟨g', 0, none⟩), .pointer (some ⟨g, 0, none⟩)]] w fun e w' => (∃ r : Int, e = .returned (.int .i64 r) ∧ Fst ps n top r) ∧ Below w.heap.size w w' := by
  obtain ⟨a, cap, rfl, h⟩ := h
  obtain ⟨m, hm⟩ : ∃ m, m = ps.length := ⟨_, rfl⟩
  have HM : Hid (m = ps.length) := hm
  have HH : Hid (ps = [] ∨ ∃ b off, a = some ⟨b, off, none⟩ ∧ ∀ j, j < ps.length → w.cell? ⟨b, off + j * 2, none⟩ = some (.int .i64 (ps.getD j no).1) ∧ w.cell? ⟨b, off + j * 2 + 1, none⟩ = some (.int .i64 (ps.getD j no).2)) := h
  have HG : Hid (w.cell? ⟨g, 0, none⟩ = some (.int .i64 n) ∧ w.cell? ⟨g', 0, none⟩ = some (.int .i64 top)) := ⟨hg, hg'⟩
  have hgl : g < w.heap.size := World.block_lt_of_cell? w _ hg
  have hgl' : g' < w.heap.size := World.block_lt_of_cell? w _ hg'
  rw [← hm] at hl ⊢
  clear h hm hg hg'
  go_enter Tryd.func62, Tryd.ntmps62
  go_wp2
  go_loopw [8] (fun i wr => ∃ k : Nat, k ≤ m ∧ i = .int .i64 k ∧ NoneTo ps n top k ∧ Below w.heap.size w wr) (fun i _ => m - (intOf i).toNat)
  case atStart => exact ⟨0, Nat.zero_le _, rfl, fun j hj => absurd hj (Nat.not_lt_zero _), Below.refl _ _⟩
  case round =>
    obtain ⟨k, hk, rfl, hno, hbw⟩ := hrel
    have HNO : Hid (NoneTo ps n top k) := hno
    clear hno
    by_cases hlt : k < m
    · have hka : k < ps.length := by rw [← HM.out]; exact hlt
      have HKA : Hid (k < ps.length) := hka
      rcases HH.out with e | ⟨b, off, rfl, hcells⟩
      · rw [e] at hka; simp at hka
      obtain ⟨v0, v1⟩ := hcells k hka
      have hblt : b < w.heap.size := World.block_lt_of_cell? w _ v0
      have c0 := (hbw.cell (p := ⟨b, off + k * 2, none⟩) hblt).trans v0
      have c1 := (hbw.cell (p := ⟨b, off + k * 2 + 1, none⟩) hblt).trans v1
      have HX0 : Hid (∀ x0 x1, (ps.getD k no).1 = x0 → (ps.getD k no).2 = x1 → ps.getD k no = (x0, x1)) := fun x0 x1 e0 e1 => by rw [← e0, ← e1]
      clear hcells hka v0 v1
      generalize hx0 : (ps.getD k no).1 = x0 at c0
      generalize hx1 : (ps.getD k no).2 = x1 at c1
      have HX : Hid (ps.getD k no = (x0, x1)) := HX0.out _ _ hx0 hx1
      clear hx0 hx1 HX0
      have HC : Hid (wr.cell? ⟨g, 0, none⟩ = some (.int .i64 n) ∧ wr.cell? ⟨g', 0, none⟩ = some (.int .i64 top)) := ⟨(hbw.cell (p := ⟨g, 0, none⟩) hgl).trans HG.out.1, (hbw.cell (p := ⟨g', 0, none⟩) hgl').trans HG.out.2⟩
      have hlt' : (k : Int) < (m : Int) := by omega
      go_wp2_with fail
      refine (hit_any (x0, x1) n top g g' wr HC.out.1 HC.out.2).mono ?_
      rintro e w2 ⟨⟨bb, rfl, hbb⟩, hb2⟩
      have b2 := hbw.trans (hb2.mono hbw.size)
      have HBB : Hid (bb = true ↔ Hit (x0, x1) n top) := hbb
      clear hb2 hbw c0 c1 HC hbb
      cases bb
      · have HE : Hid (NoneTo ps n top (k + 1)) := none_step HNO.out (by rw [HX.out]; intro y; have := HBB.out.2 y; simp at this)
        go_wp2
        go_roundw
        case rel => exact ⟨k + 1, by omega, by go_num, HE.out, b2⟩
        case measure => simp [intOf]; omega
      · have HE : Hid (Fst ps n top k) := .inl ⟨k, rfl, HKA.out, by rw [HX.out]; exact HBB.out.1 (by trivial)⟩
        go_wp2
        go_ret
        exact ⟨⟨k, rfl, HE.out⟩, b2⟩
    · have HE : Hid (Fst ps n top (-1)) := .inr ⟨rfl, fun j hj => HNO.out j (by have := HM.out; omega)⟩
      go_wp2
      go_ret
      exact ⟨⟨-1, rfl, HE.out⟩, hbw⟩

set_option maxHeartbeats 1000000 in
set_option maxRecDepth 100000 in
theorem contains_any (v : Value) (ps : List Pr) (n top : Int) (g g' : Nat) (w : World) (h : RgAt w v ps) (hg : w.cell? ⟨g, 0, none⟩ = some (.int .i64 n)) (hg' : w.cell? ⟨g', 0, none⟩ = some (.int .i64 top)) (hl : ps.length ≤ 1048576) :
    Calls Tryd.prog 46 #[v, .func (Fn.func 47) #[] #[.pointer (some ⟨g', 0, none⟩), .pointer (some ⟨g, 0, none⟩)]] w fun e w' => e = .returned (.bool (hasB ps n top)) ∧ Below w.heap.size w w' := by
  have HA := h
  obtain ⟨a, cap, rfl, h⟩ := h
  clear h
  have HA : Hid (RgAt w (.slice a ps.length cap) ps) := HA
  have HG : Hid (w.cell? ⟨g, 0, none⟩ = some (.int .i64 n) ∧ w.cell? ⟨g', 0, none⟩ = some (.int .i64 top)) := ⟨hg, hg'⟩
  clear hg hg'
  go_enter Tryd.func46, Tryd.ntmps46
  go_wp2_with fail
  refine (index_any _ ps n top g g' w HA.out HG.out.1 HG.out.2 hl).mono ?_
  rintro e w2 ⟨⟨r, rfl, hr⟩, hb2⟩
  have HR : Hid (decide (0 ≤ r) = hasB ps n top) := by
    rcases hr with ⟨k, rfl, hk, hh⟩ | ⟨rfl, hno⟩
    · exact (decide_eq_true (by omega)).trans (hasB_yes ⟨k, hk, hh⟩).symm
    · exact (decide_eq_false (by omega)).trans (hasB_no (fun ⟨j, hj, y⟩ => hno j hj y)).symm
  clear hr HA HG
  go_wp2
  all_goals (go_ret; exact ⟨ret_bool HR.out, hb2⟩)

set_option maxHeartbeats 1000000 in
set_option maxRecDepth 100000 in
theorem inSet_any (v : Value) (ps : List Pr) (n top : Int) (w : World) (h : RgAt w v ps) (hl : ps.length ≤ 1048576) :
    Calls Tryd.prog 31 #[v, .int .i64 n, .int .i64 top] w fun e w' => e = .returned (.bool (hasB ps n top)) ∧ Below w.heap.size w w' := by
  have b0 := new_below w 3 #[.int .i64 n]
  have b1 := new_below (w.alloc (.cells #[.int .i64 n] 3)) 3 #[.int .i64 top]
  have b2 := b0.trans (b1.mono b0.size)
  have HA := at_below h b2
  have k0 : (w.alloc (.cells #[.int .i64 n] 3)).cell? ⟨w.heap.size, 0, none⟩ = some (.int .i64 n) := by
    rw [cell_of_row _ _ _ _ _ _ (heap_new w _)]; rfl
  have k1 := (b1.cell (p := ⟨w.heap.size, 0, none⟩) (World.block_lt_of_cell? _ _ k0)).trans k0
  have k2 : ((w.alloc (.cells #[.int .i64 n] 3)).alloc (.cells #[.int .i64 top] 3)).cell? ⟨(w.alloc (.cells #[.int .i64 n] 3)).heap.size, 0, none⟩ = some (.int .i64 top) := by
    rw [cell_of_row _ _ _ _ _ _ (heap_new _ _)]; rfl
  have hsz : (w.alloc (.cells #[.int .i64 n] 3)).heap.size = w.heap.size + 1 := by simp
  rw [hsz] at k2
  clear hsz b0 b1 k0
  obtain ⟨a, cap, rfl, h⟩ := h
  clear h
  go_enter Tryd.func31, Tryd.ntmps31
  go_wp2_with fail
  generalize World.alloc _ _ = w0 at b2 HA k1 k2 ⊢
  refine (contains_any _ ps n top w.heap.size (w.heap.size + 1) w0 HA k1 k2 hl).mono ?_
  rintro e w2 ⟨rfl, hb2⟩
  have b3 := b2.trans (hb2.mono b2.size)
  clear hb2 HA k1 k2 b2
  go_wp2
  go_ret
  exact ⟨rfl, b3⟩

def SH (ps : List Pr) (n top : Int) : Bool × Int := if 4096 < ps.length then (false, 2) else if setB ps = false then (false, 1) else if ¬ Num n ∨ ¬ End top then (false, 4) else (hasB ps n top, 0)
end Go.Proofs.YtofpnabfecimhaaDoor.rg
