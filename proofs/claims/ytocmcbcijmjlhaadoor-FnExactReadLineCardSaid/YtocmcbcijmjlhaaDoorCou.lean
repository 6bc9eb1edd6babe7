/-
  A console's line read: the specification's way.
-/
import Derived.Test.YtocmcbcijmjlhaaDoorCoq
import Derived.Test.YtocmcbcijmjlhaaDoorCot
import Derived.Test.YtocmcbcijmjlhaaDoorNuz
import Derived.Deep.RegionWith
namespace Go.Proofs.YtocmcbcijmjlhaaDoor.cn
open Go.RowKit
open sp nu
set_option linter.unusedVariables false

theorem ev_box (k : Int) (r : List UInt8) : evf k (runM [15] r 0 [] []) = if wd r = [] then none else if wd (rs r) = [] then some (k, 0, wd r, []) else none := by
  unfold runM tkM
  rw [if_pos rfl]
  by_cases h : wd r = []
  · rw [if_pos h, if_pos h]; rfl
  · rw [if_neg h, if_neg h]
    show (if tb (rs r) = [] then _ else _) = _
    by_cases g : wd (rs r) = []
    · rw [if_pos g, if_pos ((tb_nil _).2 g)]
    · rw [if_neg g, if_neg (fun y => g ((tb_nil _).1 y))]
theorem ev_feed (r : List UInt8) : evf 5 (runM [15, 16] r 0 [] []) = if wd r = [] then none else if wd (rs r) = [] then none else some (5, 0, wd r, tb (rs r)) := by
  unfold runM tkM
  rw [if_pos rfl]
  by_cases h : wd r = []
  · rw [if_pos h, if_pos h]; rfl
  · rw [if_neg h, if_neg h]
    show evf 5 (runM [16] (rs r) 0 (wd r) []) = _
    unfold runM tkM
    rw [if_neg (by decide), if_pos rfl]
    by_cases g : wd (rs r) = []
    · rw [if_pos g, if_pos ((tb_nil _).2 g)]; rfl
    · rw [if_neg g, if_neg (fun y => g ((tb_nil _).1 y))]
      show (if tb ([] : List UInt8) = [] then (some ((5 : Int), (0 : Int), wd r, tb (rs r)) : Option Ev) else none) = _
      rw [if_pos (by decide)]
theorem ev_conn (k : Int) (r : List UInt8) : evf k (runM [17] r 0 [] []) = if wd r = [] then none else match numO (wd r) with | none => none | some n => if wd (rs r) = [] then some (k, n, [], []) else none := by
  unfold runM tkM
  rw [if_neg (by decide), if_neg (by decide), if_pos rfl]
  by_cases h : wd r = []
  · rw [if_pos h, if_pos h]; rfl
  · rw [if_neg h, if_neg h]
    cases numO (wd r) with
    | none => rfl
    | some n =>
      show (if tb (rs r) = [] then _ else _) = if wd (rs r) = [] then _ else _
      by_cases g : wd (rs r) = []
      · rw [if_pos g, if_pos ((tb_nil _).2 g)]
      · rw [if_neg g, if_neg (fun y => g ((tb_nil _).1 y))]
theorem ev_say (r : List UInt8) : evf 3 (runM [17, 18] r 0 [] []) = if wd r = [] then none else match numO (wd r) with | none => none | some n => (some ((3 : Int), n, ([] : List UInt8), tb (rs r) ++ [13, 10]) : Option Ev) := by
  unfold runM tkM
  rw [if_neg (by decide), if_neg (by decide), if_pos rfl]
  by_cases h : wd r = []
  · rw [if_pos h, if_pos h]; rfl
  · rw [if_neg h, if_neg h]
    cases numO (wd r) with
    | none => rfl
    | some n =>
      show evf 3 (runM [18] (rs r) n [] []) = _
      unfold runM tkM
      rw [if_neg (by decide), if_neg (by decide), if_neg (by decide)]
      show (if tb ([] : List UInt8) = [] then (some ((3 : Int), n, ([] : List UInt8), tb (rs r) ++ [13, 10]) : Option Ev) else none) = _
      rw [if_pos (by decide)]
theorem ev_crash (r : List UInt8) : evf 7 (runM ([] : List Nat) r 0 [] []) = if wd r = [] then some (7, 0, [], []) else none := by
  show (if tb r = [] then _ else _) = _
  by_cases g : wd r = []
  · rw [if_pos g, if_pos ((tb_nil _).2 g)]
  · rw [if_neg g, if_neg (fun y => g ((tb_nil _).1 y))]
theorem ev_conn_ok {k n : Int} {r : List UInt8} (h : wd r ≠ []) (z : numO (wd r) = some n) (g : wd (rs r) = []) : evf k (runM [17] r 0 [] []) = some (k, n, [], []) := by
  rw [ev_conn, if_neg h, z]
  exact if_pos g
theorem ev_conn_many {k n : Int} {r : List UInt8} (h : wd r ≠ []) (z : numO (wd r) = some n) (g : wd (rs r) ≠ []) : evf k (runM [17] r 0 [] []) = none := by
  rw [ev_conn, if_neg h, z]
  exact if_neg g
theorem ev_conn_no {k : Int} {r : List UInt8} (h : wd r ≠ []) (z : numO (wd r) = none) : evf k (runM [17] r 0 [] []) = none := by
  have := ev_conn k r
  rw [if_neg h, z] at this
  exact this
theorem ev_say_ok {n : Int} {r : List UInt8} (h : wd r ≠ []) (z : numO (wd r) = some n) : evf 3 (runM [17, 18] r 0 [] []) = some (3, n, [], tb (rs r) ++ [13, 10]) := by
  have := ev_say r
  rw [if_neg h, z] at this
  exact this
theorem ev_say_no {r : List UInt8} (h : wd r ≠ []) (z : numO (wd r) = none) : evf 3 (runM [17, 18] r 0 [] []) = none := by
  have := ev_say r
  rw [if_neg h, z] at this
  exact this
theorem wds_le (l : List UInt8) (hl : l.length ≤ 1048576) : (wds l).length ≤ 4294967295 := by
  have h1 := cutS_len 32 l []
  have h2 : (wds l).length ≤ (cutS 32 [] l).length := List.length_filter_le _ _
  omega
/-- What l16Read answers. -/
def SpRet (l : List UInt8) (e : Ending) : Prop := (∃ v, e = .returned (.tuple #[v, .bool false]) ∧ (∃ k c x d, v = EvV k c x d) ∧ evI l = none) ∨ ∃ k c x d, e = .returned (.tuple #[EvV k c x d, .bool true]) ∧ evI l = some (k, c, x, d)

set_option maxHeartbeats 8000000 in
set_option maxRecDepth 100000 in
theorem sread_make (l : List UInt8) (hl : l.length ≤ 1048576) (w : World) (b n cap : Nat) (h0 : wd l ≠ []) (hw : wd l = [109, 97, 107, 101]) (hn : n = (wds l).length) (c0 : w.cell? ⟨b, 0, none⟩ = some (.string ⟨(wd l).toArray⟩)) (c1 : 2 ≤ n → w.cell? ⟨b, 1, none⟩ = some (.string ⟨(wd (rs l)).toArray⟩)) :
    Calls Tryd.prog 8 #[.string ⟨l.toArray⟩, .slice (some ⟨b, 0, none⟩) n cap] w fun e w' => SpRet l e ∧ Below w.heap.size w w' := by
  have EV : Hid (evI l = evf 6 (runM [15] (rs l) 0 [] [])) := by unfold Hid evI; rw [if_neg h0, if_pos hw]
  have e0 : ((⟨(wd l).toArray⟩ : ByteArray).toList == [109, 97, 107, 101]) = true := by rw [Lib.toList_data, hw]; decide
  have e1 : ((⟨(wd l).toArray⟩ : ByteArray).toList == [112, 111, 108, 108]) = false := by rw [Lib.toList_data, hw]; decide
  have e2 : ((⟨(wd l).toArray⟩ : ByteArray).toList == [105, 109, 97, 112]) = false := by rw [Lib.toList_data, hw]; decide
  have e3 : ((⟨(wd l).toArray⟩ : ByteArray).toList == [110, 110, 116, 112]) = false := by rw [Lib.toList_data, hw]; decide
  have e4 : ((⟨(wd l).toArray⟩ : ByteArray).toList == [99, 108, 111, 115, 101]) = false := by rw [Lib.toList_data, hw]; decide
  have e5 : ((⟨(wd l).toArray⟩ : ByteArray).toList == [115, 97, 121]) = false := by rw [Lib.toList_data, hw]; decide
  have e6 : ((⟨(wd l).toArray⟩ : ByteArray).toList == [99, 114, 97, 115, 104]) = false := by rw [Lib.toList_data, hw]; decide
  have HWD : wds l = wd l :: wds (rs l) := by rw [wds_eq l, if_neg h0]
  have HNUM : Hid (∀ W, Calls Tryd.prog 11 #[.string ⟨(wd (rs l)).toArray⟩] W fun e w' => NumRetZ (wd (rs l)) e ∧ w' = W) := fun W => nz.number_any _ W (by show (wd (rs l)).toArray.size ≤ _; have := wd_len (rs l); have := rs_len l; simp; omega)
  generalize (⟨(wd l).toArray⟩ : ByteArray) = A0 at c0 e0 e1 e2 e3 e4 e5 e6
  by_cases r1 : wd (rs l) = []
  · have hn1 : n = 1 := by rw [hn, HWD, wds_eq (rs l), if_pos r1]; rfl
    subst hn1
    have R1 : Hid (wd (rs l) = []) := r1
    clear hn c1 r1 h0 hw HWD HNUM
    have a0 : ∀ o, (w.alloc o).cell? ⟨b, 0, none⟩ = some (.string A0) := fun o => (((Below.refl _ w).alloc (Nat.le_refl _) o).cell (p := ⟨b, 0, none⟩) (World.block_lt_of_cell? w _ c0)).trans c0
    have HBEL : Hid (∀ o, Below w.heap.size w (w.alloc o)) := fun o => (Below.refl _ w).alloc (Nat.le_refl _) o
    go_enter Tryd.func8, Tryd.ntmps8
    go_wp2
    exact bodyPost_ret (v := .tuple #[EvV 0 0 [] [], .bool false]) (by simp [results, Tryd.results8, go_sem, EvV]) rfl ⟨.inl ⟨_, rfl, ⟨_, _, _, _, rfl⟩, by rw [EV.out, ev_box, if_pos R1.out]⟩, by first | exact HBEL.out _ | exact (HBEL.out _).drew⟩
  have HW2 : wds (rs l) = wd (rs l) :: wds (rs (rs l)) := by rw [wds_eq (rs l), if_neg r1]
  have R1 : Hid (wd (rs l) ≠ []) := r1
  by_cases r2 : wd (rs (rs l)) = []
  · have hn2 : n = 2 := by rw [hn, HWD, HW2, wds_eq (rs (rs l)), if_pos r2]; rfl
    subst hn2
    have c1' := c1 (by omega)
    have R2 : Hid (wd (rs (rs l)) = []) := r2
    clear hn c1 r1 r2 h0 hw HWD HW2
    have a0 : ∀ o, (w.alloc o).cell? ⟨b, 0, none⟩ = some (.string A0) := fun o => (((Below.refl _ w).alloc (Nat.le_refl _) o).cell (p := ⟨b, 0, none⟩) (World.block_lt_of_cell? w _ c0)).trans c0
    have a1 : ∀ o, (w.alloc o).cell? ⟨b, 1, none⟩ = some (.string ⟨(wd (rs l)).toArray⟩) := fun o => (((Below.refl _ w).alloc (Nat.le_refl _) o).cell (p := ⟨b, 1, none⟩) (World.block_lt_of_cell? w _ c1')).trans c1'
    have HBEL : Hid (∀ o, Below w.heap.size w (w.alloc o)) := fun o => (Below.refl _ w).alloc (Nat.le_refl _) o
    go_enter Tryd.func8, Tryd.ntmps8
    go_wp2_with fail
    refine (HNUM.out _).mono ?_
    rintro e x ⟨⟨z, B, rfl, hz⟩, rfl⟩
    rcases gets_numO hz with ⟨rfl, z0⟩ | ⟨rfl, z0⟩
    · have Z0 : Hid (numO (wd (rs l)) = some z) := z0
      clear hz z0 HNUM
      go_wp2
      exact bodyPost_ret (v := .tuple #[EvV 6 0 (wd (rs l)) [], .bool true]) (by simp [results, Tryd.results8, go_sem, EvV]) rfl ⟨.inr ⟨_, _, _, _, rfl, by rw [EV.out, ev_box, if_neg R1.out, if_pos R2.out]⟩, by first | exact HBEL.out _ | exact (HBEL.out _).drew⟩
    · have Z0 : Hid (numO (wd (rs l)) = none) := z0
      clear hz z0 HNUM
      go_wp2
      exact bodyPost_ret (v := .tuple #[EvV 6 0 (wd (rs l)) [], .bool true]) (by simp [results, Tryd.results8, go_sem, EvV]) rfl ⟨.inr ⟨_, _, _, _, rfl, by rw [EV.out, ev_box, if_neg R1.out, if_pos R2.out]⟩, by first | exact HBEL.out _ | exact (HBEL.out _).drew⟩
  have R2 : Hid (wd (rs (rs l)) ≠ []) := r2
  have hn3 : 3 ≤ n := by rw [hn, HWD, HW2, wds_eq (rs (rs l)), if_neg r2]; simp
  have c1' := c1 (by omega)
  have hnM : n ≤ 4294967295 := by rw [hn]; exact wds_le l hl
  clear hn c1 r1 r2 h0 hw HWD HW2
  have m0 : (0 : Int) < (n : Int) := by omega
  have m1 : (1 : Int) < (n : Int) := by omega
  have m1d : decide ((1 : Int) < (n : Int)) = true := decide_eq_true m1
  have m2d : decide ((2 : Int) < (n : Int)) = true := decide_eq_true (by omega)
  have m3 : ((n : Int) == 2) = false := beq_eq_false_iff_ne.2 (by omega)
  have m4 : ((n : Int) == 1) = false := beq_eq_false_iff_ne.2 (by omega)
  have a0 : ∀ o, (w.alloc o).cell? ⟨b, 0, none⟩ = some (.string A0) := fun o => (((Below.refl _ w).alloc (Nat.le_refl _) o).cell (p := ⟨b, 0, none⟩) (World.block_lt_of_cell? w _ c0)).trans c0
  have a1 : ∀ o, (w.alloc o).cell? ⟨b, 1, none⟩ = some (.string ⟨(wd (rs l)).toArray⟩) := fun o => (((Below.refl _ w).alloc (Nat.le_refl _) o).cell (p := ⟨b, 1, none⟩) (World.block_lt_of_cell? w _ c1')).trans c1'
  have HBEL : Hid (∀ o, Below w.heap.size w (w.alloc o)) := fun o => (Below.refl _ w).alloc (Nat.le_refl _) o
  go_enter Tryd.func8, Tryd.ntmps8
  go_wp2_with fail
  refine (HNUM.out _).mono ?_
  rintro e x ⟨⟨z, B, rfl, hz⟩, rfl⟩
  rcases gets_numO hz with ⟨rfl, z0⟩ | ⟨rfl, z0⟩
  · have Z0 : Hid (numO (wd (rs l)) = some z) := z0
    clear hz z0 HNUM
    go_wp2
    exact bodyPost_ret (v := .tuple #[EvV 0 0 [] [], .bool false]) (by simp [results, Tryd.results8, go_sem, EvV]) rfl ⟨.inl ⟨_, rfl, ⟨_, _, _, _, rfl⟩, by rw [EV.out, ev_box, if_neg R1.out, if_neg R2.out]⟩, by first | exact HBEL.out _ | exact (HBEL.out _).drew⟩
  · have Z0 : Hid (numO (wd (rs l)) = none) := z0
    clear hz z0 HNUM
    go_wp2
    exact bodyPost_ret (v := .tuple #[EvV 0 0 [] [], .bool false]) (by simp [results, Tryd.results8, go_sem, EvV]) rfl ⟨.inl ⟨_, rfl, ⟨_, _, _, _, rfl⟩, by rw [EV.out, ev_box, if_neg R1.out, if_neg R2.out]⟩, by first | exact HBEL.out _ | exact (HBEL.out _).drew⟩

set_option maxHeartbeats 8000000 in
set_option maxRecDepth 100000 in
theorem sread_poll (l : List UInt8) (hl : l.length ≤ 1048576) (w : World) (b n cap : Nat) (h0 : wd l ≠ []) (hw : wd l = [112, 111, 108, 108]) (hn : n = (wds l).length) (c0 : w.cell? ⟨b, 0, none⟩ = some (.string ⟨(wd l).toArray⟩)) (c1 : 2 ≤ n → w.cell? ⟨b, 1, none⟩ = some (.string ⟨(wd (rs l)).toArray⟩)) :
    Calls Tryd.prog 8 #[.string ⟨l.toArray⟩, .slice (some ⟨b, 0, none⟩) n cap] w fun e w' => SpRet l e ∧ Below w.heap.size w w' := by
  have EV : Hid (evI l = evf 5 (runM [15, 16] (rs l) 0 [] [])) := by unfold Hid evI; rw [if_neg h0, if_neg (by rw [hw]; decide), if_pos hw]
  have e0 : ((⟨(wd l).toArray⟩ : ByteArray).toList == [109, 97, 107, 101]) = false := by rw [Lib.toList_data, hw]; decide
  have e1 : ((⟨(wd l).toArray⟩ : ByteArray).toList == [112, 111, 108, 108]) = true := by rw [Lib.toList_data, hw]; decide
  have e2 : ((⟨(wd l).toArray⟩ : ByteArray).toList == [105, 109, 97, 112]) = false := by rw [Lib.toList_data, hw]; decide
  have e3 : ((⟨(wd l).toArray⟩ : ByteArray).toList == [110, 110, 116, 112]) = false := by rw [Lib.toList_data, hw]; decide
  have e4 : ((⟨(wd l).toArray⟩ : ByteArray).toList == [99, 108, 111, 115, 101]) = false := by rw [Lib.toList_data, hw]; decide
  have e5 : ((⟨(wd l).toArray⟩ : ByteArray).toList == [115, 97, 121]) = false := by rw [Lib.toList_data, hw]; decide
  have e6 : ((⟨(wd l).toArray⟩ : ByteArray).toList == [99, 114, 97, 115, 104]) = false := by rw [Lib.toList_data, hw]; decide
  have HWD : wds l = wd l :: wds (rs l) := by rw [wds_eq l, if_neg h0]
  have HNUM : Hid (∀ W, Calls Tryd.prog 11 #[.string ⟨(wd (rs l)).toArray⟩] W fun e w' => NumRetZ (wd (rs l)) e ∧ w' = W) := fun W => nz.number_any _ W (by show (wd (rs l)).toArray.size ≤ _; have := wd_len (rs l); have := rs_len l; simp; omega)
  have HRST : Hid (∀ W, Calls Tryd.prog 12 #[.string ⟨l.toArray⟩, .int .i64 2] W fun e w' => e = .returned (.string ⟨(tb (rs (rs l))).toArray⟩) ∧ w' = W) := fun W => rest2_any ⟨l.toArray⟩ W (by show l.toArray.size ≤ _; simpa using hl)
  generalize (⟨(wd l).toArray⟩ : ByteArray) = A0 at c0 e0 e1 e2 e3 e4 e5 e6
  by_cases r1 : wd (rs l) = []
  · have hn1 : n = 1 := by rw [hn, HWD, wds_eq (rs l), if_pos r1]; rfl
    subst hn1
    have R1 : Hid (wd (rs l) = []) := r1
    clear hn c1 r1 h0 hw HWD HNUM
    have a0 : ∀ o, (w.alloc o).cell? ⟨b, 0, none⟩ = some (.string A0) := fun o => (((Below.refl _ w).alloc (Nat.le_refl _) o).cell (p := ⟨b, 0, none⟩) (World.block_lt_of_cell? w _ c0)).trans c0
    have HBEL : Hid (∀ o, Below w.heap.size w (w.alloc o)) := fun o => (Below.refl _ w).alloc (Nat.le_refl _) o
    go_enter Tryd.func8, Tryd.ntmps8
    go_wp2
    exact bodyPost_ret (v := .tuple #[EvV 0 0 [] [], .bool false]) (by simp [results, Tryd.results8, go_sem, EvV]) rfl ⟨.inl ⟨_, rfl, ⟨_, _, _, _, rfl⟩, by rw [EV.out, ev_feed, if_pos R1.out]⟩, by first | exact HBEL.out _ | exact (HBEL.out _).drew⟩
  have HW2 : wds (rs l) = wd (rs l) :: wds (rs (rs l)) := by rw [wds_eq (rs l), if_neg r1]
  have R1 : Hid (wd (rs l) ≠ []) := r1
  by_cases r2 : wd (rs (rs l)) = []
  · have hn2 : n = 2 := by rw [hn, HWD, HW2, wds_eq (rs (rs l)), if_pos r2]; rfl
    subst hn2
    have c1' := c1 (by omega)
    have R2 : Hid (wd (rs (rs l)) = []) := r2
    clear hn c1 r1 r2 h0 hw HWD HW2
    have a0 : ∀ o, (w.alloc o).cell? ⟨b, 0, none⟩ = some (.string A0) := fun o => (((Below.refl _ w).alloc (Nat.le_refl _) o).cell (p := ⟨b, 0, none⟩) (World.block_lt_of_cell? w _ c0)).trans c0
    have a1 : ∀ o, (w.alloc o).cell? ⟨b, 1, none⟩ = some (.string ⟨(wd (rs l)).toArray⟩) := fun o => (((Below.refl _ w).alloc (Nat.le_refl _) o).cell (p := ⟨b, 1, none⟩) (World.block_lt_of_cell? w _ c1')).trans c1'
    have HBEL : Hid (∀ o, Below w.heap.size w (w.alloc o)) := fun o => (Below.refl _ w).alloc (Nat.le_refl _) o
    go_enter Tryd.func8, Tryd.ntmps8
    go_wp2_with fail
    refine (HNUM.out _).mono ?_
    rintro e x ⟨⟨z, B, rfl, hz⟩, rfl⟩
    rcases gets_numO hz with ⟨rfl, z0⟩ | ⟨rfl, z0⟩
    · have Z0 : Hid (numO (wd (rs l)) = some z) := z0
      clear hz z0 HNUM
      go_wp2
      exact bodyPost_ret (v := .tuple #[EvV 0 0 [] [], .bool false]) (by simp [results, Tryd.results8, go_sem, EvV]) rfl ⟨.inl ⟨_, rfl, ⟨_, _, _, _, rfl⟩, by rw [EV.out, ev_feed, if_neg R1.out, if_pos R2.out]⟩, by first | exact HBEL.out _ | exact (HBEL.out _).drew⟩
    · have Z0 : Hid (numO (wd (rs l)) = none) := z0
      clear hz z0 HNUM
      go_wp2
      exact bodyPost_ret (v := .tuple #[EvV 0 0 [] [], .bool false]) (by simp [results, Tryd.results8, go_sem, EvV]) rfl ⟨.inl ⟨_, rfl, ⟨_, _, _, _, rfl⟩, by rw [EV.out, ev_feed, if_neg R1.out, if_pos R2.out]⟩, by first | exact HBEL.out _ | exact (HBEL.out _).drew⟩
  have R2 : Hid (wd (rs (rs l)) ≠ []) := r2
  have hn3 : 3 ≤ n := by rw [hn, HWD, HW2, wds_eq (rs (rs l)), if_neg r2]; simp
  have c1' := c1 (by omega)
  have hnM : n ≤ 4294967295 := by rw [hn]; exact wds_le l hl
  clear hn c1 r1 r2 h0 hw HWD HW2
  have m0 : (0 : Int) < (n : Int) := by omega
  have m1 : (1 : Int) < (n : Int) := by omega
  have m1d : decide ((1 : Int) < (n : Int)) = true := decide_eq_true m1
  have m2d : decide ((2 : Int) < (n : Int)) = true := decide_eq_true (by omega)
  have m3 : ((n : Int) == 2) = false := beq_eq_false_iff_ne.2 (by omega)
  have m4 : ((n : Int) == 1) = false := beq_eq_false_iff_ne.2 (by omega)
  have a0 : ∀ o, (w.alloc o).cell? ⟨b, 0, none⟩ = some (.string A0) := fun o => (((Below.refl _ w).alloc (Nat.le_refl _) o).cell (p := ⟨b, 0, none⟩) (World.block_lt_of_cell? w _ c0)).trans c0
  have a1 : ∀ o, (w.alloc o).cell? ⟨b, 1, none⟩ = some (.string ⟨(wd (rs l)).toArray⟩) := fun o => (((Below.refl _ w).alloc (Nat.le_refl _) o).cell (p := ⟨b, 1, none⟩) (World.block_lt_of_cell? w _ c1')).trans c1'
  have HBEL : Hid (∀ o, Below w.heap.size w (w.alloc o)) := fun o => (Below.refl _ w).alloc (Nat.le_refl _) o
  go_enter Tryd.func8, Tryd.ntmps8
  go_wp2_with fail
  refine (HNUM.out _).mono ?_
  rintro e x ⟨⟨z, B, rfl, hz⟩, rfl⟩
  rcases gets_numO hz with ⟨rfl, z0⟩ | ⟨rfl, z0⟩
  · have Z0 : Hid (numO (wd (rs l)) = some z) := z0
    clear hz z0 HNUM
    go_wp2_with fail
    go_region_with (go_at_call 12; refine (HRST.out _).mono ?_; rintro e x ⟨rfl, rfl⟩)
    all_goals
      go_wp2
      exact bodyPost_ret (v := .tuple #[EvV 5 0 (wd (rs l)) (tb (rs (rs l))), .bool true]) (by simp [results, Tryd.results8, go_sem, EvV]) rfl ⟨.inr ⟨_, _, _, _, rfl, by rw [EV.out, ev_feed, if_neg R1.out, if_neg R2.out]⟩, by first | exact HBEL.out _ | exact (HBEL.out _).drew⟩
  · have Z0 : Hid (numO (wd (rs l)) = none) := z0
    clear hz z0 HNUM
    go_wp2_with fail
    go_region_with (go_at_call 12; refine (HRST.out _).mono ?_; rintro e x ⟨rfl, rfl⟩)
    all_goals
      go_wp2
      exact bodyPost_ret (v := .tuple #[EvV 5 0 (wd (rs l)) (tb (rs (rs l))), .bool true]) (by simp [results, Tryd.results8, go_sem, EvV]) rfl ⟨.inr ⟨_, _, _, _, rfl, by rw [EV.out, ev_feed, if_neg R1.out, if_neg R2.out]⟩, by first | exact HBEL.out _ | exact (HBEL.out _).drew⟩

set_option maxHeartbeats 8000000 in
set_option maxRecDepth 100000 in
theorem sread_imap (l : List UInt8) (hl : l.length ≤ 1048576) (w : World) (b n cap : Nat) (h0 : wd l ≠ []) (hw : wd l = [105, 109, 97, 112]) (hn : n = (wds l).length) (c0 : w.cell? ⟨b, 0, none⟩ = some (.string ⟨(wd l).toArray⟩)) (c1 : 2 ≤ n → w.cell? ⟨b, 1, none⟩ = some (.string ⟨(wd (rs l)).toArray⟩)) :
    Calls Tryd.prog 8 #[.string ⟨l.toArray⟩, .slice (some ⟨b, 0, none⟩) n cap] w fun e w' => SpRet l e ∧ Below w.heap.size w w' := by
  have EV : Hid (evI l = evf 1 (runM [17] (rs l) 0 [] [])) := by unfold Hid evI; rw [if_neg h0, if_neg (by rw [hw]; decide), if_neg (by rw [hw]; decide), if_pos hw]
  have e0 : ((⟨(wd l).toArray⟩ : ByteArray).toList == [109, 97, 107, 101]) = false := by rw [Lib.toList_data, hw]; decide
  have e1 : ((⟨(wd l).toArray⟩ : ByteArray).toList == [112, 111, 108, 108]) = false := by rw [Lib.toList_data, hw]; decide
  have e2 : ((⟨(wd l).toArray⟩ : ByteArray).toList == [105, 109, 97, 112]) = true := by rw [Lib.toList_data, hw]; decide
  have e3 : ((⟨(wd l).toArray⟩ : ByteArray).toList == [110, 110, 116, 112]) = false := by rw [Lib.toList_data, hw]; decide
  have e4 : ((⟨(wd l).toArray⟩ : ByteArray).toList == [99, 108, 111, 115, 101]) = false := by rw [Lib.toList_data, hw]; decide
  have e5 : ((⟨(wd l).toArray⟩ : ByteArray).toList == [115, 97, 121]) = false := by rw [Lib.toList_data, hw]; decide
  have e6 : ((⟨(wd l).toArray⟩ : ByteArray).toList == [99, 114, 97, 115, 104]) = false := by rw [Lib.toList_data, hw]; decide
  have HWD : wds l = wd l :: wds (rs l) := by rw [wds_eq l, if_neg h0]
  have HNUM : Hid (∀ W, Calls Tryd.prog 11 #[.string ⟨(wd (rs l)).toArray⟩] W fun e w' => NumRetZ (wd (rs l)) e ∧ w' = W) := fun W => nz.number_any _ W (by show (wd (rs l)).toArray.size ≤ _; have := wd_len (rs l); have := rs_len l; simp; omega)
  generalize (⟨(wd l).toArray⟩ : ByteArray) = A0 at c0 e0 e1 e2 e3 e4 e5 e6
  by_cases r1 : wd (rs l) = []
  · have hn1 : n = 1 := by rw [hn, HWD, wds_eq (rs l), if_pos r1]; rfl
    subst hn1
    have R1 : Hid (wd (rs l) = []) := r1
    clear hn c1 r1 h0 hw HWD HNUM
    have a0 : ∀ o, (w.alloc o).cell? ⟨b, 0, none⟩ = some (.string A0) := fun o => (((Below.refl _ w).alloc (Nat.le_refl _) o).cell (p := ⟨b, 0, none⟩) (World.block_lt_of_cell? w _ c0)).trans c0
    have HBEL : Hid (∀ o, Below w.heap.size w (w.alloc o)) := fun o => (Below.refl _ w).alloc (Nat.le_refl _) o
    go_enter Tryd.func8, Tryd.ntmps8
    go_wp2
    exact bodyPost_ret (v := .tuple #[EvV 0 0 [] [], .bool false]) (by simp [results, Tryd.results8, go_sem, EvV]) rfl ⟨.inl ⟨_, rfl, ⟨_, _, _, _, rfl⟩, by rw [EV.out, ev_conn, if_pos R1.out]⟩, by first | exact HBEL.out _ | exact (HBEL.out _).drew⟩
  have HW2 : wds (rs l) = wd (rs l) :: wds (rs (rs l)) := by rw [wds_eq (rs l), if_neg r1]
  have R1 : Hid (wd (rs l) ≠ []) := r1
  by_cases r2 : wd (rs (rs l)) = []
  · have hn2 : n = 2 := by rw [hn, HWD, HW2, wds_eq (rs (rs l)), if_pos r2]; rfl
    subst hn2
    have c1' := c1 (by omega)
    have R2 : Hid (wd (rs (rs l)) = []) := r2
    clear hn c1 r1 r2 h0 hw HWD HW2
    have a0 : ∀ o, (w.alloc o).cell? ⟨b, 0, none⟩ = some (.string A0) := fun o => (((Below.refl _ w).alloc (Nat.le_refl _) o).cell (p := ⟨b, 0, none⟩) (World.block_lt_of_cell? w _ c0)).trans c0
    have a1 : ∀ o, (w.alloc o).cell? ⟨b, 1, none⟩ = some (.string ⟨(wd (rs l)).toArray⟩) := fun o => (((Below.refl _ w).alloc (Nat.le_refl _) o).cell (p := ⟨b, 1, none⟩) (World.block_lt_of_cell? w _ c1')).trans c1'
    have HBEL : Hid (∀ o, Below w.heap.size w (w.alloc o)) := fun o => (Below.refl _ w).alloc (Nat.le_refl _) o
    go_enter Tryd.func8, Tryd.ntmps8
    go_wp2_with fail
    refine (HNUM.out _).mono ?_
    rintro e x ⟨⟨z, B, rfl, hz⟩, rfl⟩
    rcases gets_numO hz with ⟨rfl, z0⟩ | ⟨rfl, z0⟩
    · have Z0 : Hid (numO (wd (rs l)) = some z) := z0
      clear hz z0 HNUM
      go_wp2
      exact bodyPost_ret (v := .tuple #[EvV 1 z [] [], .bool true]) (by simp [results, Tryd.results8, go_sem, EvV]) rfl ⟨.inr ⟨_, _, _, _, rfl, by rw [EV.out]; exact ev_conn_ok R1.out Z0.out R2.out⟩, by first | exact HBEL.out _ | exact (HBEL.out _).drew⟩
    · have Z0 : Hid (numO (wd (rs l)) = none) := z0
      clear hz z0 HNUM
      go_wp2
      exact bodyPost_ret (v := .tuple #[EvV 0 0 [] [], .bool false]) (by simp [results, Tryd.results8, go_sem, EvV]) rfl ⟨.inl ⟨_, rfl, ⟨_, _, _, _, rfl⟩, by rw [EV.out]; exact ev_conn_no R1.out Z0.out⟩, by first | exact HBEL.out _ | exact (HBEL.out _).drew⟩
  have R2 : Hid (wd (rs (rs l)) ≠ []) := r2
  have hn3 : 3 ≤ n := by rw [hn, HWD, HW2, wds_eq (rs (rs l)), if_neg r2]; simp
  have c1' := c1 (by omega)
  have hnM : n ≤ 4294967295 := by rw [hn]; exact wds_le l hl
  clear hn c1 r1 r2 h0 hw HWD HW2
  have m0 : (0 : Int) < (n : Int) := by omega
  have m1 : (1 : Int) < (n : Int) := by omega
  have m1d : decide ((1 : Int) < (n : Int)) = true := decide_eq_true m1
  have m2d : decide ((2 : Int) < (n : Int)) = true := decide_eq_true (by omega)
  have m3 : ((n : Int) == 2) = false := beq_eq_false_iff_ne.2 (by omega)
  have m4 : ((n : Int) == 1) = false := beq_eq_false_iff_ne.2 (by omega)
  have a0 : ∀ o, (w.alloc o).cell? ⟨b, 0, none⟩ = some (.string A0) := fun o => (((Below.refl _ w).alloc (Nat.le_refl _) o).cell (p := ⟨b, 0, none⟩) (World.block_lt_of_cell? w _ c0)).trans c0
  have a1 : ∀ o, (w.alloc o).cell? ⟨b, 1, none⟩ = some (.string ⟨(wd (rs l)).toArray⟩) := fun o => (((Below.refl _ w).alloc (Nat.le_refl _) o).cell (p := ⟨b, 1, none⟩) (World.block_lt_of_cell? w _ c1')).trans c1'
  have HBEL : Hid (∀ o, Below w.heap.size w (w.alloc o)) := fun o => (Below.refl _ w).alloc (Nat.le_refl _) o
  go_enter Tryd.func8, Tryd.ntmps8
  go_wp2_with fail
  refine (HNUM.out _).mono ?_
  rintro e x ⟨⟨z, B, rfl, hz⟩, rfl⟩
  rcases gets_numO hz with ⟨rfl, z0⟩ | ⟨rfl, z0⟩
  · have Z0 : Hid (numO (wd (rs l)) = some z) := z0
    clear hz z0 HNUM
    go_wp2
    exact bodyPost_ret (v := .tuple #[EvV 0 0 [] [], .bool false]) (by simp [results, Tryd.results8, go_sem, EvV]) rfl ⟨.inl ⟨_, rfl, ⟨_, _, _, _, rfl⟩, by rw [EV.out]; exact ev_conn_many R1.out Z0.out R2.out⟩, by first | exact HBEL.out _ | exact (HBEL.out _).drew⟩
  · have Z0 : Hid (numO (wd (rs l)) = none) := z0
    clear hz z0 HNUM
    go_wp2
    exact bodyPost_ret (v := .tuple #[EvV 0 0 [] [], .bool false]) (by simp [results, Tryd.results8, go_sem, EvV]) rfl ⟨.inl ⟨_, rfl, ⟨_, _, _, _, rfl⟩, by rw [EV.out]; exact ev_conn_no R1.out Z0.out⟩, by first | exact HBEL.out _ | exact (HBEL.out _).drew⟩

set_option maxHeartbeats 8000000 in
set_option maxRecDepth 100000 in
theorem sread_nntp (l : List UInt8) (hl : l.length ≤ 1048576) (w : World) (b n cap : Nat) (h0 : wd l ≠ []) (hw : wd l = [110, 110, 116, 112]) (hn : n = (wds l).length) (c0 : w.cell? ⟨b, 0, none⟩ = some (.string ⟨(wd l).toArray⟩)) (c1 : 2 ≤ n → w.cell? ⟨b, 1, none⟩ = some (.string ⟨(wd (rs l)).toArray⟩)) :
    Calls Tryd.prog 8 #[.string ⟨l.toArray⟩, .slice (some ⟨b, 0, none⟩) n cap] w fun e w' => SpRet l e ∧ Below w.heap.size w w' := by
  have EV : Hid (evI l = evf 2 (runM [17] (rs l) 0 [] [])) := by unfold Hid evI; rw [if_neg h0, if_neg (by rw [hw]; decide), if_neg (by rw [hw]; decide), if_neg (by rw [hw]; decide), if_pos hw]
  have e0 : ((⟨(wd l).toArray⟩ : ByteArray).toList == [109, 97, 107, 101]) = false := by rw [Lib.toList_data, hw]; decide
  have e1 : ((⟨(wd l).toArray⟩ : ByteArray).toList == [112, 111, 108, 108]) = false := by rw [Lib.toList_data, hw]; decide
  have e2 : ((⟨(wd l).toArray⟩ : ByteArray).toList == [105, 109, 97, 112]) = false := by rw [Lib.toList_data, hw]; decide
  have e3 : ((⟨(wd l).toArray⟩ : ByteArray).toList == [110, 110, 116, 112]) = true := by rw [Lib.toList_data, hw]; decide
  have e4 : ((⟨(wd l).toArray⟩ : ByteArray).toList == [99, 108, 111, 115, 101]) = false := by rw [Lib.toList_data, hw]; decide
  have e5 : ((⟨(wd l).toArray⟩ : ByteArray).toList == [115, 97, 121]) = false := by rw [Lib.toList_data, hw]; decide
  have e6 : ((⟨(wd l).toArray⟩ : ByteArray).toList == [99, 114, 97, 115, 104]) = false := by rw [Lib.toList_data, hw]; decide
  have HWD : wds l = wd l :: wds (rs l) := by rw [wds_eq l, if_neg h0]
  have HNUM : Hid (∀ W, Calls Tryd.prog 11 #[.string ⟨(wd (rs l)).toArray⟩] W fun e w' => NumRetZ (wd (rs l)) e ∧ w' = W) := fun W => nz.number_any _ W (by show (wd (rs l)).toArray.size ≤ _; have := wd_len (rs l); have := rs_len l; simp; omega)
  generalize (⟨(wd l).toArray⟩ : ByteArray) = A0 at c0 e0 e1 e2 e3 e4 e5 e6
  by_cases r1 : wd (rs l) = []
  · have hn1 : n = 1 := by rw [hn, HWD, wds_eq (rs l), if_pos r1]; rfl
    subst hn1
    have R1 : Hid (wd (rs l) = []) := r1
    clear hn c1 r1 h0 hw HWD HNUM
    have a0 : ∀ o, (w.alloc o).cell? ⟨b, 0, none⟩ = some (.string A0) := fun o => (((Below.refl _ w).alloc (Nat.le_refl _) o).cell (p := ⟨b, 0, none⟩) (World.block_lt_of_cell? w _ c0)).trans c0
    have HBEL : Hid (∀ o, Below w.heap.size w (w.alloc o)) := fun o => (Below.refl _ w).alloc (Nat.le_refl _) o
    go_enter Tryd.func8, Tryd.ntmps8
    go_wp2
    exact bodyPost_ret (v := .tuple #[EvV 0 0 [] [], .bool false]) (by simp [results, Tryd.results8, go_sem, EvV]) rfl ⟨.inl ⟨_, rfl, ⟨_, _, _, _, rfl⟩, by rw [EV.out, ev_conn, if_pos R1.out]⟩, by first | exact HBEL.out _ | exact (HBEL.out _).drew⟩
  have HW2 : wds (rs l) = wd (rs l) :: wds (rs (rs l)) := by rw [wds_eq (rs l), if_neg r1]
  have R1 : Hid (wd (rs l) ≠ []) := r1
  by_cases r2 : wd (rs (rs l)) = []
  · have hn2 : n = 2 := by rw [hn, HWD, HW2, wds_eq (rs (rs l)), if_pos r2]; rfl
    subst hn2
    have c1' := c1 (by omega)
    have R2 : Hid (wd (rs (rs l)) = []) := r2
    clear hn c1 r1 r2 h0 hw HWD HW2
    have a0 : ∀ o, (w.alloc o).cell? ⟨b, 0, none⟩ = some (.string A0) := fun o => (((Below.refl _ w).alloc (Nat.le_refl _) o).cell (p := ⟨b, 0, none⟩) (World.block_lt_of_cell? w _ c0)).trans c0
    have a1 : ∀ o, (w.alloc o).cell? ⟨b, 1, none⟩ = some (.string ⟨(wd (rs l)).toArray⟩) := fun o => (((Below.refl _ w).alloc (Nat.le_refl _) o).cell (p := ⟨b, 1, none⟩) (World.block_lt_of_cell? w _ c1')).trans c1'
    have HBEL : Hid (∀ o, Below w.heap.size w (w.alloc o)) := fun o => (Below.refl _ w).alloc (Nat.le_refl _) o
    go_enter Tryd.func8, Tryd.ntmps8
    go_wp2_with fail
    refine (HNUM.out _).mono ?_
    rintro e x ⟨⟨z, B, rfl, hz⟩, rfl⟩
    rcases gets_numO hz with ⟨rfl, z0⟩ | ⟨rfl, z0⟩
    · have Z0 : Hid (numO (wd (rs l)) = some z) := z0
      clear hz z0 HNUM
      go_wp2
      exact bodyPost_ret (v := .tuple #[EvV 2 z [] [], .bool true]) (by simp [results, Tryd.results8, go_sem, EvV]) rfl ⟨.inr ⟨_, _, _, _, rfl, by rw [EV.out]; exact ev_conn_ok R1.out Z0.out R2.out⟩, by first | exact HBEL.out _ | exact (HBEL.out _).drew⟩
    · have Z0 : Hid (numO (wd (rs l)) = none) := z0
      clear hz z0 HNUM
      go_wp2
      exact bodyPost_ret (v := .tuple #[EvV 0 0 [] [], .bool false]) (by simp [results, Tryd.results8, go_sem, EvV]) rfl ⟨.inl ⟨_, rfl, ⟨_, _, _, _, rfl⟩, by rw [EV.out]; exact ev_conn_no R1.out Z0.out⟩, by first | exact HBEL.out _ | exact (HBEL.out _).drew⟩
  have R2 : Hid (wd (rs (rs l)) ≠ []) := r2
  have hn3 : 3 ≤ n := by rw [hn, HWD, HW2, wds_eq (rs (rs l)), if_neg r2]; simp
  have c1' := c1 (by omega)
  have hnM : n ≤ 4294967295 := by rw [hn]; exact wds_le l hl
  clear hn c1 r1 r2 h0 hw HWD HW2
  have m0 : (0 : Int) < (n : Int) := by omega
  have m1 : (1 : Int) < (n : Int) := by omega
  have m1d : decide ((1 : Int) < (n : Int)) = true := decide_eq_true m1
  have m2d : decide ((2 : Int) < (n : Int)) = true := decide_eq_true (by omega)
  have m3 : ((n : Int) == 2) = false := beq_eq_false_iff_ne.2 (by omega)
  have m4 : ((n : Int) == 1) = false := beq_eq_false_iff_ne.2 (by omega)
  have a0 : ∀ o, (w.alloc o).cell? ⟨b, 0, none⟩ = some (.string A0) := fun o => (((Below.refl _ w).alloc (Nat.le_refl _) o).cell (p := ⟨b, 0, none⟩) (World.block_lt_of_cell? w _ c0)).trans c0
  have a1 : ∀ o, (w.alloc o).cell? ⟨b, 1, none⟩ = some (.string ⟨(wd (rs l)).toArray⟩) := fun o => (((Below.refl _ w).alloc (Nat.le_refl _) o).cell (p := ⟨b, 1, none⟩) (World.block_lt_of_cell? w _ c1')).trans c1'
  have HBEL : Hid (∀ o, Below w.heap.size w (w.alloc o)) := fun o => (Below.refl _ w).alloc (Nat.le_refl _) o
  go_enter Tryd.func8, Tryd.ntmps8
  go_wp2_with fail
  refine (HNUM.out _).mono ?_
  rintro e x ⟨⟨z, B, rfl, hz⟩, rfl⟩
  rcases gets_numO hz with ⟨rfl, z0⟩ | ⟨rfl, z0⟩
  · have Z0 : Hid (numO (wd (rs l)) = some z) := z0
    clear hz z0 HNUM
    go_wp2
    exact bodyPost_ret (v := .tuple #[EvV 0 0 [] [], .bool false]) (by simp [results, Tryd.results8, go_sem, EvV]) rfl ⟨.inl ⟨_, rfl, ⟨_, _, _, _, rfl⟩, by rw [EV.out]; exact ev_conn_many R1.out Z0.out R2.out⟩, by first | exact HBEL.out _ | exact (HBEL.out _).drew⟩
  · have Z0 : Hid (numO (wd (rs l)) = none) := z0
    clear hz z0 HNUM
    go_wp2
    exact bodyPost_ret (v := .tuple #[EvV 0 0 [] [], .bool false]) (by simp [results, Tryd.results8, go_sem, EvV]) rfl ⟨.inl ⟨_, rfl, ⟨_, _, _, _, rfl⟩, by rw [EV.out]; exact ev_conn_no R1.out Z0.out⟩, by first | exact HBEL.out _ | exact (HBEL.out _).drew⟩

set_option maxHeartbeats 8000000 in
set_option maxRecDepth 100000 in
theorem sread_close (l : List UInt8) (hl : l.length ≤ 1048576) (w : World) (b n cap : Nat) (h0 : wd l ≠ []) (hw : wd l = [99, 108, 111, 115, 101]) (hn : n = (wds l).length) (c0 : w.cell? ⟨b, 0, none⟩ = some (.string ⟨(wd l).toArray⟩)) (c1 : 2 ≤ n → w.cell? ⟨b, 1, none⟩ = some (.string ⟨(wd (rs l)).toArray⟩)) :
    Calls Tryd.prog 8 #[.string ⟨l.toArray⟩, .slice (some ⟨b, 0, none⟩) n cap] w fun e w' => SpRet l e ∧ Below w.heap.size w w' := by
  have EV : Hid (evI l = evf 4 (runM [17] (rs l) 0 [] [])) := by unfold Hid evI; rw [if_neg h0, if_neg (by rw [hw]; decide), if_neg (by rw [hw]; decide), if_neg (by rw [hw]; decide), if_neg (by rw [hw]; decide), if_pos hw]
  have e0 : ((⟨(wd l).toArray⟩ : ByteArray).toList == [109, 97, 107, 101]) = false := by rw [Lib.toList_data, hw]; decide
  have e1 : ((⟨(wd l).toArray⟩ : ByteArray).toList == [112, 111, 108, 108]) = false := by rw [Lib.toList_data, hw]; decide
  have e2 : ((⟨(wd l).toArray⟩ : ByteArray).toList == [105, 109, 97, 112]) = false := by rw [Lib.toList_data, hw]; decide
  have e3 : ((⟨(wd l).toArray⟩ : ByteArray).toList == [110, 110, 116, 112]) = false := by rw [Lib.toList_data, hw]; decide
  have e4 : ((⟨(wd l).toArray⟩ : ByteArray).toList == [99, 108, 111, 115, 101]) = true := by rw [Lib.toList_data, hw]; decide
  have e5 : ((⟨(wd l).toArray⟩ : ByteArray).toList == [115, 97, 121]) = false := by rw [Lib.toList_data, hw]; decide
  have e6 : ((⟨(wd l).toArray⟩ : ByteArray).toList == [99, 114, 97, 115, 104]) = false := by rw [Lib.toList_data, hw]; decide
  have HWD : wds l = wd l :: wds (rs l) := by rw [wds_eq l, if_neg h0]
  have HNUM : Hid (∀ W, Calls Tryd.prog 11 #[.string ⟨(wd (rs l)).toArray⟩] W fun e w' => NumRetZ (wd (rs l)) e ∧ w' = W) := fun W => nz.number_any _ W (by show (wd (rs l)).toArray.size ≤ _; have := wd_len (rs l); have := rs_len l; simp; omega)
  generalize (⟨(wd l).toArray⟩ : ByteArray) = A0 at c0 e0 e1 e2 e3 e4 e5 e6
  by_cases r1 : wd (rs l) = []
  · have hn1 : n = 1 := by rw [hn, HWD, wds_eq (rs l), if_pos r1]; rfl
    subst hn1
    have R1 : Hid (wd (rs l) = []) := r1
    clear hn c1 r1 h0 hw HWD HNUM
    have a0 : ∀ o, (w.alloc o).cell? ⟨b, 0, none⟩ = some (.string A0) := fun o => (((Below.refl _ w).alloc (Nat.le_refl _) o).cell (p := ⟨b, 0, none⟩) (World.block_lt_of_cell? w _ c0)).trans c0
    have HBEL : Hid (∀ o, Below w.heap.size w (w.alloc o)) := fun o => (Below.refl _ w).alloc (Nat.le_refl _) o
    go_enter Tryd.func8, Tryd.ntmps8
    go_wp2
    exact bodyPost_ret (v := .tuple #[EvV 0 0 [] [], .bool false]) (by simp [results, Tryd.results8, go_sem, EvV]) rfl ⟨.inl ⟨_, rfl, ⟨_, _, _, _, rfl⟩, by rw [EV.out, ev_conn, if_pos R1.out]⟩, by first | exact HBEL.out _ | exact (HBEL.out _).drew⟩
  have HW2 : wds (rs l) = wd (rs l) :: wds (rs (rs l)) := by rw [wds_eq (rs l), if_neg r1]
  have R1 : Hid (wd (rs l) ≠ []) := r1
  by_cases r2 : wd (rs (rs l)) = []
  · have hn2 : n = 2 := by rw [hn, HWD, HW2, wds_eq (rs (rs l)), if_pos r2]; rfl
    subst hn2
    have c1' := c1 (by omega)
    have R2 : Hid (wd (rs (rs l)) = []) := r2
    clear hn c1 r1 r2 h0 hw HWD HW2
    have a0 : ∀ o, (w.alloc o).cell? ⟨b, 0, none⟩ = some (.string A0) := fun o => (((Below.refl _ w).alloc (Nat.le_refl _) o).cell (p := ⟨b, 0, none⟩) (World.block_lt_of_cell? w _ c0)).trans c0
    have a1 : ∀ o, (w.alloc o).cell? ⟨b, 1, none⟩ = some (.string ⟨(wd (rs l)).toArray⟩) := fun o => (((Below.refl _ w).alloc (Nat.le_refl _) o).cell (p := ⟨b, 1, none⟩) (World.block_lt_of_cell? w _ c1')).trans c1'
    have HBEL : Hid (∀ o, Below w.heap.size w (w.alloc o)) := fun o => (Below.refl _ w).alloc (Nat.le_refl _) o
    go_enter Tryd.func8, Tryd.ntmps8
    go_wp2_with fail
    refine (HNUM.out _).mono ?_
    rintro e x ⟨⟨z, B, rfl, hz⟩, rfl⟩
    rcases gets_numO hz with ⟨rfl, z0⟩ | ⟨rfl, z0⟩
    · have Z0 : Hid (numO (wd (rs l)) = some z) := z0
      clear hz z0 HNUM
      go_wp2
      exact bodyPost_ret (v := .tuple #[EvV 4 z [] [], .bool true]) (by simp [results, Tryd.results8, go_sem, EvV]) rfl ⟨.inr ⟨_, _, _, _, rfl, by rw [EV.out]; exact ev_conn_ok R1.out Z0.out R2.out⟩, by first | exact HBEL.out _ | exact (HBEL.out _).drew⟩
    · have Z0 : Hid (numO (wd (rs l)) = none) := z0
      clear hz z0 HNUM
      go_wp2
      exact bodyPost_ret (v := .tuple #[EvV 0 0 [] [], .bool false]) (by simp [results, Tryd.results8, go_sem, EvV]) rfl ⟨.inl ⟨_, rfl, ⟨_, _, _, _, rfl⟩, by rw [EV.out]; exact ev_conn_no R1.out Z0.out⟩, by first | exact HBEL.out _ | exact (HBEL.out _).drew⟩
  have R2 : Hid (wd (rs (rs l)) ≠ []) := r2
  have hn3 : 3 ≤ n := by rw [hn, HWD, HW2, wds_eq (rs (rs l)), if_neg r2]; simp
  have c1' := c1 (by omega)
  have hnM : n ≤ 4294967295 := by rw [hn]; exact wds_le l hl
  clear hn c1 r1 r2 h0 hw HWD HW2
  have m0 : (0 : Int) < (n : Int) := by omega
  have m1 : (1 : Int) < (n : Int) := by omega
  have m1d : decide ((1 : Int) < (n : Int)) = true := decide_eq_true m1
  have m2d : decide ((2 : Int) < (n : Int)) = true := decide_eq_true (by omega)
  have m3 : ((n : Int) == 2) = false := beq_eq_false_iff_ne.2 (by omega)
  have m4 : ((n : Int) == 1) = false := beq_eq_false_iff_ne.2 (by omega)
  have a0 : ∀ o, (w.alloc o).cell? ⟨b, 0, none⟩ = some (.string A0) := fun o => (((Below.refl _ w).alloc (Nat.le_refl _) o).cell (p := ⟨b, 0, none⟩) (World.block_lt_of_cell? w _ c0)).trans c0
  have a1 : ∀ o, (w.alloc o).cell? ⟨b, 1, none⟩ = some (.string ⟨(wd (rs l)).toArray⟩) := fun o => (((Below.refl _ w).alloc (Nat.le_refl _) o).cell (p := ⟨b, 1, none⟩) (World.block_lt_of_cell? w _ c1')).trans c1'
  have HBEL : Hid (∀ o, Below w.heap.size w (w.alloc o)) := fun o => (Below.refl _ w).alloc (Nat.le_refl _) o
  go_enter Tryd.func8, Tryd.ntmps8
  go_wp2_with fail
  refine (HNUM.out _).mono ?_
  rintro e x ⟨⟨z, B, rfl, hz⟩, rfl⟩
  rcases gets_numO hz with ⟨rfl, z0⟩ | ⟨rfl, z0⟩
  · have Z0 : Hid (numO (wd (rs l)) = some z) := z0
    clear hz z0 HNUM
    go_wp2
    exact bodyPost_ret (v := .tuple #[EvV 0 0 [] [], .bool false]) (by simp [results, Tryd.results8, go_sem, EvV]) rfl ⟨.inl ⟨_, rfl, ⟨_, _, _, _, rfl⟩, by rw [EV.out]; exact ev_conn_many R1.out Z0.out R2.out⟩, by first | exact HBEL.out _ | exact (HBEL.out _).drew⟩
  · have Z0 : Hid (numO (wd (rs l)) = none) := z0
    clear hz z0 HNUM
    go_wp2
    exact bodyPost_ret (v := .tuple #[EvV 0 0 [] [], .bool false]) (by simp [results, Tryd.results8, go_sem, EvV]) rfl ⟨.inl ⟨_, rfl, ⟨_, _, _, _, rfl⟩, by rw [EV.out]; exact ev_conn_no R1.out Z0.out⟩, by first | exact HBEL.out _ | exact (HBEL.out _).drew⟩

set_option maxHeartbeats 8000000 in
set_option maxRecDepth 100000 in
theorem sread_say (l : List UInt8) (hl : l.length ≤ 1048576) (w : World) (b n cap : Nat) (h0 : wd l ≠ []) (hw : wd l = [115, 97, 121]) (hn : n = (wds l).length) (c0 : w.cell? ⟨b, 0, none⟩ = some (.string ⟨(wd l).toArray⟩)) (c1 : 2 ≤ n → w.cell? ⟨b, 1, none⟩ = some (.string ⟨(wd (rs l)).toArray⟩)) :
    Calls Tryd.prog 8 #[.string ⟨l.toArray⟩, .slice (some ⟨b, 0, none⟩) n cap] w fun e w' => SpRet l e ∧ Below w.heap.size w w' := by
  have EV : Hid (evI l = evf 3 (runM [17, 18] (rs l) 0 [] [])) := by unfold Hid evI; rw [if_neg h0, if_neg (by rw [hw]; decide), if_neg (by rw [hw]; decide), if_neg (by rw [hw]; decide), if_neg (by rw [hw]; decide), if_neg (by rw [hw]; decide), if_pos hw]
  have e0 : ((⟨(wd l).toArray⟩ : ByteArray).toList == [109, 97, 107, 101]) = false := by rw [Lib.toList_data, hw]; decide
  have e1 : ((⟨(wd l).toArray⟩ : ByteArray).toList == [112, 111, 108, 108]) = false := by rw [Lib.toList_data, hw]; decide
  have e2 : ((⟨(wd l).toArray⟩ : ByteArray).toList == [105, 109, 97, 112]) = false := by rw [Lib.toList_data, hw]; decide
  have e3 : ((⟨(wd l).toArray⟩ : ByteArray).toList == [110, 110, 116, 112]) = false := by rw [Lib.toList_data, hw]; decide
  have e4 : ((⟨(wd l).toArray⟩ : ByteArray).toList == [99, 108, 111, 115, 101]) = false := by rw [Lib.toList_data, hw]; decide
  have e5 : ((⟨(wd l).toArray⟩ : ByteArray).toList == [115, 97, 121]) = true := by rw [Lib.toList_data, hw]; decide
  have e6 : ((⟨(wd l).toArray⟩ : ByteArray).toList == [99, 114, 97, 115, 104]) = false := by rw [Lib.toList_data, hw]; decide
  have HWD : wds l = wd l :: wds (rs l) := by rw [wds_eq l, if_neg h0]
  have HNUM : Hid (∀ W, Calls Tryd.prog 11 #[.string ⟨(wd (rs l)).toArray⟩] W fun e w' => NumRetZ (wd (rs l)) e ∧ w' = W) := fun W => nz.number_any _ W (by show (wd (rs l)).toArray.size ≤ _; have := wd_len (rs l); have := rs_len l; simp; omega)
  have HRST : Hid (∀ W, Calls Tryd.prog 12 #[.string ⟨l.toArray⟩, .int .i64 2] W fun e w' => e = .returned (.string ⟨(tb (rs (rs l))).toArray⟩) ∧ w' = W) := fun W => rest2_any ⟨l.toArray⟩ W (by show l.toArray.size ≤ _; simpa using hl)
  have hcat : (⟨(tb (rs (rs l))).toArray⟩ : ByteArray) ++ ⟨#[13, 10]⟩ = ⟨(tb (rs (rs l)) ++ [13, 10]).toArray⟩ := by
    apply ByteArray.ext
    simp
  have hDs : ¬ 9223372036854775807 < (⟨(tb (rs (rs l))).toArray⟩ : ByteArray).size + 2 := by
    have : (⟨(tb (rs (rs l))).toArray⟩ : ByteArray).size = (tb (rs (rs l))).length := by show (tb (rs (rs l))).toArray.size = _; simp
    have := tb_len (rs (rs l))
    have := rs_len (rs l)
    have := rs_len l
    omega
  generalize hD : (⟨(tb (rs (rs l))).toArray⟩ : ByteArray) = D at HRST hcat hDs
  generalize (⟨(wd l).toArray⟩ : ByteArray) = A0 at c0 e0 e1 e2 e3 e4 e5 e6
  by_cases r1 : wd (rs l) = []
  · have hn1 : n = 1 := by rw [hn, HWD, wds_eq (rs l), if_pos r1]; rfl
    subst hn1
    have R1 : Hid (wd (rs l) = []) := r1
    clear hn c1 r1 h0 hw HWD HNUM
    have a0 : ∀ o, (w.alloc o).cell? ⟨b, 0, none⟩ = some (.string A0) := fun o => (((Below.refl _ w).alloc (Nat.le_refl _) o).cell (p := ⟨b, 0, none⟩) (World.block_lt_of_cell? w _ c0)).trans c0
    have HBEL : Hid (∀ o, Below w.heap.size w (w.alloc o)) := fun o => (Below.refl _ w).alloc (Nat.le_refl _) o
    go_enter Tryd.func8, Tryd.ntmps8
    go_wp2
    exact bodyPost_ret (v := .tuple #[EvV 0 0 [] [], .bool false]) (by simp [results, Tryd.results8, go_sem, EvV]) rfl ⟨.inl ⟨_, rfl, ⟨_, _, _, _, rfl⟩, by rw [EV.out, ev_say, if_pos R1.out]⟩, by first | exact HBEL.out _ | exact (HBEL.out _).drew⟩
  have HW2 : wds (rs l) = wd (rs l) :: wds (rs (rs l)) := by rw [wds_eq (rs l), if_neg r1]
  have R1 : Hid (wd (rs l) ≠ []) := r1
  by_cases r2 : wd (rs (rs l)) = []
  · have hn2 : n = 2 := by rw [hn, HWD, HW2, wds_eq (rs (rs l)), if_pos r2]; rfl
    subst hn2
    have c1' := c1 (by omega)
    have R2 : Hid (wd (rs (rs l)) = []) := r2
    clear hn c1 r1 r2 h0 hw HWD HW2
    have a0 : ∀ o, (w.alloc o).cell? ⟨b, 0, none⟩ = some (.string A0) := fun o => (((Below.refl _ w).alloc (Nat.le_refl _) o).cell (p := ⟨b, 0, none⟩) (World.block_lt_of_cell? w _ c0)).trans c0
    have a1 : ∀ o, (w.alloc o).cell? ⟨b, 1, none⟩ = some (.string ⟨(wd (rs l)).toArray⟩) := fun o => (((Below.refl _ w).alloc (Nat.le_refl _) o).cell (p := ⟨b, 1, none⟩) (World.block_lt_of_cell? w _ c1')).trans c1'
    have HBEL : Hid (∀ o, Below w.heap.size w (w.alloc o)) := fun o => (Below.refl _ w).alloc (Nat.le_refl _) o
    go_enter Tryd.func8, Tryd.ntmps8
    go_wp2_with fail
    refine (HNUM.out _).mono ?_
    rintro e x ⟨⟨z, B, rfl, hz⟩, rfl⟩
    rcases gets_numO hz with ⟨rfl, z0⟩ | ⟨rfl, z0⟩
    · have Z0 : Hid (numO (wd (rs l)) = some z) := z0
      clear hz z0 HNUM
      go_wp2_with fail
      refine (HRST.out _).mono ?_
      rintro e x ⟨rfl, rfl⟩
      go_wp2
      exact bodyPost_ret (v := .tuple #[EvV 3 z [] (tb (rs (rs l)) ++ [13, 10]), .bool true]) (by simp [results, Tryd.results8, go_sem, EvV]) rfl ⟨.inr ⟨_, _, _, _, rfl, by rw [EV.out]; exact ev_say_ok R1.out Z0.out⟩, by first | exact HBEL.out _ | exact (HBEL.out _).drew⟩
    · have Z0 : Hid (numO (wd (rs l)) = none) := z0
      clear hz z0 HNUM
      go_wp2
      exact bodyPost_ret (v := .tuple #[EvV 0 0 [] [], .bool false]) (by simp [results, Tryd.results8, go_sem, EvV]) rfl ⟨.inl ⟨_, rfl, ⟨_, _, _, _, rfl⟩, by rw [EV.out]; exact ev_say_no R1.out Z0.out⟩, by first | exact HBEL.out _ | exact (HBEL.out _).drew⟩
  have R2 : Hid (wd (rs (rs l)) ≠ []) := r2
  have hn3 : 3 ≤ n := by rw [hn, HWD, HW2, wds_eq (rs (rs l)), if_neg r2]; simp
  have c1' := c1 (by omega)
  have hnM : n ≤ 4294967295 := by rw [hn]; exact wds_le l hl
  clear hn c1 r1 r2 h0 hw HWD HW2
  have m0 : (0 : Int) < (n : Int) := by omega
  have m1 : (1 : Int) < (n : Int) := by omega
  have m1d : decide ((1 : Int) < (n : Int)) = true := decide_eq_true m1
  have m2d : decide ((2 : Int) < (n : Int)) = true := decide_eq_true (by omega)
  have m3 : ((n : Int) == 2) = false := beq_eq_false_iff_ne.2 (by omega)
  have m4 : ((n : Int) == 1) = false := beq_eq_false_iff_ne.2 (by omega)
  have a0 : ∀ o, (w.alloc o).cell? ⟨b, 0, none⟩ = some (.string A0) := fun o => (((Below.refl _ w).alloc (Nat.le_refl _) o).cell (p := ⟨b, 0, none⟩) (World.block_lt_of_cell? w _ c0)).trans c0
  have a1 : ∀ o, (w.alloc o).cell? ⟨b, 1, none⟩ = some (.string ⟨(wd (rs l)).toArray⟩) := fun o => (((Below.refl _ w).alloc (Nat.le_refl _) o).cell (p := ⟨b, 1, none⟩) (World.block_lt_of_cell? w _ c1')).trans c1'
  have HBEL : Hid (∀ o, Below w.heap.size w (w.alloc o)) := fun o => (Below.refl _ w).alloc (Nat.le_refl _) o
  go_enter Tryd.func8, Tryd.ntmps8
  go_wp2_with fail
  refine (HNUM.out _).mono ?_
  rintro e x ⟨⟨z, B, rfl, hz⟩, rfl⟩
  rcases gets_numO hz with ⟨rfl, z0⟩ | ⟨rfl, z0⟩
  · have Z0 : Hid (numO (wd (rs l)) = some z) := z0
    clear hz z0 HNUM
    go_wp2_with fail
    refine (HRST.out _).mono ?_
    rintro e x ⟨rfl, rfl⟩
    go_wp2
    exact bodyPost_ret (v := .tuple #[EvV 3 z [] (tb (rs (rs l)) ++ [13, 10]), .bool true]) (by simp [results, Tryd.results8, go_sem, EvV]) rfl ⟨.inr ⟨_, _, _, _, rfl, by rw [EV.out]; exact ev_say_ok R1.out Z0.out⟩, by first | exact HBEL.out _ | exact (HBEL.out _).drew⟩
  · have Z0 : Hid (numO (wd (rs l)) = none) := z0
    clear hz z0 HNUM
    go_wp2
    exact bodyPost_ret (v := .tuple #[EvV 0 0 [] [], .bool false]) (by simp [results, Tryd.results8, go_sem, EvV]) rfl ⟨.inl ⟨_, rfl, ⟨_, _, _, _, rfl⟩, by rw [EV.out]; exact ev_say_no R1.out Z0.out⟩, by first | exact HBEL.out _ | exact (HBEL.out _).drew⟩

set_option maxHeartbeats 8000000 in
set_option maxRecDepth 100000 in
theorem sread_crash (l : List UInt8) (hl : l.length ≤ 1048576) (w : World) (b n cap : Nat) (h0 : wd l ≠ []) (hw : wd l = [99, 114, 97, 115, 104]) (hn : n = (wds l).length) (c0 : w.cell? ⟨b, 0, none⟩ = some (.string ⟨(wd l).toArray⟩)) (c1 : 2 ≤ n → w.cell? ⟨b, 1, none⟩ = some (.string ⟨(wd (rs l)).toArray⟩)) :
    Calls Tryd.prog 8 #[.string ⟨l.toArray⟩, .slice (some ⟨b, 0, none⟩) n cap] w fun e w' => SpRet l e ∧ Below w.heap.size w w' := by
  have EV : Hid (evI l = evf 7 (runM ([] : List Nat) (rs l) 0 [] [])) := by unfold Hid evI; rw [if_neg h0, if_neg (by rw [hw]; decide), if_neg (by rw [hw]; decide), if_neg (by rw [hw]; decide), if_neg (by rw [hw]; decide), if_neg (by rw [hw]; decide), if_neg (by rw [hw]; decide), if_pos hw]
  have e0 : ((⟨(wd l).toArray⟩ : ByteArray).toList == [109, 97, 107, 101]) = false := by rw [Lib.toList_data, hw]; decide
  have e1 : ((⟨(wd l).toArray⟩ : ByteArray).toList == [112, 111, 108, 108]) = false := by rw [Lib.toList_data, hw]; decide
  have e2 : ((⟨(wd l).toArray⟩ : ByteArray).toList == [105, 109, 97, 112]) = false := by rw [Lib.toList_data, hw]; decide
  have e3 : ((⟨(wd l).toArray⟩ : ByteArray).toList == [110, 110, 116, 112]) = false := by rw [Lib.toList_data, hw]; decide
  have e4 : ((⟨(wd l).toArray⟩ : ByteArray).toList == [99, 108, 111, 115, 101]) = false := by rw [Lib.toList_data, hw]; decide
  have e5 : ((⟨(wd l).toArray⟩ : ByteArray).toList == [115, 97, 121]) = false := by rw [Lib.toList_data, hw]; decide
  have e6 : ((⟨(wd l).toArray⟩ : ByteArray).toList == [99, 114, 97, 115, 104]) = true := by rw [Lib.toList_data, hw]; decide
  have HWD : wds l = wd l :: wds (rs l) := by rw [wds_eq l, if_neg h0]
  have HNUM : Hid (∀ W, Calls Tryd.prog 11 #[.string ⟨(wd (rs l)).toArray⟩] W fun e w' => NumRetZ (wd (rs l)) e ∧ w' = W) := fun W => nz.number_any _ W (by show (wd (rs l)).toArray.size ≤ _; have := wd_len (rs l); have := rs_len l; simp; omega)
  generalize (⟨(wd l).toArray⟩ : ByteArray) = A0 at c0 e0 e1 e2 e3 e4 e5 e6
  by_cases r1 : wd (rs l) = []
  · have hn1 : n = 1 := by rw [hn, HWD, wds_eq (rs l), if_pos r1]; rfl
    subst hn1
    have R1 : Hid (wd (rs l) = []) := r1
    clear hn c1 r1 h0 hw HWD HNUM
    have a0 : ∀ o, (w.alloc o).cell? ⟨b, 0, none⟩ = some (.string A0) := fun o => (((Below.refl _ w).alloc (Nat.le_refl _) o).cell (p := ⟨b, 0, none⟩) (World.block_lt_of_cell? w _ c0)).trans c0
    have HBEL : Hid (∀ o, Below w.heap.size w (w.alloc o)) := fun o => (Below.refl _ w).alloc (Nat.le_refl _) o
    go_enter Tryd.func8, Tryd.ntmps8
    go_wp2
    exact bodyPost_ret (v := .tuple #[EvV 7 0 [] [], .bool true]) (by simp [results, Tryd.results8, go_sem, EvV]) rfl ⟨.inr ⟨_, _, _, _, rfl, by rw [EV.out, ev_crash, if_pos R1.out]⟩, by first | exact HBEL.out _ | exact (HBEL.out _).drew⟩
  have HW2 : wds (rs l) = wd (rs l) :: wds (rs (rs l)) := by rw [wds_eq (rs l), if_neg r1]
  have R1 : Hid (wd (rs l) ≠ []) := r1
  by_cases r2 : wd (rs (rs l)) = []
  · have hn2 : n = 2 := by rw [hn, HWD, HW2, wds_eq (rs (rs l)), if_pos r2]; rfl
    subst hn2
    have c1' := c1 (by omega)
    have R2 : Hid (wd (rs (rs l)) = []) := r2
    clear hn c1 r1 r2 h0 hw HWD HW2
    have a0 : ∀ o, (w.alloc o).cell? ⟨b, 0, none⟩ = some (.string A0) := fun o => (((Below.refl _ w).alloc (Nat.le_refl _) o).cell (p := ⟨b, 0, none⟩) (World.block_lt_of_cell? w _ c0)).trans c0
    have a1 : ∀ o, (w.alloc o).cell? ⟨b, 1, none⟩ = some (.string ⟨(wd (rs l)).toArray⟩) := fun o => (((Below.refl _ w).alloc (Nat.le_refl _) o).cell (p := ⟨b, 1, none⟩) (World.block_lt_of_cell? w _ c1')).trans c1'
    have HBEL : Hid (∀ o, Below w.heap.size w (w.alloc o)) := fun o => (Below.refl _ w).alloc (Nat.le_refl _) o
    go_enter Tryd.func8, Tryd.ntmps8
    go_wp2_with fail
    refine (HNUM.out _).mono ?_
    rintro e x ⟨⟨z, B, rfl, hz⟩, rfl⟩
    rcases gets_numO hz with ⟨rfl, z0⟩ | ⟨rfl, z0⟩
    · have Z0 : Hid (numO (wd (rs l)) = some z) := z0
      clear hz z0 HNUM
      go_wp2
      exact bodyPost_ret (v := .tuple #[EvV 0 0 [] [], .bool false]) (by simp [results, Tryd.results8, go_sem, EvV]) rfl ⟨.inl ⟨_, rfl, ⟨_, _, _, _, rfl⟩, by rw [EV.out, ev_crash, if_neg R1.out]⟩, by first | exact HBEL.out _ | exact (HBEL.out _).drew⟩
    · have Z0 : Hid (numO (wd (rs l)) = none) := z0
      clear hz z0 HNUM
      go_wp2
      exact bodyPost_ret (v := .tuple #[EvV 0 0 [] [], .bool false]) (by simp [results, Tryd.results8, go_sem, EvV]) rfl ⟨.inl ⟨_, rfl, ⟨_, _, _, _, rfl⟩, by rw [EV.out, ev_crash, if_neg R1.out]⟩, by first | exact HBEL.out _ | exact (HBEL.out _).drew⟩
  have R2 : Hid (wd (rs (rs l)) ≠ []) := r2
  have hn3 : 3 ≤ n := by rw [hn, HWD, HW2, wds_eq (rs (rs l)), if_neg r2]; simp
  have c1' := c1 (by omega)
  have hnM : n ≤ 4294967295 := by rw [hn]; exact wds_le l hl
  clear hn c1 r1 r2 h0 hw HWD HW2
  have m0 : (0 : Int) < (n : Int) := by omega
  have m1 : (1 : Int) < (n : Int) := by omega
  have m1d : decide ((1 : Int) < (n : Int)) = true := decide_eq_true m1
  have m2d : decide ((2 : Int) < (n : Int)) = true := decide_eq_true (by omega)
  have m3 : ((n : Int) == 2) = false := beq_eq_false_iff_ne.2 (by omega)
  have m4 : ((n : Int) == 1) = false := beq_eq_false_iff_ne.2 (by omega)
  have a0 : ∀ o, (w.alloc o).cell? ⟨b, 0, none⟩ = some (.string A0) := fun o => (((Below.refl _ w).alloc (Nat.le_refl _) o).cell (p := ⟨b, 0, none⟩) (World.block_lt_of_cell? w _ c0)).trans c0
  have a1 : ∀ o, (w.alloc o).cell? ⟨b, 1, none⟩ = some (.string ⟨(wd (rs l)).toArray⟩) := fun o => (((Below.refl _ w).alloc (Nat.le_refl _) o).cell (p := ⟨b, 1, none⟩) (World.block_lt_of_cell? w _ c1')).trans c1'
  have HBEL : Hid (∀ o, Below w.heap.size w (w.alloc o)) := fun o => (Below.refl _ w).alloc (Nat.le_refl _) o
  go_enter Tryd.func8, Tryd.ntmps8
  go_wp2_with fail
  refine (HNUM.out _).mono ?_
  rintro e x ⟨⟨z, B, rfl, hz⟩, rfl⟩
  rcases gets_numO hz with ⟨rfl, z0⟩ | ⟨rfl, z0⟩
  · have Z0 : Hid (numO (wd (rs l)) = some z) := z0
    clear hz z0 HNUM
    go_wp2
    exact bodyPost_ret (v := .tuple #[EvV 0 0 [] [], .bool false]) (by simp [results, Tryd.results8, go_sem, EvV]) rfl ⟨.inl ⟨_, rfl, ⟨_, _, _, _, rfl⟩, by rw [EV.out, ev_crash, if_neg R1.out]⟩, by first | exact HBEL.out _ | exact (HBEL.out _).drew⟩
  · have Z0 : Hid (numO (wd (rs l)) = none) := z0
    clear hz z0 HNUM
    go_wp2
    exact bodyPost_ret (v := .tuple #[EvV 0 0 [] [], .bool false]) (by simp [results, Tryd.results8, go_sem, EvV]) rfl ⟨.inl ⟨_, rfl, ⟨_, _, _, _, rfl⟩, by rw [EV.out, ev_crash, if_neg R1.out]⟩, by first | exact HBEL.out _ | exact (HBEL.out _).drew⟩

set_option maxHeartbeats 8000000 in
set_option maxRecDepth 100000 in
theorem sread_other (l : List UInt8) (hl : l.length ≤ 1048576) (w : World) (b n cap : Nat) (h0 : wd l ≠ []) (q0 : wd l ≠ [109, 97, 107, 101]) (q1 : wd l ≠ [112, 111, 108, 108]) (q2 : wd l ≠ [105, 109, 97, 112]) (q3 : wd l ≠ [110, 110, 116, 112]) (q4 : wd l ≠ [99, 108, 111, 115, 101]) (q5 : wd l ≠ [115, 97, 121]) (q6 : wd l ≠ [99, 114, 97, 115, 104]) (hn : n = (wds l).length) (c0 : w.cell? ⟨b, 0, none⟩ = some (.string ⟨(wd l).toArray⟩)) (c1 : 2 ≤ n → w.cell? ⟨b, 1, none⟩ = some (.string ⟨(wd (rs l)).toArray⟩)) :
    Calls Tryd.prog 8 #[.string ⟨l.toArray⟩, .slice (some ⟨b, 0, none⟩) n cap] w fun e w' => SpRet l e ∧ Below w.heap.size w w' := by
  have EV : Hid (evI l = none) := by unfold Hid evI; rw [if_neg h0, if_neg q0, if_neg q1, if_neg q2, if_neg q3, if_neg q4, if_neg q5, if_neg q6]
  have e0 : ((⟨(wd l).toArray⟩ : ByteArray).toList == [109, 97, 107, 101]) = false := by rw [Lib.toList_data]; exact beq_eq_false_iff_ne.2 q0
  have e1 : ((⟨(wd l).toArray⟩ : ByteArray).toList == [112, 111, 108, 108]) = false := by rw [Lib.toList_data]; exact beq_eq_false_iff_ne.2 q1
  have e2 : ((⟨(wd l).toArray⟩ : ByteArray).toList == [105, 109, 97, 112]) = false := by rw [Lib.toList_data]; exact beq_eq_false_iff_ne.2 q2
  have e3 : ((⟨(wd l).toArray⟩ : ByteArray).toList == [110, 110, 116, 112]) = false := by rw [Lib.toList_data]; exact beq_eq_false_iff_ne.2 q3
  have e4 : ((⟨(wd l).toArray⟩ : ByteArray).toList == [99, 108, 111, 115, 101]) = false := by rw [Lib.toList_data]; exact beq_eq_false_iff_ne.2 q4
  have e5 : ((⟨(wd l).toArray⟩ : ByteArray).toList == [115, 97, 121]) = false := by rw [Lib.toList_data]; exact beq_eq_false_iff_ne.2 q5
  have e6 : ((⟨(wd l).toArray⟩ : ByteArray).toList == [99, 114, 97, 115, 104]) = false := by rw [Lib.toList_data]; exact beq_eq_false_iff_ne.2 q6
  have HWD : wds l = wd l :: wds (rs l) := by rw [wds_eq l, if_neg h0]
  have HNUM : Hid (∀ W, Calls Tryd.prog 11 #[.string ⟨(wd (rs l)).toArray⟩] W fun e w' => NumRetZ (wd (rs l)) e ∧ w' = W) := fun W => nz.number_any _ W (by show (wd (rs l)).toArray.size ≤ _; have := wd_len (rs l); have := rs_len l; simp; omega)
  generalize (⟨(wd l).toArray⟩ : ByteArray) = A0 at c0 e0 e1 e2 e3 e4 e5 e6
  by_cases r1 : wd (rs l) = []
  · have hn1 : n = 1 := by rw [hn, HWD, wds_eq (rs l), if_pos r1]; rfl
    subst hn1
    have R1 : Hid (wd (rs l) = []) := r1
    clear hn c1 r1 h0 q0 q1 q2 q3 q4 q5 q6 HWD HNUM
    have a0 : ∀ o, (w.alloc o).cell? ⟨b, 0, none⟩ = some (.string A0) := fun o => (((Below.refl _ w).alloc (Nat.le_refl _) o).cell (p := ⟨b, 0, none⟩) (World.block_lt_of_cell? w _ c0)).trans c0
    have HBEL : Hid (∀ o, Below w.heap.size w (w.alloc o)) := fun o => (Below.refl _ w).alloc (Nat.le_refl _) o
    go_enter Tryd.func8, Tryd.ntmps8
    go_wp2
    exact bodyPost_ret (v := .tuple #[EvV 0 0 [] [], .bool false]) (by simp [results, Tryd.results8, go_sem, EvV]) rfl ⟨.inl ⟨_, rfl, ⟨_, _, _, _, rfl⟩, EV.out⟩, by first | exact HBEL.out _ | exact (HBEL.out _).drew⟩
  have HW2 : wds (rs l) = wd (rs l) :: wds (rs (rs l)) := by rw [wds_eq (rs l), if_neg r1]
  have R1 : Hid (wd (rs l) ≠ []) := r1
  by_cases r2 : wd (rs (rs l)) = []
  · have hn2 : n = 2 := by rw [hn, HWD, HW2, wds_eq (rs (rs l)), if_pos r2]; rfl
    subst hn2
    have c1' := c1 (by omega)
    have R2 : Hid (wd (rs (rs l)) = []) := r2
    clear hn c1 r1 r2 h0 q0 q1 q2 q3 q4 q5 q6 HWD HW2
    have a0 : ∀ o, (w.alloc o).cell? ⟨b, 0, none⟩ = some (.string A0) := fun o => (((Below.refl _ w).alloc (Nat.le_refl _) o).cell (p := ⟨b, 0, none⟩) (World.block_lt_of_cell? w _ c0)).trans c0
    have a1 : ∀ o, (w.alloc o).cell? ⟨b, 1, none⟩ = some (.string ⟨(wd (rs l)).toArray⟩) := fun o => (((Below.refl _ w).alloc (Nat.le_refl _) o).cell (p := ⟨b, 1, none⟩) (World.block_lt_of_cell? w _ c1')).trans c1'
    have HBEL : Hid (∀ o, Below w.heap.size w (w.alloc o)) := fun o => (Below.refl _ w).alloc (Nat.le_refl _) o
    go_enter Tryd.func8, Tryd.ntmps8
    go_wp2_with fail
    refine (HNUM.out _).mono ?_
    rintro e x ⟨⟨z, B, rfl, hz⟩, rfl⟩
    rcases gets_numO hz with ⟨rfl, z0⟩ | ⟨rfl, z0⟩
    · have Z0 : Hid (numO (wd (rs l)) = some z) := z0
      clear hz z0 HNUM
      go_wp2
      exact bodyPost_ret (v := .tuple #[EvV 0 0 [] [], .bool false]) (by simp [results, Tryd.results8, go_sem, EvV]) rfl ⟨.inl ⟨_, rfl, ⟨_, _, _, _, rfl⟩, EV.out⟩, by first | exact HBEL.out _ | exact (HBEL.out _).drew⟩
    · have Z0 : Hid (numO (wd (rs l)) = none) := z0
      clear hz z0 HNUM
      go_wp2
      exact bodyPost_ret (v := .tuple #[EvV 0 0 [] [], .bool false]) (by simp [results, Tryd.results8, go_sem, EvV]) rfl ⟨.inl ⟨_, rfl, ⟨_, _, _, _, rfl⟩, EV.out⟩, by first | exact HBEL.out _ | exact (HBEL.out _).drew⟩
  have R2 : Hid (wd (rs (rs l)) ≠ []) := r2
  have hn3 : 3 ≤ n := by rw [hn, HWD, HW2, wds_eq (rs (rs l)), if_neg r2]; simp
  have c1' := c1 (by omega)
  have hnM : n ≤ 4294967295 := by rw [hn]; exact wds_le l hl
  clear hn c1 r1 r2 h0 q0 q1 q2 q3 q4 q5 q6 HWD HW2
  have m0 : (0 : Int) < (n : Int) := by omega
  have m1 : (1 : Int) < (n : Int) := by omega
  have m1d : decide ((1 : Int) < (n : Int)) = true := decide_eq_true m1
  have m2d : decide ((2 : Int) < (n : Int)) = true := decide_eq_true (by omega)
  have m3 : ((n : Int) == 2) = false := beq_eq_false_iff_ne.2 (by omega)
  have m4 : ((n : Int) == 1) = false := beq_eq_false_iff_ne.2 (by omega)
  have a0 : ∀ o, (w.alloc o).cell? ⟨b, 0, none⟩ = some (.string A0) := fun o => (((Below.refl _ w).alloc (Nat.le_refl _) o).cell (p := ⟨b, 0, none⟩) (World.block_lt_of_cell? w _ c0)).trans c0
  have a1 : ∀ o, (w.alloc o).cell? ⟨b, 1, none⟩ = some (.string ⟨(wd (rs l)).toArray⟩) := fun o => (((Below.refl _ w).alloc (Nat.le_refl _) o).cell (p := ⟨b, 1, none⟩) (World.block_lt_of_cell? w _ c1')).trans c1'
  have HBEL : Hid (∀ o, Below w.heap.size w (w.alloc o)) := fun o => (Below.refl _ w).alloc (Nat.le_refl _) o
  go_enter Tryd.func8, Tryd.ntmps8
  go_wp2_with fail
  refine (HNUM.out _).mono ?_
  rintro e x ⟨⟨z, B, rfl, hz⟩, rfl⟩
  rcases gets_numO hz with ⟨rfl, z0⟩ | ⟨rfl, z0⟩
  · have Z0 : Hid (numO (wd (rs l)) = some z) := z0
    clear hz z0 HNUM
    go_wp2
    exact bodyPost_ret (v := .tuple #[EvV 0 0 [] [], .bool false]) (by simp [results, Tryd.results8, go_sem, EvV]) rfl ⟨.inl ⟨_, rfl, ⟨_, _, _, _, rfl⟩, EV.out⟩, by first | exact HBEL.out _ | exact (HBEL.out _).drew⟩
  · have Z0 : Hid (numO (wd (rs l)) = none) := z0
    clear hz z0 HNUM
    go_wp2
    exact bodyPost_ret (v := .tuple #[EvV 0 0 [] [], .bool false]) (by simp [results, Tryd.results8, go_sem, EvV]) rfl ⟨.inl ⟨_, rfl, ⟨_, _, _, _, rfl⟩, EV.out⟩, by first | exact HBEL.out _ | exact (HBEL.out _).drew⟩
end Go.Proofs.YtocmcbcijmjlhaaDoor.cn
