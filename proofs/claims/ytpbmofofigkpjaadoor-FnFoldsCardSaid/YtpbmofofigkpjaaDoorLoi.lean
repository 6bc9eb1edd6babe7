/-
  The contract of the program's LongestLine.
-/
import Derived.Test.YtpbmofofigkpjaaDoorSpi
import Derived.Test.YtpbmofofigkpjaaDoorSps
import Derived.Test.YtpbmofofigkpjaaDoorLos
import Derived.Test.YtpbmofofigkpjaaDoorShf
namespace Go.Proofs.YtpbmofofigkpjaaDoor.ln
open Go.RowKit Go.Shelf
attribute [local go_sem] Oper.semAt_some
set_option linter.unusedVariables false

theorem bx_new (W : World) (v : Value) (t : TypeId) : (W.alloc (.cells #[v] t)).cell? ⟨W.heap.size, 0, none⟩ = some v ∧ (W.alloc (.cells #[v] t)).frozen? ⟨W.heap.size, 0, none⟩ = false := by
  have h : (W.alloc (.cells #[v] t)).heap[W.heap.size]? = some (.cells #[v] t (0, 0)) := World.alloc_heap_new W _
  exact ⟨Lib.cell_of_heap h 0, Lib.frozen_of_heap h 0⟩
theorem bx_cell {W : World} {a : Addr} {v : Value} (o : Obj) (h : W.cell? a = some v) : (W.alloc o).cell? a = some v := cell_kept h (World.grownBy_alloc W o none) (fun r e => by cases e)
theorem bx_frozen {W : World} {a : Addr} {v : Value} (o : Obj) (h : W.cell? a = some v) (hf : W.frozen? a = false) : (W.alloc o).frozen? a = false := (frozen_kept h (World.grownBy_alloc W o none) (fun r e => by cases e)).trans hf

set_option maxRecDepth 100000 in
set_option maxHeartbeats 4000000 in
theorem impl_in (F : Fence) (n : Nat) (hF : F.fn 12) (hF1 : F.fn 34) (hF2 : F.fn 82) (hF3 : F.fn 63) (hro : F.round = none) (hn : 3 ≤ n) (s : ByteArray) (m : Int) (w : World) (hs : s.size ≤ maxLen)
    (hm : w.cell? ⟨3, 0, none⟩ = some (.int .i64 m))
    (hSp : ∀ W, CallsIn F (n - 1) Tryd.prog 34 #[.string s, .string ⟨#[13, 10]⟩] W fun e W' => e = .returned (seqOf W) ∧ W' = seqW s ⟨#[13, 10]⟩ W)
    (hIx : ∀ W t, W.cell? ⟨3, 0, none⟩ = some (.int .i64 m) → t.size ≤ 65536 → CallsIn F (n - 1 - 1) Tryd.prog 63 #[.string t, .string ⟨#[13, 10]⟩] W fun e W' => e = .returned (.int .i64 (Lib.index t.data.toList cr)) ∧ W' = W) :
    CallsIn F n Tryd.prog 12 #[.string s] w fun e W' => e = .returned (.int .i64 (lret s)) ∧ Below w.heap.size w W' := by
  have h1 : 1 ≤ n := by omega
  unfold maxLen at hs
  refine callsIn_of_wp_marks Tryd.func12 rfl hF ?_ hro
  simp only [Tryd.ntmps12, List.size_toArray, List.length_cons, List.length_nil, Nat.reduceAdd, Nat.reduceSub, Array.replicate_succ, Array.replicate_zero, List.push_toArray, List.append_toArray, List.nil_append, List.cons_append]
  by_cases h : s.size ≤ 65536
  case neg =>
    have h' : (65536 : Int) < (s.size : Int) := by omega
    have HL : Hid (lret s = 0) := if_neg h
    gi_wp2
    exact ⟨_, results_tmp rfl _ _ _, by rw [HL.out]; rfl, Below.refl _ _⟩
  have h' : (s.size : Int) ≤ 65536 := by omega
  have HL : Hid (lret s = (ll s.data.toList : Int)) := if_pos h
  have hml := World.block_lt_of_cell? _ _ hm
  have HM : Hid (∀ W, Below w.heap.size w W → W.cell? ⟨3, 0, none⟩ = some (.int .i64 m)) := fun W hW => (hW.cell (p := ⟨3, 0, none⟩) hml).trans hm
  clear hm hml
  gi_wp2_with (gi_at_call 34; refine (hSp _).mono ?_; rintro e w' ⟨rfl, rfl⟩)
  clear hSp
  simp only [seqOf, seqW, World.size_alloc]
  have c0 := bx_new w (.int .i64 0) 3
  have c1 := bx_new (w.alloc (.cells #[.int .i64 0] 3)) (.string s) 9
  have c2 := bx_new ((w.alloc (.cells #[.int .i64 0] 3)).alloc (.cells #[.string s] 9)) (.string ⟨#[13, 10]⟩) 9
  have c3 := bx_new (((w.alloc (.cells #[.int .i64 0] 3)).alloc (.cells #[.string s] 9)).alloc (.cells #[.string ⟨#[13, 10]⟩] 9)) (.int .i64 0) 3
  simp only [World.size_alloc] at c1 c2 c3
  have hB0 : Below w.heap.size w ((((w.alloc (.cells #[.int .i64 0] 3)).alloc (.cells #[.string s] 9)).alloc (.cells #[.string ⟨#[13, 10]⟩] 9)).alloc (.cells #[.int .i64 0] 3)) := ((((Below.refl _ w).alloc (Nat.le_refl _) _).alloc (by simp) _).alloc (by simp; omega) _).alloc (by simp; omega) _
  refine rl.range_law (α := ByteArray) hro h1 (gf := 82) (lb := #[.pointer (some ⟨w.heap.size + 1 + 1, 0, none⟩), .pointer (some ⟨w.heap.size + 1, 0, none⟩), .pointer (some ⟨w.heap.size + 1 + 1 + 1, 0, none⟩)]) rfl hF2 (enters_of Tryd.func82 (by kernel_rfl) rfl)
    (encs := fun x => #[.string x]) (fun _ => rfl) (w.heap.size + 1) (by simp) (fun xs => mx xs = ll s.data.toList)
    (fun pre W => (W.cell? ⟨w.heap.size, 0, none⟩ = some (.int .i64 (mx pre)) ∧ W.frozen? ⟨w.heap.size, 0, none⟩ = false ∧ W.cell? ⟨w.heap.size + 1 + 1, 0, none⟩ = some (.string ⟨#[13, 10]⟩) ∧ W.cell? ⟨w.heap.size + 1 + 1 + 1, 0, none⟩ = some (.int .i64 0)) ∧ Below w.heap.size w W)
    (OwnFrom.and (Own.from (fun s A B row hs hg hr => ⟨cell_kept hs.1 hg hr, (frozen_kept hs.1 hg hr).trans hs.2.1, cell_kept hs.2.2.1 hg hr, cell_kept hs.2.2.2 hg hr⟩) _) (ownFrom_below (Nat.le_refl _) (by simp; omega)))
    ⟨⟨bx_cell _ (bx_cell _ (bx_cell _ c0.1)), bx_frozen _ (bx_cell _ (bx_cell _ c0.1)) (bx_frozen _ (bx_cell _ c0.1) (bx_frozen _ c0.1 c0.2)), bx_cell _ c2.1, c3.1⟩, hB0⟩
    (fun x => { tmps := #[.string s, undef, .int .i64 0, .pointer (some ⟨w.heap.size, 0, none⟩), .string x, .string s, .int .i64 s.size, .bool (decide (65536 < (s.size : Int))), .string s, .func (.func 82) #[] #[.pointer (some ⟨w.heap.size + 1 + 1, 0, none⟩), .pointer (some ⟨w.heap.size + 1, 0, none⟩), .pointer (some ⟨w.heap.size + 1 + 1 + 1, 0, none⟩)], .string x, undef, undef, undef, undef, undef], defers := [] }) ?assign ?body ?seq ?done
  case assign =>
    intro l x W K hK
    gi_wp2
    exact hK
  case body =>
    rintro l pre x W ⟨⟨hc, hf, hp, hv⟩, hB⟩
    gi_wp2
    have e : (mx (pre ++ [x]) : Int) = max (mx pre : Int) (x.size : Int) := by rw [mx_snoc]; omega
    refine ⟨KeepsOthers.setCell _ _ _, ⟨World.cell?_setCell_other _ _ _ _ (by simp), by rw [World.frozen?_setCell]⟩, ⟨?_, by rw [World.frozen?_setCell]; exact hf, (World.cell?_setCell_other _ _ _ _ (by simp)).trans hp, (World.cell?_setCell_other _ _ _ _ (by simp)).trans hv⟩, hB.setCell (p := ⟨w.heap.size, 0, none⟩) (Nat.le_refl _) _⟩
    rw [e]
    exact World.cell?_setCell_same' _ _ _ (by rw [hc]; rfl)
  case seq =>
    intro l J W hJI hJs hS hY h0
    refine split_in F (n - 1) hF2 hF3 hro (by omega) l _ _ _ s h J (fun pre W hJ => ⟨(hJI _ _ hJ).1.2.2.1, (hJI _ _ hJ).1.2.2.2⟩) (fun pre W t hJ ht => hIx _ _ (HM.out _ (hJI _ _ hJ).2) ht) (fun pre W v hJ => hJs _ _ _ hJ ?_) hY W (hS.1.trans (bx_cell _ (bx_cell _ c1.1))) (hS.2.trans (bx_frozen _ (bx_cell _ c1.1) (bx_frozen _ c1.1 c1.2))) h0
    obtain ⟨⟨hc, hf, hp, hv⟩, hB⟩ := hJI _ _ hJ
    exact ⟨⟨(World.cell?_setCell_other _ _ _ _ (by simp)).trans hc, by rw [World.frozen?_setCell]; exact hf, (World.cell?_setCell_other _ _ _ _ (by simp)).trans hp, (World.cell?_setCell_other _ _ _ _ (by simp)).trans hv⟩, hB.setCell (p := ⟨w.heap.size + 1, 0, none⟩) (by simp) _⟩
  case done =>
    rintro D ys W hD hy ⟨⟨hc, _⟩, hB⟩ hK
    gi_wp2
    refine ⟨by simp, .inl ⟨_, _, rfl, run_takeDeferred hK, ?_⟩⟩
    exact ⟨_, results_tmp rfl _ _ _, by rw [HL.out, ← hy]; rfl, hB.trans (belowK_b (w := w) (Nat.le_refl _) W D _ _ (by simp at hD; omega) hK rfl rfl)⟩
/-- The contract at the wide fence: a call. -/
theorem impl_any (s : ByteArray) (m : Int) (w : World) (hs : s.size ≤ maxLen) (hm : w.cell? ⟨3, 0, none⟩ = some (.int .i64 m)) :
    Calls Tryd.prog 12 #[.string s] w fun e W' => e = .returned (.int .i64 (lret s)) ∧ Below w.heap.size w W' :=
  callsIn_wide.1 (impl_in Fence.wide 3 trivial trivial trivial trivial rfl (Nat.le_refl _) s m w hs hm (fun W => callsIn_wide.2 (SplitSeq_any s _ W)) (fun W t hW ht => callsIn_wide.2 (Tryd.strings_Index t ⟨#[13, 10]⟩ m W (by omega) hW)))
end Go.Proofs.YtpbmofofigkpjaaDoor.ln
