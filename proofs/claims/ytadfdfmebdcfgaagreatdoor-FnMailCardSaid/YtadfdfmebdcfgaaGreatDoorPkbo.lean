/-
  A law for a range over a function whose iterator keeps its state in a captured cell, and whose body always goes on.
  The contract of the iterator that strings.SplitSeq hands back, at a separator of two bytes.
  The contract of strings.SplitSeq: three boxes are laid.
  The contract of the specification's LongestLine.
  The contract of the program's LongestLine.
-/
import Derived.RangeFuncNested
import Derived.RangeFuncBound
import Derived.RangeFuncCalls
import Derived.RangeFuncLeaves
import Derived.Shelf.Abstract
import Derived.Shelf.RegionOpen
import Derived.WalkKit
import Derived.OwnWalkIn
import Derived.TacticsInMore
import Derived.LoopNIn
import Derived.LoopIn
import Derived.Test.YtadfdfmebdcfgaaGreatDoorPkag
import Derived.Test.YtadfdfmebdcfgaaGreatDoorRows
import Derived.WalkLawsBesides
import Derived.Test.YtadfdfmebdcfgaaGreatDoorPkab

namespace Go.Proofs.YtadfdfmebdcfgaaGreatDoor.rl
open Go.RowKit Go.Shelf
set_option linter.unusedVariables false

/-- A cell holds what it held. -/
def Same (c : Nat) (w w' : World) : Prop := w'.cell? ⟨c, 0, none⟩ = w.cell? ⟨c, 0, none⟩ ∧ w'.frozen? ⟨c, 0, none⟩ = w.frozen? ⟨c, 0, none⟩
theorem same_trans {c : Nat} {a b d : World} (h : Same c a b) (k : Same c b d) : Same c a d := ⟨k.1.trans h.1, k.2.trans h.2⟩
theorem same_block {c : Nat} {w w' : World} (h : w'.heap[c]? = w.heap[c]?) : Same c w w' := ⟨World.cell?_of_block h, World.frozen?_of_block h⟩
theorem same_alloc {c : Nat} {w : World} (h : c < w.heap.size) (o : Obj) : Same c w (w.alloc o) := same_block (Below.heap_alloc _ _ _ h)
theorem same_put {c l : Nat} {w : World} (h : c ≠ l) (o : Obj) : Same c w (w.putObj l o) := same_block (World.putObj_heap_other h)
/-- How a round ends: it goes on. -/
def goesOn (I : World → Prop) (c : Nat) (W : World) : Exit → Act → World → Prop
  | .normal, _, W' => KeepsOthers W W' ∧ Same c W W' ∧ I W'
  | _, _, _ => False

variable {F : Fence} {n : Nat} {P : Program}
theorem range_law {α : Type} {g : Operand} {ps : Array Tmp} {assign body : Code} {Q : Exit → Act → World → Prop} {a : Act} {w : World}
    (hro : F.round = none) (h1 : 1 ≤ n) {gf : Nat} {lb : Array Value} (hg : a.eval g = .func (.func gf) #[] lb) (hFg : F.fn gf) (eg : ∀ args w, (callFunc gf args).run P w = .ok (.enter gf args) w)
    {encs : α → Array Value} (hps : ∀ x, (encs x).size = ps.size) (cs : Nat) (hcs : cs < w.heap.size) (S : List α → Prop)
    (I : List α → World → Prop) (hI : OwnFrom w.heap.size I) (h0 : I [] w) (a₁ : α → Act)
    (hassign : ∀ (l : Nat) (x : α) (W : World) (K : Act → World → Prop), K (a₁ x) W →
      assign.wpIn (F.inRound l) (n - 1 - 1) P (Exit.then K (fun _ _ _ => False)) { tmps := (ps.zip (encs x)).foldl (fun t (p, v) => t.setIfInBounds p v) a.tmps, defers := [] } W)
    (hbody : ∀ (l : Nat) (pre : List α) (x : α) (W : World), I pre W → body.wpIn (F.inRound l) (n - 1 - 1) P (goesOn (I (pre ++ [x])) cs W) (a₁ x) W)
    (hseq : ∀ (l : Nat) (J : List α → World → Prop) (W : World), (∀ pre W, J pre W → I pre W) → (∀ pre W v, J pre W → I pre (W.setCell ⟨cs, 0, none⟩ v) → J pre (W.setCell ⟨cs, 0, none⟩ v)) → Same cs w W →
      (∀ pre x W1, J pre W1 → YieldAt F (n - 1 - 1) P l (encs x) W1 fun e W' => e = .returned (.bool true) ∧ J (pre ++ [x]) W' ∧ Same cs W1 W') → J [] W →
      CallsIn F (n - 1) P gf (#[.func (.yield l) #[] #[]] ++ lb) W fun e W' => (∃ v, e = .returned v) ∧ ∃ xs, S xs ∧ J xs W')
    (hdone : ∀ (D : Nat) (xs : List α) (W : World), w.heap.size ≤ D → S xs → I xs W → W.heap[D]? = some (.deferred (some [])) → Q .normal { a with defers := { target := .collected D, args := #[] } :: a.defers } W) :
    (Code.rangeFunc g ps assign body).wpIn F n P Q a w := by
  refine wpIn_rangeFunc (fun fn hfn => ?_)
  rw [hro]
  let rec0 : LoopState → Option Code → Loop := fun st pe => { state := st, pending := pe, fn, tmps := a.tmps, params := ps, assign, body, defers := w.heap.size }
  obtain ⟨rc, hrc⟩ : ∃ rc, rc = rec0 := ⟨_, rfl⟩
  obtain ⟨W1, hW1⟩ : ∃ W1, W1 = (w.alloc (.deferred (some []))).alloc (.loop (rc .ready none)) := ⟨_, rfl⟩
  have hL1 : W1.heap[w.heap.size + 1]? = some (.loop (rc .ready none)) := by
    have := World.alloc_heap_new (w.alloc (.deferred (some []))) (.loop (rc .ready none))
    rw [World.size_alloc] at this
    rw [hW1]
    exact this
  have hK1 : W1.heap[w.heap.size]? = some (.deferred (some [])) := by
    rw [hW1]
    exact (Below.heap_alloc _ _ _ (by simp)).trans (World.alloc_heap_new w _)
  have hI1 : I [] W1 := by rw [hW1]; exact hI.alloc _ (hI.alloc _ h0)
  have hS1 : Same cs w W1 := by rw [hW1]; exact same_trans (same_alloc hcs _) (same_alloc (by simp; omega) _)
  refine ⟨w.heap.size + 1, [{ target := .collected w.heap.size, args := #[] }], W1, { target := .fn (.func gf) lb, args := #[.func (.yield (w.heap.size + 1)) #[] #[]] }, W1, gf,
    #[.func (.yield (w.heap.size + 1)) #[] #[]] ++ lb, W1, ?_, ?_, ?_, ?_, fun _ => h1, ?_⟩
  · rw [hW1, hrc]
    exact run_enterLoop_outer _ _ _ _ _
  · simp only [resolve, hg]
    simp [go_sem]
  · intro f' hf'
    simp [Target.leads] at hf'
    subst hf'
    exact hFg
  · simp [invoke, go_sem, eg]
  · refine (hseq (w.heap.size + 1) (fun pre W => I pre W ∧ W.heap[w.heap.size + 1]? = some (.loop (rc .ready none)) ∧ W.heap[w.heap.size]? = some (.deferred (some []))) W1
      (fun _ _ h => h.1)
      (fun pre W v h hi => ⟨hi, (Below.heap_setCell _ _ _ _ (by simp; omega)).trans h.2.1, (Below.heap_setCell _ _ _ _ (by simp; omega)).trans h.2.2⟩)
      hS1 ?_ ⟨hI1, hL1, hK1⟩).mono ?_
    · rintro pre x W ⟨hi, hl, hk⟩
      have hlt : w.heap.size + 1 < W.heap.size := (Array.getElem?_eq_some_iff.1 hl).1
      have hy := run_yield (P := P) (args := encs x) hl (by rw [hrc]; exact hps x)
      rw [hrc] at hy
      refine ⟨fn, _, assign, body, hy, roundIn_of_wpIn hfn (hassign _ x W _ ⟨_, run_beginRound hl (by rw [hrc]), ?_⟩)⟩
      obtain ⟨W2, hW2⟩ : ∃ W2, W2 = W.putObj (w.heap.size + 1) (.loop { rc .ready none with state := .busy }) := ⟨_, rfl⟩
      have hl2 : W2.heap[w.heap.size + 1]? = some (.loop { rc .ready none with state := .busy }) := by rw [hW2]; exact World.putObj_heap_same hlt
      have hk2 : W2.heap[w.heap.size]? = some (.deferred (some [])) := by rw [hW2]; exact (World.putObj_heap_other (by omega)).trans hk
      have hi2 : I pre W2 := by rw [hW2]; exact hI.putObj _ hi (by omega) hl rfl
      have hs2 : Same cs W W2 := by rw [hW2]; exact same_put (by omega) _
      rw [← hW2]
      refine wpIn_mono (hbody _ pre x _ hi2) ?_
      rintro e a3 W3 hp
      cases e with
      | normal =>
        obtain ⟨hk3, hs3, hi3⟩ := hp
        have hl3 := hk3.same _ _ hl2 rfl
        have hd3 := hk3.same _ _ hk2 rfl
        have hr := run_endRound (P := P) none hl3
        refine ⟨_, _, hr, rfl, ⟨hI.putObj _ hi3 (by omega) hl3 rfl, ?_, (World.putObj_heap_other (by omega)).trans hd3⟩, same_trans hs2 (same_trans hs3 (same_put (by omega) _))⟩
        rw [World.putObj_heap_same (Array.getElem?_eq_some_iff.1 hl3).1, hrc]
        rfl
      | ret => exact hp.elim
      | exit id => exact hp.elim
      | goto t => exact hp.elim
      | panic ch => exact hp.elim
      | outgrown => exact hp.elim
    · rintro e W2 ⟨⟨v, rfl⟩, xs, hS, hi, hl, hk⟩
      refine ⟨none, _, by have := run_endLoop (P := P) hl (by rw [hrc]; simp [rec0]); rw [hrc] at this; exact this, ?_⟩
      exact hdone _ xs _ (Nat.le_refl _) hS (hI.putObj _ hi (by omega) hl rfl) ((World.putObj_heap_other (by omega)).trans hk)
end Go.Proofs.YtadfdfmebdcfgaaGreatDoor.rl

namespace Go.Proofs.YtadfdfmebdcfgaaGreatDoor.ln
open Go.RowKit Go.Shelf
attribute [local go_sem] Oper.semAt_some
set_option linter.unusedVariables false

/-- How long the text in a cell is. -/
def leftIn (c : Nat) (w : World) : Nat := match w.cell? ⟨c, 0, none⟩ with | some (.string t) => t.size | _ => 0
theorem leftIn_eq {c : Nat} {w : World} {t : ByteArray} (h : w.cell? ⟨c, 0, none⟩ = some (.string t)) : leftIn c w = t.size := by unfold leftIn; rw [h]

set_option maxRecDepth 100000 in
set_option maxHeartbeats 4000000 in
theorem split_in (F : Fence) (n : Nat) (hF : F.fn 131) (hFi : F.fn 65) (hro : F.round = none) (hn : 1 ≤ n) (l cp cs cv : Nat) (s : ByteArray) (hs : s.size ≤ 65536) (J : List ByteArray → World → Prop)
    (hR : ∀ pre W, J pre W → W.cell? ⟨cp, 0, none⟩ = some (.string ⟨#[13, 10]⟩) ∧ W.cell? ⟨cv, 0, none⟩ = some (.int .i64 0))
    (hIx : ∀ pre W t, J pre W → t.size ≤ 65536 → CallsIn F (n - 1) Tryz.prog 65 #[.string t, .string ⟨#[13, 10]⟩] W fun e W' => e = .returned (.int .i64 (Lib.index t.data.toList cr)) ∧ W' = W)
    (hJs : ∀ pre W v, J pre W → J pre (W.setCell ⟨cs, 0, none⟩ v))
    (hY : ∀ pre x W1, J pre W1 → YieldAt F (n - 1) Tryz.prog l #[.string x] W1 fun e W' => e = .returned (.bool true) ∧ J (pre ++ [x]) W' ∧ rl.Same cs W1 W')
    (W : World) (hcs : W.cell? ⟨cs, 0, none⟩ = some (.string s)) (hfs : W.frozen? ⟨cs, 0, none⟩ = false) (h0 : J [] W) :
    CallsIn F n Tryz.prog 131 #[.func (.yield l) #[] #[], .pointer (some ⟨cp, 0, none⟩), .pointer (some ⟨cs, 0, none⟩), .pointer (some ⟨cv, 0, none⟩)] W fun e W' => (∃ v, e = .returned v) ∧
      ∃ xs, mx xs = ll s.data.toList ∧ J xs W' := by
  refine callsIn_of_wp Tryz.func131 rfl hF ?_ hro
  simp only [Tryz.ntmps131, List.size_toArray, List.length_cons, List.length_nil, Nat.reduceAdd, Nat.reduceSub, Array.replicate_succ, Array.replicate_zero, List.push_toArray, List.append_toArray, List.nil_append, List.cons_append]
  have hcp := (hR _ _ h0).1
  gi_wp2
  gi_loopw [] (fun wr => ∃ (pre : List ByteArray) (t : ByteArray), J pre wr ∧ wr.cell? ⟨cs, 0, none⟩ = some (.string t) ∧ wr.frozen? ⟨cs, 0, none⟩ = false ∧ t.size ≤ 65536 ∧ max (mx pre) (ll t.data.toList) = ll s.data.toList)
    (fun wr => leftIn cs wr)
  case atStart => exact ⟨[], s, h0, hcs, hfs, hs, by simp [mx]⟩
  case round =>
    obtain ⟨pre, t, hJp, hct, hft, hts, hmx⟩ := hrel
    obtain ⟨hcp1, hcv1⟩ := hR _ _ hJp
    have HI := hIx pre wr t hJp hts
    have HM : Hid (max (mx pre) (ll t.data.toList) = ll s.data.toList) := hmx
    clear hmx hcp hcs hfs h0
    have hge := Lib.index_ge t.data.toList cr
    by_cases hi : Lib.index t.data.toList cr = -1
    · have HL : Hid (ll t.data.toList = t.size) := by rw [Lib.size_eq]; exact ll_all hi
      rw [hi] at HI
      obtain ⟨fn, tmps, assign, body, hy, hR1⟩ := hY pre t wr hJp
      clear hge hi
      gi_wp2_with (gi_at_call 65; refine HI.mono ?_; rintro e w' ⟨rfl, rfl⟩)
      refine hR1.mono ?_
      rintro e W3 ⟨rfl, hJ3, hk3⟩
      gi_wp2
      go_end0
      exact ⟨⟨_, rfl⟩, pre ++ [t], by rw [mx_snoc, ← HL.out]; exact HM.out, hJ3⟩
    · obtain ⟨i, hi'⟩ : ∃ i : Nat, Lib.index t.data.toList cr = i := ⟨(Lib.index t.data.toList cr).toNat, by omega⟩
      have hroom := Lib.index_room t.data.toList cr (by omega)
      rw [hi'] at HI hroom
      have hir : i + 2 ≤ t.size := by rw [Lib.size_eq]; rw [show cr.length = 2 from rfl] at hroom; omega
      have HL : Hid (ll t.data.toList = max i (ll (t.data.toList.drop (i + 2)))) := ll_first hi'
      obtain ⟨fn, tmps, assign, body, hy, hR1⟩ := hY pre (t.extract 0 i) wr hJp
      clear hge hi hi' hroom
      gi_wp2_with (gi_at_call 65; refine HI.mono ?_; rintro e w' ⟨rfl, rfl⟩)
      refine hR1.mono ?_
      rintro e W3 ⟨rfl, hJ3, hk3⟩
      obtain ⟨hcp3, hcv3⟩ := hR _ _ hJ3
      have hc3 := hk3.1.trans hct
      have hf3 := hk3.2.trans hft
      clear hy hR1 HI
      gi_wp2
      go_roundw
      case rel =>
        refine ⟨pre ++ [t.extract 0 i], t.extract (i + 2) t.size, hJs _ _ _ hJ3, World.cell?_setCell_same' _ _ _ (by rw [hc3]; rfl), by rw [World.frozen?_setCell]; exact hf3, by rw [ByteArray.size_extract]; omega, ?_⟩
        rw [mx_snoc, ByteArray.size_extract, ← HM.out, HL.out]
        have e : (t.extract (i + 2) t.size).data.toList = t.data.toList.drop (i + 2) := by
          rw [ByteArray.data_extract, Array.toList_extract, List.extract_eq_drop_take', List.take_of_length_le (by simp)]
        rw [e]
        omega
      case measure =>
        rw [leftIn_eq (World.cell?_setCell_same' _ _ _ (by rw [hc3]; rfl)), leftIn_eq hct, ByteArray.size_extract]
        omega
end Go.Proofs.YtadfdfmebdcfgaaGreatDoor.ln

namespace Go.Proofs.YtadfdfmebdcfgaaGreatDoor.ln
open Go.RowKit
set_option linter.unusedVariables false

/-- The iterator that SplitSeq hands back in this world. -/
def seqOf (w : World) : Value := .func (.func 131) #[] #[.pointer (some ⟨w.heap.size + 1, 0, none⟩), .pointer (some ⟨w.heap.size, 0, none⟩), .pointer (some ⟨w.heap.size + 1 + 1, 0, none⟩)]
def seqW (s p : ByteArray) (w : World) : World := ((w.alloc (.cells #[.string s] 9)).alloc (.cells #[.string p] 9)).alloc (.cells #[.int .i64 0] 3)

set_option maxHeartbeats 2000000 in
theorem splitSeq_any (s p : ByteArray) (w : World) :
    Calls Tryz.prog 75 #[.string s, .string p, .int .i64 0] w fun e w' => e = .returned (seqOf w) ∧ w' = seqW s p w := by
  go_enter Tryz.func75, Tryz.ntmps75
  go_wp2
  go_ret
  exact ⟨rfl, rfl⟩
set_option maxHeartbeats 2000000 in
theorem SplitSeq_any (s p : ByteArray) (w : World) :
    Calls Tryz.prog 32 #[.string s, .string p] w fun e w' => e = .returned (seqOf w) ∧ w' = seqW s p w := by
  go_enter Tryz.func32, Tryz.ntmps32
  go_wp2_with (refine (splitSeq_any s p _).mono ?_; rintro e w' ⟨rfl, rfl⟩)
  go_ret
  exact ⟨rfl, rfl⟩
end Go.Proofs.YtadfdfmebdcfgaaGreatDoor.ln

namespace Go.Proofs.YtadfdfmebdcfgaaGreatDoor.ln
open Go.RowKit
set_option linter.unusedVariables false

def lret (s : ByteArray) : Int := if s.size ≤ 65536 then (ll s.data.toList : Int) else 0

end Go.Proofs.YtadfdfmebdcfgaaGreatDoor.ln

namespace Go.Proofs.YtadfdfmebdcfgaaGreatDoor.ln
open Go.RowKit Go.Shelf
attribute [local go_sem] Oper.semAt_some
set_option linter.unusedVariables false

theorem bx_new (W : World) (v : Value) (t : TypeId) : (W.alloc (.cells #[v] t)).cell? ⟨W.heap.size, 0, none⟩ = some v ∧ (W.alloc (.cells #[v] t)).frozen? ⟨W.heap.size, 0, none⟩ = false := by
  have h : (W.alloc (.cells #[v] t)).heap[W.heap.size]? = some (.cells #[v] t (0, 0)) := World.alloc_heap_new W _
  exact ⟨Lib.cell_of_heap h 0, Lib.frozen_of_heap h 0⟩
theorem bx_cell {W : World} {a : Addr} {v : Value} (o : Obj) (h : W.cell? a = some v) : (W.alloc o).cell? a = some v := cell_kept h (World.grownBy_alloc W o none) (fun r e => by cases e)
theorem bx_frozen {W : World} {a : Addr} {v : Value} (o : Obj) (h : W.cell? a = some v) (hf : W.frozen? a = false) : (W.alloc o).frozen? a = false := (frozen_kept h (World.grownBy_alloc W o none) (fun r e => by cases e)).trans hf

set_option maxRecDepth 100000 in
set_option maxHeartbeats 4000000 in
theorem impl_in (F : Fence) (n : Nat) (hF : F.fn 12) (hF1 : F.fn 32) (hF2 : F.fn 131) (hF3 : F.fn 65) (hro : F.round = none) (hn : 3 ≤ n) (s : ByteArray) (m : Int) (w : World) (hs : s.size ≤ maxLen)
    (hm : w.cell? ⟨4, 0, none⟩ = some (.int .i64 m))
    (hSp : ∀ W, CallsIn F (n - 1) Tryz.prog 32 #[.string s, .string ⟨#[13, 10]⟩] W fun e W' => e = .returned (seqOf W) ∧ W' = seqW s ⟨#[13, 10]⟩ W)
    (hIx : ∀ W t, W.cell? ⟨4, 0, none⟩ = some (.int .i64 m) → t.size ≤ 65536 → CallsIn F (n - 1 - 1) Tryz.prog 65 #[.string t, .string ⟨#[13, 10]⟩] W fun e W' => e = .returned (.int .i64 (Lib.index t.data.toList cr)) ∧ W' = W) :
    CallsIn F n Tryz.prog 12 #[.string s] w fun e W' => e = .returned (.int .i64 (lret s)) ∧ Below w.heap.size w W' := by
  have h1 : 1 ≤ n := by omega
  unfold maxLen at hs
  refine callsIn_of_wp_marks Tryz.func12 rfl hF ?_ hro
  simp only [Tryz.ntmps12, List.size_toArray, List.length_cons, List.length_nil, Nat.reduceAdd, Nat.reduceSub, Array.replicate_succ, Array.replicate_zero, List.push_toArray, List.append_toArray, List.nil_append, List.cons_append]
  by_cases h : s.size ≤ 65536
  case neg =>
    have h' : (65536 : Int) < (s.size : Int) := by omega
    have HL : Hid (lret s = 0) := if_neg h
    gi_wp2
    exact ⟨_, results_tmp rfl _ _ _, by rw [HL.out]; rfl, Below.refl _ _⟩
  have h' : (s.size : Int) ≤ 65536 := by omega
  have HL : Hid (lret s = (ll s.data.toList : Int)) := if_pos h
  have hml := World.block_lt_of_cell? _ _ hm
  have HM : Hid (∀ W, Below w.heap.size w W → W.cell? ⟨4, 0, none⟩ = some (.int .i64 m)) := fun W hW => (hW.cell (p := ⟨4, 0, none⟩) hml).trans hm
  clear hm hml
  gi_wp2_with (gi_at_call 32; refine (hSp _).mono ?_; rintro e w' ⟨rfl, rfl⟩)
  clear hSp
  simp only [seqOf, seqW, World.size_alloc]
  have c0 := bx_new w (.int .i64 0) 3
  have c1 := bx_new (w.alloc (.cells #[.int .i64 0] 3)) (.string s) 9
  have c2 := bx_new ((w.alloc (.cells #[.int .i64 0] 3)).alloc (.cells #[.string s] 9)) (.string ⟨#[13, 10]⟩) 9
  have c3 := bx_new (((w.alloc (.cells #[.int .i64 0] 3)).alloc (.cells #[.string s] 9)).alloc (.cells #[.string ⟨#[13, 10]⟩] 9)) (.int .i64 0) 3
  simp only [World.size_alloc] at c1 c2 c3
  have hB0 : Below w.heap.size w ((((w.alloc (.cells #[.int .i64 0] 3)).alloc (.cells #[.string s] 9)).alloc (.cells #[.string ⟨#[13, 10]⟩] 9)).alloc (.cells #[.int .i64 0] 3)) := ((((Below.refl _ w).alloc (Nat.le_refl _) _).alloc (by simp) _).alloc (by simp; omega) _).alloc (by simp; omega) _
  refine rl.range_law (α := ByteArray) hro h1 (gf := 131) (lb := #[.pointer (some ⟨w.heap.size + 1 + 1, 0, none⟩), .pointer (some ⟨w.heap.size + 1, 0, none⟩), .pointer (some ⟨w.heap.size + 1 + 1 + 1, 0, none⟩)]) rfl hF2 (enters_of Tryz.func131 (by kernel_rfl) rfl)
    (encs := fun x => #[.string x]) (fun _ => rfl) (w.heap.size + 1) (by simp) (fun xs => mx xs = ll s.data.toList)
    (fun pre W => (W.cell? ⟨w.heap.size, 0, none⟩ = some (.int .i64 (mx pre)) ∧ W.frozen? ⟨w.heap.size, 0, none⟩ = false ∧ W.cell? ⟨w.heap.size + 1 + 1, 0, none⟩ = some (.string ⟨#[13, 10]⟩) ∧ W.cell? ⟨w.heap.size + 1 + 1 + 1, 0, none⟩ = some (.int .i64 0)) ∧ Below w.heap.size w W)
    (OwnFrom.and (Own.from (fun s A B row hs hg hr => ⟨cell_kept hs.1 hg hr, (frozen_kept hs.1 hg hr).trans hs.2.1, cell_kept hs.2.2.1 hg hr, cell_kept hs.2.2.2 hg hr⟩) _) (ownFrom_below (Nat.le_refl _) (by simp; omega)))
    ⟨⟨bx_cell _ (bx_cell _ (bx_cell _ c0.1)), bx_frozen _ (bx_cell _ (bx_cell _ c0.1)) (bx_frozen _ (bx_cell _ c0.1) (bx_frozen _ c0.1 c0.2)), bx_cell _ c2.1, c3.1⟩, hB0⟩
    (fun x => { tmps := #[.string s, undef, .int .i64 0, .pointer (some ⟨w.heap.size, 0, none⟩), .string x, .string s, .int .i64 s.size, .bool (decide (65536 < (s.size : Int))), .string s, .func (.func 131) #[] #[.pointer (some ⟨w.heap.size + 1 + 1, 0, none⟩), .pointer (some ⟨w.heap.size + 1, 0, none⟩), .pointer (some ⟨w.heap.size + 1 + 1 + 1, 0, none⟩)], .string x, undef, undef, undef, undef, undef], defers := [] }) ?assign ?body ?seq ?done
  case assign =>
    intro l x W K hK
    gi_wp2
    exact hK
  case body =>
    rintro l pre x W ⟨⟨hc, hf, hp, hv⟩, hB⟩
    gi_wp2
    have e : (mx (pre ++ [x]) : Int) = max (mx pre : Int) (x.size : Int) := by rw [mx_snoc]; omega
    refine ⟨KeepsOthers.setCell _ _ _, ⟨World.cell?_setCell_other _ _ _ _ (by simp), by rw [World.frozen?_setCell]⟩, ⟨?_, by rw [World.frozen?_setCell]; exact hf, (World.cell?_setCell_other _ _ _ _ (by simp)).trans hp, (World.cell?_setCell_other _ _ _ _ (by simp)).trans hv⟩, hB.setCell (p := ⟨w.heap.size, 0, none⟩) (Nat.le_refl _) _⟩
    rw [e]
    exact World.cell?_setCell_same' _ _ _ (by rw [hc]; rfl)
  case seq =>
    intro l J W hJI hJs hS hY h0
    refine split_in F (n - 1) hF2 hF3 hro (by omega) l _ _ _ s h J (fun pre W hJ => ⟨(hJI _ _ hJ).1.2.2.1, (hJI _ _ hJ).1.2.2.2⟩) (fun pre W t hJ ht => hIx _ _ (HM.out _ (hJI _ _ hJ).2) ht) (fun pre W v hJ => hJs _ _ _ hJ ?_) hY W (hS.1.trans (bx_cell _ (bx_cell _ c1.1))) (hS.2.trans (bx_frozen _ (bx_cell _ c1.1) (bx_frozen _ c1.1 c1.2))) h0
    obtain ⟨⟨hc, hf, hp, hv⟩, hB⟩ := hJI _ _ hJ
    exact ⟨⟨(World.cell?_setCell_other _ _ _ _ (by simp)).trans hc, by rw [World.frozen?_setCell]; exact hf, (World.cell?_setCell_other _ _ _ _ (by simp)).trans hp, (World.cell?_setCell_other _ _ _ _ (by simp)).trans hv⟩, hB.setCell (p := ⟨w.heap.size + 1, 0, none⟩) (by simp) _⟩
  case done =>
    rintro D ys W hD hy ⟨⟨hc, _⟩, hB⟩ hK
    gi_wp2
    refine ⟨by simp, .inl ⟨_, _, rfl, run_takeDeferred hK, ?_⟩⟩
    exact ⟨_, results_tmp rfl _ _ _, by rw [HL.out, ← hy]; rfl, hB.trans (belowK_b (w := w) (Nat.le_refl _) W D _ _ (by simp at hD; omega) hK rfl rfl)⟩
/-- The contract at the wide fence: a call. -/
theorem impl_any (s : ByteArray) (m : Int) (w : World) (hs : s.size ≤ maxLen) (hm : w.cell? ⟨4, 0, none⟩ = some (.int .i64 m)) :
    Calls Tryz.prog 12 #[.string s] w fun e W' => e = .returned (.int .i64 (lret s)) ∧ Below w.heap.size w W' :=
  callsIn_wide.1 (impl_in Fence.wide 3 trivial trivial trivial trivial rfl (Nat.le_refl _) s m w hs hm (fun W => callsIn_wide.2 (SplitSeq_any s _ W)) (fun W t hW ht => callsIn_wide.2 (Tryz.strings_Index t ⟨#[13, 10]⟩ m W (by omega) hW)))
end Go.Proofs.YtadfdfmebdcfgaaGreatDoor.ln
