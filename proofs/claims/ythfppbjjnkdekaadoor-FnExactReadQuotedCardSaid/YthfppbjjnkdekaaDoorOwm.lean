/-
  Plain facts on a row that a call owns while another block is laid and written.
-/
import Derived.Test.YthfppbjjnkdekaaDoorOwn
import Derived.Lib.Builder
namespace Go.Proofs.YthfppbjjnkdekaaDoor.ow
open Go.RowKit
set_option linter.unusedVariables false

theorem own_ne_block {w : World} {base e size n g : Nat} {v : Value} {xs : List Value} (h : w.ownsRow base e size v n xs) (hg : w.heap.size ≤ g) : v.ownBlock ≠ some g := by
  rcases h.2 with ⟨rfl, _⟩ | ⟨b, cap, cur, rfl, _, c, _⟩
  · exact fun x => by cases x
  · intro x
    have e : b = g := by simpa [Value.ownBlock] using x
    have := (Array.getElem?_eq_some_iff.1 c).1
    omega
/-- A block was laid, and an order drawn. -/
theorem built {w wr W : World} {base e size n : Nat} {v : Value} {xs : List Value} {cs : Array Value} {t : TypeId} (hW : W = (wr.alloc (.cells cs t)).drew) (hown : wr.ownsRow base e size v n xs) (hbw : Below base w wr) (hB : base ≤ wr.heap.size) :
    W.ownsRow base e size v n xs ∧ Below base w W ∧ W.heap[wr.heap.size]? = some (.cells cs t (0, 0)) ∧ v.ownBlock ≠ some wr.heap.size ∧ W.heap.size = wr.heap.size + 1 := by
  subst hW
  refine ⟨own_below hown (((Below.refl _ _).alloc (Nat.le_refl _) _).drew), (hbw.alloc hB _).drew, ?_, own_ne_block hown (Nat.le_refl _), ?_⟩
  · show (wr.heap.push (.cells cs t))[wr.heap.size]? = _
    simp
  · show (wr.heap.push (.cells cs t)).size = _
    simp
theorem laid {w wr W : World} {base e size n : Nat} {v : Value} {xs : List Value} {cs : Array Value} {t : TypeId} (hW : W = wr.alloc (.cells cs t)) (hown : wr.ownsRow base e size v n xs) (hbw : Below base w wr) (hB : base ≤ wr.heap.size) :
    W.ownsRow base e size v n xs ∧ Below base w W ∧ W.heap[wr.heap.size]? = some (.cells cs t (0, 0)) ∧ v.ownBlock ≠ some wr.heap.size ∧ W.heap.size = wr.heap.size + 1 := by
  subst hW
  refine ⟨own_below hown ((Below.refl _ _).alloc (Nat.le_refl _) _), hbw.alloc hB _, ?_, own_ne_block hown (Nat.le_refl _), ?_⟩
  · show (wr.heap.push (.cells cs t))[wr.heap.size]? = _
    simp
  · show (wr.heap.push (.cells cs t)).size = _
    simp
/-- A cell of that block is written. -/
theorem wrote {w W : World} {base e size n g : Nat} {v : Value} {xs : List Value} {cs : Array Value} {t : TypeId} (j : Nat) (u : Value) (hown : W.ownsRow base e size v n xs) (hbw : Below base w W) (hg : base ≤ g) (hblk : W.heap[g]? = some (.cells cs t (0, 0))) (hne : v.ownBlock ≠ some g) :
    (W.setCell ⟨g, j, none⟩ u).ownsRow base e size v n xs ∧ Below base w (W.setCell ⟨g, j, none⟩ u) ∧ (W.setCell ⟨g, j, none⟩ u).heap[g]? = some (.cells (cs.setIfInBounds j u) t (0, 0)) ∧ (W.setCell ⟨g, j, none⟩ u).heap.size = W.heap.size := by
  refine ⟨?_, hbw.setCell (p := ⟨g, j, none⟩) hg _, ?_, ?_⟩
  · refine hown.kept (row := some g) ⟨rfl, rfl, rfl, by simp [World.setCell], fun k _ hk => Below.heap_setCell _ _ _ _ (fun e => hk (by simp [e]))⟩ (Or.inr hne)
  · simp [World.setCell, Array.getElem?_modify, hblk]
  · simp [World.setCell]
theorem set_blk {W : World} {g : Nat} {cs : Array Value} {t : TypeId} (hblk : W.heap[g]? = some (.cells cs t (0, 0))) (j : Nat) (u : Value) : (W.setCell ⟨g, j, none⟩ u).heap[g]? = some (.cells (cs.setIfInBounds j u) t (0, 0)) := by
  simp [World.setCell, Array.getElem?_modify, hblk]
theorem cell_blk {W : World} {g : Nat} {cs : Array Value} {t : TypeId} (hblk : W.heap[g]? = some (.cells cs t (0, 0))) (j : Nat) : W.cell? ⟨g, j, none⟩ = cs[j]? := Lib.cell_of_heap hblk j
theorem frozen_blk {W : World} {g : Nat} {cs : Array Value} {t : TypeId} (hblk : W.heap[g]? = some (.cells cs t (0, 0))) (j : Nat) : W.frozen? ⟨g, j, none⟩ = false := Lib.frozen_of_heap hblk j
theorem news_blk {W : World} {g : Nat} {cs : Array Value} {t : TypeId} {xs : List Value} (hblk : W.heap[g]? = some (.cells cs t (0, 0))) (hxs : ∀ (j : Nat) (u : Value), xs[j]? = some u → cs[j]? = some u) : ∀ (j : Nat) (u : Value), xs[j]? = some u → W.cell? ((⟨g, 0, none⟩ : Addr).add j) = some u := by
  intro j u hj
  rw [add_at, cell_blk hblk]
  exact hxs j u hj
theorem reads_below {k : IntKind} {w w' : World} {v : Value} {zs : List Int} (h : Reads k w v zs) (hb : Below w.heap.size w w') : Reads k w' v zs :=
  reads_keep h fun a u ha => (hb.cell (World.block_lt_of_cell? w _ ha)).trans ha
theorem one_bytes (l : List UInt8) : ∀ u ∈ Lib.byteCells l, u.oneCell' = true := by
  intro u hu
  obtain ⟨x, _, rfl⟩ := List.mem_map.1 hu
  rfl
end Go.Proofs.YthfppbjjnkdekaaDoor.ow
