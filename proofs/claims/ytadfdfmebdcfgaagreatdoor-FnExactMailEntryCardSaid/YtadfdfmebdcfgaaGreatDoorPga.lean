/-
  Plain facts on a row that a call owns while another block is laid and written.
  A row of bytes that a call made, cell by cell: also one that a text was turned into, behind which a mark lies; appending to it.
  Letters of either size: both functions that write a text in small letters.
  Fields as rows of pairs of texts: read by the law's own measure, copy and comparison.
  Plain facts on a variable of two cells that a call laid.
  The first field of a name, in letters of either size: both searches.
  The contract of the program's (header).has: whether a mail has each field of some names.
-/
import Derived.Test.YtadfdfmebdcfgaaGreatDoorOwn
import Derived.Lib.Builder
import Derived.Lib.ConvBytes
import Derived.Lib.AtoiErrMem
import Derived.Lib.Strings
import Derived.Laws.IdiomCopy
import Derived.Laws.Append
import Derived.Maps.AppendAt
import Derived.Test.YtadfdfmebdcfgaaGreatDoorRows
import Derived.WalkKit
import Derived.WalkLawsBesides
import Derived.Below
import Derived.Test.YtadfdfmebdcfgaaGreatDoorGrw
import Derived.Test.YtadfdfmebdcfgaaGreatDoorShf

namespace Go.Proofs.YtadfdfmebdcfgaaGreatDoor.ow
open Go.RowKit
set_option linter.unusedVariables false

theorem own_ne_block {w : World} {base e size n g : Nat} {v : Value} {xs : List Value} (h : w.ownsRow base e size v n xs) (hg : w.heap.size ≤ g) : v.ownBlock ≠ some g := by
  rcases h.2 with ⟨rfl, _⟩ | ⟨b, cap, cur, rfl, _, c, _⟩
  · exact fun x => by cases x
  · intro x
    have e : b = g := by simpa [Value.ownBlock] using x
    have := (Array.getElem?_eq_some_iff.1 c).1
    omega
/-- A block was laid, and an order drawn. -/
theorem built {w wr W : World} {base e size n : Nat} {v : Value} {xs : List Value} {cs : Array Value} {t : TypeId} (hW : W = (wr.alloc (.cells cs t)).drew) (hown : wr.ownsRow base e size v n xs) (hbw : Below base w wr) (hB : base ≤ wr.heap.size) :
    W.ownsRow base e size v n xs ∧ Below base w W ∧ W.heap[wr.heap.size]? = some (.cells cs t (0, 0)) ∧ v.ownBlock ≠ some wr.heap.size ∧ W.heap.size = wr.heap.size + 1 := by
  subst hW
  refine ⟨own_below hown (((Below.refl _ _).alloc (Nat.le_refl _) _).drew), (hbw.alloc hB _).drew, ?_, own_ne_block hown (Nat.le_refl _), ?_⟩
  · show (wr.heap.push (.cells cs t))[wr.heap.size]? = _
    simp
  · show (wr.heap.push (.cells cs t)).size = _
    simp
theorem laid {w wr W : World} {base e size n : Nat} {v : Value} {xs : List Value} {cs : Array Value} {t : TypeId} (hW : W = wr.alloc (.cells cs t)) (hown : wr.ownsRow base e size v n xs) (hbw : Below base w wr) (hB : base ≤ wr.heap.size) :
    W.ownsRow base e size v n xs ∧ Below base w W ∧ W.heap[wr.heap.size]? = some (.cells cs t (0, 0)) ∧ v.ownBlock ≠ some wr.heap.size ∧ W.heap.size = wr.heap.size + 1 := by
  subst hW
  refine ⟨own_below hown ((Below.refl _ _).alloc (Nat.le_refl _) _), hbw.alloc hB _, ?_, own_ne_block hown (Nat.le_refl _), ?_⟩
  · show (wr.heap.push (.cells cs t))[wr.heap.size]? = _
    simp
  · show (wr.heap.push (.cells cs t)).size = _
    simp
/-- A cell of that block is written. -/
theorem wrote {w W : World} {base e size n g : Nat} {v : Value} {xs : List Value} {cs : Array Value} {t : TypeId} (j : Nat) (u : Value) (hown : W.ownsRow base e size v n xs) (hbw : Below base w W) (hg : base ≤ g) (hblk : W.heap[g]? = some (.cells cs t (0, 0))) (hne : v.ownBlock ≠ some g) :
    (W.setCell ⟨g, j, none⟩ u).ownsRow base e size v n xs ∧ Below base w (W.setCell ⟨g, j, none⟩ u) ∧ (W.setCell ⟨g, j, none⟩ u).heap[g]? = some (.cells (cs.setIfInBounds j u) t (0, 0)) ∧ (W.setCell ⟨g, j, none⟩ u).heap.size = W.heap.size := by
  refine ⟨?_, hbw.setCell (p := ⟨g, j, none⟩) hg _, ?_, ?_⟩
  · refine hown.kept (row := some g) ⟨rfl, rfl, rfl, by simp [World.setCell], fun k _ hk => Below.heap_setCell _ _ _ _ (fun e => hk (by simp [e]))⟩ (Or.inr hne)
  · simp [World.setCell, Array.getElem?_modify, hblk]
  · simp [World.setCell]
theorem set_blk {W : World} {g : Nat} {cs : Array Value} {t : TypeId} (hblk : W.heap[g]? = some (.cells cs t (0, 0))) (j : Nat) (u : Value) : (W.setCell ⟨g, j, none⟩ u).heap[g]? = some (.cells (cs.setIfInBounds j u) t (0, 0)) := by
  simp [World.setCell, Array.getElem?_modify, hblk]
theorem cell_blk {W : World} {g : Nat} {cs : Array Value} {t : TypeId} (hblk : W.heap[g]? = some (.cells cs t (0, 0))) (j : Nat) : W.cell? ⟨g, j, none⟩ = cs[j]? := Lib.cell_of_heap hblk j
theorem frozen_blk {W : World} {g : Nat} {cs : Array Value} {t : TypeId} (hblk : W.heap[g]? = some (.cells cs t (0, 0))) (j : Nat) : W.frozen? ⟨g, j, none⟩ = false := Lib.frozen_of_heap hblk j
theorem news_blk {W : World} {g : Nat} {cs : Array Value} {t : TypeId} {xs : List Value} (hblk : W.heap[g]? = some (.cells cs t (0, 0))) (hxs : ∀ (j : Nat) (u : Value), xs[j]? = some u → cs[j]? = some u) : ∀ (j : Nat) (u : Value), xs[j]? = some u → W.cell? ((⟨g, 0, none⟩ : Addr).add j) = some u := by
  intro j u hj
  rw [add_at, cell_blk hblk]
  exact hxs j u hj
theorem reads_below {k : IntKind} {w w' : World} {v : Value} {zs : List Int} (h : Reads k w v zs) (hb : Below w.heap.size w w') : Reads k w' v zs :=
  reads_keep h fun a u ha => (hb.cell (World.block_lt_of_cell? w _ ha)).trans ha
theorem one_bytes (l : List UInt8) : ∀ u ∈ Lib.byteCells l, u.oneCell' = true := by
  intro u hu
  obtain ⟨x, _, rfl⟩ := List.mem_map.1 hu
  rfl
/-- A slice value under which these bytes lie. -/
def Lies (w : World) (v : Value) (l : List UInt8) : Prop :=
  ∃ ao cap, v = .slice ao l.length cap ∧ (l = [] ∨ ∃ b, ao = some ⟨b, 0, none⟩ ∧ l.length ≤ cap ∧ ∀ j, j < l.length → w.cell? ⟨b, j, none⟩ = some (.int .u8 ((l.getD j 0).toNat : Int)))
theorem lies_own {w : World} {base e : Nat} {v : Value} {l : List UInt8} (h : w.ownsRow base e 1 v l.length (Lib.byteCells l)) : Lies w v l := by
  rcases h.2 with ⟨hv, h0⟩ | ⟨g, cap, cur, hv, _, _, hc, _⟩
  · exact ⟨none, 0, by rw [hv, h0], .inl (List.eq_nil_of_length_eq_zero h0)⟩
  · refine ⟨_, cap, hv, .inr ⟨g, rfl, hc, fun j hj => ?_⟩⟩
    subst hv
    rw [h.cellAt j (by omega)]
    simp [Lib.byteCells, hj]
/-- The bytes of a text, behind its conversion. -/
theorem lies_conv (w : World) (e : TypeId) (s : ByteArray) : Lies (Lib.bytesWorld w e s) (.slice (some ⟨w.heap.size, 0, none⟩) s.size (grownCap w s.size 0 e)) s.data.toList := by
  refine ⟨_, _, by rw [← Lib.size_eq], .inr ⟨_, rfl, by rw [← Lib.size_eq]; exact grownCap_ge _ _ _ _, fun j hj => ?_⟩⟩
  rw [Lib.bytesWorld_cell w e s j (by rw [Lib.size_eq]; exact hj)]
theorem reads_lies {w : World} {v : Value} {l : List UInt8} (h : Lies w v l) : Reads .u8 w v (l.map fun b => (b.toNat : Int)) := by
  obtain ⟨ao, cap, rfl, h⟩ := h
  refine ⟨ao, cap, by rw [List.length_map], ?_⟩
  rcases h with rfl | ⟨b, rfl, _, hc⟩
  · exact .inl rfl
  · refine .inr ⟨b, 0, rfl, fun j hj => ?_⟩
    rw [List.length_map] at hj
    rw [Nat.zero_add, hc j hj]
    simp [List.getD_eq_getElem?_getD, hj]
theorem below_conv (w : World) (e : TypeId) (s : ByteArray) : Below w.heap.size w (Lib.bytesWorld w e s) := Lib.bytesWorld_below w e s
end Go.Proofs.YtadfdfmebdcfgaaGreatDoor.ow

namespace Go.Proofs.YtadfdfmebdcfgaaGreatDoor.ow
open Go.RowKit
set_option linter.unusedVariables false

/-- A slice of bytes whose cells the call may write, as far as its room goes. -/
def OwnC (w : World) (base : Nat) (v : Value) (l : List UInt8) : Prop :=
  ∃ g cap, v = .slice (some ⟨g, 0, none⟩) l.length cap ∧ base ≤ g ∧ g < w.heap.size ∧ l.length ≤ cap ∧ cap ≤ maxLen ∧
    (∀ j, j < cap → (w.cell? ⟨g, j, none⟩).isSome = true ∧ w.frozen? ⟨g, j, none⟩ = false) ∧ ∀ j, j < l.length → w.cell? ⟨g, j, none⟩ = some (.int .u8 ((l.getD j 0).toNat : Int))

theorem ownC_below {w w' : World} {base : Nat} {v : Value} {l : List UInt8} (h : OwnC w base v l) (hb : Below w.heap.size w w') : OwnC w' base v l := by
  obtain ⟨g, cap, hv, h1, h2, h3, h4, h5, h6⟩ := h
  refine ⟨g, cap, hv, h1, Nat.lt_of_lt_of_le h2 hb.size, h3, h4, fun j hj => ?_, fun j hj => ?_⟩
  · rw [hb.cell (p := ⟨g, j, none⟩) h2, hb.frozen (p := ⟨g, j, none⟩) h2]
    exact h5 j hj
  · rw [hb.cell (p := ⟨g, j, none⟩) h2]
    exact h6 j hj
theorem ownC_alloc {w : World} {base : Nat} {v : Value} {l : List UInt8} (h : OwnC w base v l) (o : Obj) : OwnC (w.alloc o) base v l := ownC_below h ((Below.refl _ _).alloc (Nat.le_refl _) _)
theorem ownC_block {w : World} {base : Nat} {v : Value} {l : List UInt8} (h : OwnC w base v l) : ∀ k, v.ownBlock = some k → base ≤ k := by
  obtain ⟨g, cap, rfl, h1, _⟩ := h
  intro k hk
  cases hk
  exact h1
theorem ownC_slice {w : World} {base : Nat} {v : Value} {l : List UInt8} (h : OwnC w base v l) : ∃ ao cap, v = .slice ao l.length cap := by
  obtain ⟨g, cap, rfl, _⟩ := h
  exact ⟨_, _, rfl⟩
/-- The bytes of a block. -/
theorem ownC_new {w : World} {g cap : Nat} {e : TypeId} {fz : Nat × Nat} {cs : Array Value} {base : Nat} (l : List UInt8) (hg : w.heap[g]? = some (.cells cs e fz)) (hs : cs.size = cap) (hf : fz = (0, 0) ∨ cap ≤ fz.1) (hb : base ≤ g) (hl : l.length ≤ cap) (hm : cap ≤ maxLen)
    (hc : ∀ j, j < l.length → cs[j]? = some (.int .u8 ((l.getD j 0).toNat : Int))) : OwnC w base (.slice (some ⟨g, 0, none⟩) l.length cap) l := by
  have hcell : ∀ j, w.cell? ⟨g, j, none⟩ = cs[j]? := fun j => cell_of_row w g j _ e fz hg
  refine ⟨g, cap, rfl, hb, (Array.getElem?_eq_some_iff.1 hg).1, hl, hm, fun j hj => ⟨?_, ?_⟩, fun j hj => ?_⟩
  · rw [hcell, Array.getElem?_eq_getElem (by omega)]
    rfl
  · obtain ⟨lo, hi⟩ := fz
    simp only [World.frozen?, hg]
    rcases hf with hf | hf
    · cases hf
      simp
    · simp only at hf
      simp only [Bool.and_eq_false_iff, decide_eq_false_iff_not]
      left
      omega
  · rw [hcell]
    exact hc j hj
/-- A text turned into bytes. -/
theorem ownC_conv (w : World) (e : TypeId) (s : ByteArray) (hs : s.size ≤ maxLen) : OwnC (Lib.bytesWorld w e s) w.heap.size (.slice (some ⟨w.heap.size, 0, none⟩) s.size (grownCap w s.size 0 e)) s.data.toList := by
  have hge := grownCap_ge w s.size 0 e
  have hsz : (Lib.bytesCells w e s).size = grownCap w s.size 0 e := by
    unfold Lib.bytesCells
    rw [Array.size_append, Array.size_map, Array.size_replicate]
    have : s.data.size = s.size := rfl
    omega
  have := ownC_new (base := w.heap.size) s.data.toList (Lib.bytesWorld_at_new w e s) hsz (.inr (by rw [hsz]; exact Nat.le_refl _)) (Nat.le_refl _) (by rw [← Lib.size_eq]; exact hge) (grownCap_le_maxLen w s.size 0 e hs) (fun j hj => by
    have hj' : j < s.size := by rw [Lib.size_eq]; exact hj
    have h1 := Lib.bytesWorld_cell w e s j hj'
    rw [cell_of_row _ _ j _ _ _ (Lib.bytesWorld_at_new w e s)] at h1
    exact h1)
  rw [← Lib.size_eq] at this
  exact this

theorem grown_setCells (g : Nat) : ∀ (vs : List Value) (o : Nat) (w : World), w.grownBy (w.setCells g o vs) (some g)
  | [], o, w => ⟨rfl, rfl, rfl, Nat.le_refl _, fun _ _ _ => rfl⟩
  | v :: r, o, w => by
    have h1 : w.grownBy (w.setCell ⟨g, o, none⟩ v) (some g) := ⟨rfl, rfl, rfl, by simp [World.setCell], fun k _ hk => Below.heap_setCell _ _ _ _ (fun e => hk (by simp [e]))⟩
    exact h1.trans (grown_setCells g r (o + 1) _)
theorem room {w : World} {base g cap : Nat} {l : List UInt8} (news : List UInt8) (h : OwnC w base (.slice (some ⟨g, 0, none⟩) l.length cap) l) (hr : l.length + news.length ≤ cap) :
    OwnC (w.setCells g l.length (Lib.byteCells news)) base (.slice (some ⟨g, 0, none⟩) (l ++ news).length cap) (l ++ news) := by
  obtain ⟨g', cap', hv, h1, h2, h3, h4, h5, h6⟩ := h
  cases hv
  have hbl := Lib.byteCells_length news
  refine ⟨g, cap, rfl, h1, Nat.lt_of_lt_of_le h2 (grown_setCells g _ _ w).size, by rw [List.length_append]; exact hr, h4, fun j hj => ?_, fun j hj => ?_⟩
  · rw [World.frozen?_setCells]
    refine ⟨?_, (h5 j hj).2⟩
    by_cases hin : l.length ≤ j ∧ j < l.length + news.length
    · have := World.cell?_setCells_in g (Lib.byteCells news) l.length w (fun i hi => (h5 (l.length + i) (by omega)).1) (j - l.length) (by omega)
      rw [show l.length + (j - l.length) = j from by omega] at this
      rw [this]
      rfl
    · rw [World.cell?_setCells_out g (Lib.byteCells news) l.length w ⟨g, j, none⟩ (fun _ _ => by simp only; omega)]
      exact (h5 j hj).1
  · rw [List.length_append] at hj
    by_cases hin : j < l.length
    · rw [World.cell?_setCells_out g (Lib.byteCells news) l.length w ⟨g, j, none⟩ (fun _ _ => by simp only; omega), h6 j hin]
      simp [List.getD_eq_getElem?_getD, List.getElem?_append_left hin, hin]
    · have := World.cell?_setCells_in g (Lib.byteCells news) l.length w (fun i hi => (h5 (l.length + i) (by omega)).1) (j - l.length) (by omega)
      rw [show l.length + (j - l.length) = j from by omega] at this
      rw [this]
      simp [Lib.byteCells, List.getD_eq_getElem?_getD, List.getElem_append, hin, show j < l.length + news.length from hj]
theorem grow {w : World} {base cap : Nat} {e : TypeId} (l news : List UInt8) (hb : base ≤ w.heap.size) (hm : cap ≤ maxLen) (hc : l.length + news.length ≤ cap) :
    OwnC (w.drew.alloc (.cells ((Lib.byteCells l).toArray ++ (Lib.byteCells news).toArray ++ Builtin.zeroCells (Value.int .u8 0).cells (cap - (l.length + news.length))) e)) base (.slice (some ⟨w.heap.size, 0, none⟩) (l ++ news).length cap) (l ++ news) := by
  refine ownC_new (l ++ news) (heap_alloc_new w.drew _) ?_ (.inl rfl) hb (by rw [List.length_append]; exact hc) hm (fun j hj => ?_)
  · rw [Array.size_append, Array.size_append, List.size_toArray, List.size_toArray, size_zeroCells, Lib.byteCells_length, Lib.byteCells_length]
    show _ + (cap - (l.length + news.length)) * 1 = cap
    omega
  · rw [List.length_append] at hj
    have e1 : (Lib.byteCells l).toArray ++ (Lib.byteCells news).toArray = (Lib.byteCells (l ++ news)).toArray := by rw [Lib.byteCells_append]; simp
    rw [e1, Array.getElem?_append_left (by rw [List.size_toArray, Lib.byteCells_length, List.length_append]; exact hj)]
    have hj2 : j < (l ++ news).length := by rw [List.length_append]; exact hj
    clear e1
    generalize l ++ news = q at hj2 ⊢
    simp [Lib.byteCells, List.getD_eq_getElem?_getD, hj2]

section
variable {P : Program} (w : World)
/-- Appending bytes that lie in a block. -/
theorem app_bytes (base : Nat) (t ty e : TypeId) (i : TypeInfo) (ht : P.underlying t = some (.slice e)) (hi : P.info? e = some i) (hz : i.zero = some (.int .u8 0)) (hs1 : i.size = 1) (hby : i.bytes = 1)
    (v : Value) (l : List UInt8) (h : OwnC w base v l) (a : Addr) (c : Nat) (news : List UInt8) (hn : ∀ j u, (Lib.byteCells news)[j]? = some u → w.cell? (a.add j) = some u) (hlen : l.length + news.length ≤ 140737488355328) (hb : base ≤ w.heap.size) :
    ∃ v' w', (Builtin.append_ #[t, t] ty #[v, .slice (some a) news.length c]).run P w = .ok v' w' ∧ OwnC w' base v' (l ++ news) ∧ w.grownBy w' v.ownBlock ∧ (v'.ownBlock = v.ownBlock ∨ v'.ownBlock = some w.heap.size) := by
  have h0 := h
  obtain ⟨g, cap, rfl, h1, h2, h3, h4, h5, h6⟩ := h
  have hbl := Lib.byteCells_length news
  by_cases hr : l.length + news.length ≤ cap
  · have hf := run_firstCells_some (P := P) w 1 news.length a news.length c (Lib.byteCells news) (by rw [hbl, Nat.mul_one]) hn
    have hst := run_storeCells_cells (P := P) g l.length (Lib.byteCells news) 0 w (fun j hj => (h5 (l.length + 0 + j) (by omega)).1) (fun j hj => (h5 (l.length + 0 + j) (by omega)).2) (one_bytes news)
    rw [Nat.add_zero] at hst
    refine ⟨.slice (some ⟨g, 0, none⟩) (l ++ news).length cap, w.setCells g l.length (Lib.byteCells news), ?_, room news h0 hr, grown_setCells g _ _ w, .inl rfl⟩
    rw [List.length_append]
    simp [Builtin.append_, run_underlying ht, sizeOf, typeInfo, hi, hs1, Builtin.lenOf, hr, hf, Addr.add_lit, hst]
  · have hg := run_append_grow (P := P) w t ty e i (.int .u8 0) ht hi hz ⟨g, 0, none⟩ l.length cap (Lib.byteCells l) (by rw [Lib.byteCells_length, hs1, Nat.mul_one]) (fun j u hj => by
      have hj' : j < l.length := by rw [← Lib.byteCells_length]; exact (List.getElem?_eq_some_iff.1 hj).1
      rw [add_at, h6 j hj']
      rw [← hj]
      simp [Lib.byteCells, List.getD_eq_getElem?_getD, hj']) a news.length c (Lib.byteCells news) (by rw [hbl, hs1, Nat.mul_one]) hn (by omega) (by omega) (growslice_fits (by omega) (by rw [hby]; omega))
    refine ⟨_, _, hg, ?_, ⟨rfl, rfl, rfl, by simp, fun k hk _ => heap_alloc_old w.drew _ hk⟩, .inr rfl⟩
    have := grow (w := w) (e := e) (cap := grownCap w (l.length + news.length) cap e) l news hb (grownCap_le_maxLen _ _ _ _ (by unfold maxLen; omega)) (grownCap_ge _ _ _ _)
    rw [List.length_append] at this
    exact this
/-- Appending a text's bytes. -/
theorem app_text (base : Nat) (t u ty e : TypeId) (i : TypeInfo) (ht : P.underlying t = some (.slice e)) (hu : P.underlying u = some .string) (hi : P.info? e = some i) (hz : i.zero = some (.int .u8 0)) (hs1 : i.size = 1) (hby : i.bytes = 1)
    (v : Value) (l : List UInt8) (h : OwnC w base v l) (s : ByteArray) (hlen : l.length + s.size ≤ 140737488355328) (hb : base ≤ w.heap.size) :
    ∃ v' w', (Builtin.append_ #[t, u] ty #[v, .string s]).run P w = .ok v' w' ∧ OwnC w' base v' (l ++ s.data.toList) ∧ w.grownBy w' v.ownBlock ∧ (v'.ownBlock = v.ownBlock ∨ v'.ownBlock = some w.heap.size) := by
  have h0 := h
  obtain ⟨g, cap, rfl, h1, h2, h3, h4, h5, h6⟩ := h
  have hbl := Lib.byteCells_length s.data.toList
  have hse := Lib.size_eq s
  by_cases hr : l.length + s.size ≤ cap
  · have hf := Lib.run_firstCells_string (P := P) w 1 s
    have hst := run_storeCells_cells (P := P) g l.length (Lib.strCells s) 0 w (fun j hj => (h5 (l.length + 0 + j) (by rw [Lib.strCells_length] at hj; omega)).1) (fun j hj => (h5 (l.length + 0 + j) (by rw [Lib.strCells_length] at hj; omega)).2) (Lib.strCells_oneCell s)
    rw [Nat.add_zero] at hst
    refine ⟨.slice (some ⟨g, 0, none⟩) (l ++ s.data.toList).length cap, w.setCells g l.length (Lib.byteCells s.data.toList), ?_, room s.data.toList h0 (by omega), grown_setCells g _ _ w, .inl rfl⟩
    rw [List.length_append, ← hse, ← Lib.strCells_eq]
    simp [Builtin.append_, run_underlying ht, run_underlying hu, sizeOf, typeInfo, hi, hs1, Builtin.lenOf, hr, hf, Addr.add_lit, hst]
  · have hg := Lib.run_append_grow_string (P := P) w t u ty e i (.int .u8 0) ht hu hi hz ⟨g, 0, none⟩ l.length cap (Lib.byteCells l) (by rw [Lib.byteCells_length, hs1, Nat.mul_one]) (fun j u hj => by
      have hj' : j < l.length := by rw [← Lib.byteCells_length]; exact (List.getElem?_eq_some_iff.1 hj).1
      rw [add_at, h6 j hj']
      rw [← hj]
      simp [Lib.byteCells, List.getD_eq_getElem?_getD, hj']) s (by omega) (by omega) (growslice_fits (by omega) (by rw [hby]; omega))
    refine ⟨_, _, hg, ?_, ⟨rfl, rfl, rfl, by simp, fun k hk _ => heap_alloc_old w.drew _ hk⟩, .inr rfl⟩
    have := grow (w := w) (e := e) (cap := grownCap w (l.length + s.size) cap e) l s.data.toList hb (grownCap_le_maxLen _ _ _ _ (by unfold maxLen; omega)) (by rw [← hse]; exact grownCap_ge _ _ _ _)
    rw [List.length_append, ← hse] at this
    exact this
/-- The two appends as operations of a walk. -/
theorem wp_bytes {ops : Array Oper} {rest : List Oper} {o : Oper} {a : Act} {Q : Exit → Act → World → Prop} (hgd : o.guard = none) (s x : Operand) (t : TypeId) (ho : o.op = .call { callee := .builtin .append, args := #[s, x], argTypes := #[t, t] })
    (base : Nat) (e : TypeId) (i : TypeInfo) (ht : P.underlying t = some (.slice e)) (hi : P.info? e = some i) (hz : i.zero = some (.int .u8 0)) (hs1 : i.size = 1) (hby : i.bytes = 1)
    (v : Value) (l : List UInt8) (hs : a.eval s = v) (h : OwnC w base v l) (ad : Addr) (m c : Nat) (news : List UInt8) (hx : a.eval x = .slice (some ad) m c) (hm : news.length = m) (hn : ∀ j u, (Lib.byteCells news)[j]? = some u → w.cell? (ad.add j) = some u) (hlen : l.length + m ≤ 140737488355328) (hb : base ≤ w.heap.size)
    (H : ∀ v' w', OwnC w' base v' (l ++ news) → w.grownBy w' v.ownBlock → (v'.ownBlock = v.ownBlock ∨ v'.ownBlock = some w.heap.size) → wpList P ops Q rest (a.put o.dst v') w') : wpList P ops Q (o :: rest) a w := by
  subst hm
  refine wpList_plain hgd fun K hK => ?_
  obtain ⟨v', w', hr, h2, h3, h4⟩ := app_bytes (P := P) w base t o.type e i ht hi hz hs1 hby v l h ad c news hn hlen hb
  unfold Oper.wp execOp
  simp only [ho, resolve, invoke, builtin, Sem.run_bind, Sem.run_pure, Result.andThen_ok, List.map_toArray, List.map_cons, List.map_nil, hs, hx, hr]
  exact hK _ _ (H v' w' h2 h3 h4)
theorem wp_text {ops : Array Oper} {rest : List Oper} {o : Oper} {a : Act} {Q : Exit → Act → World → Prop} (hgd : o.guard = none) (sl x : Operand) (t u : TypeId) (ho : o.op = .call { callee := .builtin .append, args := #[sl, x], argTypes := #[t, u] })
    (base : Nat) (e : TypeId) (i : TypeInfo) (ht : P.underlying t = some (.slice e)) (hu : P.underlying u = some .string) (hi : P.info? e = some i) (hz : i.zero = some (.int .u8 0)) (hs1 : i.size = 1) (hby : i.bytes = 1)
    (v : Value) (l : List UInt8) (hs : a.eval sl = v) (h : OwnC w base v l) (s : ByteArray) (hx : a.eval x = .string s) (hlen : l.length + s.size ≤ 140737488355328) (hb : base ≤ w.heap.size)
    (H : ∀ v' w', OwnC w' base v' (l ++ s.data.toList) → w.grownBy w' v.ownBlock → (v'.ownBlock = v.ownBlock ∨ v'.ownBlock = some w.heap.size) → wpList P ops Q rest (a.put o.dst v') w') : wpList P ops Q (o :: rest) a w := by
  refine wpList_plain hgd fun K hK => ?_
  obtain ⟨v', w', hr, h2, h3, h4⟩ := app_text (P := P) w base t u o.type e i ht hu hi hz hs1 hby v l h s hlen hb
  unfold Oper.wp execOp
  simp only [ho, resolve, invoke, builtin, Sem.run_bind, Sem.run_pure, Result.andThen_ok, List.map_toArray, List.map_cons, List.map_nil, hs, hx, hr]
  exact hK _ _ (H v' w' h2 h3 h4)
end
theorem conv_ownC {P : Program} {w : World} {base : Nat} {src dst e : TypeId} {v : Value} (l : List UInt8) (h : OwnC w base v l)
    (hs : P.underlying src = some (.slice e)) (he : P.underlying e = some (.int .u8)) (hd : P.underlying dst = some .string) : (convert src dst v).run P w = .ok (.string ⟨l.toArray⟩) w := by
  obtain ⟨g, cap, rfl, _, _, _, _, _, h6⟩ := h
  refine run_convert_bytes_back w src dst e ⟨g, 0, none⟩ cap l hs he hd (fun j hj => ?_)
  rw [add_at, h6 j hj]
  simp [List.getD_eq_getElem?_getD, hj]
theorem kept_block {w w' : World} {v v' : Value} {g : Nat} {o : Obj} (hb : v.ownBlock ≠ some g) (hg : w.grownBy w' v.ownBlock) (ho : w.heap[g]? = some o) (hv : v'.ownBlock = v.ownBlock ∨ v'.ownBlock = some w.heap.size) : w'.heap[g]? = some o ∧ v'.ownBlock ≠ some g := by
  have hlt := (Array.getElem?_eq_some_iff.1 ho).1
  refine ⟨(hg.block g hlt (fun e => hb e.symm)).trans ho, ?_⟩
  rcases hv with hv | hv
  · rw [hv]; exact hb
  · rw [hv]
    intro e
    cases e
    omega
/-- What was below stays, behind such an append. -/
theorem app_below {w w' W : World} {base : Nat} {v : Value} {l : List UInt8} (h : OwnC w base v l) (hb : Below base W w) (hB : base ≤ w.heap.size) (hg : w.grownBy w' v.ownBlock) : Below base W w' := Below.grown hb hg hB (ownC_block h)
theorem own_kept {w w' : World} {base base2 e size n : Nat} {v x : Value} {l : List UInt8} {xs : List Value} (h : OwnC w base v l) (hx : w.ownsRow base2 e size x n xs) (hne : x.ownBlock ≠ v.ownBlock) (hg : w.grownBy w' v.ownBlock) : w'.ownsRow base2 e size x n xs := hx.kept hg (.inr hne)
end Go.Proofs.YtadfdfmebdcfgaaGreatDoor.ow

namespace Go.Proofs.YtadfdfmebdcfgaaGreatDoor.lo
open Go.RowKit
set_option linter.unusedVariables false

/-- A great letter's small one. -/
def low (c : UInt8) : UInt8 := if 65 ≤ c.toNat ∧ c.toNat ≤ 90 then UInt8.ofNat (c.toNat + 32) else c
def lower (l : List UInt8) : List UInt8 := l.map low
theorem lower_len (l : List UInt8) : (lower l).length = l.length := List.length_map _
/-- The first so many letters written in small ones. -/
def upTo (l : List UInt8) (k : Nat) : List UInt8 := lower (l.take k) ++ l.drop k
theorem upTo_len (l : List UInt8) (k : Nat) : (upTo l k).length = l.length := by
  rw [upTo, List.length_append, lower_len, List.length_take, List.length_drop]; omega
theorem upTo_zero (l : List UInt8) : upTo l 0 = l := by simp [upTo, lower]
theorem upTo_all (l : List UInt8) (k : Nat) (h : l.length ≤ k) : upTo l k = lower l := by
  rw [upTo, List.take_of_length_le h, List.drop_eq_nil_of_le h, List.append_nil]
theorem upTo_at (l : List UInt8) (k : Nat) (h : k < l.length) : (upTo l k).getD k 0 = l.getD k 0 := by
  have hk : (lower (l.take k)).length = k := by rw [lower_len, List.length_take]; omega
  simp only [upTo, List.getD_eq_getElem?_getD]
  rw [List.getElem?_append_right (by omega), hk, Nat.sub_self, List.getElem?_drop, Nat.add_zero]
theorem upTo_step (l : List UInt8) (k : Nat) (h : k < l.length) : upTo l (k + 1) = (upTo l k).set k (low (l.getD k 0)) := by
  have hk : (lower (l.take k)).length = k := by rw [lower_len, List.length_take]; omega
  have e : l.getD k 0 = l[k] := by simp [List.getD_eq_getElem?_getD, h]
  unfold upTo
  rw [List.set_append_right _ _ (by omega), hk, Nat.sub_self, List.drop_eq_getElem_cons h, List.set_cons_zero, List.take_succ_eq_append_getElem h, e]
  unfold lower
  rw [List.map_append, List.append_assoc]
  rfl
theorem upTo_same (l : List UInt8) (k : Nat) (h : k < l.length) (hc : low (l.getD k 0) = l.getD k 0) : upTo l (k + 1) = upTo l k := by
  rw [upTo_step l k h, hc, ← upTo_at l k h]
  have hl : k < (upTo l k).length := by rw [upTo_len]; exact h
  rw [List.getD_eq_getElem?_getD, List.getElem?_eq_getElem hl, Option.getD_some, List.set_getElem_self]

theorem ownC_set {w : World} {base g cap n : Nat} {l : List UInt8} (h : ow.OwnC w base (.slice (some ⟨g, 0, none⟩) n cap) l) (j : Nat) (c : UInt8) (hj : j < l.length) :
    ow.OwnC (w.setCell ⟨g, j, none⟩ (.int .u8 (c.toNat : Int))) base (.slice (some ⟨g, 0, none⟩) n cap) (l.set j c) := by
  obtain ⟨g', cap', hv, h1, h2, h3, h4, h5, h6⟩ := h
  simp only [Value.slice.injEq, Option.some.injEq, Addr.mk.injEq, and_true] at hv
  obtain ⟨rfl, rfl, rfl⟩ := hv
  have hne : ∀ i, i ≠ j → (⟨g, j, none⟩ : Addr) ≠ ⟨g, i, none⟩ := fun i hi e => hi (by simpa using e.symm)
  refine ⟨g, cap, by rw [List.length_set], h1, by simpa [World.setCell] using h2, by rw [List.length_set]; exact h3, h4, fun i hi => ?_, fun i hi => ?_⟩
  · have hf : (w.setCell ⟨g, j, none⟩ (.int .u8 (c.toNat : Int))).frozen? ⟨g, i, none⟩ = w.frozen? ⟨g, i, none⟩ := World.frozen?_setCells g [.int .u8 (c.toNat : Int)] j w ⟨g, i, none⟩
    refine ⟨?_, hf.trans (h5 i hi).2⟩
    by_cases e : i = j
    · subst e
      obtain ⟨u, hu⟩ := Option.isSome_iff_exists.1 (h5 i hi).1
      rw [World.cell?_setCell_same _ _ _ hu]
      rfl
    · rw [World.cell?_setCell_other _ _ _ _ (hne i e)]
      exact (h5 i hi).1
  · rw [List.length_set] at hi
    by_cases e : i = j
    · subst e
      rw [World.cell?_setCell_same _ _ _ (h6 i hi)]
      simp [List.getD_eq_getElem?_getD, hi]
    · rw [World.cell?_setCell_other _ _ _ _ (hne i e), h6 i hi]
      rw [List.getD_eq_getElem?_getD, List.getD_eq_getElem?_getD, List.getElem?_set_ne (by omega)]
theorem conv_part {P : Program} {w : World} {src dst e : TypeId} {g cap : Nat} (l : List UInt8) (hs : P.underlying src = some (.slice e)) (he : P.underlying e = some (.int .u8)) (hd : P.underlying dst = some .string)
    (hc : ∀ j, j < l.length → w.cell? ⟨g, j, none⟩ = some (.int .u8 ((l.getD j 0).toNat : Int))) : (convert src dst (.slice (some ⟨g, 0, none⟩) l.length cap)).run P w = .ok (.string ⟨l.toArray⟩) w := by
  refine run_convert_bytes_back w src dst e ⟨g, 0, none⟩ cap l hs he hd (fun j hj => ?_)
  rw [show ((⟨g, 0, none⟩ : Addr).add j) = ⟨g, j, none⟩ from by simp [Addr.add]; omega, hc j hj]
  simp [List.getD_eq_getElem?_getD, hj]
theorem low_great {c : UInt8} (h1 : 65 ≤ (c.toNat : Int)) (h2 : (c.toNat : Int) ≤ 90) : ((low c).toNat : Int) = (c.toNat : Int) + 32 := by
  unfold low
  rw [if_pos (by omega), UInt8.toNat_ofNat']
  omega
theorem low_other {c : UInt8} (h : ¬ (65 ≤ (c.toNat : Int) ∧ (c.toNat : Int) ≤ 90)) : low c = c := by
  unfold low
  rw [if_neg (by omega)]

/-- Bytes made of a text, of which the first so many letters are small. -/
def Mid (w wr : World) (s : ByteArray) (cap k : Nat) : Prop := ow.OwnC wr w.heap.size (.slice (some ⟨w.heap.size, 0, none⟩) s.size cap) (upTo s.data.toList k) ∧ Below w.heap.size w wr
theorem mid_start (w : World) (s : ByteArray) (hs : s.size ≤ maxLen) : Mid w (Lib.bytesWorld w 5 s) s (grownCap w s.size 0 5) 0 := by
  refine ⟨?_, ow.below_conv w _ s⟩
  rw [upTo_zero]
  exact ow.ownC_conv w _ s hs
section
variable {w wr : World} {s : ByteArray} {cap k : Nat}
theorem Mid.cell (h : Mid w wr s cap k) (hk : k < s.size) : wr.cell? ⟨w.heap.size, k, none⟩ = some (.int .u8 (((s[k]'hk).toNat : Nat) : Int)) := by
  obtain ⟨g, cap', hv, h1, h2, h3, h4, h5, h6⟩ := h.1
  simp only [Value.slice.injEq, Option.some.injEq, Addr.mk.injEq, and_true] at hv
  obtain ⟨rfl, hl, rfl⟩ := hv
  have hk' : k < s.data.toList.length := by rw [← Lib.size_eq]; exact hk
  rw [h6 k (by rw [upTo_len]; exact hk'), upTo_at _ _ hk']
  rw [List.getD_eq_getElem?_getD, List.getElem?_eq_getElem hk']
  rfl
theorem Mid.free (h : Mid w wr s cap k) (hk : k < s.size) : wr.frozen? ⟨w.heap.size, k, none⟩ = false := by
  obtain ⟨g, cap', hv, h1, h2, h3, h4, h5, h6⟩ := h.1
  simp only [Value.slice.injEq, Option.some.injEq, Addr.mk.injEq, and_true] at hv
  obtain ⟨rfl, hl, rfl⟩ := hv
  exact (h5 k (by rw [← hl] at h3; omega)).2
theorem getD_at (hk : k < s.size) : s.data.toList.getD k 0 = s[k] := by
  have hk' : k < s.data.toList.length := by rw [← Lib.size_eq]; exact hk
  rw [List.getD_eq_getElem?_getD, List.getElem?_eq_getElem hk']
  rfl
theorem Mid.great (h : Mid w wr s cap k) (hk : k < s.size) (h1 : 65 ≤ ((s[k]'hk).toNat : Int)) (h2 : ((s[k]'hk).toNat : Int) ≤ 90) : Mid w (wr.setCell ⟨w.heap.size, k, none⟩ (.int .u8 (((s[k]'hk).toNat : Int) + 32))) s cap (k + 1) := by
  have hk' : k < s.data.toList.length := by rw [← Lib.size_eq]; exact hk
  refine ⟨?_, h.2.setCell (p := ⟨w.heap.size, k, none⟩) (Nat.le_refl _) _⟩
  rw [upTo_step _ _ hk', getD_at hk, ← low_great h1 h2]
  exact ownC_set h.1 k _ (by rw [upTo_len]; exact hk')
theorem Mid.other (h : Mid w wr s cap k) (hk : k < s.size) (hn : ¬ (65 ≤ ((s[k]'hk).toNat : Int) ∧ ((s[k]'hk).toNat : Int) ≤ 90)) : Mid w wr s cap (k + 1) := by
  have hk' : k < s.data.toList.length := by rw [← Lib.size_eq]; exact hk
  refine ⟨?_, h.2⟩
  rw [upTo_same _ _ hk' (by rw [getD_at hk]; exact low_other hn)]
  exact h.1
theorem Mid.text (h : Mid w wr s cap k) (hk : s.size ≤ k) : (convert 22 9 (.slice (some ⟨w.heap.size, 0, none⟩) s.size cap)).run Tryz.prog wr = .ok (.string ⟨(lower s.data.toList).toArray⟩) wr := by
  obtain ⟨g, cap', hv, h1, h2, h3, h4, h5, h6⟩ := h.1
  simp only [Value.slice.injEq, Option.some.injEq, Addr.mk.injEq, and_true] at hv
  obtain ⟨rfl, hl, rfl⟩ := hv
  rw [upTo_all _ _ (by rw [← Lib.size_eq]; exact hk)] at hl h6
  rw [hl]
  exact conv_part (lower s.data.toList) Tryz.underlying22 Tryz.underlying5 Tryz.underlying9 h6
end
theorem u8_add {c : Int} (h1 : 65 ≤ c) (h2 : c ≤ 90) : IntKind.u8.wrap (c + 32) = c + 32 := by
  have h256 : (2 : Int) ^ IntKind.u8.bits = 256 := rfl
  unfold IntKind.wrap
  simp only [h256, show IntKind.u8.signed = false from rfl, Bool.false_and, Bool.false_eq_true, if_false]
  omega

set_option maxHeartbeats 2000000 in
set_option maxRecDepth 100000 in
theorem spec_lower (s : ByteArray) (w : World) (hs : s.size ≤ 1048576) :
    Calls Tryz.prog 78 #[.string s] w fun e w' => e = .returned (.string ⟨(lower s.data.toList).toArray⟩) ∧ Below w.heap.size w w' := by
  have hcv := Lib.run_convert_string_bytes (P := Tryz.prog) w 9 22 5 s Tryz.underlying9 Tryz.underlying22 Tryz.underlying5
  have HM0 : Hid (Mid w (Lib.bytesWorld w 5 s) s (grownCap w s.size 0 5) 0) := mid_start w s (by unfold maxLen; omega)
  generalize grownCap w s.size 0 5 = cap at hcv HM0
  generalize Lib.bytesWorld w 5 s = W0 at hcv HM0
  go_enter Tryz.func78, Tryz.ntmps78
  go_wp2
  go_loopw [4] (fun i wr => ∃ k : Nat, k ≤ s.size ∧ i = .int .i64 k ∧ Mid w wr s cap k) (fun i _ => s.size - (intOf i).toNat)
  case atStart => exact ⟨0, Nat.zero_le _, rfl, HM0.out⟩
  case round =>
    clear hcv HM0
    obtain ⟨k, hk, rfl, hmid⟩ := hrel
    have HM : Hid (Mid w wr s cap k) := hmid
    by_cases hlt : k < s.size
    · have hlt' : (k : Int) < (s.size : Int) := by omega
      have c0 := hmid.cell hlt
      have f0 := hmid.free hlt
      clear hmid
      by_cases h1 : 65 ≤ ((s[k]'hlt).toNat : Int)
      · have d1 : decide (65 ≤ ((s[k]'hlt).toNat : Int)) = true := decide_eq_true h1
        by_cases h2 : ((s[k]'hlt).toNat : Int) ≤ 90
        · have d2 : decide (((s[k]'hlt).toNat : Int) ≤ 90) = true := decide_eq_true h2
          have hw := u8_add h1 h2
          have HN : Hid (Mid w (wr.setCell ⟨w.heap.size, k, none⟩ (.int .u8 (((s[k]'hlt).toNat : Int) + 32))) s cap (k + 1)) := HM.out.great hlt h1 h2
          go_wp2
          go_roundw
          case rel => exact ⟨k + 1, by omega, by go_num, HN.out⟩
          case measure => simp [intOf]; omega
        · have d2 : decide (((s[k]'hlt).toNat : Int) ≤ 90) = false := decide_eq_false h2
          have HN : Hid (Mid w wr s cap (k + 1)) := HM.out.other hlt (fun h => h2 h.2)
          go_wp2
          go_roundw
          case rel => exact ⟨k + 1, by omega, by go_num, HN.out⟩
          case measure => simp [intOf]; omega
      · have d1 : decide (65 ≤ ((s[k]'hlt).toNat : Int)) = false := decide_eq_false h1
        have HN : Hid (Mid w wr s cap (k + 1)) := HM.out.other hlt (fun h => h1 h.1)
        go_wp2
        go_roundw
        case rel => exact ⟨k + 1, by omega, by go_num, HN.out⟩
        case measure => simp [intOf]; omega
    · have hlt' : ¬ (k : Int) < (s.size : Int) := by omega
      have htx := hmid.text (by omega)
      clear hmid
      go_wp2
      go_ret
      exact ⟨rfl, HM.out.2⟩
set_option maxHeartbeats 2000000 in
set_option maxRecDepth 100000 in
theorem impl_lower (s : ByteArray) (w : World) (hs : s.size ≤ 1048576) :
    Calls Tryz.prog 163 #[.string s] w fun e w' => e = .returned (.string ⟨(lower s.data.toList).toArray⟩) ∧ Below w.heap.size w w' := by
  have hcv := Lib.run_convert_string_bytes (P := Tryz.prog) w 9 22 5 s Tryz.underlying9 Tryz.underlying22 Tryz.underlying5
  have HM0 : Hid (Mid w (Lib.bytesWorld w 5 s) s (grownCap w s.size 0 5) 0) := mid_start w s (by unfold maxLen; omega)
  generalize grownCap w s.size 0 5 = cap at hcv HM0
  generalize Lib.bytesWorld w 5 s = W0 at hcv HM0
  go_enter Tryz.func163, Tryz.ntmps163
  go_wp2
  go_loopw [10] (fun i wr => ∃ k : Nat, k ≤ s.size ∧ i = .int .i64 k ∧ Mid w wr s cap k) (fun i _ => s.size - (intOf i).toNat)
  case atStart => exact ⟨0, Nat.zero_le _, rfl, HM0.out⟩
  case round =>
    clear hcv HM0
    obtain ⟨k, hk, rfl, hmid⟩ := hrel
    have HM : Hid (Mid w wr s cap k) := hmid
    by_cases hlt : k < s.size
    · have hlt' : (k : Int) < (s.size : Int) := by omega
      have c0 := hmid.cell hlt
      have f0 := hmid.free hlt
      clear hmid
      by_cases h1 : 65 ≤ ((s[k]'hlt).toNat : Int)
      · have d1 : decide (65 ≤ ((s[k]'hlt).toNat : Int)) = true := decide_eq_true h1
        by_cases h2 : ((s[k]'hlt).toNat : Int) ≤ 90
        · have d2 : decide (((s[k]'hlt).toNat : Int) ≤ 90) = true := decide_eq_true h2
          have hw1 : IntKind.u8.wrap (((s[k]'hlt).toNat : Int) - 65) = ((s[k]'hlt).toNat : Int) - 65 := by
            have h256 : (2 : Int) ^ IntKind.u8.bits = 256 := rfl
            unfold IntKind.wrap
            simp only [h256, show IntKind.u8.signed = false from rfl, Bool.false_and, Bool.false_eq_true, if_false]
            omega
          have hw2 : IntKind.u8.wrap (((s[k]'hlt).toNat : Int) - 65 + 97) = ((s[k]'hlt).toNat : Int) + 32 := by
            rw [show ((s[k]'hlt).toNat : Int) - 65 + 97 = ((s[k]'hlt).toNat : Int) + 32 from by omega]
            exact u8_add h1 h2
          have HN : Hid (Mid w (wr.setCell ⟨w.heap.size, k, none⟩ (.int .u8 (((s[k]'hlt).toNat : Int) + 32))) s cap (k + 1)) := HM.out.great hlt h1 h2
          go_wp2
          go_roundw
          case rel =>
            refine ⟨k + 1, by omega, by go_num, ?_⟩
            first | exact HN.out | (rw [show ((s[k]'hlt).toNat : Int) - 65 + 97 = ((s[k]'hlt).toNat : Int) + 32 from by omega]; exact HN.out)
          case measure => simp [intOf]; omega
        · have d2 : decide (((s[k]'hlt).toNat : Int) ≤ 90) = false := decide_eq_false h2
          have HN : Hid (Mid w wr s cap (k + 1)) := HM.out.other hlt (fun h => h2 h.2)
          go_wp2
          go_roundw
          case rel => exact ⟨k + 1, by omega, by go_num, HN.out⟩
          case measure => simp [intOf]; omega
      · have d1 : decide (65 ≤ ((s[k]'hlt).toNat : Int)) = false := decide_eq_false h1
        have HN : Hid (Mid w wr s cap (k + 1)) := HM.out.other hlt (fun h => h1 h.1)
        go_wp2
        go_roundw
        case rel => exact ⟨k + 1, by omega, by go_num, HN.out⟩
        case measure => simp [intOf]; omega
    · have hlt' : ¬ (k : Int) < (s.size : Int) := by omega
      have htx := hmid.text (by omega)
      clear hmid
      go_wp2
      go_ret
      exact ⟨rfl, HM.out.2⟩
end Go.Proofs.YtadfdfmebdcfgaaGreatDoor.lo

namespace Go.Proofs.YtadfdfmebdcfgaaGreatDoor.fa
open Go.RowKit
set_option linter.unusedVariables false

abbrev Pr := ByteArray × ByteArray
def no : Pr := (⟨#[]⟩, ⟨#[]⟩)
/-- A slice of attributes. -/
def AttrsAt (w : World) (v : Value) (ps : List Pr) : Prop :=
  ∃ a cap, v = .slice a ps.length cap ∧ (ps = [] ∨ ∃ b off, a = some ⟨b, off, none⟩ ∧ ∀ j, j < ps.length → w.cell? ⟨b, off + j * 2, none⟩ = some (.string (ps.getD j no).1) ∧ w.cell? ⟨b, off + j * 2 + 1, none⟩ = some (.string (ps.getD j no).2))
theorem at_below {w w' : World} {v : Value} {ps : List Pr} (h : AttrsAt w v ps) (hb : Below w.heap.size w w') : AttrsAt w' v ps := by
  obtain ⟨a, cap, rfl, h⟩ := h
  refine ⟨a, cap, rfl, ?_⟩
  rcases h with h | ⟨b, off, rfl, h⟩
  · exact .inl h
  · refine .inr ⟨b, off, rfl, fun j hj => ?_⟩
    obtain ⟨h0, h1⟩ := h j hj
    have hl := World.block_lt_of_cell? w _ h0
    exact ⟨(hb.cell (p := ⟨b, off + j * 2, none⟩) hl).trans h0, (hb.cell (p := ⟨b, off + j * 2 + 1, none⟩) hl).trans h1⟩

/-- Attributes of a size that a law takes. -/
def Small (ps : List Pr) : Prop := ps.length ≤ 1048576 ∧ ∀ j, j < ps.length → (ps.getD j no).1.size ≤ 1048576 ∧ (ps.getD j no).2.size ≤ 1048576
def SmallTo (ps : List Pr) (k : Nat) : Prop := ps.length ≤ 1048576 ∧ ∀ j, j < k → (ps.getD j no).1.size ≤ 1048576 ∧ (ps.getD j no).2.size ≤ 1048576

end Go.Proofs.YtadfdfmebdcfgaaGreatDoor.fa

namespace Go.Proofs.YtadfdfmebdcfgaaGreatDoor.b2
open Go.RowKit
set_option linter.unusedVariables false

def Box (w : World) (g : Nat) (t : TypeId) (a b : Value) : Prop := w.heap[g]? = some (.cells #[a, b] t (0, 0))
section
variable {w w' : World} {g : Nat} {t : TypeId} {a b a' b' : Value}
theorem new (w : World) (t : TypeId) (a b : Value) : Box (w.alloc (.cells #[a, b] t)) w.heap.size t a b := by
  show (w.heap.push (.cells #[a, b] t))[w.heap.size]? = _
  simp
theorem Box.c0 (h : Box w g t a b) : w.cell? ⟨g, 0, none⟩ = some a := by rw [cell_of_row _ _ 0 _ _ _ h]; rfl
theorem Box.c1 (h : Box w g t a b) : w.cell? ⟨g, 1, none⟩ = some b := by rw [cell_of_row _ _ 1 _ _ _ h]; rfl
theorem Box.c1' (h : Box w g t a b) : w.cell? ⟨g, 0 + 1, none⟩ = some b := by rw [cell_of_row _ _ _ _ _ _ h]; rfl
theorem Box.f (h : Box w g t a b) (j : Nat) : w.frozen? ⟨g, j, none⟩ = false := frozen_of_row _ _ _ _ _ h
theorem Box.lt (h : Box w g t a b) : g < w.heap.size := (Array.getElem?_eq_some_iff.1 h).1
theorem Box.below (h : Box w g t a b) (hb : Below w.heap.size w w') : Box w' g t a b := (hb.block g h.lt).trans h
theorem Box.keep {B : Nat} (h : Box w g t a b) (hB : g < B) (hb : Below B w w') : Box w' g t a b := (hb.block g hB).trans h
theorem Box.put0 (h : Box w g t a b) (u : Value) : Box (w.setCell ⟨g, 0, none⟩ u) g t u b := heap_setCell_same _ g 0 _ _ _ h
theorem Box.put1 (h : Box w g t a b) (u : Value) : Box (w.setCell ⟨g, 1, none⟩ u) g t a u := heap_setCell_same _ g 1 _ _ _ h
/-- Both cells are written. -/
def put (w : World) (g : Nat) (a b : Value) : World := (w.setCell ⟨g, 0, none⟩ a).setCell ⟨g, 1, none⟩ b
theorem Box.put (h : Box w g t a b) : Box (put w g a' b') g t a' b' := (h.put0 a').put1 b'
theorem put_below {B : Nat} {w0 : World} (k : Below B w0 w) (hb : B ≤ g) : Below B w0 (put w g a b) := (k.setCell (p := ⟨g, 0, none⟩) hb _).setCell (p := ⟨g, 1, none⟩) hb _
theorem put_size : (put w g a b).heap.size = w.heap.size := by unfold put; simp
/-- A row of another element type stays where the box is written. -/
theorem own_put {base e size n : Nat} {v : Value} {xs : List Value} (h : Box w g t a b) (hne : e ≠ t) (ho : w.ownsRow base e size v n xs) : (put w g a' b').ownsRow base e size v n xs := by
  obtain ⟨h1, h2⟩ := ho
  refine ⟨h1, ?_⟩
  rcases h2 with h2 | ⟨k, cap, cur, rfl, hk, hc, hd⟩
  · exact .inl h2
  · have hkg : k ≠ g := by
      intro ee
      subst ee
      rw [h] at hc
      cases hc
      exact hne rfl
    refine .inr ⟨k, cap, cur, rfl, hk, ?_, hd⟩
    unfold put
    rw [heap_setCell_other _ _ _ _ hkg, heap_setCell_other _ _ _ _ hkg]
    exact hc
end
end Go.Proofs.YtadfdfmebdcfgaaGreatDoor.b2

namespace Go.Proofs.YtadfdfmebdcfgaaGreatDoor.fo
open Go.RowKit
open fa lo gr
set_option linter.unusedVariables false

def sameB (a b : ByteArray) : Bool := decide (lower a.data.toList = lower b.data.toList)
/-- The first field of a name. -/
def find (ps : List Pr) (nm : ByteArray) : Option ByteArray := (ps.find? fun p => sameB p.1 nm).map (·.2)
theorem find_drop {ps : List Pr} {nm : ByteArray} {k : Nat} (h : find ps nm = find (ps.drop k) nm) (hk : k < ps.length) (hn : sameB (ps.getD k no).1 nm = false) : find ps nm = find (ps.drop (k + 1)) nm := by
  rw [h, List.drop_eq_getElem_cons hk]
  have e : ps.getD k no = ps[k] := by simp [List.getD_eq_getElem?_getD, hk]
  rw [e] at hn
  unfold find
  rw [List.find?_cons_of_neg (by rw [hn]; simp)]
theorem find_at {ps : List Pr} {nm : ByteArray} {k : Nat} (h : find ps nm = find (ps.drop k) nm) (hk : k < ps.length) (hn : sameB (ps.getD k no).1 nm = true) : find ps nm = some (ps.getD k no).2 := by
  rw [h, List.drop_eq_getElem_cons hk]
  have e : ps.getD k no = ps[k] := by simp [List.getD_eq_getElem?_getD, hk]
  rw [e] at hn ⊢
  unfold find
  rw [List.find?_cons_of_pos (p := fun p : Pr => sameB p.1 nm) hn]
  rfl
theorem find_end {ps : List Pr} {nm : ByteArray} {k : Nat} (h : find ps nm = find (ps.drop k) nm) (hk : ps.length ≤ k) : find ps nm = none := by
  rw [h, List.drop_eq_nil_of_le hk]
  rfl
theorem tl_same (a b : ByteArray) : ((⟨(lower a.data.toList).toArray⟩ : ByteArray).toList == (⟨(lower b.data.toList).toArray⟩ : ByteArray).toList) = sameB a b := by
  rw [Lib.toList_data, Lib.toList_data, Bool.eq_iff_iff, beq_iff_eq, sameB, decide_eq_true_iff]
/-- What a search answers. -/
def FRet (o : Option ByteArray) : Value := match o with
  | some v => .tuple #[.string v, .bool true]
  | none => .tuple #[.string ⟨#[]⟩, .bool false]

set_option maxHeartbeats 2000000 in
set_option maxRecDepth 100000 in
theorem same_any (a b : ByteArray) (w : World) (ha : a.size ≤ 1048576) (hb : b.size ≤ 1048576) :
    Calls Tryz.prog 118 #[.string a, .string b] w fun e w' => e = .returned (.bool (sameB a b)) ∧ Below w.heap.size w w' := by
  by_cases hl : a.size = b.size
  case neg =>
    have hd : ((a.size : Int) == (b.size : Int)) = false := beq_eq_false_iff_ne.2 (by omega)
    have HF : Hid (sameB a b = false) := (show sameB a b = false from decide_eq_false (fun h => hl (by have := congrArg List.length h; rw [lower_len, lower_len] at this; rw [Lib.size_eq, Lib.size_eq]; exact this)))
    go_enter Tryz.func118, Tryz.ntmps118
    go_wp2
    go_ret
    exact ⟨by rw [HF.out]; rfl, Below.refl _ _⟩
  have hd : ((a.size : Int) == (b.size : Int)) = true := beq_iff_eq.2 (by omega)
  have HT := tl_same a b
  have HA : Hid (∀ W, Calls Tryz.prog 163 #[.string a] W fun e w' => e = .returned (.string ⟨(lower a.data.toList).toArray⟩) ∧ Below W.heap.size W w') := fun W => impl_lower a W ha
  have HB : Hid (∀ W, Calls Tryz.prog 163 #[.string b] W fun e w' => e = .returned (.string ⟨(lower b.data.toList).toArray⟩) ∧ Below W.heap.size W w') := fun W => impl_lower b W hb
  generalize (⟨(lower a.data.toList).toArray⟩ : ByteArray) = A at HT HA
  generalize (⟨(lower b.data.toList).toArray⟩ : ByteArray) = B at HT HB
  generalize sameB a b = R at HT ⊢
  go_enter Tryz.func118, Tryz.ntmps118
  go_wp2_with fail
  refine (HA.out _).mono ?_
  rintro e w1 ⟨rfl, b1⟩
  go_wp2_with fail
  refine (HB.out _).mono ?_
  rintro e w2 ⟨rfl, b2⟩
  have b3 := b1.trans (b2.mono b1.size)
  go_wp2
  go_ret
  exact ⟨rfl, b3⟩
set_option maxHeartbeats 4000000 in
set_option maxRecDepth 100000 in
theorem value_any (v : Value) (ps : List Pr) (nm : ByteArray) (w : World) (h : AttrsAt w v ps) (hsm : Small ps) (hn : nm.size ≤ 1048576) :
    Calls Tryz.prog 67 #[v, .string nm] w fun e w' => e = .returned (FRet (find ps nm)) ∧ Below w.heap.size w w' := by
  obtain ⟨a, cap, rfl, h⟩ := h
  obtain ⟨n, hn'⟩ : ∃ n, n = ps.length := ⟨_, rfl⟩
  have HN : Hid (n = ps.length) := hn'
  have HH : Hid (ps = [] ∨ ∃ b off, a = some ⟨b, off, none⟩ ∧ ∀ j, j < ps.length → w.cell? ⟨b, off + j * 2, none⟩ = some (.string (ps.getD j no).1) ∧ w.cell? ⟨b, off + j * 2 + 1, none⟩ = some (.string (ps.getD j no).2)) := h
  have HS : Hid (Small ps) := hsm
  have hln : n ≤ 1048576 := by rw [hn']; exact hsm.1
  rw [← hn']
  clear h hsm hn'
  go_enter Tryz.func67, Tryz.ntmps67
  go_wp2
  go_loopw [10] (fun i wr => ∃ k : Nat, k ≤ n ∧ i = .int .i64 k ∧ find ps nm = find (ps.drop k) nm ∧ Below w.heap.size w wr) (fun i _ => n - (intOf i).toNat)
  case atStart => exact ⟨0, Nat.zero_le _, rfl, rfl, Below.refl _ _⟩
  case round =>
    obtain ⟨k, hk, rfl, hf, hbw⟩ := hrel
    have HF : Hid (find ps nm = find (ps.drop k) nm) := hf
    clear hf
    by_cases hlt : k < n
    · have hlt' : (k : Int) < (n : Int) := by omega
      have hka : k < ps.length := by rw [← HN.out]; exact hlt
      have hsz := HS.out.2 k hka
      rcases HH.out with e | ⟨b, off, rfl, hcells⟩
      · rw [e] at hka; simp at hka
      obtain ⟨v0, v1⟩ := hcells k hka
      have hblt : b < w.heap.size := World.block_lt_of_cell? w _ v0
      have c0 := (hbw.cell (p := ⟨b, off + k * 2, none⟩) hblt).trans v0
      have c1 := (hbw.cell (p := ⟨b, off + k * 2 + 1, none⟩) hblt).trans v1
      have HFN : Hid (sameB (ps.getD k no).1 nm = false → find ps nm = find (ps.drop (k + 1)) nm) := fun h => find_drop HF.out hka h
      have HFA : Hid (sameB (ps.getD k no).1 nm = true → find ps nm = some (ps.getD k no).2) := fun h => find_at HF.out hka h
      clear hcells v0 v1 hka
      generalize (ps.getD k no).1 = nk at c0 hsz HFN HFA
      generalize (ps.getD k no).2 = vk at c1 hsz HFA
      have HB0 : Hid (Below w.heap.size w wr) := hbw
      have HX : Hid (b2.Box (wr.alloc (.cells #[.string nk, .string vk] 81)) wr.heap.size 81 (.string nk) (.string vk)) := b2.new _ _ _ _
      have HB1 : Hid (Below w.heap.size w (wr.alloc (.cells #[.string nk, .string vk] 81))) := hbw.alloc hbw.size _
      clear hbw
      go_wp2_with fail
      generalize hW : World.alloc _ _ = W at HX HB1 ⊢
      clear hW c0 c1
      refine (same_any nk nm W hsz.1 hn).mono ?_
      rintro e w2 ⟨rfl, hb2⟩
      have HB2 : Hid (Below w.heap.size w w2) := HB1.out.trans (hb2.mono HB1.out.size)
      have d1 := (HX.out.below hb2).c1
      clear hb2
      cases hsb : sameB nk nm with
      | true =>
        have HR : Hid (FRet (find ps nm) = .tuple #[.string vk, .bool true]) := (show _ = _ by rw [HFA.out hsb]; rfl)
        clear hsb
        go_wp2
        go_ret2
        exact ⟨by rw [HR.out]; rfl, HB2.out⟩
      | false =>
        have HR : Hid (find ps nm = find (ps.drop (k + 1)) nm) := HFN.out hsb
        clear hsb
        go_wp2
        go_roundw
        case rel => exact ⟨k + 1, by omega, by go_num, HR.out, HB2.out⟩
        case measure => simp [intOf]; omega
    · have hlt' : ¬ (k : Int) < (n : Int) := by omega
      have HR : Hid (FRet (find ps nm) = .tuple #[.string ⟨#[]⟩, .bool false]) := (show _ = _ by rw [find_end HF.out (by have := HN.out; omega)]; rfl)
      go_wp2
      go_ret2
      exact ⟨by rw [HR.out]; rfl, hbw⟩
set_option maxHeartbeats 4000000 in
set_option maxRecDepth 100000 in
theorem specField_any (v : Value) (T : ByteArray) (ps : List Pr) (nm : ByteArray) (w : World) (h : AttrsAt w v ps) (hsm : Small ps) (hn : nm.size ≤ 1048576) :
    Calls Tryz.prog 36 #[.agg #[v, .string T], .string nm] w fun e w' => e = .returned (FRet (find ps nm)) ∧ Below w.heap.size w w' := by
  have k1 := h
  obtain ⟨a, cap, rfl, _⟩ := h
  have bx : Below w.heap.size w (w.alloc (.cells #[.slice a ps.length cap, .string T] 54)) := (Below.refl _ _).alloc (Nat.le_refl _) _
  have HAT := at_below k1 bx
  have HX : Hid (b2.Box (w.alloc (.cells #[.slice a ps.length cap, .string T] 54)) w.heap.size 54 (.slice a ps.length cap) (.string T)) := b2.new _ _ _ _
  obtain ⟨n, hn'⟩ : ∃ n, n = ps.length := ⟨_, rfl⟩
  have HN : Hid (n = ps.length) := hn'
  have HS : Hid (Small ps) := hsm
  have hln : n ≤ 1048576 := by rw [hn']; exact hsm.1
  rw [← hn'] at HX HAT bx ⊢
  have HH : Hid (ps = [] ∨ ∃ b off, a = some ⟨b, off, none⟩ ∧ ∀ j, j < ps.length → (w.alloc (.cells #[.slice a n cap, .string T] 54)).cell? ⟨b, off + j * 2, none⟩ = some (.string (ps.getD j no).1) ∧ (w.alloc (.cells #[.slice a n cap, .string T] 54)).cell? ⟨b, off + j * 2 + 1, none⟩ = some (.string (ps.getD j no).2)) := by
    obtain ⟨a', cap', hv, hh⟩ := HAT
    simp only [Value.slice.injEq] at hv
    obtain ⟨rfl, _, rfl⟩ := hv
    exact hh
  have HB0 : Hid (Below w.heap.size w (w.alloc (.cells #[.slice a n cap, .string T] 54))) := bx
  have HLN : Hid (∀ W, Calls Tryz.prog 78 #[.string nm] W fun e w' => e = .returned (.string ⟨(lower nm.data.toList).toArray⟩) ∧ Below W.heap.size W w') := fun W => spec_lower nm W hn
  clear hsm hn' HAT bx k1
  go_enter Tryz.func36, Tryz.ntmps36
  go_wp2
  generalize hW0 : World.alloc _ _ = W0 at HX HH HB0 ⊢
  clear hW0
  go_loopw [6] (fun i wr => ∃ k : Nat, k ≤ n ∧ i = .int .i64 k ∧ find ps nm = find (ps.drop k) nm ∧ Below W0.heap.size W0 wr) (fun i _ => n - (intOf i).toNat)
  case atStart => exact ⟨0, Nat.zero_le _, rfl, rfl, Below.refl _ _⟩
  case round =>
    obtain ⟨k, hk, rfl, hf, hbw⟩ := hrel
    have HF : Hid (find ps nm = find (ps.drop k) nm) := hf
    have m0 := (HX.out.below hbw).c0
    clear hf
    by_cases hlt : k < n
    · have hlt' : (k : Int) < (n : Int) := by omega
      have hk0 : (0 : Int) ≤ (k : Int) := by omega
      have hka : k < ps.length := by rw [← HN.out]; exact hlt
      have hsz := HS.out.2 k hka
      rcases HH.out with e | ⟨b, off, rfl, hcells⟩
      · rw [e] at hka; simp at hka
      obtain ⟨v0, v1⟩ := hcells k hka
      have hblt : b < W0.heap.size := World.block_lt_of_cell? W0 _ v0
      have c0 := (hbw.cell (p := ⟨b, off + k * 2, none⟩) hblt).trans v0
      have HV1 : Hid (∀ W, Below W0.heap.size W0 W → W.cell? ⟨b, off + k * 2 + 1, none⟩ = some (.string (ps.getD k no).2)) := fun W hW => (hW.cell (p := ⟨b, off + k * 2 + 1, none⟩) hblt).trans v1
      have HFN : Hid (sameB (ps.getD k no).1 nm = false → find ps nm = find (ps.drop (k + 1)) nm) := fun h => find_drop HF.out hka h
      have HFA : Hid (sameB (ps.getD k no).1 nm = true → find ps nm = some (ps.getD k no).2) := fun h => find_at HF.out hka h
      clear hcells v0 v1 hka
      generalize (ps.getD k no).1 = nk at c0 hsz HFN HFA
      generalize (ps.getD k no).2 = vk at HV1 hsz HFA
      have HT := tl_same nk nm
      have HA : Hid (∀ W, Calls Tryz.prog 78 #[.string nk] W fun e w' => e = .returned (.string ⟨(lower nk.data.toList).toArray⟩) ∧ Below W.heap.size W w') := fun W => spec_lower nk W hsz.1
      have HL2 : Hid (∀ W, Calls Tryz.prog 78 #[.string nm] W fun e w' => e = .returned (.string ⟨(lower nm.data.toList).toArray⟩) ∧ Below W.heap.size W w') := HLN.out
      generalize (⟨(lower nk.data.toList).toArray⟩ : ByteArray) = A at HT HA
      generalize (⟨(lower nm.data.toList).toArray⟩ : ByteArray) = B at HT HL2
      have HB1 : Hid (Below W0.heap.size W0 wr) := hbw
      clear hbw
      go_wp2_with fail
      refine (HA.out _).mono ?_
      rintro e w2 ⟨rfl, hb2⟩
      have HB2 : Hid (Below W0.heap.size W0 w2) := HB1.out.trans (hb2.mono HB1.out.size)
      clear hb2 c0 m0
      go_wp2_with fail
      refine (HL2.out _).mono ?_
      rintro e w3 ⟨rfl, hb3⟩
      have HB3 : Hid (Below W0.heap.size W0 w3) := HB2.out.trans (hb3.mono HB2.out.size)
      have m0 := (HX.out.below HB3.out).c0
      have c1 := HV1.out _ HB3.out
      clear hb3
      cases hsb : sameB nk nm with
      | true =>
        rw [hsb] at HT
        have HR : Hid (FRet (find ps nm) = .tuple #[.string vk, .bool true]) := (show _ = _ by rw [HFA.out hsb]; rfl)
        have hb4 := HB0.out.trans (HB3.out.mono HB0.out.size)
        clear hsb
        go_wp2
        go_ret2
        exact ⟨by rw [HR.out]; rfl, hb4⟩
      | false =>
        rw [hsb] at HT
        have HR : Hid (find ps nm = find (ps.drop (k + 1)) nm) := HFN.out hsb
        clear hsb
        go_wp2
        go_roundw
        case rel => exact ⟨k + 1, by omega, by go_num, HR.out, HB3.out⟩
        case measure => simp [intOf]; omega
    · have hlt' : ¬ (k : Int) < (n : Int) := by omega
      have HR : Hid (FRet (find ps nm) = .tuple #[.string ⟨#[]⟩, .bool false]) := (show _ = _ by rw [find_end HF.out (by have := HN.out; omega)]; rfl)
      have hb3 := HB0.out.trans (hbw.mono HB0.out.size)
      go_wp2
      go_ret2
      exact ⟨by rw [HR.out]; rfl, hb3⟩
/-- What both FieldOf functions answer. -/
def foC (ps : List Pr) (nm : ByteArray) : ByteArray × Int :=
  if 65536 < nm.size then (⟨#[]⟩, 2) else if 40 < ps.length then (⟨#[]⟩, 1) else match find ps nm with
    | some v => (v, 0)
    | none => (⟨#[]⟩, 5)
theorem find_mem {ps : List Pr} {nm v : ByteArray} (h : find ps nm = some v) (hs : Small ps) : v.size ≤ 1048576 := by
  unfold find at h
  cases hf : ps.find? (fun p => sameB p.1 nm) with
  | none => rw [hf] at h; cases h
  | some p =>
    rw [hf] at h
    obtain rfl : p.2 = v := Option.some.inj h
    obtain ⟨j, hj, e⟩ := List.mem_iff_getElem.1 (List.mem_of_find?_eq_some hf)
    have := (hs.2 j hj).2
    rw [List.getD_eq_getElem?_getD, List.getElem?_eq_getElem hj, Option.getD_some, e] at this
    exact this
end Go.Proofs.YtadfdfmebdcfgaaGreatDoor.fo

namespace Go.Proofs.YtadfdfmebdcfgaaGreatDoor.me
open Go.RowKit
open fa fo gr
set_option linter.unusedVariables false

/-- Texts in a row. -/
def TxtsAt (w : World) (b off : Nat) (ns : List ByteArray) : Prop := ∀ j (hj : j < ns.length), w.cell? ⟨b, off + j, none⟩ = some (.string (ns[j]))
def hasAll (ps : List Pr) (ns : List ByteArray) : Bool := ns.all fun nm => (find ps nm).isSome
theorem hasAll_take {ps : List Pr} {ns : List ByteArray} {k : Nat} (h : hasAll ps (ns.take k) = true) (hk : k < ns.length) (hf : (find ps (ns[k])).isSome = true) : hasAll ps (ns.take (k + 1)) = true := by
  unfold hasAll at h ⊢
  rw [List.take_succ_eq_append_getElem hk, List.all_append, h]
  simpa using hf
theorem hasAll_no {ps : List Pr} {ns : List ByteArray} {k : Nat} (hk : k < ns.length) (hf : find ps (ns[k]) = none) : hasAll ps ns = false := by
  unfold hasAll
  rw [List.all_eq_false]
  exact ⟨ns[k], List.getElem_mem hk, by rw [hf]; simp⟩

set_option maxHeartbeats 4000000 in
set_option maxRecDepth 100000 in
theorem has_any (v : Value) (ps : List Pr) (b off cap : Nat) (ns : List ByteArray) (w : World) (h : AttrsAt w v ps) (hsm : Small ps) (hns : TxtsAt w b off ns) (hl : ns.length ≤ 40) (hz : ∀ s ∈ ns, s.size ≤ 40) :
    Calls Tryz.prog 25 #[v, .slice (some ⟨b, off, none⟩) ns.length cap] w fun e w' => e = .returned (.bool (hasAll ps ns)) ∧ Below w.heap.size w w' := by
  obtain ⟨n, hn'⟩ : ∃ n, n = ns.length := ⟨_, rfl⟩
  have HN : Hid (n = ns.length) := hn'
  have HV : Hid (∀ (W : World) (nm : ByteArray), Below w.heap.size w W → nm.size ≤ 40 → Calls Tryz.prog 67 #[v, .string nm] W fun e w' => e = .returned (FRet (find ps nm)) ∧ Below W.heap.size W w') := fun W nm hW hz => value_any v ps nm W (at_below h hW) hsm (by omega)
  have HC : Hid (TxtsAt w b off ns) := hns
  have HZ : Hid (∀ s ∈ ns, s.size ≤ 40) := hz
  have hln : n ≤ 40 := by rw [hn']; exact hl
  rw [← hn']
  clear h hsm hns hz hn' hl
  go_enter Tryz.func25, Tryz.ntmps25
  go_wp2
  go_loopw [11] (fun i wr => ∃ k : Nat, k ≤ n ∧ i = .int .i64 k ∧ hasAll ps (ns.take k) = true ∧ Below w.heap.size w wr) (fun i _ => n - (intOf i).toNat)
  case atStart => exact ⟨0, Nat.zero_le _, rfl, rfl, Below.refl _ _⟩
  case round =>
    obtain ⟨k, hk, rfl, hf, hbw⟩ := hrel
    have HF : Hid (hasAll ps (ns.take k) = true) := hf
    clear hf
    by_cases hlt : k < n
    · have hlt' : (k : Int) < (n : Int) := by omega
      have hka : k < ns.length := by rw [← HN.out]; exact hlt
      have v0 := HC.out k hka
      have hblt : b < w.heap.size := World.block_lt_of_cell? w _ v0
      have c0 := (hbw.cell (p := ⟨b, off + k, none⟩) hblt).trans v0
      have HCV : Hid (Calls Tryz.prog 67 #[v, .string (ns[k])] wr fun e w' => e = .returned (FRet (find ps (ns[k]))) ∧ Below wr.heap.size wr w') := HV.out wr _ hbw (HZ.out _ (List.getElem_mem hka))
      have HY : Hid ((find ps (ns[k])).isSome = true → hasAll ps (ns.take (k + 1)) = true) := fun h => hasAll_take HF.out hka h
      have HNO : Hid (find ps (ns[k]) = none → hasAll ps ns = false) := fun h => hasAll_no hka h
      generalize ns[k] = s at c0 HCV HY HNO
      have HB0 : Hid (Below w.heap.size w wr) := hbw
      clear v0 hka hbw
      cases hfd : find ps s with
      | none =>
        have HR : Hid (hasAll ps ns = false) := HNO.out hfd
        rw [hfd] at HCV
        unfold FRet at HCV
        clear hfd
        go_wp2_with (go_at_call 67; refine HCV.out.mono ?_; rintro e w2 ⟨rfl, hb2⟩)
        go_ret
        exact ⟨by rw [HR.out]; rfl, HB0.out.trans (hb2.mono HB0.out.size)⟩
      | some x =>
        have HR : Hid (hasAll ps (ns.take (k + 1)) = true) := HY.out (by rw [hfd]; rfl)
        rw [hfd] at HCV
        unfold FRet at HCV
        clear hfd
        go_wp2_with (go_at_call 67; refine HCV.out.mono ?_; rintro e w2 ⟨rfl, hb2⟩)
        have HB2 : Hid (Below w.heap.size w w2) := HB0.out.trans (hb2.mono HB0.out.size)
        go_roundw
        case rel => exact ⟨k + 1, by omega, by go_num, HR.out, HB2.out⟩
        case measure => simp [intOf]; omega
    · have hlt' : ¬ (k : Int) < (n : Int) := by omega
      have HR : Hid (hasAll ps ns = true) := (show _ = _ by have := HF.out; rwa [List.take_of_length_le (by have := HN.out; omega)] at this)
      go_wp2
      go_ret
      exact ⟨by rw [HR.out]; rfl, hbw⟩
end Go.Proofs.YtadfdfmebdcfgaaGreatDoor.me
