/-
  Plain facts on a row that a call owns while another block is laid and written.
  Contracts of the text builder's methods at this program: the check of its place, writing a text, writing bytes.
-/
import Derived.Test.YtmckekflpdaklaaGreatDoorPkaf
import Derived.Lib.Builder
import Derived.Lib.ConvBytes
import Derived.Lib.AtoiErrMem
import Derived.Lib.Strings
import Derived.Test.YtmckekflpdaklaaGreatDoorPkad
import Derived.Laws.AppendOwn

namespace Go.Proofs.YtmckekflpdaklaaGreatDoor.ow
open Go.RowKit
set_option linter.unusedVariables false

theorem own_ne_block {w : World} {base e size n g : Nat} {v : Value} {xs : List Value} (h : w.ownsRow base e size v n xs) (hg : w.heap.size ≤ g) : v.ownBlock ≠ some g := by
  rcases h.2 with ⟨rfl, _⟩ | ⟨b, cap, cur, rfl, _, c, _⟩
  · exact fun x => by cases x
  · intro x
    have e : b = g := by simpa [Value.ownBlock] using x
    have := (Array.getElem?_eq_some_iff.1 c).1
    omega
/-- A block was laid, and an order drawn. -/
theorem built {w wr W : World} {base e size n : Nat} {v : Value} {xs : List Value} {cs : Array Value} {t : TypeId} (hW : W = (wr.alloc (.cells cs t)).drew) (hown : wr.ownsRow base e size v n xs) (hbw : Below base w wr) (hB : base ≤ wr.heap.size) :
    W.ownsRow base e size v n xs ∧ Below base w W ∧ W.heap[wr.heap.size]? = some (.cells cs t (0, 0)) ∧ v.ownBlock ≠ some wr.heap.size ∧ W.heap.size = wr.heap.size + 1 := by
  subst hW
  refine ⟨own_below hown (((Below.refl _ _).alloc (Nat.le_refl _) _).drew), (hbw.alloc hB _).drew, ?_, own_ne_block hown (Nat.le_refl _), ?_⟩
  · show (wr.heap.push (.cells cs t))[wr.heap.size]? = _
    simp
  · show (wr.heap.push (.cells cs t)).size = _
    simp
theorem laid {w wr W : World} {base e size n : Nat} {v : Value} {xs : List Value} {cs : Array Value} {t : TypeId} (hW : W = wr.alloc (.cells cs t)) (hown : wr.ownsRow base e size v n xs) (hbw : Below base w wr) (hB : base ≤ wr.heap.size) :
    W.ownsRow base e size v n xs ∧ Below base w W ∧ W.heap[wr.heap.size]? = some (.cells cs t (0, 0)) ∧ v.ownBlock ≠ some wr.heap.size ∧ W.heap.size = wr.heap.size + 1 := by
  subst hW
  refine ⟨own_below hown ((Below.refl _ _).alloc (Nat.le_refl _) _), hbw.alloc hB _, ?_, own_ne_block hown (Nat.le_refl _), ?_⟩
  · show (wr.heap.push (.cells cs t))[wr.heap.size]? = _
    simp
  · show (wr.heap.push (.cells cs t)).size = _
    simp
/-- A cell of that block is written. -/
theorem wrote {w W : World} {base e size n g : Nat} {v : Value} {xs : List Value} {cs : Array Value} {t : TypeId} (j : Nat) (u : Value) (hown : W.ownsRow base e size v n xs) (hbw : Below base w W) (hg : base ≤ g) (hblk : W.heap[g]? = some (.cells cs t (0, 0))) (hne : v.ownBlock ≠ some g) :
    (W.setCell ⟨g, j, none⟩ u).ownsRow base e size v n xs ∧ Below base w (W.setCell ⟨g, j, none⟩ u) ∧ (W.setCell ⟨g, j, none⟩ u).heap[g]? = some (.cells (cs.setIfInBounds j u) t (0, 0)) ∧ (W.setCell ⟨g, j, none⟩ u).heap.size = W.heap.size := by
  refine ⟨?_, hbw.setCell (p := ⟨g, j, none⟩) hg _, ?_, ?_⟩
  · refine hown.kept (row := some g) ⟨rfl, rfl, rfl, by simp [World.setCell], fun k _ hk => Below.heap_setCell _ _ _ _ (fun e => hk (by simp [e]))⟩ (Or.inr hne)
  · simp [World.setCell, Array.getElem?_modify, hblk]
  · simp [World.setCell]
theorem set_blk {W : World} {g : Nat} {cs : Array Value} {t : TypeId} (hblk : W.heap[g]? = some (.cells cs t (0, 0))) (j : Nat) (u : Value) : (W.setCell ⟨g, j, none⟩ u).heap[g]? = some (.cells (cs.setIfInBounds j u) t (0, 0)) := by
  simp [World.setCell, Array.getElem?_modify, hblk]
theorem cell_blk {W : World} {g : Nat} {cs : Array Value} {t : TypeId} (hblk : W.heap[g]? = some (.cells cs t (0, 0))) (j : Nat) : W.cell? ⟨g, j, none⟩ = cs[j]? := Lib.cell_of_heap hblk j
theorem frozen_blk {W : World} {g : Nat} {cs : Array Value} {t : TypeId} (hblk : W.heap[g]? = some (.cells cs t (0, 0))) (j : Nat) : W.frozen? ⟨g, j, none⟩ = false := Lib.frozen_of_heap hblk j
theorem news_blk {W : World} {g : Nat} {cs : Array Value} {t : TypeId} {xs : List Value} (hblk : W.heap[g]? = some (.cells cs t (0, 0))) (hxs : ∀ (j : Nat) (u : Value), xs[j]? = some u → cs[j]? = some u) : ∀ (j : Nat) (u : Value), xs[j]? = some u → W.cell? ((⟨g, 0, none⟩ : Addr).add j) = some u := by
  intro j u hj
  rw [add_at, cell_blk hblk]
  exact hxs j u hj
theorem reads_below {k : IntKind} {w w' : World} {v : Value} {zs : List Int} (h : Reads k w v zs) (hb : Below w.heap.size w w') : Reads k w' v zs :=
  reads_keep h fun a u ha => (hb.cell (World.block_lt_of_cell? w _ ha)).trans ha
theorem one_bytes (l : List UInt8) : ∀ u ∈ Lib.byteCells l, u.oneCell' = true := by
  intro u hu
  obtain ⟨x, _, rfl⟩ := List.mem_map.1 hu
  rfl
/-- A slice value under which these bytes lie. -/
def Lies (w : World) (v : Value) (l : List UInt8) : Prop :=
  ∃ ao cap, v = .slice ao l.length cap ∧ (l = [] ∨ ∃ b, ao = some ⟨b, 0, none⟩ ∧ l.length ≤ cap ∧ ∀ j, j < l.length → w.cell? ⟨b, j, none⟩ = some (.int .u8 ((l.getD j 0).toNat : Int)))
theorem lies_own {w : World} {base e : Nat} {v : Value} {l : List UInt8} (h : w.ownsRow base e 1 v l.length (Lib.byteCells l)) : Lies w v l := by
  rcases h.2 with ⟨hv, h0⟩ | ⟨g, cap, cur, hv, _, _, hc, _⟩
  · exact ⟨none, 0, by rw [hv, h0], .inl (List.eq_nil_of_length_eq_zero h0)⟩
  · refine ⟨_, cap, hv, .inr ⟨g, rfl, hc, fun j hj => ?_⟩⟩
    subst hv
    rw [h.cellAt j (by omega)]
    simp [Lib.byteCells, hj]
/-- The bytes of a text, behind its conversion. -/
theorem lies_conv (w : World) (e : TypeId) (s : ByteArray) : Lies (Lib.bytesWorld w e s) (.slice (some ⟨w.heap.size, 0, none⟩) s.size (grownCap w s.size 0 e)) s.data.toList := by
  refine ⟨_, _, by rw [← Lib.size_eq], .inr ⟨_, rfl, by rw [← Lib.size_eq]; exact grownCap_ge _ _ _ _, fun j hj => ?_⟩⟩
  rw [Lib.bytesWorld_cell w e s j (by rw [Lib.size_eq]; exact hj)]
theorem reads_lies {w : World} {v : Value} {l : List UInt8} (h : Lies w v l) : Reads .u8 w v (l.map fun b => (b.toNat : Int)) := by
  obtain ⟨ao, cap, rfl, h⟩ := h
  refine ⟨ao, cap, by rw [List.length_map], ?_⟩
  rcases h with rfl | ⟨b, rfl, _, hc⟩
  · exact .inl rfl
  · refine .inr ⟨b, 0, rfl, fun j hj => ?_⟩
    rw [List.length_map] at hj
    rw [Nat.zero_add, hc j hj]
    simp [List.getD_eq_getElem?_getD, hj]
theorem below_conv (w : World) (e : TypeId) (s : ByteArray) : Below w.heap.size w (Lib.bytesWorld w e s) := Lib.bytesWorld_below w e s
end Go.Proofs.YtmckekflpdaklaaGreatDoor.ow

namespace Go.Proofs.YtmckekflpdaklaaGreatDoor.bl
open Go.RowKit
set_option linter.unusedVariables false

/-- A builder at block b that holds these bytes; all that it made lies at or beyond B. -/
def Bd (B b : Nat) (l : List UInt8) (w : World) : Prop := Lib.IsBuilder 105 5 B b (Lib.byteCells l) w
theorem size2 : (Tryz.prog.info? 105).map (·.size) = some 2 := by kernel_rfl
theorem lies : liesAt Tryz.prog Tryz.prog.depth 105 (2 / Tryz.prog.cellsOf 105) 0 105 1 = true := by kernel_rfl
theorem info1 : (Tryz.prog.info? 5).map (fun i => (i.zero, i.size, i.bytes)) = some (some (.int .u8 0), 1, 1) := by kernel_rfl
theorem kinds : (105 : TypeId) ≠ 5 := by decide

set_option maxHeartbeats 1000000 in
set_option maxRecDepth 100000 in
theorem place_used (b : Nat) (w : World) (h0 : w.cell? ⟨b, 0, none⟩ = some (.pointer (some ⟨b, 0, none⟩))) :
    Calls Tryz.prog 131 #[.pointer (some ⟨b, 0, none⟩)] w fun e w' => e = .returned (.tuple #[]) ∧ w' = w := by
  obtain ⟨j, hj, _⟩ := Option.map_eq_some_iff.1 size2
  go_enter Tryz.func131, Tryz.ntmps131
  go_wp2
  rw [Lib.run_neq_ptr_same w _ Tryz.underlying103 hj]
  go_wp2
  go_end0
  exact ⟨rfl, rfl⟩

set_option maxHeartbeats 1000000 in
set_option maxRecDepth 100000 in
theorem place_fresh (b : Nat) (w : World) (h0 : w.cell? ⟨b, 0, none⟩ = some (.pointer none)) (hsh : w.shape? b = some (105, 2)) (hfz : w.frozen? ⟨b, 0, none⟩ = false) :
    Calls Tryz.prog 131 #[.pointer (some ⟨b, 0, none⟩)] w fun e w' => e = .returned (.tuple #[]) ∧ w' = w.setCell ⟨b, 0, none⟩ (.pointer (some ⟨b, 0, none⟩)) := by
  obtain ⟨j, hj, hjs⟩ := Option.map_eq_some_iff.1 size2
  go_enter Tryz.func131, Tryz.ntmps131
  go_wp2
  rw [Lib.run_to_unsafe w ⟨b, 0, none⟩ Tryz.underlying103 Tryz.underlying148 hj (by rw [hjs]; decide) hsh (Nat.zero_lt_succ 1)]
  simp only [Result.andThen]
  rw [Oper.upon_value]
  go_wp2
  rw [run_callFunc_extern Tryz.func161 (by kernel_rfl) (by kernel_rfl) (by kernel_rfl) (e := Extern.AbiNoEscape.same) (by kernel_rfl)]
  rw [Lib.run_noEscape]
  simp only [Result.andThen]
  rw [Oper.upon_value]
  go_wp2
  rw [Lib.run_from_unsafe w ⟨b, 0, none⟩ Tryz.underlying148 Tryz.underlying103 hj hsh lies]
  simp only [Result.andThen]
  rw [Oper.upon_value]
  go_wp2
  go_end0
  exact ⟨rfl, rfl⟩

theorem place (B b : Nat) (l : List UInt8) (w : World) (h : Bd B b l w) :
    Calls Tryz.prog 131 #[.pointer (some ⟨b, 0, none⟩)] w fun e w' => e = .returned (.tuple #[]) ∧ (Lib.BuilderAt 105 5 B b (.pointer (some ⟨b, 0, none⟩)) (Lib.byteCells l) w' ∧ Below B w w' ∧ ∀ k, k ≠ b → w'.heap[k]? = w.heap[k]?) := by
  rcases h with h | h
  · refine (place_fresh b w h.cell0 h.shape h.frozen0).mono ?_
    rintro e w' ⟨rfl, rfl⟩
    exact ⟨rfl, h.used _, (Below.refl B w).setCell (p := ⟨b, 0, none⟩) h.1 _, fun k hk => Below.heap_setCell _ _ _ _ (fun e => hk (by simp [e]))⟩
  · refine (place_used b w h.cell0).mono ?_
    rintro e w' ⟨rfl, rfl⟩
    exact ⟨rfl, h, Below.refl B _, fun _ _ => rfl⟩

/-- Blocks of another kind than bytes, other than the builder's own, stay as they are. -/
def Others (b : Nat) (w w' : World) : Prop := ∀ (k : Nat) (cs : Array Value) (t : TypeId) (fr : Nat × Nat), k ≠ b → t ≠ 5 → w.heap[k]? = some (.cells cs t fr) → w'.heap[k]? = some (.cells cs t fr)
theorem others_own {w : World} {B n k : Nat} {v : Value} {xs : List Value} {cs : Array Value} {t : TypeId} {fr : Nat × Nat} (h : w.ownsRow B 5 1 v n xs) (hk : w.heap[k]? = some (.cells cs t fr)) (ht : t ≠ 5) : some k ≠ v.ownBlock := by
  intro e
  rcases h.2 with ⟨rfl, _⟩ | ⟨g, cap, cur, rfl, _, hg, _⟩
  · cases e
  · have : k = g := by simpa [Value.ownBlock] using e
    subst this
    rw [hk] at hg
    cases hg
    exact ht rfl

set_option maxHeartbeats 2000000 in
set_option maxRecDepth 100000 in
theorem textK (B b : Nat) (l : List UInt8) (s : ByteArray) (w : World) (h : Bd B b l w) (hlen : l.length + s.size ≤ 140737488355328) (hBw : B ≤ w.heap.size) :
    Calls Tryz.prog 89 #[.pointer (some ⟨b, 0, none⟩), .string s] w fun e w' => (∃ v, e = .returned (.tuple v)) ∧ Bd B b (l ++ s.data.toList) w' ∧ Below B w w' ∧ Others b w w' := by
  have hl : (Lib.byteCells l).length = l.length := Lib.byteCells_length l
  obtain ⟨i0, hi, hz0, hz1, hz2⟩ := info_parts info1
  go_enter Tryz.func89, Tryz.ntmps89
  go_wp2_with fail
  refine (place B b l _ h).mono ?_
  rintro e w1 ⟨rfl, ⟨hB, v, hbk, hown, hne⟩, hb1, hk1⟩
  have HK : Hid (∀ k, k ≠ b → w1.heap[k]? = w.heap[k]?) := hk1
  clear hk1
  have c0 : w1.cell? ⟨b, 0, none⟩ = some (.pointer (some ⟨b, 0, none⟩)) := by rw [Lib.cell_of_heap hbk]; rfl
  have c1 : w1.cell? ⟨b, 1, none⟩ = some v := by rw [Lib.cell_of_heap hbk]; rfl
  go_wp2_with (at_builtin; refine Lib.wpList_append_own_string _ rfl _ _ 51 9 rfl B 5 i0 Tryz.underlying51 Tryz.underlying9 hi hz0 hz1 hz2 _ _ _ rfl hown s rfl ?c3 ?c4 ?c5 ?_)
  case c3 => unfold maxLen; omega
  case c4 => omega
  case c5 => have := hb1.size; omega
  intro v' w2 hown' hgrow _
  have hlt : b < w1.heap.size := (Array.getElem?_eq_some_iff.1 hbk).1
  have hb2 : w2.heap[b]? = some (.cells #[.pointer (some ⟨b, 0, none⟩), v] 105 (0, 0)) := by
    rw [hgrow.block b hlt (fun e => hne e.symm)]
    exact hbk
  have d0 : w2.cell? ⟨b, 0, none⟩ = some (.pointer (some ⟨b, 0, none⟩)) := by rw [Lib.cell_of_heap hb2]; rfl
  have d1 : w2.cell? ⟨b, 1, none⟩ = some v := by rw [Lib.cell_of_heap hb2]; rfl
  have f1 : w2.frozen? ⟨b, 1, none⟩ = false := Lib.frozen_of_heap hb2 1
  obtain ⟨ao, n', cap, rfl⟩ : ∃ ao n' cap, v' = .slice ao n' cap := by
    rcases hown'.2 with ⟨hv, _⟩ | ⟨g, cap, cur, hv, _⟩
    · exact ⟨_, _, _, hv⟩
    · exact ⟨_, _, _, hv⟩
  go_wp2
  go_ret2
  refine ⟨⟨_, rfl⟩, ?_, ?_, ?_⟩
  · have hc : Lib.byteCells l ++ Lib.strCells s = Lib.byteCells (l ++ s.data.toList) := by rw [Lib.byteCells_append, Lib.strCells_eq]
    rw [hc] at hown'
    exact .inr (Lib.BuilderAt.put (T := 105) (e := 5) hB hb2 (bs' := Lib.byteCells (l ++ s.data.toList)) (by have h1 := hown'.1; simp only [Nat.mul_one] at h1; rw [h1]; exact hown') kinds)
  · exact (hb1.grown hgrow (by have := hb1.size; omega) (fun k hk => (hown.lt k hk).1)).setCell (p := ⟨b, 1, none⟩) hB _
  · intro k cs t fr hk ht hc
    have h1 : w1.heap[k]? = some (.cells cs t fr) := (HK.out k hk).trans hc
    have h2 := (hgrow.block k (Array.getElem?_eq_some_iff.1 h1).1 (others_own hown h1 ht)).trans h1
    exact (Below.heap_setCell _ _ _ _ (fun e => hk (by simp [e]))).trans h2

theorem text (B b : Nat) (l : List UInt8) (s : ByteArray) (w : World) (h : Bd B b l w) (hlen : l.length + s.size ≤ 140737488355328) (hBw : B ≤ w.heap.size) :
    Calls Tryz.prog 89 #[.pointer (some ⟨b, 0, none⟩), .string s] w fun e w' => (∃ v, e = .returned (.tuple v)) ∧ Bd B b (l ++ s.data.toList) w' ∧ Below B w w' :=
  (textK B b l s w h hlen hBw).mono fun _ _ h => ⟨h.1, h.2.1, h.2.2.1⟩

set_option maxHeartbeats 2000000 in
set_option maxRecDepth 100000 in
theorem bytes (B b : Nat) (l : List UInt8) (g m c : Nat) (news : List UInt8) (w : World) (h : Bd B b l w) (hm : news.length = m) (hg : g ≠ b)
    (hnews : ∀ j u, (Lib.byteCells news)[j]? = some u → w.cell? ⟨g, j, none⟩ = some u) (hlen : l.length + m ≤ 140737488355328) (hBw : B ≤ w.heap.size) :
    Calls Tryz.prog 183 #[.pointer (some ⟨b, 0, none⟩), .slice (some ⟨g, 0, none⟩) m c] w fun e w' => (∃ v, e = .returned (.tuple v)) ∧ Bd B b (l ++ news) w' ∧ Below B w w' := by
  have hl : (Lib.byteCells l).length = l.length := Lib.byteCells_length l
  have hl2 : (Lib.byteCells news).length = news.length := Lib.byteCells_length news
  obtain ⟨i0, hi, hz0, hz1, hz2⟩ := info_parts info1
  go_enter Tryz.func183, Tryz.ntmps183
  go_wp2_with fail
  refine (place B b l _ h).mono ?_
  rintro e w1 ⟨rfl, ⟨hB, v, hbk, hown, hne⟩, hb1, hk1⟩
  have hn1 : ∀ j u, (Lib.byteCells news)[j]? = some u → w1.cell? ((⟨g, 0, none⟩ : Addr).add j) = some u := fun j u hj => by
    have := hnews j u hj
    rw [ow.add_at]
    rw [← this]
    simp only [World.cell?]
    rw [hk1 g hg]
  have h1c : ∀ u ∈ Lib.byteCells news, u.oneCell' = true := by
    intro u hu
    obtain ⟨x, _, rfl⟩ := List.mem_map.1 hu
    rfl
  clear hk1 hnews
  have c0 : w1.cell? ⟨b, 0, none⟩ = some (.pointer (some ⟨b, 0, none⟩)) := by rw [Lib.cell_of_heap hbk]; rfl
  have c1 : w1.cell? ⟨b, 1, none⟩ = some v := by rw [Lib.cell_of_heap hbk]; rfl
  go_wp2_with (at_builtin; refine wpList_append_own _ rfl _ _ 51 rfl B 5 i0 (.int .u8 0) 1 1 Tryz.underlying51 hi hz0 hz1 hz2 rfl (by decide) _ _ _ rfl hown ⟨g, 0, none⟩ m c (Lib.byteCells news) rfl (by omega) hn1 h1c ?c3 ?c4 ?c5 ?_)
  case c3 => unfold maxLen; omega
  case c4 => omega
  case c5 => have := hb1.size; omega
  intro v' w2 hown' hgrow _
  have hlt : b < w1.heap.size := (Array.getElem?_eq_some_iff.1 hbk).1
  have hb2 : w2.heap[b]? = some (.cells #[.pointer (some ⟨b, 0, none⟩), v] 105 (0, 0)) := by
    rw [hgrow.block b hlt (fun e => hne e.symm)]
    exact hbk
  have d0 : w2.cell? ⟨b, 0, none⟩ = some (.pointer (some ⟨b, 0, none⟩)) := by rw [Lib.cell_of_heap hb2]; rfl
  have d1 : w2.cell? ⟨b, 1, none⟩ = some v := by rw [Lib.cell_of_heap hb2]; rfl
  have f1 : w2.frozen? ⟨b, 1, none⟩ = false := Lib.frozen_of_heap hb2 1
  obtain ⟨ao, n', cap, rfl⟩ : ∃ ao n' cap, v' = .slice ao n' cap := by
    rcases hown'.2 with ⟨hv, _⟩ | ⟨g, cap, cur, hv, _⟩
    · exact ⟨_, _, _, hv⟩
    · exact ⟨_, _, _, hv⟩
  clear hn1 h1c
  go_wp2
  go_ret2
  refine ⟨⟨_, rfl⟩, ?_, ?_⟩
  · have hc : Lib.byteCells l ++ Lib.byteCells news = Lib.byteCells (l ++ news) := by rw [Lib.byteCells_append]
    rw [hc] at hown'
    exact .inr (Lib.BuilderAt.put (T := 105) (e := 5) hB hb2 (bs' := Lib.byteCells (l ++ news)) (by have h1 := hown'.1; simp only [Nat.mul_one] at h1; rw [h1]; exact hown') kinds)
  · exact (hb1.grown hgrow (by have := hb1.size; omega) (fun k hk => (hown.lt k hk).1)).setCell (p := ⟨b, 1, none⟩) hB _
set_option maxHeartbeats 2000000 in
set_option maxRecDepth 100000 in
theorem byteK (B b : Nat) (l : List UInt8) (x : UInt8) (w : World) (h : Bd B b l w) (hlen : l.length + 1 ≤ 140737488355328) (hBw : B ≤ w.heap.size) :
    Calls Tryz.prog 126 #[.pointer (some ⟨b, 0, none⟩), .int .u8 (x.toNat : Int)] w fun e w' => (∃ v, e = .returned v) ∧ Bd B b (l ++ [x]) w' ∧ Below B w w' ∧ Others b w w' := by
  have hl : (Lib.byteCells l).length = l.length := Lib.byteCells_length l
  obtain ⟨i0, hi, hz0, hz1, hz2⟩ := info_parts info1
  go_enter Tryz.func126, Tryz.ntmps126
  go_wp2_with fail
  refine (place B b l _ h).mono ?_
  rintro e w1 ⟨rfl, ⟨hB, v, hbk, hown, hne⟩, hb1, hk1⟩
  have c0 : w1.cell? ⟨b, 0, none⟩ = some (.pointer (some ⟨b, 0, none⟩)) := by rw [Lib.cell_of_heap hbk]; rfl
  have c1 : w1.cell? ⟨b, 1, none⟩ = some v := by rw [Lib.cell_of_heap hbk]; rfl
  have hlt : b < w1.heap.size := (Array.getElem?_eq_some_iff.1 hbk).1
  have HK : Hid (∀ k, k ≠ b → w1.heap[k]? = w.heap[k]?) := hk1
  clear hk1
  go_wp2_with (at_builtin; refine wpList_append_own _ rfl _ _ 51 rfl B 5 i0 (.int .u8 0) 1 1 Tryz.underlying51 hi hz0 hz1 hz2 rfl (by decide) _ _ _ rfl (hown.alloc _) ⟨w1.heap.size, 0, none⟩ 1 1 [.int .u8 (x.toNat : Int)] rfl rfl (ow.cells_new _ [.int .u8 (x.toNat : Int)] _) (by intro u hu; simp at hu; subst hu; rfl) ?c3 ?c4 ?c5 ?_)
  case c3 => unfold maxLen; omega
  case c4 => omega
  case c5 => have := hb1.size; simp; omega
  intro v' w2 hown' hgrow _
  have hb2 : w2.heap[b]? = some (.cells #[.pointer (some ⟨b, 0, none⟩), v] 105 (0, 0)) := by
    rw [hgrow.block b (by simp; omega) (fun e => hne e.symm), Below.heap_alloc _ _ _ hlt]
    exact hbk
  have d0 : w2.cell? ⟨b, 0, none⟩ = some (.pointer (some ⟨b, 0, none⟩)) := by rw [Lib.cell_of_heap hb2]; rfl
  have d1 : w2.cell? ⟨b, 1, none⟩ = some v := by rw [Lib.cell_of_heap hb2]; rfl
  have f1 : w2.frozen? ⟨b, 1, none⟩ = false := Lib.frozen_of_heap hb2 1
  obtain ⟨ao, n', cap, rfl⟩ : ∃ ao n' cap, v' = .slice ao n' cap := by
    rcases hown'.2 with ⟨hv, _⟩ | ⟨g, cap, cur, hv, _⟩
    · exact ⟨_, _, _, hv⟩
    · exact ⟨_, _, _, hv⟩
  go_wp2
  go_ret
  refine ⟨⟨_, rfl⟩, ?_, ?_, ?_⟩
  · have hc : Lib.byteCells l ++ [.int .u8 (x.toNat : Int)] = Lib.byteCells (l ++ [x]) := by rw [Lib.byteCells_append]; rfl
    rw [hc] at hown'
    exact .inr (Lib.BuilderAt.put (T := 105) (e := 5) hB hb2 (bs' := Lib.byteCells (l ++ [x])) (by have h1 := hown'.1; simp only [Nat.mul_one] at h1; rw [h1]; exact hown') kinds)
  · exact ((hb1.alloc (by have := hb1.size; omega) _).grown hgrow (by have := hb1.size; simp; omega) (fun k hk => (hown.lt k hk).1)).setCell (p := ⟨b, 1, none⟩) hB _
  · intro k cs t fr hk ht hc
    have h1 : w1.heap[k]? = some (.cells cs t fr) := (HK.out k hk).trans hc
    have hk2 := (Array.getElem?_eq_some_iff.1 h1).1
    have h2 := (hgrow.block k (by simp; omega) (others_own hown h1 ht)).trans ((Below.heap_alloc _ _ _ hk2).trans h1)
    exact (Below.heap_setCell _ _ _ _ (fun e => hk (by simp [e]))).trans h2
theorem byte (B b : Nat) (l : List UInt8) (x : UInt8) (w : World) (h : Bd B b l w) (hlen : l.length + 1 ≤ 140737488355328) (hBw : B ≤ w.heap.size) :
    Calls Tryz.prog 126 #[.pointer (some ⟨b, 0, none⟩), .int .u8 (x.toNat : Int)] w fun e w' => (∃ v, e = .returned v) ∧ Bd B b (l ++ [x]) w' ∧ Below B w w' :=
  (byteK B b l x w h hlen hBw).mono fun _ _ h => ⟨h.1, h.2.1, h.2.2.1⟩
/-- A builder that has just been laid holds nothing. -/
theorem fresh (w : World) : Bd w.heap.size w.heap.size [] (w.alloc (.cells #[.pointer none, .slice none 0 0] 105)) := Lib.fresh_isBuilder _ _ w
theorem len (B b : Nat) (l : List UInt8) (w : World) (h : Bd B b l w) :
    Calls Tryz.prog 125 #[.pointer (some ⟨b, 0, none⟩)] w fun e w' => e = .returned (.int .i64 (l.length : Int)) ∧ w' = w := by
  refine (Tryz.Builder_Len B b _ w h).mono ?_
  intro e w' he
  rw [Lib.byteCells_length] at he
  exact he
theorem said (B b : Nat) (l : List UInt8) (w : World) (h : Bd B b l w) (hBw : B ≤ w.heap.size) :
    Calls Tryz.prog 92 #[.pointer (some ⟨b, 0, none⟩)] w fun e w' => e = .returned (.string ⟨l.toArray⟩) ∧ Below B w w' := Tryz.Builder_String_any B b l w h hBw
/-- What turns no block that is there leaves a builder as it is. -/
theorem keep {B b : Nat} {l : List UInt8} {w w' : World} (h : Bd B b l w) (hb : Below w.heap.size w w') : Bd B b l w' := by
  rcases h with ⟨hB, v, hbk, hown, hne⟩ | ⟨hB, v, hbk, hown, hne⟩
  · exact .inl ⟨hB, v, (hb.block b (Array.getElem?_eq_some_iff.1 hbk).1).trans hbk, ow.own_below hown hb, hne⟩
  · exact .inr ⟨hB, v, (hb.block b (Array.getElem?_eq_some_iff.1 hbk).1).trans hbk, ow.own_below hown hb, hne⟩
theorem inside {B b : Nat} {l : List UInt8} {w : World} (h : Bd B b l w) : B ≤ b ∧ b < w.heap.size := by
  rcases h with h | h
  · exact ⟨h.1, h.lt⟩
  · exact ⟨h.1, h.lt⟩
end Go.Proofs.YtmckekflpdaklaaGreatDoor.bl
