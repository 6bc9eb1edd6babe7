/-
  A row of bytes that a call made, cell by cell: also one that a text was turned into, behind which a mark lies; appending to it.
-/
import Derived.Test.YtejmfffapkmjoaaDoorOwm
import Derived.Laws.IdiomCopy
import Derived.Laws.Append
import Derived.Maps.AppendAt
namespace Go.Proofs.YtejmfffapkmjoaaDoor.ow
open Go.RowKit
set_option linter.unusedVariables false

/-- A slice of bytes whose cells the call may write, as far as its room goes. -/
def OwnC (w : World) (base : Nat) (v : Value) (l : List UInt8) : Prop :=
  ∃ g cap, v = .slice (some ⟨g, 0, none⟩) l.length cap ∧ base ≤ g ∧ g < w.heap.size ∧ l.length ≤ cap ∧ cap ≤ maxLen ∧
    (∀ j, j < cap → (w.cell? ⟨g, j, none⟩).isSome = true ∧ w.frozen? ⟨g, j, none⟩ = false) ∧ ∀ j, j < l.length → w.cell? ⟨g, j, none⟩ = some (.int .u8 ((l.getD j 0).toNat : Int))

theorem ownC_below {w w' : World} {base : Nat} {v : Value} {l : List UInt8} (h : OwnC w base v l) (hb : Below w.heap.size w w') : OwnC w' base v l := by
  obtain ⟨g, cap, hv, h1, h2, h3, h4, h5, h6⟩ := h
  refine ⟨g, cap, hv, h1, Nat.lt_of_lt_of_le h2 hb.size, h3, h4, fun j hj => ?_, fun j hj => ?_⟩
  · rw [hb.cell (p := ⟨g, j, none⟩) h2, hb.frozen (p := ⟨g, j, none⟩) h2]
    exact h5 j hj
  · rw [hb.cell (p := ⟨g, j, none⟩) h2]
    exact h6 j hj
theorem ownC_alloc {w : World} {base : Nat} {v : Value} {l : List UInt8} (h : OwnC w base v l) (o : Obj) : OwnC (w.alloc o) base v l := ownC_below h ((Below.refl _ _).alloc (Nat.le_refl _) _)
theorem ownC_block {w : World} {base : Nat} {v : Value} {l : List UInt8} (h : OwnC w base v l) : ∀ k, v.ownBlock = some k → base ≤ k := by
  obtain ⟨g, cap, rfl, h1, _⟩ := h
  intro k hk
  cases hk
  exact h1
theorem ownC_slice {w : World} {base : Nat} {v : Value} {l : List UInt8} (h : OwnC w base v l) : ∃ ao cap, v = .slice ao l.length cap := by
  obtain ⟨g, cap, rfl, _⟩ := h
  exact ⟨_, _, rfl⟩
/-- The bytes of a block. -/
theorem ownC_new {w : World} {g cap : Nat} {e : TypeId} {fz : Nat × Nat} {cs : Array Value} {base : Nat} (l : List UInt8) (hg : w.heap[g]? = some (.cells cs e fz)) (hs : cs.size = cap) (hf : fz = (0, 0) ∨ cap ≤ fz.1) (hb : base ≤ g) (hl : l.length ≤ cap) (hm : cap ≤ maxLen)
    (hc : ∀ j, j < l.length → cs[j]? = some (.int .u8 ((l.getD j 0).toNat : Int))) : OwnC w base (.slice (some ⟨g, 0, none⟩) l.length cap) l := by
  have hcell : ∀ j, w.cell? ⟨g, j, none⟩ = cs[j]? := fun j => cell_of_row w g j _ e fz hg
  refine ⟨g, cap, rfl, hb, (Array.getElem?_eq_some_iff.1 hg).1, hl, hm, fun j hj => ⟨?_, ?_⟩, fun j hj => ?_⟩
  · rw [hcell, Array.getElem?_eq_getElem (by omega)]
    rfl
  · obtain ⟨lo, hi⟩ := fz
    simp only [World.frozen?, hg]
    rcases hf with hf | hf
    · cases hf
      simp
    · simp only at hf
      simp only [Bool.and_eq_false_iff, decide_eq_false_iff_not]
      left
      omega
  · rw [hcell]
    exact hc j hj
/-- A text turned into bytes. -/
theorem ownC_conv (w : World) (e : TypeId) (s : ByteArray) (hs : s.size ≤ maxLen) : OwnC (Lib.bytesWorld w e s) w.heap.size (.slice (some ⟨w.heap.size, 0, none⟩) s.size (grownCap w s.size 0 e)) s.data.toList := by
  have hge := grownCap_ge w s.size 0 e
  have hsz : (Lib.bytesCells w e s).size = grownCap w s.size 0 e := by
    unfold Lib.bytesCells
    rw [Array.size_append, Array.size_map, Array.size_replicate]
    have : s.data.size = s.size := rfl
    omega
  have := ownC_new (base := w.heap.size) s.data.toList (Lib.bytesWorld_at_new w e s) hsz (.inr (by rw [hsz]; exact Nat.le_refl _)) (Nat.le_refl _) (by rw [← Lib.size_eq]; exact hge) (grownCap_le_maxLen w s.size 0 e hs) (fun j hj => by
    have hj' : j < s.size := by rw [Lib.size_eq]; exact hj
    have h1 := Lib.bytesWorld_cell w e s j hj'
    rw [cell_of_row _ _ j _ _ _ (Lib.bytesWorld_at_new w e s)] at h1
    exact h1)
  rw [← Lib.size_eq] at this
  exact this

theorem grown_setCells (g : Nat) : ∀ (vs : List Value) (o : Nat) (w : World), w.grownBy (w.setCells g o vs) (some g)
  | [], o, w => ⟨rfl, rfl, rfl, Nat.le_refl _, fun _ _ _ => rfl⟩
  | v :: r, o, w => by
    have h1 : w.grownBy (w.setCell ⟨g, o, none⟩ v) (some g) := ⟨rfl, rfl, rfl, by simp [World.setCell], fun k _ hk => Below.heap_setCell _ _ _ _ (fun e => hk (by simp [e]))⟩
    exact h1.trans (grown_setCells g r (o + 1) _)
theorem room {w : World} {base g cap : Nat} {l : List UInt8} (news : List UInt8) (h : OwnC w base (.slice (some ⟨g, 0, none⟩) l.length cap) l) (hr : l.length + news.length ≤ cap) :
    OwnC (w.setCells g l.length (Lib.byteCells news)) base (.slice (some ⟨g, 0, none⟩) (l ++ news).length cap) (l ++ news) := by
  obtain ⟨g', cap', hv, h1, h2, h3, h4, h5, h6⟩ := h
  cases hv
  have hbl := Lib.byteCells_length news
  refine ⟨g, cap, rfl, h1, Nat.lt_of_lt_of_le h2 (grown_setCells g _ _ w).size, by rw [List.length_append]; exact hr, h4, fun j hj => ?_, fun j hj => ?_⟩
  · rw [World.frozen?_setCells]
    refine ⟨?_, (h5 j hj).2⟩
    by_cases hin : l.length ≤ j ∧ j < l.length + news.length
    · have := World.cell?_setCells_in g (Lib.byteCells news) l.length w (fun i hi => (h5 (l.length + i) (by omega)).1) (j - l.length) (by omega)
      rw [show l.length + (j - l.length) = j from by omega] at this
      rw [this]
      rfl
    · rw [World.cell?_setCells_out g (Lib.byteCells news) l.length w ⟨g, j, none⟩ (fun _ _ => by simp only; omega)]
      exact (h5 j hj).1
  · rw [List.length_append] at hj
    by_cases hin : j < l.length
    · rw [World.cell?_setCells_out g (Lib.byteCells news) l.length w ⟨g, j, none⟩ (fun _ _ => by simp only; omega), h6 j hin]
      simp [List.getD_eq_getElem?_getD, List.getElem?_append_left hin, hin]
    · have := World.cell?_setCells_in g (Lib.byteCells news) l.length w (fun i hi => (h5 (l.length + i) (by omega)).1) (j - l.length) (by omega)
      rw [show l.length + (j - l.length) = j from by omega] at this
      rw [this]
      simp [Lib.byteCells, List.getD_eq_getElem?_getD, List.getElem_append, hin, show j < l.length + news.length from hj]
theorem grow {w : World} {base cap : Nat} {e : TypeId} (l news : List UInt8) (hb : base ≤ w.heap.size) (hm : cap ≤ maxLen) (hc : l.length + news.length ≤ cap) :
    OwnC (w.drew.alloc (.cells ((Lib.byteCells l).toArray ++ (Lib.byteCells news).toArray ++ Builtin.zeroCells (Value.int .u8 0).cells (cap - (l.length + news.length))) e)) base (.slice (some ⟨w.heap.size, 0, none⟩) (l ++ news).length cap) (l ++ news) := by
  refine ownC_new (l ++ news) (heap_alloc_new w.drew _) ?_ (.inl rfl) hb (by rw [List.length_append]; exact hc) hm (fun j hj => ?_)
  · rw [Array.size_append, Array.size_append, List.size_toArray, List.size_toArray, size_zeroCells, Lib.byteCells_length, Lib.byteCells_length]
    show _ + (cap - (l.length + news.length)) * 1 = cap
    omega
  · rw [List.length_append] at hj
    have e1 : (Lib.byteCells l).toArray ++ (Lib.byteCells news).toArray = (Lib.byteCells (l ++ news)).toArray := by rw [Lib.byteCells_append]; simp
    rw [e1, Array.getElem?_append_left (by rw [List.size_toArray, Lib.byteCells_length, List.length_append]; exact hj)]
    have hj2 : j < (l ++ news).length := by rw [List.length_append]; exact hj
    clear e1
    generalize l ++ news = q at hj2 ⊢
    simp [Lib.byteCells, List.getD_eq_getElem?_getD, hj2]

section
variable {P : Program} (w : World)
/-- Appending bytes that lie in a block. -/
theorem app_bytes (base : Nat) (t ty e : TypeId) (i : TypeInfo) (ht : P.underlying t = some (.slice e)) (hi : P.info? e = some i) (hz : i.zero = some (.int .u8 0)) (hs1 : i.size = 1) (hby : i.bytes = 1)
    (v : Value) (l : List UInt8) (h : OwnC w base v l) (a : Addr) (c : Nat) (news : List UInt8) (hn : ∀ j u, (Lib.byteCells news)[j]? = some u → w.cell? (a.add j) = some u) (hlen : l.length + news.length ≤ 140737488355328) (hb : base ≤ w.heap.size) :
    ∃ v' w', (Builtin.append_ #[t, t] ty #[v, .slice (some a) news.length c]).run P w = .ok v' w' ∧ OwnC w' base v' (l ++ news) ∧ w.grownBy w' v.ownBlock ∧ (v'.ownBlock = v.ownBlock ∨ v'.ownBlock = some w.heap.size) := by
  have h0 := h
  obtain ⟨g, cap, rfl, h1, h2, h3, h4, h5, h6⟩ := h
  have hbl := Lib.byteCells_length news
  by_cases hr : l.length + news.length ≤ cap
  · have hf := run_firstCells_some (P := P) w 1 news.length a news.length c (Lib.byteCells news) (by rw [hbl, Nat.mul_one]) hn
    have hst := run_storeCells_cells (P := P) g l.length (Lib.byteCells news) 0 w (fun j hj => (h5 (l.length + 0 + j) (by omega)).1) (fun j hj => (h5 (l.length + 0 + j) (by omega)).2) (one_bytes news)
    rw [Nat.add_zero] at hst
    refine ⟨.slice (some ⟨g, 0, none⟩) (l ++ news).length cap, w.setCells g l.length (Lib.byteCells news), ?_, room news h0 hr, grown_setCells g _ _ w, .inl rfl⟩
    rw [List.length_append]
    simp [Builtin.append_, run_underlying ht, sizeOf, typeInfo, hi, hs1, Builtin.lenOf, hr, hf, Addr.add_lit, hst]
  · have hg := run_append_grow (P := P) w t ty e i (.int .u8 0) ht hi hz ⟨g, 0, none⟩ l.length cap (Lib.byteCells l) (by rw [Lib.byteCells_length, hs1, Nat.mul_one]) (fun j u hj => by
      have hj' : j < l.length := by rw [← Lib.byteCells_length]; exact (List.getElem?_eq_some_iff.1 hj).1
      rw [add_at, h6 j hj']
      rw [← hj]
      simp [Lib.byteCells, List.getD_eq_getElem?_getD, hj']) a news.length c (Lib.byteCells news) (by rw [hbl, hs1, Nat.mul_one]) hn (by omega) (by omega) (growslice_fits (by omega) (by rw [hby]; omega))
    refine ⟨_, _, hg, ?_, ⟨rfl, rfl, rfl, by simp, fun k hk _ => heap_alloc_old w.drew _ hk⟩, .inr rfl⟩
    have := grow (w := w) (e := e) (cap := grownCap w (l.length + news.length) cap e) l news hb (grownCap_le_maxLen _ _ _ _ (by unfold maxLen; omega)) (grownCap_ge _ _ _ _)
    rw [List.length_append] at this
    exact this
/-- Appending a text's bytes. -/
theorem app_text (base : Nat) (t u ty e : TypeId) (i : TypeInfo) (ht : P.underlying t = some (.slice e)) (hu : P.underlying u = some .string) (hi : P.info? e = some i) (hz : i.zero = some (.int .u8 0)) (hs1 : i.size = 1) (hby : i.bytes = 1)
    (v : Value) (l : List UInt8) (h : OwnC w base v l) (s : ByteArray) (hlen : l.length + s.size ≤ 140737488355328) (hb : base ≤ w.heap.size) :
    ∃ v' w', (Builtin.append_ #[t, u] ty #[v, .string s]).run P w = .ok v' w' ∧ OwnC w' base v' (l ++ s.data.toList) ∧ w.grownBy w' v.ownBlock ∧ (v'.ownBlock = v.ownBlock ∨ v'.ownBlock = some w.heap.size) := by
  have h0 := h
  obtain ⟨g, cap, rfl, h1, h2, h3, h4, h5, h6⟩ := h
  have hbl := Lib.byteCells_length s.data.toList
  have hse := Lib.size_eq s
  by_cases hr : l.length + s.size ≤ cap
  · have hf := Lib.run_firstCells_string (P := P) w 1 s
    have hst := run_storeCells_cells (P := P) g l.length (Lib.strCells s) 0 w (fun j hj => (h5 (l.length + 0 + j) (by rw [Lib.strCells_length] at hj; omega)).1) (fun j hj => (h5 (l.length + 0 + j) (by rw [Lib.strCells_length] at hj; omega)).2) (Lib.strCells_oneCell s)
    rw [Nat.add_zero] at hst
    refine ⟨.slice (some ⟨g, 0, none⟩) (l ++ s.data.toList).length cap, w.setCells g l.length (Lib.byteCells s.data.toList), ?_, room s.data.toList h0 (by omega), grown_setCells g _ _ w, .inl rfl⟩
    rw [List.length_append, ← hse, ← Lib.strCells_eq]
    simp [Builtin.append_, run_underlying ht, run_underlying hu, sizeOf, typeInfo, hi, hs1, Builtin.lenOf, hr, hf, Addr.add_lit, hst]
  · have hg := Lib.run_append_grow_string (P := P) w t u ty e i (.int .u8 0) ht hu hi hz ⟨g, 0, none⟩ l.length cap (Lib.byteCells l) (by rw [Lib.byteCells_length, hs1, Nat.mul_one]) (fun j u hj => by
      have hj' : j < l.length := by rw [← Lib.byteCells_length]; exact (List.getElem?_eq_some_iff.1 hj).1
      rw [add_at, h6 j hj']
      rw [← hj]
      simp [Lib.byteCells, List.getD_eq_getElem?_getD, hj']) s (by omega) (by omega) (growslice_fits (by omega) (by rw [hby]; omega))
    refine ⟨_, _, hg, ?_, ⟨rfl, rfl, rfl, by simp, fun k hk _ => heap_alloc_old w.drew _ hk⟩, .inr rfl⟩
    have := grow (w := w) (e := e) (cap := grownCap w (l.length + s.size) cap e) l s.data.toList hb (grownCap_le_maxLen _ _ _ _ (by unfold maxLen; omega)) (by rw [← hse]; exact grownCap_ge _ _ _ _)
    rw [List.length_append, ← hse] at this
    exact this
/-- The two appends as operations of a walk. -/
theorem wp_bytes {ops : Array Oper} {rest : List Oper} {o : Oper} {a : Act} {Q : Exit → Act → World → Prop} (hgd : o.guard = none) (s x : Operand) (t : TypeId) (ho : o.op = .call { callee := .builtin .append, args := #[s, x], argTypes := #[t, t] })
    (base : Nat) (e : TypeId) (i : TypeInfo) (ht : P.underlying t = some (.slice e)) (hi : P.info? e = some i) (hz : i.zero = some (.int .u8 0)) (hs1 : i.size = 1) (hby : i.bytes = 1)
    (v : Value) (l : List UInt8) (hs : a.eval s = v) (h : OwnC w base v l) (ad : Addr) (m c : Nat) (news : List UInt8) (hx : a.eval x = .slice (some ad) m c) (hm : news.length = m) (hn : ∀ j u, (Lib.byteCells news)[j]? = some u → w.cell? (ad.add j) = some u) (hlen : l.length + m ≤ 140737488355328) (hb : base ≤ w.heap.size)
    (H : ∀ v' w', OwnC w' base v' (l ++ news) → w.grownBy w' v.ownBlock → (v'.ownBlock = v.ownBlock ∨ v'.ownBlock = some w.heap.size) → wpList P ops Q rest (a.put o.dst v') w') : wpList P ops Q (o :: rest) a w := by
  subst hm
  refine wpList_plain hgd fun K hK => ?_
  obtain ⟨v', w', hr, h2, h3, h4⟩ := app_bytes (P := P) w base t o.type e i ht hi hz hs1 hby v l h ad c news hn hlen hb
  unfold Oper.wp execOp
  simp only [ho, resolve, invoke, builtin, Sem.run_bind, Sem.run_pure, Result.andThen_ok, List.map_toArray, List.map_cons, List.map_nil, hs, hx, hr]
  exact hK _ _ (H v' w' h2 h3 h4)
theorem wp_text {ops : Array Oper} {rest : List Oper} {o : Oper} {a : Act} {Q : Exit → Act → World → Prop} (hgd : o.guard = none) (sl x : Operand) (t u : TypeId) (ho : o.op = .call { callee := .builtin .append, args := #[sl, x], argTypes := #[t, u] })
    (base : Nat) (e : TypeId) (i : TypeInfo) (ht : P.underlying t = some (.slice e)) (hu : P.underlying u = some .string) (hi : P.info? e = some i) (hz : i.zero = some (.int .u8 0)) (hs1 : i.size = 1) (hby : i.bytes = 1)
    (v : Value) (l : List UInt8) (hs : a.eval sl = v) (h : OwnC w base v l) (s : ByteArray) (hx : a.eval x = .string s) (hlen : l.length + s.size ≤ 140737488355328) (hb : base ≤ w.heap.size)
    (H : ∀ v' w', OwnC w' base v' (l ++ s.data.toList) → w.grownBy w' v.ownBlock → (v'.ownBlock = v.ownBlock ∨ v'.ownBlock = some w.heap.size) → wpList P ops Q rest (a.put o.dst v') w') : wpList P ops Q (o :: rest) a w := by
  refine wpList_plain hgd fun K hK => ?_
  obtain ⟨v', w', hr, h2, h3, h4⟩ := app_text (P := P) w base t u o.type e i ht hu hi hz hs1 hby v l h s hlen hb
  unfold Oper.wp execOp
  simp only [ho, resolve, invoke, builtin, Sem.run_bind, Sem.run_pure, Result.andThen_ok, List.map_toArray, List.map_cons, List.map_nil, hs, hx, hr]
  exact hK _ _ (H v' w' h2 h3 h4)
end
theorem conv_ownC {P : Program} {w : World} {base : Nat} {src dst e : TypeId} {v : Value} (l : List UInt8) (h : OwnC w base v l)
    (hs : P.underlying src = some (.slice e)) (he : P.underlying e = some (.int .u8)) (hd : P.underlying dst = some .string) : (convert src dst v).run P w = .ok (.string ⟨l.toArray⟩) w := by
  obtain ⟨g, cap, rfl, _, _, _, _, _, h6⟩ := h
  refine run_convert_bytes_back w src dst e ⟨g, 0, none⟩ cap l hs he hd (fun j hj => ?_)
  rw [add_at, h6 j hj]
  simp [List.getD_eq_getElem?_getD, hj]
theorem kept_block {w w' : World} {v v' : Value} {g : Nat} {o : Obj} (hb : v.ownBlock ≠ some g) (hg : w.grownBy w' v.ownBlock) (ho : w.heap[g]? = some o) (hv : v'.ownBlock = v.ownBlock ∨ v'.ownBlock = some w.heap.size) : w'.heap[g]? = some o ∧ v'.ownBlock ≠ some g := by
  have hlt := (Array.getElem?_eq_some_iff.1 ho).1
  refine ⟨(hg.block g hlt (fun e => hb e.symm)).trans ho, ?_⟩
  rcases hv with hv | hv
  · rw [hv]; exact hb
  · rw [hv]
    intro e
    cases e
    omega
/-- What was below stays, behind such an append. -/
theorem app_below {w w' W : World} {base : Nat} {v : Value} {l : List UInt8} (h : OwnC w base v l) (hb : Below base W w) (hB : base ≤ w.heap.size) (hg : w.grownBy w' v.ownBlock) : Below base W w' := Below.grown hb hg hB (ownC_block h)
theorem own_kept {w w' : World} {base base2 e size n : Nat} {v x : Value} {l : List UInt8} {xs : List Value} (h : OwnC w base v l) (hx : w.ownsRow base2 e size x n xs) (hne : x.ownBlock ≠ v.ownBlock) (hg : w.grownBy w' v.ownBlock) : w'.ownsRow base2 e size x n xs := hx.kept hg (.inr hne)
end Go.Proofs.YtejmfffapkmjoaaDoor.ow
