/-
  Plain facts on repairing: what is read are runes, what is repaired is right, and what is right stays.
  A row of bytes that a call made, cell by cell: also one that a text was turned into, behind which a mark lies; appending to it.
  The contract of the specification's parting of a text at each blank: a list of its parts, which the call made.
  Contracts of both FoldHeader functions: a field in lines.
-/
import Derived.Test.YtbokolpjdaamiaaGreatDoorPkan
import Derived.Test.YtbokolpjdaamiaaGreatDoorPkaf
import Derived.Laws.IdiomCopy
import Derived.Laws.Append
import Derived.Maps.AppendAt
import Derived.Test.YtbokolpjdaamiaaGreatDoorPkae
import Derived.Test.YtbokolpjdaamiaaGreatDoorPkac
import Derived.Test.YtbokolpjdaamiaaGreatDoorRows
import Derived.WalkKit
import Derived.WalkLawsBesides
import Derived.Laws.AppendOwn
import Derived.Lib.FieldsLaws
import Derived.Test.YtbokolpjdaamiaaGreatDoorPkad
import Derived.Test.YtbokolpjdaamiaaGreatDoorPkah
import Derived.Test.YtbokolpjdaamiaaGreatDoorPkab

namespace Go.Proofs.YtbokolpjdaamiaaGreatDoor.ut
open Go.RowKit
set_option linter.unusedVariables false

theorem F_sc (n k b0 b1 b2 b3 : Nat) : scB (((decF n k b0 b1 b2 b3).1 : Nat) : Int) = true := by
  have hs : ∀ c : Nat, Utf8.valid (c : Int) = true → scB (c : Int) = true := by
    intro c h
    rw [valid_nat] at h
    simp [scB, inB]
    omega
  unfold decF
  split
  · simp [scB, inB]; omega
  split
  · split
    · simp only; simp [scB, inB]; omega
    · rfl
  split
  · split
    · rename_i g; simp only [Bool.and_eq_true] at g; exact hs _ g.2
    · rfl
  split
  · split
    · rename_i g; simp only [Bool.and_eq_true] at g; exact hs _ g.2
    · rfl
  · rfl
theorem runesL_sc (s : ByteArray) (n : Nat) : Runes (runesL s n) := by
  induction n with
  | zero => intro r hr; cases hr
  | succ n ih =>
    intro r hr
    rw [runesL] at hr
    rcases List.mem_append.1 hr with h | h
    · exact ih r h
    · rw [List.mem_singleton.1 h, dec_eq]
      exact F_sc _ _ _ _ _ _
theorem fix_flat (s : ByteArray) (n : Nat) (h : pos s n = s.size) : fixL s n = (runesL s n).flatMap encB := by
  have h1 := runes_fix s n (fun m hm => by rw [← h]; exact pos_lt s hm)
  have h2 := flat_runes (runesL s n)
  rw [h2] at h1
  exact h1.symm
theorem fix_right (s : ByteArray) (hr : Right s) (n : Nat) (h : pos s n ≤ s.size) : fixL s n = s.data.toList.take (pos s n) := by
  induction n with
  | zero => simp [fixL, pos]
  | succ n ih =>
    have hup := pos_up s n
    have hlt : pos s n < s.size := by omega
    rw [fixL, ih (by omega), piece_good (hr n hlt), Lib.extract_data, show pos s n + (Utf8.decode s (pos s n)).2 - pos s n = (Utf8.decode s (pos s n)).2 from by omega]
    rw [show pos s (n + 1) = pos s n + (Utf8.decode s (pos s n)).2 from rfl, List.take_add]
/-- What is known of the repaired text x of s. -/
def FixFacts (s x : ByteArray) : Prop := Right x ∧ (Right s ↔ x = s) ∧ x.size ≤ 3 * s.size ∧ ∀ m, pos x m = x.size → (mk (fixL x m)) = x
theorem fix_facts (s : ByteArray) (n : Nat) (h : pos s n = s.size) : FixFacts s (mk (fixL s n)) := by
  have hf := fix_flat s n h
  have hr : Right (mk (fixL s n)) := by rw [hf]; exact right_flat _ (runesL_sc s n)
  have hall : ∀ (x : ByteArray), Right x → ∀ m, pos x m = x.size → mk (fixL x m) = x := by
    intro x hx m hm
    refine bytes_ext ?_
    rw [mk_list, fix_right x hx m (by omega), hm, Lib.size_eq, List.take_length]
  refine ⟨hr, ⟨fun hs => hall s hs n h, fun e => by rw [← e]; exact hr⟩, ?_, hall _ hr⟩
  rw [mk_size]
  have := fix_len s n
  omega
theorem sum_rsz {r : Int} (h : scB r = true) : rsz r = ((encB r).length : Int) := by
  obtain ⟨c, rfl⟩ : ∃ c : Nat, r = (c : Int) := ⟨r.toNat, by simp [scB, inB] at h; omega⟩
  unfold rsz
  rw [if_pos h]
  rcases enc_list h (by simp [scB, inB] at h; omega) with ⟨_, e⟩ | ⟨_, _, e⟩ | ⟨_, _, e⟩ | ⟨_, e⟩ <;> rw [e] <;> (repeat' split) <;> simp <;> omega
end Go.Proofs.YtbokolpjdaamiaaGreatDoor.ut

namespace Go.Proofs.YtbokolpjdaamiaaGreatDoor.ow
open Go.RowKit
set_option linter.unusedVariables false

/-- A slice of bytes whose cells the call may write, as far as its room goes. -/
def OwnC (w : World) (base : Nat) (v : Value) (l : List UInt8) : Prop :=
  ∃ g cap, v = .slice (some ⟨g, 0, none⟩) l.length cap ∧ base ≤ g ∧ g < w.heap.size ∧ l.length ≤ cap ∧ cap ≤ maxLen ∧
    (∀ j, j < cap → (w.cell? ⟨g, j, none⟩).isSome = true ∧ w.frozen? ⟨g, j, none⟩ = false) ∧ ∀ j, j < l.length → w.cell? ⟨g, j, none⟩ = some (.int .u8 ((l.getD j 0).toNat : Int))

theorem ownC_below {w w' : World} {base : Nat} {v : Value} {l : List UInt8} (h : OwnC w base v l) (hb : Below w.heap.size w w') : OwnC w' base v l := by
  obtain ⟨g, cap, hv, h1, h2, h3, h4, h5, h6⟩ := h
  refine ⟨g, cap, hv, h1, Nat.lt_of_lt_of_le h2 hb.size, h3, h4, fun j hj => ?_, fun j hj => ?_⟩
  · rw [hb.cell (p := ⟨g, j, none⟩) h2, hb.frozen (p := ⟨g, j, none⟩) h2]
    exact h5 j hj
  · rw [hb.cell (p := ⟨g, j, none⟩) h2]
    exact h6 j hj
theorem ownC_alloc {w : World} {base : Nat} {v : Value} {l : List UInt8} (h : OwnC w base v l) (o : Obj) : OwnC (w.alloc o) base v l := ownC_below h ((Below.refl _ _).alloc (Nat.le_refl _) _)
theorem ownC_block {w : World} {base : Nat} {v : Value} {l : List UInt8} (h : OwnC w base v l) : ∀ k, v.ownBlock = some k → base ≤ k := by
  obtain ⟨g, cap, rfl, h1, _⟩ := h
  intro k hk
  cases hk
  exact h1
theorem ownC_slice {w : World} {base : Nat} {v : Value} {l : List UInt8} (h : OwnC w base v l) : ∃ ao cap, v = .slice ao l.length cap := by
  obtain ⟨g, cap, rfl, _⟩ := h
  exact ⟨_, _, rfl⟩
/-- The bytes of a block. -/
theorem ownC_new {w : World} {g cap : Nat} {e : TypeId} {fz : Nat × Nat} {cs : Array Value} {base : Nat} (l : List UInt8) (hg : w.heap[g]? = some (.cells cs e fz)) (hs : cs.size = cap) (hf : fz = (0, 0) ∨ cap ≤ fz.1) (hb : base ≤ g) (hl : l.length ≤ cap) (hm : cap ≤ maxLen)
    (hc : ∀ j, j < l.length → cs[j]? = some (.int .u8 ((l.getD j 0).toNat : Int))) : OwnC w base (.slice (some ⟨g, 0, none⟩) l.length cap) l := by
  have hcell : ∀ j, w.cell? ⟨g, j, none⟩ = cs[j]? := fun j => cell_of_row w g j _ e fz hg
  refine ⟨g, cap, rfl, hb, (Array.getElem?_eq_some_iff.1 hg).1, hl, hm, fun j hj => ⟨?_, ?_⟩, fun j hj => ?_⟩
  · rw [hcell, Array.getElem?_eq_getElem (by omega)]
    rfl
  · obtain ⟨lo, hi⟩ := fz
    simp only [World.frozen?, hg]
    rcases hf with hf | hf
    · cases hf
      simp
    · simp only at hf
      simp only [Bool.and_eq_false_iff, decide_eq_false_iff_not]
      left
      omega
  · rw [hcell]
    exact hc j hj
/-- A text turned into bytes. -/
theorem ownC_conv (w : World) (e : TypeId) (s : ByteArray) (hs : s.size ≤ maxLen) : OwnC (Lib.bytesWorld w e s) w.heap.size (.slice (some ⟨w.heap.size, 0, none⟩) s.size (grownCap w s.size 0 e)) s.data.toList := by
  have hge := grownCap_ge w s.size 0 e
  have hsz : (Lib.bytesCells w e s).size = grownCap w s.size 0 e := by
    unfold Lib.bytesCells
    rw [Array.size_append, Array.size_map, Array.size_replicate]
    have : s.data.size = s.size := rfl
    omega
  have := ownC_new (base := w.heap.size) s.data.toList (Lib.bytesWorld_at_new w e s) hsz (.inr (by rw [hsz]; exact Nat.le_refl _)) (Nat.le_refl _) (by rw [← Lib.size_eq]; exact hge) (grownCap_le_maxLen w s.size 0 e hs) (fun j hj => by
    have hj' : j < s.size := by rw [Lib.size_eq]; exact hj
    have h1 := Lib.bytesWorld_cell w e s j hj'
    rw [cell_of_row _ _ j _ _ _ (Lib.bytesWorld_at_new w e s)] at h1
    exact h1)
  rw [← Lib.size_eq] at this
  exact this

theorem grown_setCells (g : Nat) : ∀ (vs : List Value) (o : Nat) (w : World), w.grownBy (w.setCells g o vs) (some g)
  | [], o, w => ⟨rfl, rfl, rfl, Nat.le_refl _, fun _ _ _ => rfl⟩
  | v :: r, o, w => by
    have h1 : w.grownBy (w.setCell ⟨g, o, none⟩ v) (some g) := ⟨rfl, rfl, rfl, by simp [World.setCell], fun k _ hk => Below.heap_setCell _ _ _ _ (fun e => hk (by simp [e]))⟩
    exact h1.trans (grown_setCells g r (o + 1) _)
theorem room {w : World} {base g cap : Nat} {l : List UInt8} (news : List UInt8) (h : OwnC w base (.slice (some ⟨g, 0, none⟩) l.length cap) l) (hr : l.length + news.length ≤ cap) :
    OwnC (w.setCells g l.length (Lib.byteCells news)) base (.slice (some ⟨g, 0, none⟩) (l ++ news).length cap) (l ++ news) := by
  obtain ⟨g', cap', hv, h1, h2, h3, h4, h5, h6⟩ := h
  cases hv
  have hbl := Lib.byteCells_length news
  refine ⟨g, cap, rfl, h1, Nat.lt_of_lt_of_le h2 (grown_setCells g _ _ w).size, by rw [List.length_append]; exact hr, h4, fun j hj => ?_, fun j hj => ?_⟩
  · rw [World.frozen?_setCells]
    refine ⟨?_, (h5 j hj).2⟩
    by_cases hin : l.length ≤ j ∧ j < l.length + news.length
    · have := World.cell?_setCells_in g (Lib.byteCells news) l.length w (fun i hi => (h5 (l.length + i) (by omega)).1) (j - l.length) (by omega)
      rw [show l.length + (j - l.length) = j from by omega] at this
      rw [this]
      rfl
    · rw [World.cell?_setCells_out g (Lib.byteCells news) l.length w ⟨g, j, none⟩ (fun _ _ => by simp only; omega)]
      exact (h5 j hj).1
  · rw [List.length_append] at hj
    by_cases hin : j < l.length
    · rw [World.cell?_setCells_out g (Lib.byteCells news) l.length w ⟨g, j, none⟩ (fun _ _ => by simp only; omega), h6 j hin]
      simp [List.getD_eq_getElem?_getD, List.getElem?_append_left hin, hin]
    · have := World.cell?_setCells_in g (Lib.byteCells news) l.length w (fun i hi => (h5 (l.length + i) (by omega)).1) (j - l.length) (by omega)
      rw [show l.length + (j - l.length) = j from by omega] at this
      rw [this]
      simp [Lib.byteCells, List.getD_eq_getElem?_getD, List.getElem_append, hin, show j < l.length + news.length from hj]
theorem grow {w : World} {base cap : Nat} {e : TypeId} (l news : List UInt8) (hb : base ≤ w.heap.size) (hm : cap ≤ maxLen) (hc : l.length + news.length ≤ cap) :
    OwnC (w.drew.alloc (.cells ((Lib.byteCells l).toArray ++ (Lib.byteCells news).toArray ++ Builtin.zeroCells (Value.int .u8 0).cells (cap - (l.length + news.length))) e)) base (.slice (some ⟨w.heap.size, 0, none⟩) (l ++ news).length cap) (l ++ news) := by
  refine ownC_new (l ++ news) (heap_alloc_new w.drew _) ?_ (.inl rfl) hb (by rw [List.length_append]; exact hc) hm (fun j hj => ?_)
  · rw [Array.size_append, Array.size_append, List.size_toArray, List.size_toArray, size_zeroCells, Lib.byteCells_length, Lib.byteCells_length]
    show _ + (cap - (l.length + news.length)) * 1 = cap
    omega
  · rw [List.length_append] at hj
    have e1 : (Lib.byteCells l).toArray ++ (Lib.byteCells news).toArray = (Lib.byteCells (l ++ news)).toArray := by rw [Lib.byteCells_append]; simp
    rw [e1, Array.getElem?_append_left (by rw [List.size_toArray, Lib.byteCells_length, List.length_append]; exact hj)]
    have hj2 : j < (l ++ news).length := by rw [List.length_append]; exact hj
    clear e1
    generalize l ++ news = q at hj2 ⊢
    simp [Lib.byteCells, List.getD_eq_getElem?_getD, hj2]

section
variable {P : Program} (w : World)
/-- Appending bytes that lie in a block. -/
theorem app_bytes (base : Nat) (t ty e : TypeId) (i : TypeInfo) (ht : P.underlying t = some (.slice e)) (hi : P.info? e = some i) (hz : i.zero = some (.int .u8 0)) (hs1 : i.size = 1) (hby : i.bytes = 1)
    (v : Value) (l : List UInt8) (h : OwnC w base v l) (a : Addr) (c : Nat) (news : List UInt8) (hn : ∀ j u, (Lib.byteCells news)[j]? = some u → w.cell? (a.add j) = some u) (hlen : l.length + news.length ≤ 140737488355328) (hb : base ≤ w.heap.size) :
    ∃ v' w', (Builtin.append_ #[t, t] ty #[v, .slice (some a) news.length c]).run P w = .ok v' w' ∧ OwnC w' base v' (l ++ news) ∧ w.grownBy w' v.ownBlock ∧ (v'.ownBlock = v.ownBlock ∨ v'.ownBlock = some w.heap.size) := by
  have h0 := h
  obtain ⟨g, cap, rfl, h1, h2, h3, h4, h5, h6⟩ := h
  have hbl := Lib.byteCells_length news
  by_cases hr : l.length + news.length ≤ cap
  · have hf := run_firstCells_some (P := P) w 1 news.length a news.length c (Lib.byteCells news) (by rw [hbl, Nat.mul_one]) hn
    have hst := run_storeCells_cells (P := P) g l.length (Lib.byteCells news) 0 w (fun j hj => (h5 (l.length + 0 + j) (by omega)).1) (fun j hj => (h5 (l.length + 0 + j) (by omega)).2) (one_bytes news)
    rw [Nat.add_zero] at hst
    refine ⟨.slice (some ⟨g, 0, none⟩) (l ++ news).length cap, w.setCells g l.length (Lib.byteCells news), ?_, room news h0 hr, grown_setCells g _ _ w, .inl rfl⟩
    rw [List.length_append]
    simp [Builtin.append_, run_underlying ht, sizeOf, typeInfo, hi, hs1, Builtin.lenOf, hr, hf, Addr.add_lit, hst]
  · have hg := run_append_grow (P := P) w t ty e i (.int .u8 0) ht hi hz ⟨g, 0, none⟩ l.length cap (Lib.byteCells l) (by rw [Lib.byteCells_length, hs1, Nat.mul_one]) (fun j u hj => by
      have hj' : j < l.length := by rw [← Lib.byteCells_length]; exact (List.getElem?_eq_some_iff.1 hj).1
      rw [add_at, h6 j hj']
      rw [← hj]
      simp [Lib.byteCells, List.getD_eq_getElem?_getD, hj']) a news.length c (Lib.byteCells news) (by rw [hbl, hs1, Nat.mul_one]) hn (by omega) (by omega) (growslice_fits (by omega) (by rw [hby]; omega))
    refine ⟨_, _, hg, ?_, ⟨rfl, rfl, rfl, by simp, fun k hk _ => heap_alloc_old w.drew _ hk⟩, .inr rfl⟩
    have := grow (w := w) (e := e) (cap := grownCap w (l.length + news.length) cap e) l news hb (grownCap_le_maxLen _ _ _ _ (by unfold maxLen; omega)) (grownCap_ge _ _ _ _)
    rw [List.length_append] at this
    exact this
/-- Appending a text's bytes. -/
theorem app_text (base : Nat) (t u ty e : TypeId) (i : TypeInfo) (ht : P.underlying t = some (.slice e)) (hu : P.underlying u = some .string) (hi : P.info? e = some i) (hz : i.zero = some (.int .u8 0)) (hs1 : i.size = 1) (hby : i.bytes = 1)
    (v : Value) (l : List UInt8) (h : OwnC w base v l) (s : ByteArray) (hlen : l.length + s.size ≤ 140737488355328) (hb : base ≤ w.heap.size) :
    ∃ v' w', (Builtin.append_ #[t, u] ty #[v, .string s]).run P w = .ok v' w' ∧ OwnC w' base v' (l ++ s.data.toList) ∧ w.grownBy w' v.ownBlock ∧ (v'.ownBlock = v.ownBlock ∨ v'.ownBlock = some w.heap.size) := by
  have h0 := h
  obtain ⟨g, cap, rfl, h1, h2, h3, h4, h5, h6⟩ := h
  have hbl := Lib.byteCells_length s.data.toList
  have hse := Lib.size_eq s
  by_cases hr : l.length + s.size ≤ cap
  · have hf := Lib.run_firstCells_string (P := P) w 1 s
    have hst := run_storeCells_cells (P := P) g l.length (Lib.strCells s) 0 w (fun j hj => (h5 (l.length + 0 + j) (by rw [Lib.strCells_length] at hj; omega)).1) (fun j hj => (h5 (l.length + 0 + j) (by rw [Lib.strCells_length] at hj; omega)).2) (Lib.strCells_oneCell s)
    rw [Nat.add_zero] at hst
    refine ⟨.slice (some ⟨g, 0, none⟩) (l ++ s.data.toList).length cap, w.setCells g l.length (Lib.byteCells s.data.toList), ?_, room s.data.toList h0 (by omega), grown_setCells g _ _ w, .inl rfl⟩
    rw [List.length_append, ← hse, ← Lib.strCells_eq]
    simp [Builtin.append_, run_underlying ht, run_underlying hu, sizeOf, typeInfo, hi, hs1, Builtin.lenOf, hr, hf, Addr.add_lit, hst]
  · have hg := Lib.run_append_grow_string (P := P) w t u ty e i (.int .u8 0) ht hu hi hz ⟨g, 0, none⟩ l.length cap (Lib.byteCells l) (by rw [Lib.byteCells_length, hs1, Nat.mul_one]) (fun j u hj => by
      have hj' : j < l.length := by rw [← Lib.byteCells_length]; exact (List.getElem?_eq_some_iff.1 hj).1
      rw [add_at, h6 j hj']
      rw [← hj]
      simp [Lib.byteCells, List.getD_eq_getElem?_getD, hj']) s (by omega) (by omega) (growslice_fits (by omega) (by rw [hby]; omega))
    refine ⟨_, _, hg, ?_, ⟨rfl, rfl, rfl, by simp, fun k hk _ => heap_alloc_old w.drew _ hk⟩, .inr rfl⟩
    have := grow (w := w) (e := e) (cap := grownCap w (l.length + s.size) cap e) l s.data.toList hb (grownCap_le_maxLen _ _ _ _ (by unfold maxLen; omega)) (by rw [← hse]; exact grownCap_ge _ _ _ _)
    rw [List.length_append, ← hse] at this
    exact this
/-- The two appends as operations of a walk. -/
theorem wp_bytes {ops : Array Oper} {rest : List Oper} {o : Oper} {a : Act} {Q : Exit → Act → World → Prop} (hgd : o.guard = none) (s x : Operand) (t : TypeId) (ho : o.op = .call { callee := .builtin .append, args := #[s, x], argTypes := #[t, t] })
    (base : Nat) (e : TypeId) (i : TypeInfo) (ht : P.underlying t = some (.slice e)) (hi : P.info? e = some i) (hz : i.zero = some (.int .u8 0)) (hs1 : i.size = 1) (hby : i.bytes = 1)
    (v : Value) (l : List UInt8) (hs : a.eval s = v) (h : OwnC w base v l) (ad : Addr) (m c : Nat) (news : List UInt8) (hx : a.eval x = .slice (some ad) m c) (hm : news.length = m) (hn : ∀ j u, (Lib.byteCells news)[j]? = some u → w.cell? (ad.add j) = some u) (hlen : l.length + m ≤ 140737488355328) (hb : base ≤ w.heap.size)
    (H : ∀ v' w', OwnC w' base v' (l ++ news) → w.grownBy w' v.ownBlock → (v'.ownBlock = v.ownBlock ∨ v'.ownBlock = some w.heap.size) → wpList P ops Q rest (a.put o.dst v') w') : wpList P ops Q (o :: rest) a w := by
  subst hm
  refine wpList_plain hgd fun K hK => ?_
  obtain ⟨v', w', hr, h2, h3, h4⟩ := app_bytes (P := P) w base t o.type e i ht hi hz hs1 hby v l h ad c news hn hlen hb
  unfold Oper.wp execOp
  simp only [ho, resolve, invoke, builtin, Sem.run_bind, Sem.run_pure, Result.andThen_ok, List.map_toArray, List.map_cons, List.map_nil, hs, hx, hr]
  exact hK _ _ (H v' w' h2 h3 h4)
theorem wp_text {ops : Array Oper} {rest : List Oper} {o : Oper} {a : Act} {Q : Exit → Act → World → Prop} (hgd : o.guard = none) (sl x : Operand) (t u : TypeId) (ho : o.op = .call { callee := .builtin .append, args := #[sl, x], argTypes := #[t, u] })
    (base : Nat) (e : TypeId) (i : TypeInfo) (ht : P.underlying t = some (.slice e)) (hu : P.underlying u = some .string) (hi : P.info? e = some i) (hz : i.zero = some (.int .u8 0)) (hs1 : i.size = 1) (hby : i.bytes = 1)
    (v : Value) (l : List UInt8) (hs : a.eval sl = v) (h : OwnC w base v l) (s : ByteArray) (hx : a.eval x = .string s) (hlen : l.length + s.size ≤ 140737488355328) (hb : base ≤ w.heap.size)
    (H : ∀ v' w', OwnC w' base v' (l ++ s.data.toList) → w.grownBy w' v.ownBlock → (v'.ownBlock = v.ownBlock ∨ v'.ownBlock = some w.heap.size) → wpList P ops Q rest (a.put o.dst v') w') : wpList P ops Q (o :: rest) a w := by
  refine wpList_plain hgd fun K hK => ?_
  obtain ⟨v', w', hr, h2, h3, h4⟩ := app_text (P := P) w base t u o.type e i ht hu hi hz hs1 hby v l h s hlen hb
  unfold Oper.wp execOp
  simp only [ho, resolve, invoke, builtin, Sem.run_bind, Sem.run_pure, Result.andThen_ok, List.map_toArray, List.map_cons, List.map_nil, hs, hx, hr]
  exact hK _ _ (H v' w' h2 h3 h4)
end
theorem conv_ownC {P : Program} {w : World} {base : Nat} {src dst e : TypeId} {v : Value} (l : List UInt8) (h : OwnC w base v l)
    (hs : P.underlying src = some (.slice e)) (he : P.underlying e = some (.int .u8)) (hd : P.underlying dst = some .string) : (convert src dst v).run P w = .ok (.string ⟨l.toArray⟩) w := by
  obtain ⟨g, cap, rfl, _, _, _, _, _, h6⟩ := h
  refine run_convert_bytes_back w src dst e ⟨g, 0, none⟩ cap l hs he hd (fun j hj => ?_)
  rw [add_at, h6 j hj]
  simp [List.getD_eq_getElem?_getD, hj]
theorem kept_block {w w' : World} {v v' : Value} {g : Nat} {o : Obj} (hb : v.ownBlock ≠ some g) (hg : w.grownBy w' v.ownBlock) (ho : w.heap[g]? = some o) (hv : v'.ownBlock = v.ownBlock ∨ v'.ownBlock = some w.heap.size) : w'.heap[g]? = some o ∧ v'.ownBlock ≠ some g := by
  have hlt := (Array.getElem?_eq_some_iff.1 ho).1
  refine ⟨(hg.block g hlt (fun e => hb e.symm)).trans ho, ?_⟩
  rcases hv with hv | hv
  · rw [hv]; exact hb
  · rw [hv]
    intro e
    cases e
    omega
/-- What was below stays, behind such an append. -/
theorem app_below {w w' W : World} {base : Nat} {v : Value} {l : List UInt8} (h : OwnC w base v l) (hb : Below base W w) (hB : base ≤ w.heap.size) (hg : w.grownBy w' v.ownBlock) : Below base W w' := Below.grown hb hg hB (ownC_block h)
theorem own_kept {w w' : World} {base base2 e size n : Nat} {v x : Value} {l : List UInt8} {xs : List Value} (h : OwnC w base v l) (hx : w.ownsRow base2 e size x n xs) (hne : x.ownBlock ≠ v.ownBlock) (hg : w.grownBy w' v.ownBlock) : w'.ownsRow base2 e size x n xs := hx.kept hg (.inr hne)
end Go.Proofs.YtbokolpjdaamiaaGreatDoor.ow

namespace Go.Proofs.YtbokolpjdaamiaaGreatDoor.hd
open Go.RowKit
set_option linter.unusedVariables false

theorem infoStr : (Tryz.prog.info? 9).map (fun i => (i.zero, i.size, i.bytes)) = some (some (.string ByteArray.empty), 1, 16) := by kernel_rfl
/-- A text as a value. -/
def tv (l : List UInt8) : Value := .string ⟨l.toArray⟩
def piece (s : ByteArray) (f i : Nat) : List UInt8 := (s.data.toList.drop f).take (i - f)
theorem tv_piece (s : ByteArray) (f i : Nat) : tv (piece s f i) = .string (s.extract f i) := by
  unfold tv piece
  congr 1
  apply ByteArray.ext
  rw [← Array.toList_inj]
  show (List.take _ _).toArray.toList = _
  rw [List.toList_toArray, ← Lib.toList_data (s.extract f i), Lib.extract_toList]
theorem drop_at (s : ByteArray) (i : Nat) (h : i < s.size) : s.data.toList.drop i = s[i] :: s.data.toList.drop (i + 1) := by
  rw [List.drop_eq_getElem_cons (by simpa using h)]
  rfl
theorem cut_blank {s : ByteArray} {f i : Nat} {ws : List (List UInt8)} (h : ws ++ cutGo (piece s f i) (s.data.toList.drop i) = cutGo [] s.data.toList) (hi : i < s.size) (hb : (s[i]'hi).toNat = 32) :
    (ws ++ [piece s f i]) ++ cutGo (piece s (i + 1) (i + 1)) (s.data.toList.drop (i + 1)) = cutGo [] s.data.toList := by
  rw [drop_at s i hi, cutGo, if_pos hb] at h
  rw [← h, show piece s (i + 1) (i + 1) = [] from by simp [piece], List.append_assoc]
  rfl
theorem cut_sign {s : ByteArray} {f i : Nat} {ws : List (List UInt8)} (h : ws ++ cutGo (piece s f i) (s.data.toList.drop i) = cutGo [] s.data.toList) (hf : f ≤ i) (hi : i < s.size) (hb : (s[i]'hi).toNat ≠ 32) :
    ws ++ cutGo (piece s f (i + 1)) (s.data.toList.drop (i + 1)) = cutGo [] s.data.toList := by
  rw [drop_at s i hi, cutGo, if_neg hb] at h
  rw [← h, show piece s f (i + 1) = piece s f i ++ [s[i]] from Lib.piece_more hf (by rw [List.getElem?_eq_getElem (by simpa using hi)]; rfl)]
theorem cut_end {s : ByteArray} {f i : Nat} {ws : List (List UInt8)} (h : ws ++ cutGo (piece s f i) (s.data.toList.drop i) = cutGo [] s.data.toList) (hi : s.size ≤ i) : ws ++ [piece s f i] = cutGo [] s.data.toList := by
  rw [List.drop_eq_nil_of_le (by rw [← Lib.size_eq]; exact hi)] at h
  exact h

set_option maxHeartbeats 2000000 in
set_option maxRecDepth 100000 in
theorem cut_any (s : ByteArray) (w : World) (hs : s.size ≤ 1048576) :
    Calls Tryz.prog 50 #[.string s, .int .u8 32] w fun e w' => ∃ v, e = .returned v ∧ w'.ownsRow w.heap.size 9 1 v (cutGo [] s.data.toList).length ((cutGo [] s.data.toList).map tv) ∧ Below w.heap.size w w' := by
  obtain ⟨i0, hi, hz0, hz1, hz2⟩ := info_parts infoStr
  go_enter Tryz.func50, Tryz.ntmps50
  go_wp2
  go_loopw [5, 6, 7] (fun v a b wr => ∃ (f i : Nat) (ws : List (List UInt8)), f ≤ i ∧ i ≤ s.size ∧ a = .int .i64 f ∧ b = .int .i64 i ∧ ws.length ≤ i ∧ wr.ownsRow w.heap.size 9 1 v ws.length (ws.map tv) ∧ Below w.heap.size w wr ∧ ws ++ cutGo (piece s f i) (s.data.toList.drop i) = cutGo [] s.data.toList) (fun _ _ b _ => s.size - (intOf b).toNat)
  case atStart => exact ⟨0, 0, [], Nat.le_refl _, Nat.zero_le _, rfl, rfl, Nat.le_refl _, ow.own_empty w _, (Below.refl _ _).alloc (Nat.le_refl _) _, rfl⟩
  case round =>
    obtain ⟨f, i, ws, hfi, his, rfl, rfl, hwl, hown, hbw, hc⟩ := hrel
    have HC : Hid (ws ++ cutGo (piece s f i) (s.data.toList.drop i) = cutGo [] s.data.toList) := hc
    clear hc
    have hBs := hbw.size
    have c1 : (0 : Int) ≤ (f : Int) := by omega
    have c2 : (f : Int) ≤ (i : Int) := by omega
    have c3 : (i : Int) ≤ (s.size : Int) := by omega
    by_cases hlt : i < s.size
    · by_cases hb : (s[i]'hlt).toNat = 32
      · have d1 : (((s[i]'hlt).toNat : Int) == 32) = true := beq_iff_eq.2 (by omega)
        have HB : Hid ((s[i]'hlt).toNat = 32) := hb
        clear hb
        go_wp2_with (at_builtin; refine wpList_append_own _ rfl _ _ 33 rfl w.heap.size 9 i0 (.string ByteArray.empty) 1 16 Tryz.underlying33 hi hz0 hz1 hz2 rfl (by decide) _ _ _ rfl (hown.alloc _) ⟨wr.heap.size, 0, none⟩ 1 1 [.string (s.extract f i)] rfl rfl (ow.cells_new _ [.string (s.extract f i)] _) (by intro u hu; simp at hu; subst hu; rfl) (by unfold maxLen; omega) (by omega) (by simp; omega) ?_; intro v' w3 hown3 hgrow3 hnil3)
        have hb3 := Below.grown (hbw.alloc hBs _) hgrow3 (by simp; omega) (ow.own_lt hown)
        have HA : Hid (w3.ownsRow w.heap.size 9 1 v' (ws ++ [piece s f i]).length ((ws ++ [piece s f i]).map tv) ∧ Below w.heap.size w w3) := ⟨by rw [List.map_append, List.map_cons, tv_piece, List.length_append]; exact hown3, hb3⟩
        clear hown3 hgrow3 hnil3 hb3 hown hbw
        go_wp2
        go_roundw
        case rel => exact ⟨i + 1, i + 1, ws ++ [piece s f i], Nat.le_refl _, by omega, by go_num, by go_num, by simp; omega, HA.out.1, HA.out.2, cut_blank HC.out hlt HB.out⟩
        case measure => simp [intOf]; omega
      · have d1 : (((s[i]'hlt).toNat : Int) == 32) = false := beq_eq_false_iff_ne.2 (by omega)
        go_wp2
        go_roundw
        case rel => exact ⟨f, i + 1, ws, by omega, by omega, rfl, by go_num, by omega, hown, hbw, cut_sign HC.out hfi hlt hb⟩
        case measure => simp [intOf]; omega
    · have c4 : (f : Int) ≤ (s.size : Int) := by omega
      go_wp2_with (at_builtin; refine wpList_append_own _ rfl _ _ 33 rfl w.heap.size 9 i0 (.string ByteArray.empty) 1 16 Tryz.underlying33 hi hz0 hz1 hz2 rfl (by decide) _ _ _ rfl (hown.alloc _) ⟨wr.heap.size, 0, none⟩ 1 1 [.string (s.extract f s.size)] rfl rfl (ow.cells_new _ [.string (s.extract f s.size)] _) (by intro u hu; simp at hu; subst hu; rfl) (by unfold maxLen; omega) (by omega) (by simp; omega) ?_; intro v' w3 hown3 hgrow3 hnil3)
      have hb3 := Below.grown (hbw.alloc hBs _) hgrow3 (by simp; omega) (ow.own_lt hown)
      have HA : Hid (w3.ownsRow w.heap.size 9 1 v' (cutGo [] s.data.toList).length ((cutGo [] s.data.toList).map tv) ∧ Below w.heap.size w w3) := by
        have e : i = s.size := by omega
        have hc := cut_end HC.out (by omega)
        rw [← hc, List.map_append, List.map_cons, tv_piece, List.length_append, e]
        exact ⟨hown3, hb3⟩
      clear hown3 hgrow3 hnil3 hb3 hown hbw HC
      go_wp2
      go_ret
      exact ⟨v', rfl, HA.out⟩
end Go.Proofs.YtbokolpjdaamiaaGreatDoor.hd

namespace Go.Proofs.YtbokolpjdaamiaaGreatDoor.hf
open Go.RowKit
open Go.Proofs.YtbokolpjdaamiaaGreatDoor.hd (cutGo foldGo foldL words tv Safe)
set_option linter.unusedVariables false

theorem row_at {w : World} {base n : Nat} {v : Value} {ws : List (List UInt8)} (h : w.ownsRow base 9 1 v n (ws.map tv)) (k : Nat) (hk : k < n) : ∃ g cap x, v = .slice (some ⟨g, 0, none⟩) n cap ∧ n ≤ cap ∧ ws[k]? = some x := by
  have hl : ws.length = n := by have := h.1; simpa using this
  rcases h.2 with ⟨_, h0⟩ | ⟨g, cap, cur, hv, _, _, hc, _⟩
  · omega
  · exact ⟨g, cap, ws[k]'(by omega), hv, hc, List.getElem?_eq_getElem (by omega)⟩
theorem row_cell {w : World} {base n g cap : Nat} {ws : List (List UInt8)} {x : List UInt8} (h : w.ownsRow base 9 1 (.slice (some ⟨g, 0, none⟩) n cap) n (ws.map tv)) (k : Nat) (hk : ws[k]? = some x) : w.cell? ⟨g, k, none⟩ = some (.string ⟨x.toArray⟩) := by
  have := h.cells (g := g) rfl k (tv x) (by rw [List.getElem?_map, hk]; rfl)
  rwa [ow.add_at] at this
theorem step_yes {ws : List (List UInt8)} {k wd : Nat} {x out tot : List UInt8} (hk : ws[k]? = some x) (h0 : k ≠ 0) (h : 78 < wd + 1 + x.length) (H : out ++ foldGo (decide (k = 0)) wd (ws.drop k) = tot) : (out ++ [13, 10] ++ ([32] ++ x)) ++ foldGo (decide (k + 1 = 0)) (0 + (1 + x.length)) (ws.drop (k + 1)) = tot := by
  rw [Lib.drop_at hk, show decide (k = 0) = false from decide_eq_false h0, hd.foldGo_yes _ h] at H
  rw [← H, Nat.zero_add]
  simp
theorem step_no {ws : List (List UInt8)} {k wd : Nat} {x out tot : List UInt8} (hk : ws[k]? = some x) (h : k = 0 ∨ wd + 1 + x.length ≤ 78) (H : out ++ foldGo (decide (k = 0)) wd (ws.drop k) = tot) : (out ++ ([32] ++ x)) ++ foldGo (decide (k + 1 = 0)) (wd + (1 + x.length)) (ws.drop (k + 1)) = tot := by
  rw [Lib.drop_at hk, hd.foldGo_no _ (h.imp (fun e => decide_eq_true e) id)] at H
  rw [← H, ← Nat.add_assoc]
  simp
theorem step_end {ws : List (List UInt8)} {k wd : Nat} {f : Bool} {out tot : List UInt8} (hk : ws.length ≤ k) (H : out ++ foldGo f wd (ws.drop k) = tot) : out = tot := by
  rw [List.drop_eq_nil_of_le hk] at H
  simpa [foldGo] using H

set_option maxHeartbeats 4000000 in
set_option maxRecDepth 100000 in
theorem specFold_any (nm s : ByteArray) (w : World) (hm : nm.size ≤ 40) (hs : s.size ≤ 2000) :
    Calls Tryz.prog 25 #[.string nm, .string s] w fun e w' => (∃ r : ByteArray, e = .returned (.string r) ∧ r.data.toList = foldL nm.data.toList s.data.toList) ∧ Below w.heap.size w w' := by
  have hcl := hd.cutGo_len s.data.toList []
  rw [← Lib.size_eq] at hcl
  have HX : Hid (∀ x ∈ cutGo [] s.data.toList, x.length ≤ 2000) := fun x hx => by
    have := hd.cutGo_mem _ _ _ hx
    rw [← Lib.size_eq] at this
    simp at this
    omega
  have hm' : (nm.size : Int) ≤ 40 := by omega
  go_enter Tryz.func25, Tryz.ntmps25
  go_wp2_with fail
  refine (hd.cut_any s _ (by omega)).mono ?_
  rintro e w1 ⟨v, rfl, own, hb1⟩
  obtain ⟨ws, hws⟩ : ∃ ws, ws = cutGo [] s.data.toList := ⟨_, rfl⟩
  rw [← hws] at own hcl HX
  have HW : Hid (ws = cutGo [] s.data.toList) := hws
  clear hws
  obtain ⟨n, hn⟩ : ∃ n, n = ws.length := ⟨_, rfl⟩
  have hn2 : n ≤ 2001 := by simp at hcl; omega
  rw [← hn] at own
  have HN : Hid (n = ws.length) := hn
  clear hn hcl
  obtain ⟨ao, cap, rfl⟩ : ∃ ao cap, v = .slice ao n cap := by
    rcases own.2 with ⟨hv, h0⟩ | ⟨g, cap, cur, hv, _⟩
    · exact ⟨none, 0, by rw [hv, h0]⟩
    · exact ⟨_, cap, hv⟩
  obtain ⟨tot, htot⟩ : ∃ tot, tot = nm.data.toList ++ [58] ++ foldGo true (nm.data.toList.length + 1) ws := ⟨_, rfl⟩
  have HTOT : Hid (tot = nm.data.toList ++ [58] ++ foldGo true (nm.data.toList.length + 1) ws) := htot
  clear htot
  go_wp2
  go_loopw [5, 6, 8] (fun o b i wr => ∃ (k wd : Nat) (out : ByteArray), k ≤ n ∧ i = .int .i64 k ∧ o = .string out ∧ b = .int .i64 wd ∧ wd ≤ 41 + k * 2001 ∧ out.size ≤ 41 + k * 2003 ∧ wr.ownsRow w.heap.size 9 1 (.slice ao n cap) n (ws.map tv) ∧ Below w.heap.size w wr ∧ Hid (out.data.toList ++ foldGo (decide (k = 0)) wd (ws.drop k) = tot)) (fun _ _ i _ => n - (intOf i).toNat)
  case atStart =>
    refine ⟨0, nm.size + 1, nm ++ { data := #[58] }, Nat.zero_le _, rfl, rfl, by go_num, by omega, by rw [ByteArray.size_append]; show _ + 1 ≤ _; omega, own, hb1, ?_⟩
    rw [HTOT.out, Lib.size_eq]
    simp
    exact (trivial : True)
  case round =>
    obtain ⟨k, wd, out, hk, rfl, rfl, rfl, hwd, ho, hown, hbw, HD⟩ := hrel
    by_cases hlt : k < n
    · obtain ⟨g, cap', x, hv, hnc, hx⟩ := row_at hown k hlt
      cases hv
      have hc0 := row_cell hown k hx
      have hxl : x.length ≤ 2000 := HX.out x (List.mem_of_getElem? hx)
      have hlt' : (k : Int) < (n : Int) := by omega
      obtain ⟨X, hX⟩ : ∃ X : ByteArray, X = ⟨x.toArray⟩ := ⟨_, rfl⟩
      have hXz : X.size = x.length := by rw [hX, Lib.size_eq]
      have hXs : X.size ≤ 2000 := by omega
      have hXs' : (X.size : Int) ≤ 2000 := by omega
      have hXl : X.data.toList = x := by rw [hX]
      rw [← hX] at hc0
      have HXL : Hid (X.data.toList = x ∧ X.size = x.length) := ⟨hXl, hXz⟩
      have HK : Hid (ws[k]? = some x) := hx
      clear hX hXl hx hXz
      have hos : (out.size : Int) ≤ 5000000 := by omega
      have hwd' : (wd : Int) ≤ 5000000 := by omega
      by_cases hk0 : k = 0
      · have d0 : decide (0 < k) = false := decide_eq_false (by omega)
        have d1 : decide ((0 : Int) < (k : Int)) = false := decide_eq_false (by omega)
        have HK0 : Hid (k = 0) := hk0
        clear hk0
        go_wp2
        go_roundw
        case rel =>
          refine ⟨k + 1, wd + (1 + X.size), out ++ ({ data := #[32] } ++ X), by omega, by go_num, rfl, by go_num, by omega, by rw [ByteArray.size_append, ByteArray.size_append]; show _ + (1 + _) ≤ _; omega, hown, hbw, ?_⟩
          have := step_no HK.out (.inl HK0.out) HD.out
          rw [HXL.out.2, ← this, ← HXL.out.1]
          simp
          exact (trivial : True)
        case measure => simp [intOf]; omega
      have d0 : decide (0 < k) = true := decide_eq_true (by omega)
      have d1 : (0 : Int) < (k : Int) := by omega
      by_cases hf : 78 < wd + 1 + X.size
      · have f1 : (78 : Int) < (wd : Int) + 1 + (X.size : Int) := by omega
        go_wp2
        go_roundw
        case rel =>
          refine ⟨k + 1, 0 + (1 + X.size), out ++ { data := #[13, 10] } ++ ({ data := #[32] } ++ X), by omega, by go_num, rfl, by go_num, by omega, by rw [ByteArray.size_append, ByteArray.size_append, ByteArray.size_append]; show _ + 2 + (1 + _) ≤ _; omega, hown, hbw, ?_⟩
          have := step_yes HK.out hk0 (by rw [← HXL.out.2]; exact hf) HD.out
          rw [HXL.out.2, ← this, ← HXL.out.1]
          simp
          exact (trivial : True)
        case measure => simp [intOf]; omega
      · have f1 : (wd : Int) + 1 + (X.size : Int) ≤ 78 := by omega
        go_wp2
        go_roundw
        case rel =>
          refine ⟨k + 1, wd + (1 + X.size), out ++ ({ data := #[32] } ++ X), by omega, by go_num, rfl, by go_num, by omega, by rw [ByteArray.size_append, ByteArray.size_append]; show _ + (1 + _) ≤ _; omega, hown, hbw, ?_⟩
          have := step_no HK.out (.inr (by rw [← HXL.out.2]; omega)) HD.out
          rw [HXL.out.2, ← this, ← HXL.out.1]
          simp
          exact (trivial : True)
        case measure => simp [intOf]; omega
    · have hge : (n : Int) ≤ (k : Int) := by omega
      have hos : (out.size : Int) ≤ 5000000 := by omega
      go_wp2
      go_ret
      refine ⟨⟨out ++ { data := #[13, 10] }, rfl, ?_⟩, hbw⟩
      have := step_end (by have := HN.out; omega) HD.out
      unfold foldL
      rw [← HW.out, ← HTOT.out, ← this]
      simp
end Go.Proofs.YtbokolpjdaamiaaGreatDoor.hf
