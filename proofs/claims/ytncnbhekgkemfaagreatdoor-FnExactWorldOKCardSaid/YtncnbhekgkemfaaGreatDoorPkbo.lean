/-
  The specification's reading of a mutation, as a whole.
-/
import Derived.Test.YtncnbhekgkemfaaGreatDoorPkbn
import Derived.Deep.RegionWith

namespace Go.Proofs.YtncnbhekgkemfaaGreatDoor.rm
open Go.RowKit Go.Deep
open it
set_option linter.unusedVariables false

theorem wrap64_int {z : Int} (h0 : 0 ≤ z) (h : z < 4294967296) : IntKind.i64.wrap z = z := by
  simp only [IntKind.wrap, IntKind.bits, IntKind.signed]
  simp
  omega
theorem num2_lt {b : ByteArray} (h : b.size = 2) : numB b < 65536 := by
  have h1 := num_lt b.data.toList
  have h2 : b.data.toList.length = 2 := h
  rw [h2] at h1
  exact h1
/-- The region that makes the variable: what its operations yield, and what lies there. -/
structure P4 where
  w : World
  t : ByteArray
  A : Nat
  n0 : Nat
  n1 : Nat
  n2 : Nat
  k5 : Nat
def V4 (p : P4) : Nat → Option Value
  | 0 => some (.string p.t)
  | 1 => some (.int .u8 (p.n0 : Nat))
  | 2 => some (.int .i64 (p.n0 : Nat))
  | 3 => some (.string p.t)
  | 4 => some (.int .u8 (p.n1 : Nat))
  | 5 => some (.int .i64 (p.n1 : Nat))
  | 6 => some (.string p.t)
  | 7 => some (.int .u8 (p.n2 : Nat))
  | 8 => some (.int .i64 (p.n2 : Nat))
  | 9 => some (.string p.t)
  | 10 => some (.string (p.t.extract 5 7))
  | 11 => some (.int .i64 (p.k5 : Nat))
  | 12 => some (.string p.t)
  | 13 => some (.int .i64 (p.A : Nat))
  | 14 => some (.string (p.t.extract 7 p.A))
  | _ => none
def J4 (p : P4) (D : Nat → Prop) (f : Nat → Value) (x : World) : Prop :=
  (∀ j, D j → ∀ y, V4 p j = some y → f j = y) ∧ Below p.w.heap.size p.w x ∧ Zero x p.w.heap.size ∧
  (D 15 → (∃ g, f 15 = .slice (some ⟨g, 0, none⟩) 0 0) ∧ Rows2 x (p.w.heap.size + 1) (f 15) []) ∧
  (D 16 → f 16 = .agg #[.int .i64 (p.n0 : Nat), .int .i64 (p.k5 : Nat), .int .i64 (p.n1 : Nat), .int .i64 (p.n2 : Nat), .string (p.t.extract 7 p.A), f 15]) ∧
  (D 17 → ∃ M, f 17 = .pointer (some ⟨M, 0, none⟩) ∧ p.w.heap.size < M ∧ (¬ D 18 → Zero x M) ∧ (D 18 → B6 x M 104 (.int .i64 (p.n0 : Nat)) (.int .i64 (p.k5 : Nat)) (.int .i64 (p.n1 : Nat)) (.int .i64 (p.n2 : Nat)) (.string (p.t.extract 7 p.A)) (f 15)))
theorem vals4 {p : P4} {D : Nat → Prop} {f : Nat → Value} {i : Nat} {y : Value} (h : ∀ j, D j → ∀ z, V4 p j = some z → f j = z) (hy : ∀ z, V4 p i = some z → y = z) : ∀ j, (j = i ∨ D j) → ∀ z, V4 p j = some z → rs.upd f i y j = z := by
  intro j hj z hz
  by_cases e : j = i
  · subst e
    rw [rs.upd_same]
    exact hy z hz
  · rw [rs.upd_other f i y e]
    exact h j (hj.resolve_left e) z hz
theorem J4.pure {p : P4} {D : Nat → Prop} {f : Nat → Value} {x : World} {i : Nat} (y : Value) (h : J4 p D f x) (hy : ∀ z, V4 p i = some z → y = z) (hi : i < 15) : J4 p (fun j => j = i ∨ D j) (rs.upd f i y) x := by
  obtain ⟨hv, hb, hz, h15, h16, h17⟩ := h
  have e15 : rs.upd f i y 15 = f 15 := rs.upd_other f i y (by omega)
  have e16 : rs.upd f i y 16 = f 16 := rs.upd_other f i y (by omega)
  have e17 : rs.upd f i y 17 = f 17 := rs.upd_other f i y (by omega)
  refine ⟨vals4 hv hy, hb, hz, fun d => ?_, fun d => ?_, fun d => ?_⟩
  · rw [e15]; exact h15 (d.resolve_left (by omega))
  · rw [e15, e16]; exact h16 (d.resolve_left (by omega))
  · rw [e15, e17]
    obtain ⟨M, a, b, c, e⟩ := h17 (d.resolve_left (by omega))
    exact ⟨M, a, b, fun n => c (fun d => n (.inr d)), fun d => e (d.resolve_left (by omega))⟩
theorem heap_last (x : World) (o : Obj) : (x.alloc o).heap[x.heap.size]? = some o := (MapKept.heap_alloc x _).1
theorem J4.make {p : P4} {D : Nat → Prop} {f : Nat → Value} {x : World} (h : J4 p D f x) (hn : ¬ D 15) (hn16 : ¬ D 16) (hn18 : ¬ D 18) : J4 p (fun j => j = 15 ∨ D j) (rs.upd f 15 (.slice (some ⟨x.heap.size, 0, none⟩) 0 0)) (x.alloc (.cells #[] 136)) := by
  obtain ⟨hv, hb, hz, h15, h16, h17⟩ := h
  have hlt : p.w.heap.size < x.heap.size := hz.lt
  have hbx : Below x.heap.size x (x.alloc (.cells #[] 136)) := (Below.refl _ _).alloc (Nat.le_refl _) _
  refine ⟨vals4 hv (fun z hz => by cases hz), hb.alloc hb.size _, hz.below hbx, fun d => ?_, fun d => absurd (d.resolve_left (by omega)) hn16, fun d => ?_⟩
  · rw [rs.upd_same]
    refine ⟨⟨_, rfl⟩, ?_⟩
    exact World.ownsRow_made x #[] 0 (by omega) (Nat.zero_le _) rfl
  · rw [rs.upd_other _ _ _ (by omega)]
    obtain ⟨M, a, b, c, e⟩ := h17 (d.resolve_left (by omega))
    exact ⟨M, a, b, fun n => (c (fun d => n (.inr d))).below hbx, fun d => absurd (d.resolve_left (by omega)) hn18⟩
theorem J4.build {p : P4} {D : Nat → Prop} {f : Nat → Value} {x : World} (h : J4 p D f x) (hn18 : ¬ D 18) : J4 p (fun j => j = 16 ∨ D j) (rs.upd f 16 (.agg #[.int .i64 (p.n0 : Nat), .int .i64 (p.k5 : Nat), .int .i64 (p.n1 : Nat), .int .i64 (p.n2 : Nat), .string (p.t.extract 7 p.A), f 15])) x := by
  obtain ⟨hv, hb, hz, h15, h16, h17⟩ := h
  refine ⟨vals4 hv (fun z hz => by cases hz), hb, hz, fun d => ?_, fun d => ?_, fun d => ?_⟩
  · rw [rs.upd_other _ _ _ (by omega)]; exact h15 (d.resolve_left (by omega))
  · rw [rs.upd_same, rs.upd_other _ _ _ (by omega)]
  · rw [rs.upd_other _ _ _ (by omega), rs.upd_other _ _ _ (by omega)]
    obtain ⟨M, a, b, c, e⟩ := h17 (d.resolve_left (by omega))
    exact ⟨M, a, b, fun n => c (fun d => n (.inr d)), fun d => e (d.resolve_left (by omega))⟩
def zs : Array Value := #[.int .i64 0, .int .i64 0, .int .i64 0, .int .i64 0, .string ⟨#[]⟩, .slice none 0 0]
theorem J4.new {p : P4} {D : Nat → Prop} {f : Nat → Value} {x : World} (h : J4 p D f x) (hn18 : ¬ D 18) : J4 p (fun j => j = 17 ∨ D j) (rs.upd f 17 (.pointer (some ⟨x.heap.size, 0, none⟩))) (x.alloc (.cells zs 104)) := by
  obtain ⟨hv, hb, hz, h15, h16, h17⟩ := h
  have hbx : Below x.heap.size x (x.alloc (.cells zs 104)) := (Below.refl _ _).alloc (Nat.le_refl _) _
  have hlt : p.w.heap.size < x.heap.size := hz.lt
  refine ⟨vals4 hv (fun z hz => by cases hz), hb.alloc hb.size _, hz.below hbx, fun d => ?_, fun d => ?_, fun d => ?_⟩
  · rw [rs.upd_other _ _ _ (by omega)]
    obtain ⟨a, b⟩ := h15 (d.resolve_left (by omega))
    exact ⟨a, ow.own_below b hbx⟩
  · rw [rs.upd_other _ _ _ (by omega), rs.upd_other _ _ _ (by omega)]
    exact h16 (d.resolve_left (by omega))
  · rw [rs.upd_same]
    exact ⟨_, rfl, hlt, fun _ => heap_last _ _, fun d => absurd (d.resolve_left (by omega)) hn18⟩
theorem J4.put {p : P4} {D : Nat → Prop} {f : Nat → Value} {x : World} {M : Nat} (h : J4 p D f x) (d15 : D 15) (hM : f 17 = .pointer (some ⟨M, 0, none⟩)) (hlt : p.w.heap.size < M) (hz' : Zero x M) :
    J4 p (fun j => j = 18 ∨ D j) (rs.upd f 18 undef) (put6 x M (.int .i64 (p.n0 : Nat)) (.int .i64 (p.k5 : Nat)) (.int .i64 (p.n1 : Nat)) (.int .i64 (p.n2 : Nat)) (.string (p.t.extract 7 p.A)) (f 15)) := by
  obtain ⟨hv, hb, hz, h15, h16, h17⟩ := h
  have hg := put6_grown x M (.int .i64 (p.n0 : Nat)) (.int .i64 (p.k5 : Nat)) (.int .i64 (p.n1 : Nat)) (.int .i64 (p.n2 : Nat)) (.string (p.t.extract 7 p.A)) (f 15)
  refine ⟨vals4 hv (fun z hz => by cases hz), put6_below hb (by omega), hz.keep hg (by omega), fun d => ?_, fun d => ?_, fun d => ?_⟩
  · rw [rs.upd_other _ _ _ (by omega)]
    obtain ⟨a, b⟩ := h15 d15
    exact ⟨a, b.kept hg (.inr (row_var b hz'))⟩
  · rw [rs.upd_other _ _ _ (by omega), rs.upd_other _ _ _ (by omega)]
    exact h16 (d.resolve_left (by omega))
  · rw [rs.upd_other _ _ _ (by omega), rs.upd_other _ _ _ (by omega)]
    exact ⟨M, hM, hlt, fun n => absurd (.inl rfl) n, fun _ => hz'.put⟩

/-- The region that appends an item. -/
structure P15 where
  w : World
  M : Nat
  hd : Hd
  v : Value
  ps : List Pr
  t : ByteArray
  a : Nat
  k : Nat
  n : Nat
def P15.ky (p : P15) : ByteArray := p.t.extract p.a (p.a + p.k)
def P15.tx (p : P15) : ByteArray := p.t.extract (p.a + p.k) (p.a + p.k + p.n)
def V15 (p : P15) : Nat → Option Value
  | 0 => some (.pointer (some ⟨p.M, 0 + 5, none⟩))
  | 1 => some p.v
  | 2 => some (.string p.t)
  | 3 => some (.int .i64 (p.a : Nat))
  | 4 => some (.int .i64 (p.a : Nat))
  | 5 => some (.int .i64 (p.k : Nat))
  | 6 => some (.int .i64 ((p.a : Int) + (p.k : Int)))
  | 7 => some (.string p.ky)
  | 8 => some (.string p.t)
  | 9 => some (.int .i64 (p.a : Nat))
  | 10 => some (.int .i64 (p.k : Nat))
  | 11 => some (.int .i64 ((p.a : Int) + (p.k : Int)))
  | 12 => some (.int .i64 (p.a : Nat))
  | 13 => some (.int .i64 (p.k : Nat))
  | 14 => some (.int .i64 ((p.a : Int) + (p.k : Int)))
  | 15 => some (.int .i64 (p.n : Nat))
  | 16 => some (.int .i64 ((p.a : Int) + (p.k : Int) + (p.n : Int)))
  | 17 => some (.string p.tx)
  | 18 => some (.agg #[.string p.ky, .string p.tx])
  | 21 => some (.pointer (some ⟨p.M, 0 + 5, none⟩))
  | _ => none
def Hold (p : P15) (x : World) (v : Value) : Prop := B6 x p.M 104 (.int .i64 p.hd.k0) (.int .i64 p.hd.k5) (.int .i64 p.hd.k1) (.int .i64 p.hd.k2) (.string p.hd.b) v
def F15 (p : P15) (ph : Nat) (f19 f20 : Value) (x : World) : Prop :=
  Below p.w.heap.size p.w x ∧ Zero x p.w.heap.size ∧ (ph < 3 → Hold p x p.v) ∧ (3 ≤ ph → Hold p x f20) ∧
  (ph ≤ 1 → Rows2 x (p.w.heap.size + 1) p.v p.ps) ∧ (2 ≤ ph → Rows2 x (p.w.heap.size + 1) f20 (p.ps ++ [(p.ky, p.tx)])) ∧
  (ph = 1 → ∃ g, f19 = .slice (some ⟨g, 0, none⟩) 1 1 ∧ x.cell? ⟨g, 0, none⟩ = some (.string p.ky) ∧ x.cell? ⟨g, 1, none⟩ = some (.string p.tx))
def J15 (p : P15) (D : Nat → Prop) (f : Nat → Value) (x : World) : Prop :=
  (∀ j, D j → ∀ y, V15 p j = some y → f j = y) ∧ ∃ ph, (D 19 ↔ 1 ≤ ph) ∧ (D 20 ↔ 2 ≤ ph) ∧ (D 22 ↔ 3 ≤ ph) ∧ F15 p ph (f 19) (f 20) x
theorem vals15 {p : P15} {D : Nat → Prop} {f : Nat → Value} {i : Nat} {y : Value} (h : ∀ j, D j → ∀ z, V15 p j = some z → f j = z) (hy : ∀ z, V15 p i = some z → y = z) : ∀ j, (j = i ∨ D j) → ∀ z, V15 p j = some z → rs.upd f i y j = z := by
  intro j hj z hz
  by_cases e : j = i
  · subst e
    rw [rs.upd_same]
    exact hy z hz
  · rw [rs.upd_other f i y e]
    exact h j (hj.resolve_left e) z hz
theorem J15.pure {p : P15} {D : Nat → Prop} {f : Nat → Value} {x : World} {i : Nat} (y : Value) (h : J15 p D f x) (hy : ∀ z, V15 p i = some z → y = z) (h19 : 19 ≠ i) (h20 : 20 ≠ i) (h22 : 22 ≠ i) : J15 p (fun j => j = i ∨ D j) (rs.upd f i y) x := by
  obtain ⟨hv, ph, e19, e20, e22, hf⟩ := h
  refine ⟨vals15 hv hy, ph, ?_, ?_, ?_, ?_⟩
  · simpa [h19] using e19
  · simpa [h20] using e20
  · simpa [h22] using e22
  · rw [rs.upd_other f i y h19, rs.upd_other f i y h20]
    exact hf
theorem J15.step {p : P15} {D : Nat → Prop} {f : Nat → Value} {x' : World} {i ph : Nat} (y : Value) (hv : ∀ j, D j → ∀ z, V15 p j = some z → f j = z) (hy : ∀ z, V15 p i = some z → y = z)
    (e19 : D 19 ↔ 1 ≤ ph) (e20 : D 20 ↔ 2 ≤ ph) (e22 : D 22 ↔ 3 ≤ ph) (hi : (i = 19 ∧ ph = 0) ∨ (i = 20 ∧ ph = 1) ∨ (i = 22 ∧ ph = 2))
    (hf : F15 p (ph + 1) (rs.upd f i y 19) (rs.upd f i y 20) x') : J15 p (fun j => j = i ∨ D j) (rs.upd f i y) x' := by
  refine ⟨vals15 hv hy, ph + 1, ?_, ?_, ?_, hf⟩
  · simp only [e19]; omega
  · simp only [e20]; omega
  · simp only [e22]; omega
theorem J15.made {p : P15} {D : Nat → Prop} {f : Nat → Value} {x : World} (h : J15 p D f x) (hn : ¬ D 19) : J15 p (fun j => j = 19 ∨ D j) (rs.upd f 19 (.slice (some ⟨x.heap.size, 0, none⟩) 1 1)) (x.alloc (.cells #[.string p.ky, .string p.tx] 136)) := by
  obtain ⟨hv, ph, e19, e20, e22, hf⟩ := h
  have hp : ph = 0 := by have := mt e19.2 hn; omega
  subst hp
  obtain ⟨fb, fz, fm, _, fr, _, _⟩ := hf
  have hbx : Below x.heap.size x (x.alloc (.cells #[.string p.ky, .string p.tx] 136)) := (Below.refl _ _).alloc (Nat.le_refl _) _
  have hnew := heap_last x (.cells #[.string p.ky, .string p.tx] 136)
  refine J15.step _ hv (fun z hz => by cases hz) e19 e20 e22 (by omega) ?_
  rw [rs.upd_same, rs.upd_other _ _ _ (by omega)]
  refine ⟨fb.alloc fb.size _, fz.below hbx, fun h => (fm (by omega)).below hbx, fun h => by omega, fun h => ow.own_below (fr (by omega)) hbx, fun h => by omega, fun h => ⟨x.heap.size, rfl, ?_, ?_⟩⟩
  · rw [cell_of_row _ _ _ _ _ _ hnew]; rfl
  · rw [cell_of_row _ _ _ _ _ _ hnew]; rfl
theorem J15.append {p : P15} {D : Nat → Prop} {f : Nat → Value} {x : World} (h : J15 p D f x) (hn : ¬ D 20) (d19 : D 19) :
    (∃ g, f 19 = .slice (some ⟨g, 0, none⟩) 1 1 ∧ x.cell? ⟨g, 0, none⟩ = some (.string p.ky) ∧ x.cell? ⟨g, 1, none⟩ = some (.string p.tx)) ∧ Rows2 x (p.w.heap.size + 1) p.v p.ps ∧ p.w.heap.size + 1 ≤ x.heap.size ∧
    ∀ v' w', w'.ownsRow (p.w.heap.size + 1) 136 2 v' (p.ps.length + 1) (icells p.ps ++ [.string p.ky, .string p.tx]) → x.grownBy w' p.v.ownBlock → J15 p (fun j => j = 20 ∨ D j) (rs.upd f 20 v') w' := by
  obtain ⟨hv, ph, e19, e20, e22, hf⟩ := h
  have hp : ph = 1 := by have := mt e20.2 hn; have := e19.1 d19; omega
  subst hp
  obtain ⟨fb, fz, fm, _, fr, _, f9⟩ := hf
  have hr := fr (by omega)
  have hm := fm (by omega)
  refine ⟨f9 rfl, hr, fz.lt, fun v' w' hown hg => ?_⟩
  have n1 : p.v.ownBlock ≠ some p.M := row_var hr hm
  have n2 : p.v.ownBlock ≠ some p.w.heap.size := row_var hr fz
  refine J15.step _ hv (fun z hz => by cases hz) e19 e20 e22 (by omega) ?_
  rw [rs.upd_same, rs.upd_other _ _ _ (by omega)]
  refine ⟨fb.grown hg fb.size (fun k hk => ?_), (hg.block _ fz.lt (fun e => n2 e.symm)).trans fz, fun h => (hg.block _ hm.lt (fun e => n1 e.symm)).trans hm, fun h => by omega, fun h => by omega, fun h => ?_, fun h => by omega⟩
  · have := (hr.lt k hk).1
    omega
  · unfold Rows2
    rw [icells_snoc, List.length_append]
    exact hown
theorem J15.put {p : P15} {D : Nat → Prop} {f : Nat → Value} {x : World} (h : J15 p D f x) (hn : ¬ D 22) (d20 : D 20) (hM : p.w.heap.size < p.M) :
    (∃ a n c, f 20 = .slice a n c) ∧ Hold p x p.v ∧ J15 p (fun j => j = 22 ∨ D j) (rs.upd f 22 undef) (x.setCell ⟨p.M, 5, none⟩ (f 20)) := by
  obtain ⟨hv, ph, e19, e20, e22, hf⟩ := h
  have hp : ph = 2 := by have := mt e22.2 hn; have := e20.1 d20; omega
  subst hp
  obtain ⟨fb, fz, fm, _, _, fr, _⟩ := hf
  have hr := fr (by omega)
  have hm := fm (by omega)
  refine ⟨?_, hm, ?_⟩
  · rcases hr.2 with ⟨e, _⟩ | ⟨g, cap, cur, e, _⟩
    · exact ⟨_, _, _, e⟩
    · exact ⟨_, _, _, e⟩
  have hg := grown_cell x p.M 5 (f 20)
  refine J15.step _ hv (fun z hz => by cases hz) e19 e20 e22 (by omega) ?_
  rw [rs.upd_other _ _ _ (by omega), rs.upd_other _ _ _ (by omega)]
  exact ⟨fb.setCell (p := ⟨p.M, 5, none⟩) (by show p.w.heap.size ≤ p.M; omega) _, fz.other p.M 5 _ (by omega), fun h => by omega, fun h => B6.put5 hm _, fun h => by omega, fun h => hr.kept hg (.inr (row_var hr hm)), fun h => by omega⟩
theorem J15.load {p : P15} {D : Nat → Prop} {f : Nat → Value} {x : World} (h : J15 p D f x) (hn : ¬ D 22) : Hold p x p.v := by
  obtain ⟨hv, ph, e19, e20, e22, hf⟩ := h
  exact hf.2.2.1 (by have := mt e22.2 hn; omega)
theorem J15.ends {p : P15} {D : Nat → Prop} {f : Nat → Value} {x : World} (h : J15 p D f x) (d : D 22) : Below p.w.heap.size p.w x ∧ Zero x p.w.heap.size ∧ Hold p x (f 20) ∧ Rows2 x (p.w.heap.size + 1) (f 20) (p.ps ++ [(p.ky, p.tx)]) := by
  obtain ⟨hv, ph, e19, e20, e22, hf⟩ := h
  have hp := e22.1 d
  exact ⟨hf.1, hf.2.1, hf.2.2.2.1 hp, hf.2.2.2.2.2.1 (by omega)⟩

/-- The last region: the answer is laid, and the mutation is asked about. -/
structure P17 where
  w : World
  M : Nat
  hd : Hd
  v : Value
  ps : List Pr
  t : ByteArray
  a : Nat
  e : Bool
  ok : Bool
def P17.R (p : P17) : Value := .agg #[.int .i64 p.hd.k0, .int .i64 p.hd.k5, .int .i64 p.hd.k1, .int .i64 p.hd.k2, .string p.hd.b, p.v]
def V17 (p : P17) : Nat → Option Value
  | 0 => some p.R
  | 1 => some (.int .i64 (p.a : Nat))
  | 2 => some (.string p.t)
  | 3 => some (.int .i64 (p.t.size : Nat))
  | 4 => some (.bool p.e)
  | 5 => some (.bool p.e)
  | 6 => some (if p.e then p.R else undef)
  | 7 => some (if p.e then .bool p.ok else undef)
  | 8 => some (.bool (p.e && p.ok))
  | 10 => some (.bool (p.e && p.ok))
  | _ => none
def J17 (p : P17) (D : Nat → Prop) (f : Nat → Value) (x : World) : Prop :=
  (∀ j, D j → ∀ y, V17 p j = some y → f j = y) ∧ Below p.w.heap.size p.w x ∧
  B6 x p.M 104 (.int .i64 p.hd.k0) (.int .i64 p.hd.k5) (.int .i64 p.hd.k1) (.int .i64 p.hd.k2) (.string p.hd.b) p.v ∧
  Rows2 x (p.w.heap.size + 1) p.v p.ps ∧ (¬ D 9 → Zero x p.w.heap.size) ∧
  (D 9 → B6 x p.w.heap.size 104 (.int .i64 p.hd.k0) (.int .i64 p.hd.k5) (.int .i64 p.hd.k1) (.int .i64 p.hd.k2) (.string p.hd.b) p.v)
theorem J17.step {p : P17} {D : Nat → Prop} {f : Nat → Value} {x x' : World} {i : Nat} (y : Value) (h : J17 p D f x) (hy : ∀ z, V17 p i = some z → y = z) (h9 : 9 ≠ i) (hb : Below x.heap.size x x') : J17 p (fun j => j = i ∨ D j) (rs.upd f i y) x' := by
  obtain ⟨hv, hb0, hm, hr, hz, hd⟩ := h
  refine ⟨?_, hb0.trans (hb.mono hb0.size), hm.below hb, ow.own_below hr hb, fun n => (hz (fun d => n (.inr d))).below hb, fun d => (hd (d.resolve_left h9)).below hb⟩
  intro j hj z hz
  by_cases e : j = i
  · subst e
    rw [rs.upd_same]
    exact hy z hz
  · rw [rs.upd_other f i y e]
    exact hv j (hj.resolve_left e) z hz
theorem J17.put {p : P17} {D : Nat → Prop} {f : Nat → Value} {x : World} (h : J17 p D f x) (hn : ¬ D 9) (hM : p.w.heap.size < p.M) : J17 p (fun j => j = 9 ∨ D j) (rs.upd f 9 undef) (put6 x p.w.heap.size (.int .i64 p.hd.k0) (.int .i64 p.hd.k5) (.int .i64 p.hd.k1) (.int .i64 p.hd.k2) (.string p.hd.b) p.v) := by
  obtain ⟨hv, hb0, hm, hr, hz, hd⟩ := h
  have hg := put6_grown x p.w.heap.size (.int .i64 p.hd.k0) (.int .i64 p.hd.k5) (.int .i64 p.hd.k1) (.int .i64 p.hd.k2) (.string p.hd.b) p.v
  refine ⟨?_, put6_below hb0 (Nat.le_refl _), hm.keep hg (by omega), hr.kept hg (.inr (row_var hr (hz hn))), fun n => absurd (.inl rfl) n, fun _ => (hz hn).put⟩
  intro j hj z hz
  by_cases e : j = 9
  · subst e
    cases hz
  · rw [rs.upd_other f 9 undef e]
    exact hv j (hj.resolve_left e) z hz

set_option maxHeartbeats 8000000 in
set_option maxRecDepth 100000 in
theorem read_any (t : ByteArray) (w : World) (ht : t.size ≤ 1048576) :
    Calls Tryz.prog 52 #[.string t] w fun e w' => (∃ x u, e = .returned (.tuple #[mu.MV x u, .bool (rok t)]) ∧ (rok t = true → x = mtn (t, false)) ∧ Rows2 w' w.heap.size u x.ps) ∧ Below w.heap.size w w' := by
  by_cases g1 : t.size < 7
  · exact read_few t w g1
  have g1n : 7 ≤ t.size := by omega
  by_cases g2 : t.size < 7 + (t[4]).toNat
  · exact read_name t w ht g1n g2
  have HR0 : Zero (w.alloc (.cells #[.int .i64 0, .int .i64 0, .int .i64 0, .int .i64 0, .string ⟨#[]⟩, .slice none 0 0] 104)) w.heap.size := (MapKept.heap_alloc w _).1
  have b0 : Below w.heap.size w (w.alloc (.cells #[.int .i64 0, .int .i64 0, .int .i64 0, .int .i64 0, .string ⟨#[]⟩, .slice none 0 0] 104)) := (Below.refl _ _).alloc (Nat.le_refl _) _
  have g1' : (7 : Int) ≤ (t.size : Int) := by omega
  have x0 : (0 : Nat) < t.size := by omega
  have x1 : (1 : Nat) < t.size := by omega
  have x2 : (2 : Nat) < t.size := by omega
  have x3 : (3 : Nat) < t.size := by omega
  have x4 : (4 : Nat) < t.size := by omega
  have y1 : (1 : Int) < (t.size : Int) := by omega
  have y2 : (2 : Int) < (t.size : Int) := by omega
  have y3 : (3 : Int) < (t.size : Int) := by omega
  have q0 : (t[0]).toNat < 256 := (t[0]).toNat_lt
  have q1 : (t[1]).toNat < 256 := (t[1]).toNat_lt
  have q2 : (t[2]).toNat < 256 := (t[2]).toNat_lt
  have q3 : (t[3]).toNat < 256 := (t[3]).toNat_lt
  have q4 : (t[4]).toNat < 256 := (t[4]).toNat_lt
  have g2' : (7 : Int) + ((t[4]).toNat : Int) ≤ (t.size : Int) := by omega
  have g2n : 7 + (t[4]).toNat ≤ t.size := by omega
  have HM3 : Hid (∀ (ps : List Pr) (s : Sta), its (t[3]).toNat (pl t (7 + (t[4]).toNat)) = (ps, s) → mtn (t, false) = ⟨((t[0]).toNat : Nat), (numB (t.extract 5 7) : Nat), ((t[1]).toNat : Nat), ((t[2]).toNat : Nat), t.extract 7 (7 + (t[4]).toNat), ps⟩ ∧ fin (t, false) = s) := fun ps s hi => mtn_is g1n g2n hi
  have HI3 : Hid (∀ (j : Nat), (its j (pl t (7 + (t[4]).toNat))).2.2 = true → j ≤ (t[3]).toNat → rok t = false) := fun j hi hj => rok_its g1n g2n hi hj
  have HN5 : Hid (∀ w, Calls Tryz.prog 50 #[.string (t.extract 5 7)] w fun e w' => e = .returned (.int .i64 (numB (t.extract 5 7))) ∧ w' = w) := fun w => l08Number_any _ w (by rw [ByteArray.size_extract]; omega)
  have n5 : numB (t.extract 5 7) < 65536 := by
    have h1 := num_lt (t.extract 5 7).data.toList
    have h2 : (t.extract 5 7).data.toList.length = 2 := by
      show (t.extract 5 7).size = 2
      rw [ByteArray.size_extract]
      omega
    rw [h2] at h1
    exact h1
  generalize hk5 : numB (t.extract 5 7) = k5 at HM3 HN5 n5
  clear hk5
  have w0' : IntKind.i64.wrap ((t[0]).toNat : Int) = ((t[0]).toNat : Int) := wrap64_nat (by omega)
  have w1' : IntKind.i64.wrap ((t[1]).toNat : Int) = ((t[1]).toNat : Int) := wrap64_nat (by omega)
  have w2' : IntKind.i64.wrap ((t[2]).toNat : Int) = ((t[2]).toNat : Int) := wrap64_nat (by omega)
  go_enter Tryz.func52, Tryz.ntmps52
  go_upto_region 4 with fail
  generalize w.alloc _ = w0 at HR0 b0 ⊢
  obtain ⟨A, hA⟩ : ∃ A : Nat, A = 7 + (t[4]).toNat := ⟨_, rfl⟩
  have hA1 : (7 : Int) ≤ (A : Int) := by omega
  have hA2 : (A : Int) ≤ (t.size : Int) := by omega
  have hA3 : (0 : Int) ≤ (A : Int) := by omega
  rw [show (7 : Int) + ((t[4]).toNat : Int) = (A : Int) from by omega]
  rw [← hA] at HM3 HI3
  clear hA g2 g2' g2n
  have hJ0 : ∀ f : Nat → Value, J4 ⟨w, t, A, (t[0]).toNat, (t[1]).toNat, (t[2]).toNat, k5⟩ (fun _ => False) f w0.drew := fun f => ⟨fun j hj => hj.elim, b0.drew, HR0, fun d => d.elim, fun d => d.elim, fun d => d.elim⟩
  clear HR0 b0
  refine rs.region_st (by kernel_rfl) (fun f => { tmps := List.toArray ((.string t) :: (undef) :: (.pointer (some ⟨w.heap.size, 0, none⟩)) :: (.bool false) :: (.int .i64 A) :: (f 17) :: (undef) :: (undef) :: (undef) :: (.string t) :: (.int .i64 t.size) :: (.bool (decide ((t.size : Int) < 7))) :: (.bool (decide ((t.size : Int) < 7))) :: (.string t) :: (.int .i64 t.size) :: (.string t) :: (.int .u8 ((t[4]).toNat : Int)) :: (.int .i64 ((t[4]).toNat : Int)) :: (.int .i64 A) :: (.bool (decide ((t.size : Int) < A))) :: (.bool (decide ((t.size : Int) < 7) || decide ((t.size : Int) < A))) :: (undef) :: (.string t) :: (.int .u8 ((t[4]).toNat : Int)) :: (.int .i64 ((t[4]).toNat : Int)) :: (.int .i64 A) :: (f 0) :: (f 1) :: (f 2) :: (f 3) :: (f 4) :: (f 5) :: (f 6) :: (f 7) :: (f 8) :: (f 9) :: (f 10) :: (f 11) :: (f 12) :: (f 13) :: (f 14) :: (f 15) :: (f 16) :: (undef) :: (undef) :: (undef) :: (undef) :: (undef) :: (undef) :: (undef) :: (undef) :: (undef) :: (undef) :: (undef) :: (undef) :: (undef) :: (undef) :: (undef) :: (undef) :: (undef) :: (undef) :: (undef) :: (undef) :: (undef) :: (undef) :: (undef) :: (undef) :: (undef) :: (undef) :: (undef) :: (undef) :: (undef) :: (undef) :: (undef) :: (undef) :: (undef) :: (undef) :: (undef) :: (undef) :: (undef) :: (undef) :: (undef) :: (undef) :: (undef) :: (undef) :: (undef) :: (undef) :: (undef) :: (undef) :: (undef) :: (undef) :: (undef) :: (undef) :: (undef) :: (undef) :: (undef) :: (undef) :: (undef) :: (undef) :: (undef) :: (undef) :: (undef) :: (undef) :: (undef) :: (undef) :: (undef) :: (undef) :: (undef) :: (undef) :: (undef) :: (undef) :: (undef) :: (undef) :: (undef) :: (undef) :: (undef) :: []), defers := [] }) (J4 ⟨w, t, A, (t[0]).toNat, (t[1]).toNat, (t[2]).toNat, k5⟩) (fun k => undef) rfl (hJ0 _) (rs.deps_of (by kernel_rfl)) ?_ ?_
  · intro i o ho D f x hJ hall hni hcl
    match i, ho with
    | 0, ho =>
      cases ho
      have HJ : Hid (J4 ⟨w, t, A, (t[0]).toNat, (t[1]).toNat, (t[2]).toNat, k5⟩ D f x) := hJ
      clear hJ hall hcl hni
      refine wpOp_step rfl (fun K' hK => ?_)
      go_simp
      exact hK _ _ ⟨.string t, by simp [rs.upd], HJ.out.pure _ (fun z hz => Option.some.inj hz) (by omega)⟩
    | 1, ho =>
      cases ho
      have d0 : D 0 := hall { on := 0, ground := Ground.data } (by simp) rfl
      have h0 : f 0 = .string t := hJ.1 0 d0 _ rfl
      have HJ : Hid (J4 ⟨w, t, A, (t[0]).toNat, (t[1]).toNat, (t[2]).toNat, k5⟩ D f x) := hJ
      clear hJ hall hcl hni
      refine wpOp_step rfl (fun K' hK => ?_)
      simp only [h0]
      go_simp
      exact hK _ _ ⟨.int .u8 ((t[0]).toNat : Int), by simp [rs.upd, h0], HJ.out.pure _ (fun z hz => Option.some.inj hz) (by omega)⟩
    | 2, ho =>
      cases ho
      have d1 : D 1 := hall { on := 1, ground := Ground.data } (by simp) rfl
      have h1 : f 1 = .int .u8 ((t[0]).toNat : Int) := hJ.1 1 d1 _ rfl
      have HJ : Hid (J4 ⟨w, t, A, (t[0]).toNat, (t[1]).toNat, (t[2]).toNat, k5⟩ D f x) := hJ
      clear hJ hall hcl hni
      refine wpOp_step rfl (fun K' hK => ?_)
      simp only [h1]
      go_simp
      exact hK _ _ ⟨.int .i64 ((t[0]).toNat : Int), by simp [rs.upd, h1], HJ.out.pure _ (fun z hz => Option.some.inj hz) (by omega)⟩
    | 3, ho =>
      cases ho
      have HJ : Hid (J4 ⟨w, t, A, (t[0]).toNat, (t[1]).toNat, (t[2]).toNat, k5⟩ D f x) := hJ
      clear hJ hall hcl hni
      refine wpOp_step rfl (fun K' hK => ?_)
      go_simp
      exact hK _ _ ⟨.string t, by simp [rs.upd], HJ.out.pure _ (fun z hz => Option.some.inj hz) (by omega)⟩
    | 4, ho =>
      cases ho
      have d3 : D 3 := hall { on := 3, ground := Ground.data } (by simp) rfl
      have h3 : f 3 = .string t := hJ.1 3 d3 _ rfl
      have HJ : Hid (J4 ⟨w, t, A, (t[0]).toNat, (t[1]).toNat, (t[2]).toNat, k5⟩ D f x) := hJ
      clear hJ hall hcl hni
      refine wpOp_step rfl (fun K' hK => ?_)
      simp only [h3]
      go_simp
      exact hK _ _ ⟨.int .u8 ((t[1]).toNat : Int), by simp [rs.upd, h3], HJ.out.pure _ (fun z hz => Option.some.inj hz) (by omega)⟩
    | 5, ho =>
      cases ho
      have d4 : D 4 := hall { on := 4, ground := Ground.data } (by simp) rfl
      have h4 : f 4 = .int .u8 ((t[1]).toNat : Int) := hJ.1 4 d4 _ rfl
      have HJ : Hid (J4 ⟨w, t, A, (t[0]).toNat, (t[1]).toNat, (t[2]).toNat, k5⟩ D f x) := hJ
      clear hJ hall hcl hni
      refine wpOp_step rfl (fun K' hK => ?_)
      simp only [h4]
      go_simp
      exact hK _ _ ⟨.int .i64 ((t[1]).toNat : Int), by simp [rs.upd, h4], HJ.out.pure _ (fun z hz => Option.some.inj hz) (by omega)⟩
    | 6, ho =>
      cases ho
      have HJ : Hid (J4 ⟨w, t, A, (t[0]).toNat, (t[1]).toNat, (t[2]).toNat, k5⟩ D f x) := hJ
      clear hJ hall hcl hni
      refine wpOp_step rfl (fun K' hK => ?_)
      go_simp
      exact hK _ _ ⟨.string t, by simp [rs.upd], HJ.out.pure _ (fun z hz => Option.some.inj hz) (by omega)⟩
    | 7, ho =>
      cases ho
      have d6 : D 6 := hall { on := 6, ground := Ground.data } (by simp) rfl
      have h6 : f 6 = .string t := hJ.1 6 d6 _ rfl
      have HJ : Hid (J4 ⟨w, t, A, (t[0]).toNat, (t[1]).toNat, (t[2]).toNat, k5⟩ D f x) := hJ
      clear hJ hall hcl hni
      refine wpOp_step rfl (fun K' hK => ?_)
      simp only [h6]
      go_simp
      exact hK _ _ ⟨.int .u8 ((t[2]).toNat : Int), by simp [rs.upd, h6], HJ.out.pure _ (fun z hz => Option.some.inj hz) (by omega)⟩
    | 8, ho =>
      cases ho
      have d7 : D 7 := hall { on := 7, ground := Ground.data } (by simp) rfl
      have h7 : f 7 = .int .u8 ((t[2]).toNat : Int) := hJ.1 7 d7 _ rfl
      have HJ : Hid (J4 ⟨w, t, A, (t[0]).toNat, (t[1]).toNat, (t[2]).toNat, k5⟩ D f x) := hJ
      clear hJ hall hcl hni
      refine wpOp_step rfl (fun K' hK => ?_)
      simp only [h7]
      go_simp
      exact hK _ _ ⟨.int .i64 ((t[2]).toNat : Int), by simp [rs.upd, h7], HJ.out.pure _ (fun z hz => Option.some.inj hz) (by omega)⟩
    | 9, ho =>
      cases ho
      have HJ : Hid (J4 ⟨w, t, A, (t[0]).toNat, (t[1]).toNat, (t[2]).toNat, k5⟩ D f x) := hJ
      clear hJ hall hcl hni
      refine wpOp_step rfl (fun K' hK => ?_)
      go_simp
      exact hK _ _ ⟨.string t, by simp [rs.upd], HJ.out.pure _ (fun z hz => Option.some.inj hz) (by omega)⟩
    | 10, ho =>
      cases ho
      have d9 : D 9 := hall { on := 9, ground := Ground.data } (by simp) rfl
      have h9 : f 9 = .string t := hJ.1 9 d9 _ rfl
      have HJ : Hid (J4 ⟨w, t, A, (t[0]).toNat, (t[1]).toNat, (t[2]).toNat, k5⟩ D f x) := hJ
      clear hJ hall hcl hni
      refine wpOp_step rfl (fun K' hK => ?_)
      simp only [h9]
      go_simp
      exact hK _ _ ⟨.string (t.extract 5 7), by simp [rs.upd, h9], HJ.out.pure _ (fun z hz => Option.some.inj hz) (by omega)⟩
    | 11, ho =>
      cases ho
      have d10 : D 10 := hall { on := 10, ground := Ground.data } (by simp) rfl
      have h10 : f 10 = .string (t.extract 5 7) := hJ.1 10 d10 _ rfl
      have HJ : Hid (J4 ⟨w, t, A, (t[0]).toNat, (t[1]).toNat, (t[2]).toNat, k5⟩ D f x) := hJ
      clear hJ hall hcl hni
      refine wpOp_step rfl (fun K' hK => ?_)
      simp only [h10]
      go_wp2_with (go_at_call 50; refine (HN5.out _).mono ?_; rintro e w' ⟨rfl, rfl⟩)
      exact ⟨.int .i64 k5, by simp [rs.upd, h10], HJ.out.pure _ (fun z hz => Option.some.inj hz) (by omega)⟩
    | 12, ho =>
      cases ho
      have HJ : Hid (J4 ⟨w, t, A, (t[0]).toNat, (t[1]).toNat, (t[2]).toNat, k5⟩ D f x) := hJ
      clear hJ hall hcl hni
      refine wpOp_step rfl (fun K' hK => ?_)
      go_simp
      exact hK _ _ ⟨.string t, by simp [rs.upd], HJ.out.pure _ (fun z hz => Option.some.inj hz) (by omega)⟩
    | 13, ho =>
      cases ho
      have HJ : Hid (J4 ⟨w, t, A, (t[0]).toNat, (t[1]).toNat, (t[2]).toNat, k5⟩ D f x) := hJ
      clear hJ hall hcl hni
      refine wpOp_step rfl (fun K' hK => ?_)
      go_simp
      exact hK _ _ ⟨.int .i64 A, by simp [rs.upd], HJ.out.pure _ (fun z hz => Option.some.inj hz) (by omega)⟩
    | 14, ho =>
      cases ho
      have d12 : D 12 := hall { on := 12, ground := Ground.data } (by simp) rfl
      have h12 : f 12 = .string t := hJ.1 12 d12 _ rfl
      have d13 : D 13 := hall { on := 13, ground := Ground.data } (by simp) rfl
      have h13 : f 13 = .int .i64 A := hJ.1 13 d13 _ rfl
      have HJ : Hid (J4 ⟨w, t, A, (t[0]).toNat, (t[1]).toNat, (t[2]).toNat, k5⟩ D f x) := hJ
      clear hJ hall hcl hni
      refine wpOp_step rfl (fun K' hK => ?_)
      simp only [h12, h13]
      go_simp
      exact hK _ _ ⟨.string (t.extract 7 A), by simp [rs.upd, h12, h13], HJ.out.pure _ (fun z hz => Option.some.inj hz) (by omega)⟩
    | 15, ho =>
      cases ho
      have hn16 : ¬ D 16 := fun h => hni (hcl 16 _ h rfl { on := 15, ground := Ground.data } (by simp) rfl)
      have hn18 : ¬ D 18 := fun h => hn16 (hcl 18 _ h rfl { on := 16, ground := Ground.data } (by simp) rfl)
      have HF : Hid (J4 ⟨w, t, A, (t[0]).toNat, (t[1]).toNat, (t[2]).toNat, k5⟩ (fun j => j = 15 ∨ D j) (rs.upd f 15 (.slice (some ⟨x.heap.size, 0, none⟩) 0 0)) (x.alloc (.cells #[] 136))) := hJ.make hni hn16 hn18
      clear hJ hall hcl hni hn16 hn18
      refine wpOp_step rfl (fun K' hK => ?_)
      go_wp2_with fail
      exact ⟨.slice (some ⟨x.heap.size, 0, none⟩) 0 0, by simp [rs.upd], HF.out⟩
    | 16, ho =>
      cases ho
      have d2 : D 2 := hall { on := 2, ground := Ground.data } (by simp) rfl
      have h2 : f 2 = .int .i64 ((t[0]).toNat : Int) := hJ.1 2 d2 _ rfl
      have d5 : D 5 := hall { on := 5, ground := Ground.data } (by simp) rfl
      have h5 : f 5 = .int .i64 ((t[1]).toNat : Int) := hJ.1 5 d5 _ rfl
      have d8 : D 8 := hall { on := 8, ground := Ground.data } (by simp) rfl
      have h8 : f 8 = .int .i64 ((t[2]).toNat : Int) := hJ.1 8 d8 _ rfl
      have d11 : D 11 := hall { on := 11, ground := Ground.data } (by simp) rfl
      have h11 : f 11 = .int .i64 k5 := hJ.1 11 d11 _ rfl
      have d14 : D 14 := hall { on := 14, ground := Ground.data } (by simp) rfl
      have h14 : f 14 = .string (t.extract 7 A) := hJ.1 14 d14 _ rfl
      have d15 : D 15 := hall { on := 15, ground := Ground.data } (by simp) rfl
      have hn18 : ¬ D 18 := fun h => hni (hcl 18 _ h rfl { on := 16, ground := Ground.data } (by simp) rfl)
      obtain ⟨⟨g, h15⟩, _⟩ := hJ.2.2.2.1 d15
      have hF := hJ.build hn18
      rw [h15] at hF
      have HF : Hid (J4 ⟨w, t, A, (t[0]).toNat, (t[1]).toNat, (t[2]).toNat, k5⟩ (fun j => j = 16 ∨ D j) (rs.upd f 16 (.agg #[.int .i64 ((t[0]).toNat : Int), .int .i64 k5, .int .i64 ((t[1]).toNat : Int), .int .i64 ((t[2]).toNat : Int), .string (t.extract 7 A), .slice (some ⟨g, 0, none⟩) 0 0])) x) := hF
      clear hJ hall hcl hni hn18 hF
      refine wpOp_step rfl (fun K' hK => ?_)
      simp only [h2, h5, h8, h11, h14, h15]
      go_simp
      exact hK _ _ ⟨.agg #[.int .i64 ((t[0]).toNat : Int), .int .i64 k5, .int .i64 ((t[1]).toNat : Int), .int .i64 ((t[2]).toNat : Int), .string (t.extract 7 A), .slice (some ⟨g, 0, none⟩) 0 0], by simp [rs.upd, h2, h5, h8, h11, h14, h15], HF.out⟩
    | 17, ho =>
      cases ho
      have hn18 : ¬ D 18 := fun h => hni (hcl 18 _ h rfl { on := 17, ground := Ground.data } (by simp) rfl)
      have HF : Hid (J4 ⟨w, t, A, (t[0]).toNat, (t[1]).toNat, (t[2]).toNat, k5⟩ (fun j => j = 17 ∨ D j) (rs.upd f 17 (.pointer (some ⟨x.heap.size, 0, none⟩))) (x.alloc (.cells zs 104))) := hJ.new hn18
      clear hJ hall hcl hni hn18
      refine wpOp_step rfl (fun K' hK => ?_)
      go_wp2_with fail
      exact ⟨.pointer (some ⟨x.heap.size, 0, none⟩), by simp [rs.upd], HF.out⟩
    | 18, ho =>
      cases ho
      have d16 : D 16 := hall { on := 16, ground := Ground.data } (by simp) rfl
      have d17 : D 17 := hall { on := 17, ground := Ground.data } (by simp) rfl
      have d15 : D 15 := hcl 16 _ d16 rfl { on := 15, ground := Ground.data } (by simp) rfl
      obtain ⟨⟨g, h15⟩, _⟩ := hJ.2.2.2.1 d15
      have h16 := hJ.2.2.2.2.1 d16
      obtain ⟨M, h17, hM, hz, _⟩ := hJ.2.2.2.2.2 d17
      have hz0 := hz hni
      have hF := hJ.put d15 h17 hM hz0
      rw [h15] at hF h16
      simp only at h16
      have HF : Hid (J4 ⟨w, t, A, (t[0]).toNat, (t[1]).toNat, (t[2]).toNat, k5⟩ (fun j => j = 18 ∨ D j) (rs.upd f 18 undef) (put6 x M (.int .i64 ((t[0]).toNat : Int)) (.int .i64 k5) (.int .i64 ((t[1]).toNat : Int)) (.int .i64 ((t[2]).toNat : Int)) (.string (t.extract 7 A)) (.slice (some ⟨g, 0, none⟩) 0 0))) := hF
      have m0 : x.cell? ⟨M, 0, none⟩ = _ := hz0.cell 0 _ rfl
      have m1 : x.cell? ⟨M, 0 + 1, none⟩ = _ := hz0.cell 1 _ rfl
      have m2 : x.cell? ⟨M, 0 + 2, none⟩ = _ := hz0.cell 2 _ rfl
      have m3 : x.cell? ⟨M, 0 + 3, none⟩ = _ := hz0.cell 3 _ rfl
      have m4 : x.cell? ⟨M, 0 + 4, none⟩ = _ := hz0.cell 4 _ rfl
      have m5 : x.cell? ⟨M, 0 + 5, none⟩ = _ := hz0.cell 5 _ rfl
      have fz := hz0.f
      clear hJ hall hcl hni hz hF hz0
      refine wpOp_step rfl (fun K' hK => ?_)
      simp only [h15, h16, h17]
      go_wp2_with fail
      exact ⟨undef, by simp [rs.upd, h15, h16, h17], HF.out⟩
    | k + 19, ho => simp at ho
  · intro D0 F X hD hJ
    obtain ⟨hv, hb, hz, h15, h16, h17⟩ := hJ
    obtain ⟨⟨g, e15⟩, hrw⟩ := h15 (hD 15 (by decide))
    obtain ⟨M, e17, hM, _, hB⟩ := h17 (hD 17 (by decide))
    have hB2 := hB (hD 18 (by decide))
    have HV : Hid (Var w X M ⟨(t[0]).toNat, (t[1]).toNat, (t[2]).toNat, k5, t.extract 7 A⟩ (F 15) []) := ⟨hB2, hz, hrw, hb, hM⟩
    clear hv hb hz h15 h16 h17 hrw hB hB2 e15 hJ0 HN5 hD
    rw [e17]
    clear e17
    generalize F 15 = v0 at HV ⊢
    obtain ⟨cnt, hcnt⟩ : ∃ n : Nat, n = (t[3]).toNat := ⟨_, rfl⟩
    have hc1 : cnt < 256 := by omega
    have w3' : IntKind.i64.wrap ((t[3]).toNat : Int) = ((t[3]).toNat : Int) := wrap64_nat (by omega)
    go_wp2
    rw [← hcnt] at HM3 HI3 ⊢
    clear hcnt w0' w1' w2' w3' y1 y2 y3 q0 q1 q2 q3 q4
    have hAs : A ≤ t.size := by omega
    have HST : Hid (its 0 (pl t A) = ([], pl t A)) := rfl
    go_loopw [4, 6] (fun a i wr => ∃ (j p : Nat) (ps : List Pr) (v : Value), j ≤ cnt ∧ a = .int .i64 p ∧ i = .int .i64 ((cnt : Int) - (j : Int)) ∧ p ≤ t.size ∧ its j (pl t A) = (ps, pl t p) ∧ Var w wr M ⟨(t[0]).toNat, (t[1]).toNat, (t[2]).toNat, k5, t.extract 7 A⟩ v ps) (fun _ i _ => (intOf i).toNat)
    case atStart => exact ⟨0, A, [], v0, Nat.zero_le _, rfl, by simp, hAs, HST.out, HV.out⟩
    case round =>
      clear HST HV hA1 hA2 hA3 hAs
      obtain ⟨j, p, ps, v, hj, rfl, rfl, hp, hit, hvar⟩ := hrel
      have HIT : Hid (its j (pl t A) = (ps, pl t p)) := hit
      have HVR : Hid (Var w wr M ⟨(t[0]).toNat, (t[1]).toNat, (t[2]).toNat, k5, t.extract 7 A⟩ v ps) := hvar
      clear hit hvar
      generalize (t[0]).toNat = n0 at HM3 HVR
      generalize (t[1]).toNat = n1 at HM3 HVR
      generalize (t[2]).toNat = n2 at HM3 HVR
      obtain ⟨av, nv, cv, rfl⟩ : ∃ a n c, v = .slice a n c := by
        rcases HVR.out.2.2.1.2 with ⟨rfl, _⟩ | ⟨g, cap, cur, rfl, _⟩
        · exact ⟨_, _, _, rfl⟩
        · exact ⟨_, _, _, rfl⟩
      by_cases hlt : j < cnt
      · have hlt' : (0 : Int) < (cnt : Int) - (j : Int) := by omega
        by_cases h4 : t.size < p + 4
        · have h4' : (t.size : Int) < (p : Int) + 4 := by omega
          have HK : Hid (rok t = false) := HI3.out (j + 1) (its_no4 HIT.out hp h4) (by omega)
          have R3 := HVR.out.2.1
          have b3 := HVR.out.2.2.2.1
          have r0 : World.cell? wr ⟨w.heap.size, 0, none⟩ = _ := R3.cell 0 _ rfl
          have r1 : World.cell? wr ⟨w.heap.size, 0 + 1, none⟩ = _ := R3.cell 1 _ rfl
          have r2 : World.cell? wr ⟨w.heap.size, 0 + 2, none⟩ = _ := R3.cell 2 _ rfl
          have r3 : World.cell? wr ⟨w.heap.size, 0 + 3, none⟩ = _ := R3.cell 3 _ rfl
          have r4 : World.cell? wr ⟨w.heap.size, 0 + 4, none⟩ = _ := R3.cell 4 _ rfl
          have r5 : World.cell? wr ⟨w.heap.size, 0 + 5, none⟩ = _ := R3.cell 5 _ rfl
          have fz := R3.f
          go_wp2
          have A5 := R3.put (a := .int .i64 0) (b := .int .i64 0) (c := .int .i64 0) (d := .int .i64 0) (e := .string ⟨#[]⟩) (f := .slice none 0 0)
          have b5 := put6_below (g := w.heap.size) (a := .int .i64 0) (b := .int .i64 0) (c := .int .i64 0) (d := .int .i64 0) (e := .string ⟨#[]⟩) (f := .slice none 0 0) b3 (Nat.le_refl _)
          change bodyPost _ _ _ _ _ (put6 wr w.heap.size (.int .i64 0) (.int .i64 0) (.int .i64 0) (.int .i64 0) (.string ⟨#[]⟩) (.slice none 0 0))
          generalize put6 _ _ _ _ _ _ _ _ = W5 at A5 b5 ⊢
          have d0 : W5.cell? ⟨w.heap.size, 0, none⟩ = _ := A5.cell 0 _ rfl
          have d1 : W5.cell? ⟨w.heap.size, 0 + 1, none⟩ = _ := A5.cell 1 _ rfl
          have d2 : W5.cell? ⟨w.heap.size, 0 + 2, none⟩ = _ := A5.cell 2 _ rfl
          have d3 : W5.cell? ⟨w.heap.size, 0 + 3, none⟩ = _ := A5.cell 3 _ rfl
          have d4 : W5.cell? ⟨w.heap.size, 0 + 4, none⟩ = _ := A5.cell 4 _ rfl
          have d5 : W5.cell? ⟨w.heap.size, 0 + 5, none⟩ = _ := A5.cell 5 _ rfl
          exact bodyPost_ret (v := .tuple #[.agg #[.int .i64 0, .int .i64 0, .int .i64 0, .int .i64 0, .string ⟨#[]⟩, .slice none 0 0], .bool false]) (by simp [results, Tryz.results52, go_sem, d0, d1, d2, d3, d4, d5]) rfl ⟨⟨noM, _, by rw [HK.out]; rfl, fun h => (by rw [HK.out] at h; cases h), rows_nil _ _⟩, b5⟩
        have h4' : (p : Int) + 4 ≤ (t.size : Int) := by omega
        have s1 : (t.extract p (p + 2)).size ≤ 3 := by rw [ByteArray.size_extract]; omega
        have s2 : (t.extract (p + 2) (p + 4)).size ≤ 3 := by rw [ByteArray.size_extract]; omega
        have l1 : numB (t.extract p (p + 2)) < 65536 := num2_lt (by rw [ByteArray.size_extract]; omega)
        have l2 : numB (t.extract (p + 2) (p + 4)) < 65536 := num2_lt (by rw [ByteArray.size_extract]; omega)
        have HN1 : Hid (∀ w, Calls Tryz.prog 50 #[.string (t.extract p (p + 2))] w fun e w' => e = .returned (.int .i64 (numB (t.extract p (p + 2)))) ∧ w' = w) := fun w => l08Number_any _ w s1
        have HN2 : Hid (∀ w, Calls Tryz.prog 50 #[.string (t.extract (p + 2) (p + 4))] w fun e w' => e = .returned (.int .i64 (numB (t.extract (p + 2) (p + 4)))) ∧ w' = w) := fun w => l08Number_any _ w s2
        obtain ⟨k, hk⟩ : ∃ k, k = numB (t.extract p (p + 2)) := ⟨_, rfl⟩
        obtain ⟨n, hn⟩ : ∃ n, n = numB (t.extract (p + 2) (p + 4)) := ⟨_, rfl⟩
        rw [← hk] at HN1 l1
        rw [← hn] at HN2 l2
        have HKN : Hid (k = numB (t.extract p (p + 2)) ∧ n = numB (t.extract (p + 2) (p + 4))) := ⟨hk, hn⟩
        clear hk hn s1 s2
        have z1 : (0 : Int) ≤ (p : Int) := by omega
        have z2 : (p : Int) + 2 ≤ (t.size : Int) := by omega
        have z3 : (p : Int) ≤ (p : Int) + 2 := by omega
        have z4 : (p : Int) + 2 ≤ (p : Int) + 4 := by omega
        have z5 : ((p : Int) + 2).toNat = p + 2 := by omega
        have z6 : ((p : Int) + 4).toNat = p + 4 := by omega
        go_wp2_with fail
        refine (HN1.out _).mono ?_
        rintro e w' ⟨rfl, rfl⟩
        have zsl : ∀ wx : World, (Instr.slice 9 (.string t) (some (.int .i64 ((p : Int) + 2))) (some (.int .i64 ((p : Int) + 4))) none).run Tryz.prog wx = .ok (.string (t.extract (p + 2) (p + 4))) wx := fun wx => ow.slice_str 9 t .i64 .i64 (p + 2) (p + 4) Tryz.underlying9 _ _ (by omega) (by omega) (by omega) (by omega) wx
        go_wp2_with fail
        refine (HN2.out _).mono ?_
        rintro e w' ⟨rfl, rfl⟩
        clear zsl z1 z2 z3 z4 z5 z6 HN1 HN2
        by_cases h5 : t.size < p + 4 + k + n
        · have h5' : (t.size : Int) < (p : Int) + 4 + (k : Int) + (n : Int) := by omega
          have HK : Hid (rok t = false) := HI3.out (j + 1) (its_nokn HIT.out (by omega) HKN.out.1 HKN.out.2 (by omega)) (by omega)
          have R3 := HVR.out.2.1
          have b3 := HVR.out.2.2.2.1
          have r0 : World.cell? w' ⟨w.heap.size, 0, none⟩ = _ := R3.cell 0 _ rfl
          have r1 : World.cell? w' ⟨w.heap.size, 0 + 1, none⟩ = _ := R3.cell 1 _ rfl
          have r2 : World.cell? w' ⟨w.heap.size, 0 + 2, none⟩ = _ := R3.cell 2 _ rfl
          have r3 : World.cell? w' ⟨w.heap.size, 0 + 3, none⟩ = _ := R3.cell 3 _ rfl
          have r4 : World.cell? w' ⟨w.heap.size, 0 + 4, none⟩ = _ := R3.cell 4 _ rfl
          have r5 : World.cell? w' ⟨w.heap.size, 0 + 5, none⟩ = _ := R3.cell 5 _ rfl
          have fz := R3.f
          go_wp2
          have A5 := R3.put (a := .int .i64 0) (b := .int .i64 0) (c := .int .i64 0) (d := .int .i64 0) (e := .string ⟨#[]⟩) (f := .slice none 0 0)
          have b5 := put6_below (g := w.heap.size) (a := .int .i64 0) (b := .int .i64 0) (c := .int .i64 0) (d := .int .i64 0) (e := .string ⟨#[]⟩) (f := .slice none 0 0) b3 (Nat.le_refl _)
          change bodyPost _ _ _ _ _ (put6 w' w.heap.size (.int .i64 0) (.int .i64 0) (.int .i64 0) (.int .i64 0) (.string ⟨#[]⟩) (.slice none 0 0))
          generalize put6 _ _ _ _ _ _ _ _ = W5 at A5 b5 ⊢
          have d0 : W5.cell? ⟨w.heap.size, 0, none⟩ = _ := A5.cell 0 _ rfl
          have d1 : W5.cell? ⟨w.heap.size, 0 + 1, none⟩ = _ := A5.cell 1 _ rfl
          have d2 : W5.cell? ⟨w.heap.size, 0 + 2, none⟩ = _ := A5.cell 2 _ rfl
          have d3 : W5.cell? ⟨w.heap.size, 0 + 3, none⟩ = _ := A5.cell 3 _ rfl
          have d4 : W5.cell? ⟨w.heap.size, 0 + 4, none⟩ = _ := A5.cell 4 _ rfl
          have d5 : W5.cell? ⟨w.heap.size, 0 + 5, none⟩ = _ := A5.cell 5 _ rfl
          exact bodyPost_ret (v := .tuple #[.agg #[.int .i64 0, .int .i64 0, .int .i64 0, .int .i64 0, .string ⟨#[]⟩, .slice none 0 0], .bool false]) (by simp [results, Tryz.results52, go_sem, d0, d1, d2, d3, d4, d5]) rfl ⟨⟨noM, _, by rw [HK.out]; rfl, fun h => (by rw [HK.out] at h; cases h), rows_nil _ _⟩, b5⟩
        have h5' : (p : Int) + 4 + (k : Int) + (n : Int) ≤ (t.size : Int) := by omega
        have HNX : Hid (its (j + 1) (pl t A) = (ps ++ [(t.extract (p + 4) (p + 4 + k), t.extract (p + 4 + k) (p + 4 + k + n))], pl t (p + 4 + k + n))) := its_next HIT.out (by omega) HKN.out.1 HKN.out.2 (by omega)
        have hqk : p + 4 + k + n ≤ t.size := by omega
        clear HKN
        go_upto_region 15 with fail
        obtain ⟨q, hq⟩ : ∃ q : Nat, q = p + 4 := ⟨_, rfl⟩
        have hq' : (p : Int) + 4 = (q : Int) := by omega
        rw [hq']
        have HNX : Hid (its (j + 1) (pl t A) = (ps ++ [(t.extract q (q + k), t.extract (q + k) (q + k + n))], pl t (q + k + n))) := by rw [hq]; exact HNX.out
        have hqk : q + k + n ≤ t.size := by omega
        have hJ0 : ∀ f : Nat → Value, J15 ⟨w, M, ⟨n0, n1, n2, k5, t.extract 7 A⟩, .slice av nv cv, ps, t, q, k, n⟩ (fun _ => False) f w'.drew := fun f => ⟨fun j hj => hj.elim, 0, by simp, by simp, by simp, HVR.out.2.2.2.1.drew, HVR.out.2.1, fun _ => HVR.out.1, fun h => by omega, fun _ => ow.own_below HVR.out.2.2.1 (Below.refl _ _).drew, fun h => by omega, fun h => by omega⟩
        have hM : w.heap.size < M := HVR.out.2.2.2.2
        have hln : ps.length = j := by rw [← its_len (pl t A) j, HIT.out]
        have HLN : Hid (ps.length < 256) := (show ps.length < 256 by omega)
        clear hln hq hq'
        have hqk' : (q : Int) + (k : Int) + (n : Int) ≤ 1048576 := by omega
        have zs1 : ∀ wx : World, (Instr.slice 9 (.string t) (some (.int .i64 (q : Int))) (some (.int .i64 ((q : Int) + (k : Int)))) none).run Tryz.prog wx = .ok (.string (t.extract q (q + k))) wx := fun wx => ow.slice_str 9 t .i64 .i64 q (q + k) Tryz.underlying9 _ _ (by omega) (by omega) (by omega) (by omega) wx
        have zs2 : ∀ wx : World, (Instr.slice 9 (.string t) (some (.int .i64 ((q : Int) + (k : Int)))) (some (.int .i64 ((q : Int) + (k : Int) + (n : Int)))) none).run Tryz.prog wx = .ok (.string (t.extract (q + k) (q + k + n))) wx := fun wx => ow.slice_str 9 t .i64 .i64 (q + k) (q + k + n) Tryz.underlying9 _ _ (by omega) (by omega) (by omega) (by omega) wx
        obtain ⟨i0, hi, hz0, hz1, hz2⟩ := info_parts it.infoAt
        have wq1 : IntKind.i64.wrap ((q : Int) + (k : Int)) = (q : Int) + (k : Int) := wrap64_int (by omega) (by omega)
        have wq2 : IntKind.i64.wrap ((q : Int) + (k : Int) + (n : Int)) = (q : Int) + (k : Int) + (n : Int) := wrap64_int (by omega) (by omega)
        clear h4 h4' h5 h5'
        refine rs.region_st (by kernel_rfl) (fun f => { tmps := List.toArray ((.string t) :: (undef) :: (.pointer (some ⟨w.heap.size, 0, none⟩)) :: (u3) :: (.int .i64 q) :: (.pointer (some ⟨M, 0, none⟩)) :: (.int .i64 ((cnt : Int) - (j : Int))) :: (.int .i64 k) :: (.int .i64 n) :: (.string t) :: (.int .i64 t.size) :: (.bool (decide ((t.size : Int) < 7))) :: (.bool (decide ((t.size : Int) < 7))) :: (.string t) :: (.int .i64 t.size) :: (.string t) :: (.int .u8 ((t[4]).toNat : Int)) :: (.int .i64 ((t[4]).toNat : Int)) :: (.int .i64 A) :: (.bool (decide (t.size < A))) :: (.bool (decide ((t.size : Int) < 7) || decide (t.size < A))) :: (undef) :: (.string t) :: (.int .u8 ((t[4]).toNat : Int)) :: (.int .i64 ((t[4]).toNat : Int)) :: (.int .i64 A) :: (F 0) :: (F 1) :: (F 2) :: (F 3) :: (F 4) :: (F 5) :: (F 6) :: (F 7) :: (F 8) :: (F 9) :: (F 10) :: (F 11) :: (F 12) :: (F 13) :: (F 14) :: (v0) :: (F 16) :: (.string t) :: (.int .u8 cnt) :: (.int .i64 cnt) :: (.int .i64 ((cnt : Int) - (j : Int))) :: (.bool true) :: (u48) :: (u49) :: (.int .i64 p) :: (.int .i64 q) :: (.string t) :: (.int .i64 t.size) :: (.bool (decide ((t.size : Int) < (q : Int)))) :: (u55) :: (.string t) :: (.int .i64 p) :: (.int .i64 p) :: (.int .i64 ((p : Int) + 2)) :: (.string (t.extract p (p + 2))) :: (.int .i64 k) :: (.string t) :: (.int .i64 p) :: (.int .i64 ((p : Int) + 2)) :: (.int .i64 p) :: (.int .i64 q) :: (.string (t.extract (p + 2) (p + 4))) :: (.int .i64 n) :: (.int .i64 p) :: (.int .i64 q) :: (.int .i64 q) :: (.int .i64 k) :: (.int .i64 ((q : Int) + (k : Int))) :: (.int .i64 n) :: (.int .i64 ((q : Int) + (k : Int) + (n : Int))) :: (.string t) :: (.int .i64 t.size) :: (.bool (decide ((t.size : Int) < (q : Int) + (k : Int) + (n : Int)))) :: (u79) :: (f 0) :: (f 1) :: (f 2) :: (f 3) :: (f 4) :: (f 5) :: (f 6) :: (f 7) :: (f 8) :: (f 9) :: (f 10) :: (f 11) :: (f 12) :: (f 13) :: (f 14) :: (f 15) :: (f 16) :: (f 17) :: (f 18) :: (f 19) :: (f 20) :: (f 21) :: (u102) :: (u103) :: (u104) :: (u105) :: (u106) :: (undef) :: (undef) :: (undef) :: (undef) :: (undef) :: (undef) :: (undef) :: (undef) :: (undef) :: []), defers := [] }) (J15 ⟨w, M, ⟨n0, n1, n2, k5, t.extract 7 A⟩, .slice av nv cv, ps, t, q, k, n⟩) (fun k => ([u80, u81, u82, u83, u84, u85, u86, u87, u88, u89, u90, u91, u92, u93, u94, u95, u96, u97, u98, u99, u100, u101] : List Value).getD k undef) rfl (hJ0 _) (rs.deps_of (by kernel_rfl)) ?_ ?_
        · clear hJ0 HVR HNX HIT
          intro i o ho D f x hJ hall hni hcl
          match i, ho with
          | 0, ho =>
            cases ho
            have HJ : Hid (J15 ⟨w, M, ⟨n0, n1, n2, k5, t.extract 7 A⟩, .slice av nv cv, ps, t, q, k, n⟩ D f x) := hJ
            clear hJ hall hcl hni
            refine wpOp_step rfl (fun K' hK => ?_)
            go_simp
            exact hK _ _ ⟨.pointer (some ⟨M, 0 + 5, none⟩), by simp [rs.upd], HJ.out.pure _ (fun z hz => Option.some.inj hz) (by omega) (by omega) (by omega)⟩
          | 1, ho =>
            cases ho
            have d0 : D 0 := hall { on := 0, ground := Ground.data } (by simp) rfl
            have h0 : f 0 = .pointer (some ⟨M, 0 + 5, none⟩) := hJ.1 0 d0 _ rfl
            have hn22 : ¬ D 22 := fun h => hni (hcl 20 _ (hcl 22 _ h rfl { on := 20, ground := Ground.data } (by simp) rfl) rfl { on := 1, ground := Ground.data } (by simp) rfl)
            have c5 : x.cell? ⟨M, 0 + 5, none⟩ = some (.slice av nv cv) := (hJ.load hn22).cell 5 _ rfl
            clear hn22
            have HJ : Hid (J15 ⟨w, M, ⟨n0, n1, n2, k5, t.extract 7 A⟩, .slice av nv cv, ps, t, q, k, n⟩ D f x) := hJ
            clear hJ hall hcl hni
            refine wpOp_step rfl (fun K' hK => ?_)
            simp only [h0]
            go_wp2_with fail
            exact ⟨.slice av nv cv, by simp [rs.upd, h0], HJ.out.pure _ (fun z hz => Option.some.inj hz) (by omega) (by omega) (by omega)⟩
          | 2, ho =>
            cases ho
            have HJ : Hid (J15 ⟨w, M, ⟨n0, n1, n2, k5, t.extract 7 A⟩, .slice av nv cv, ps, t, q, k, n⟩ D f x) := hJ
            clear hJ hall hcl hni
            refine wpOp_step rfl (fun K' hK => ?_)
            go_simp
            exact hK _ _ ⟨.string t, by simp [rs.upd], HJ.out.pure _ (fun z hz => Option.some.inj hz) (by omega) (by omega) (by omega)⟩
          | 3, ho =>
            cases ho
            have HJ : Hid (J15 ⟨w, M, ⟨n0, n1, n2, k5, t.extract 7 A⟩, .slice av nv cv, ps, t, q, k, n⟩ D f x) := hJ
            clear hJ hall hcl hni
            refine wpOp_step rfl (fun K' hK => ?_)
            go_simp
            exact hK _ _ ⟨.int .i64 q, by simp [rs.upd], HJ.out.pure _ (fun z hz => Option.some.inj hz) (by omega) (by omega) (by omega)⟩
          | 4, ho =>
            cases ho
            have HJ : Hid (J15 ⟨w, M, ⟨n0, n1, n2, k5, t.extract 7 A⟩, .slice av nv cv, ps, t, q, k, n⟩ D f x) := hJ
            clear hJ hall hcl hni
            refine wpOp_step rfl (fun K' hK => ?_)
            go_simp
            exact hK _ _ ⟨.int .i64 q, by simp [rs.upd], HJ.out.pure _ (fun z hz => Option.some.inj hz) (by omega) (by omega) (by omega)⟩
          | 5, ho =>
            cases ho
            have HJ : Hid (J15 ⟨w, M, ⟨n0, n1, n2, k5, t.extract 7 A⟩, .slice av nv cv, ps, t, q, k, n⟩ D f x) := hJ
            clear hJ hall hcl hni
            refine wpOp_step rfl (fun K' hK => ?_)
            go_simp
            exact hK _ _ ⟨.int .i64 k, by simp [rs.upd], HJ.out.pure _ (fun z hz => Option.some.inj hz) (by omega) (by omega) (by omega)⟩
          | 6, ho =>
            cases ho
            have d4 : D 4 := hall { on := 4, ground := Ground.data } (by simp) rfl
            have h4 : f 4 = .int .i64 q := hJ.1 4 d4 _ rfl
            have d5 : D 5 := hall { on := 5, ground := Ground.data } (by simp) rfl
            have h5 : f 5 = .int .i64 k := hJ.1 5 d5 _ rfl
            have HJ : Hid (J15 ⟨w, M, ⟨n0, n1, n2, k5, t.extract 7 A⟩, .slice av nv cv, ps, t, q, k, n⟩ D f x) := hJ
            clear hJ hall hcl hni
            refine wpOp_step rfl (fun K' hK => ?_)
            simp only [h4, h5]
            go_simp
            exact hK _ _ ⟨.int .i64 ((q : Int) + (k : Int)), by simp [rs.upd, h4, h5], HJ.out.pure _ (fun z hz => Option.some.inj hz) (by omega) (by omega) (by omega)⟩
          | 7, ho =>
            cases ho
            have d2 : D 2 := hall { on := 2, ground := Ground.data } (by simp) rfl
            have h2 : f 2 = .string t := hJ.1 2 d2 _ rfl
            have d3 : D 3 := hall { on := 3, ground := Ground.data } (by simp) rfl
            have h3 : f 3 = .int .i64 q := hJ.1 3 d3 _ rfl
            have d6 : D 6 := hall { on := 6, ground := Ground.data } (by simp) rfl
            have h6 : f 6 = .int .i64 ((q : Int) + (k : Int)) := hJ.1 6 d6 _ rfl
            have HJ : Hid (J15 ⟨w, M, ⟨n0, n1, n2, k5, t.extract 7 A⟩, .slice av nv cv, ps, t, q, k, n⟩ D f x) := hJ
            clear hJ hall hcl hni
            refine wpOp_step rfl (fun K' hK => ?_)
            simp only [h2, h3, h6]
            go_simp
            exact hK _ _ ⟨.string (t.extract q (q + k)), by simp [rs.upd, h2, h3, h6], HJ.out.pure _ (fun z hz => Option.some.inj hz) (by omega) (by omega) (by omega)⟩
          | 8, ho =>
            cases ho
            have HJ : Hid (J15 ⟨w, M, ⟨n0, n1, n2, k5, t.extract 7 A⟩, .slice av nv cv, ps, t, q, k, n⟩ D f x) := hJ
            clear hJ hall hcl hni
            refine wpOp_step rfl (fun K' hK => ?_)
            go_simp
            exact hK _ _ ⟨.string t, by simp [rs.upd], HJ.out.pure _ (fun z hz => Option.some.inj hz) (by omega) (by omega) (by omega)⟩
          | 9, ho =>
            cases ho
            have HJ : Hid (J15 ⟨w, M, ⟨n0, n1, n2, k5, t.extract 7 A⟩, .slice av nv cv, ps, t, q, k, n⟩ D f x) := hJ
            clear hJ hall hcl hni
            refine wpOp_step rfl (fun K' hK => ?_)
            go_simp
            exact hK _ _ ⟨.int .i64 q, by simp [rs.upd], HJ.out.pure _ (fun z hz => Option.some.inj hz) (by omega) (by omega) (by omega)⟩
          | 10, ho =>
            cases ho
            have HJ : Hid (J15 ⟨w, M, ⟨n0, n1, n2, k5, t.extract 7 A⟩, .slice av nv cv, ps, t, q, k, n⟩ D f x) := hJ
            clear hJ hall hcl hni
            refine wpOp_step rfl (fun K' hK => ?_)
            go_simp
            exact hK _ _ ⟨.int .i64 k, by simp [rs.upd], HJ.out.pure _ (fun z hz => Option.some.inj hz) (by omega) (by omega) (by omega)⟩
          | 11, ho =>
            cases ho
            have d9 : D 9 := hall { on := 9, ground := Ground.data } (by simp) rfl
            have h9 : f 9 = .int .i64 q := hJ.1 9 d9 _ rfl
            have d10 : D 10 := hall { on := 10, ground := Ground.data } (by simp) rfl
            have h10 : f 10 = .int .i64 k := hJ.1 10 d10 _ rfl
            have HJ : Hid (J15 ⟨w, M, ⟨n0, n1, n2, k5, t.extract 7 A⟩, .slice av nv cv, ps, t, q, k, n⟩ D f x) := hJ
            clear hJ hall hcl hni
            refine wpOp_step rfl (fun K' hK => ?_)
            simp only [h9, h10]
            go_simp
            exact hK _ _ ⟨.int .i64 ((q : Int) + (k : Int)), by simp [rs.upd, h9, h10], HJ.out.pure _ (fun z hz => Option.some.inj hz) (by omega) (by omega) (by omega)⟩
          | 12, ho =>
            cases ho
            have HJ : Hid (J15 ⟨w, M, ⟨n0, n1, n2, k5, t.extract 7 A⟩, .slice av nv cv, ps, t, q, k, n⟩ D f x) := hJ
            clear hJ hall hcl hni
            refine wpOp_step rfl (fun K' hK => ?_)
            go_simp
            exact hK _ _ ⟨.int .i64 q, by simp [rs.upd], HJ.out.pure _ (fun z hz => Option.some.inj hz) (by omega) (by omega) (by omega)⟩
          | 13, ho =>
            cases ho
            have HJ : Hid (J15 ⟨w, M, ⟨n0, n1, n2, k5, t.extract 7 A⟩, .slice av nv cv, ps, t, q, k, n⟩ D f x) := hJ
            clear hJ hall hcl hni
            refine wpOp_step rfl (fun K' hK => ?_)
            go_simp
            exact hK _ _ ⟨.int .i64 k, by simp [rs.upd], HJ.out.pure _ (fun z hz => Option.some.inj hz) (by omega) (by omega) (by omega)⟩
          | 14, ho =>
            cases ho
            have d12 : D 12 := hall { on := 12, ground := Ground.data } (by simp) rfl
            have h12 : f 12 = .int .i64 q := hJ.1 12 d12 _ rfl
            have d13 : D 13 := hall { on := 13, ground := Ground.data } (by simp) rfl
            have h13 : f 13 = .int .i64 k := hJ.1 13 d13 _ rfl
            have HJ : Hid (J15 ⟨w, M, ⟨n0, n1, n2, k5, t.extract 7 A⟩, .slice av nv cv, ps, t, q, k, n⟩ D f x) := hJ
            clear hJ hall hcl hni
            refine wpOp_step rfl (fun K' hK => ?_)
            simp only [h12, h13]
            go_simp
            exact hK _ _ ⟨.int .i64 ((q : Int) + (k : Int)), by simp [rs.upd, h12, h13], HJ.out.pure _ (fun z hz => Option.some.inj hz) (by omega) (by omega) (by omega)⟩
          | 15, ho =>
            cases ho
            have HJ : Hid (J15 ⟨w, M, ⟨n0, n1, n2, k5, t.extract 7 A⟩, .slice av nv cv, ps, t, q, k, n⟩ D f x) := hJ
            clear hJ hall hcl hni
            refine wpOp_step rfl (fun K' hK => ?_)
            go_simp
            exact hK _ _ ⟨.int .i64 n, by simp [rs.upd], HJ.out.pure _ (fun z hz => Option.some.inj hz) (by omega) (by omega) (by omega)⟩
          | 16, ho =>
            cases ho
            have d14 : D 14 := hall { on := 14, ground := Ground.data } (by simp) rfl
            have h14 : f 14 = .int .i64 ((q : Int) + (k : Int)) := hJ.1 14 d14 _ rfl
            have d15 : D 15 := hall { on := 15, ground := Ground.data } (by simp) rfl
            have h15 : f 15 = .int .i64 n := hJ.1 15 d15 _ rfl
            have HJ : Hid (J15 ⟨w, M, ⟨n0, n1, n2, k5, t.extract 7 A⟩, .slice av nv cv, ps, t, q, k, n⟩ D f x) := hJ
            clear hJ hall hcl hni
            refine wpOp_step rfl (fun K' hK => ?_)
            simp only [h14, h15]
            go_simp
            exact hK _ _ ⟨.int .i64 ((q : Int) + (k : Int) + (n : Int)), by simp [rs.upd, h14, h15], HJ.out.pure _ (fun z hz => Option.some.inj hz) (by omega) (by omega) (by omega)⟩
          | 17, ho =>
            cases ho
            have d8 : D 8 := hall { on := 8, ground := Ground.data } (by simp) rfl
            have h8 : f 8 = .string t := hJ.1 8 d8 _ rfl
            have d11 : D 11 := hall { on := 11, ground := Ground.data } (by simp) rfl
            have h11 : f 11 = .int .i64 ((q : Int) + (k : Int)) := hJ.1 11 d11 _ rfl
            have d16 : D 16 := hall { on := 16, ground := Ground.data } (by simp) rfl
            have h16 : f 16 = .int .i64 ((q : Int) + (k : Int) + (n : Int)) := hJ.1 16 d16 _ rfl
            have HJ : Hid (J15 ⟨w, M, ⟨n0, n1, n2, k5, t.extract 7 A⟩, .slice av nv cv, ps, t, q, k, n⟩ D f x) := hJ
            clear hJ hall hcl hni
            refine wpOp_step rfl (fun K' hK => ?_)
            simp only [h8, h11, h16]
            go_simp
            exact hK _ _ ⟨.string (t.extract (q + k) (q + k + n)), by simp [rs.upd, h8, h11, h16], HJ.out.pure _ (fun z hz => Option.some.inj hz) (by omega) (by omega) (by omega)⟩
          | 18, ho =>
            cases ho
            have d7 : D 7 := hall { on := 7, ground := Ground.data } (by simp) rfl
            have h7 : f 7 = .string (t.extract q (q + k)) := hJ.1 7 d7 _ rfl
            have d17 : D 17 := hall { on := 17, ground := Ground.data } (by simp) rfl
            have h17 : f 17 = .string (t.extract (q + k) (q + k + n)) := hJ.1 17 d17 _ rfl
            have HJ : Hid (J15 ⟨w, M, ⟨n0, n1, n2, k5, t.extract 7 A⟩, .slice av nv cv, ps, t, q, k, n⟩ D f x) := hJ
            clear hJ hall hcl hni
            refine wpOp_step rfl (fun K' hK => ?_)
            simp only [h7, h17]
            go_simp
            exact hK _ _ ⟨.agg #[.string (t.extract q (q + k)), .string (t.extract (q + k) (q + k + n))], by simp [rs.upd, h7, h17], HJ.out.pure _ (fun z hz => Option.some.inj hz) (by omega) (by omega) (by omega)⟩
          | 21, ho =>
            cases ho
            have HJ : Hid (J15 ⟨w, M, ⟨n0, n1, n2, k5, t.extract 7 A⟩, .slice av nv cv, ps, t, q, k, n⟩ D f x) := hJ
            clear hJ hall hcl hni
            refine wpOp_step rfl (fun K' hK => ?_)
            go_simp
            exact hK _ _ ⟨.pointer (some ⟨M, 0 + 5, none⟩), by simp [rs.upd], HJ.out.pure _ (fun z hz => Option.some.inj hz) (by omega) (by omega) (by omega)⟩
          | 19, ho =>
            cases ho
            have d18 : D 18 := hall { on := 18, ground := Ground.data } (by simp) rfl
            have h18 : f 18 = .agg #[.string (t.extract q (q + k)), .string (t.extract (q + k) (q + k + n))] := hJ.1 18 d18 _ rfl
            have HF : Hid (J15 ⟨w, M, ⟨n0, n1, n2, k5, t.extract 7 A⟩, .slice av nv cv, ps, t, q, k, n⟩ (fun j => j = 19 ∨ D j) (rs.upd f 19 (.slice (some ⟨x.heap.size, 0, none⟩) 1 1)) (x.alloc (.cells #[.string (t.extract q (q + k)), .string (t.extract (q + k) (q + k + n))] 136))) := hJ.made hni
            clear hJ hall hcl hni
            refine wpOp_step rfl (fun K' hK => ?_)
            simp only [h18]
            go_wp2_with fail
            exact ⟨.slice (some ⟨x.heap.size, 0, none⟩) 1 1, by simp [rs.upd, h18], HF.out⟩
          | 20, ho =>
            cases ho
            have d1 : D 1 := hall { on := 1, ground := Ground.data } (by simp) rfl
            have h1 : f 1 = .slice av nv cv := hJ.1 1 d1 _ rfl
            have d19 : D 19 := hall { on := 19, ground := Ground.data } (by simp) rfl
            obtain ⟨⟨g, h19, hc0, hc1⟩, hr0, hbs, hap⟩ := hJ.append hni d19
            have HF : Hid (∀ v' w', w'.ownsRow (w.heap.size + 1) 136 2 v' (ps.length + 1) (icells ps ++ [.string (t.extract q (q + k)), .string (t.extract (q + k) (q + k + n))]) → x.grownBy w' (Value.slice av nv cv).ownBlock → J15 ⟨w, M, ⟨n0, n1, n2, k5, t.extract 7 A⟩, .slice av nv cv, ps, t, q, k, n⟩ (fun j => j = 20 ∨ D j) (rs.upd f 20 v') w') := hap
            have hln := HLN.out
            clear hJ hall hcl hni hap
            refine wpOp_step rfl (fun K' hK => ?_)
            rw [if_pos (by rfl)]
            refine wp_append_own x (.tmp 81) (.tmp 99) 102 rfl (w.heap.size + 1) 136 i0 _ 2 32 Tryz.underlying102 hi hz0 hz1 hz2 rfl (by decide) (.slice av nv cv) ps.length (icells ps) (show f 1 = _ from h1) hr0 ⟨g, 0, none⟩ 1 1 [.string (t.extract q (q + k)), .string (t.extract (q + k) (q + k + n))] (show f 19 = _ from h19) rfl ?_ ?_ (by unfold maxLen; omega) (by omega) hbs ?_
            · intro j u hu
              match j, hu with
              | 0, hu => cases hu; exact hc0
              | 1, hu => cases hu; exact hc1
              | j + 2, hu => simp at hu
            · intro u hu
              simp at hu
              rcases hu with rfl | rfl <;> rfl
            · intro v' w' hown hg hnil
              exact hK _ _ ⟨v', rfl, HF.out v' w' hown hg⟩
          | 22, ho =>
            cases ho
            have d21 : D 21 := hall { on := 21, ground := Ground.data } (by simp) rfl
            have h21 : f 21 = .pointer (some ⟨M, 0 + 5, none⟩) := hJ.1 21 d21 _ rfl
            have d20 : D 20 := hall { on := 20, ground := Ground.data } (by simp) rfl
            obtain ⟨⟨a', n', c', h20⟩, hB, hF⟩ := hJ.put hni d20 hM
            rw [h20] at hF
            have m5 : x.cell? ⟨M, 0 + 5, none⟩ = _ := hB.cell 5 _ rfl
            have m5' : x.cell? ⟨M, 5, none⟩ = _ := hB.cell 5 _ rfl
            have fM := hB.f
            have HF : Hid (J15 ⟨w, M, ⟨n0, n1, n2, k5, t.extract 7 A⟩, .slice av nv cv, ps, t, q, k, n⟩ (fun j => j = 22 ∨ D j) (rs.upd f 22 undef) (x.setCell ⟨M, 5, none⟩ (.slice a' n' c'))) := hF
            clear hJ hall hcl hni hF hB
            refine wpOp_step rfl (fun K' hK => ?_)
            simp only [h21, h20]
            go_wp2_with fail
            exact ⟨undef, by simp [rs.upd, h21, h20], HF.out⟩
          | k + 23, ho => simp at ho
        · intro D f x hD hJ
          obtain ⟨hb, hz, hB, hr⟩ := hJ.ends (hD 22 (by decide))
          have HE1 : Hid (Var w x M ⟨n0, n1, n2, k5, t.extract 7 A⟩ (f 20) (ps ++ [(t.extract q (q + k), t.extract (q + k) (q + k + n))])) := ⟨hB, hz, hr, hb, hM⟩
          clear hJ hJ0 hb hz hB hr HVR zs1 zs2 hD
          go_wp2
          go_roundw
          case rel => exact ⟨j + 1, q + k + n, ps ++ [(t.extract q (q + k), t.extract (q + k) (q + k + n))], f 20, by omega, by go_num, by go_num, by omega, HNX.out, HE1.out⟩
          case measure => simp [intOf]; omega
      · have hjc : j = cnt := by omega
        rw [hjc] at HIT
        obtain ⟨hmt, hfn⟩ := HM3.out ps (pl t p) HIT.out
        have HMT : Hid (mtn (t, false) = ⟨(n0 : Nat), (k5 : Nat), (n1 : Nat), (n2 : Nat), t.extract 7 A, ps⟩) := hmt
        have HF2 : Hid ((fin (t, false)).2 = false) := by rw [hfn]; rfl
        have HF1 : Hid ((fin (t, false)).1.size = t.size - p) := (show (fin (t, false)).1.size = t.size - p by rw [hfn, pl_size])
        have hsm : mu.Small ⟨(n0 : Nat), (k5 : Nat), (n1 : Nat), (n2 : Nat), t.extract 7 A, ps⟩ := by rw [← hmt]; exact mtn_small _
        have HSM : Hid (mu.Small ⟨(n0 : Nat), (k5 : Nat), (n1 : Nat), (n2 : Nat), t.extract 7 A, ps⟩) := hsm
        clear hmt hfn hsm HIT HI3 HM3
        have hle' : (cnt : Int) - (j : Int) ≤ 0 := by omega
        go_upto_region 17 with fail
        clear hle' hlt hjc
        have hM : w.heap.size < M := HVR.out.2.2.2.2
        have HFIT : Hid (∀ W, Rows2 W (w.heap.size + 1) (.slice av nv cv) ps → Calls Tryz.prog 80 #[(.agg #[.int .i64 (n0 : Nat), .int .i64 (k5 : Nat), .int .i64 (n1 : Nat), .int .i64 (n2 : Nat), .string (t.extract 7 A), .slice av nv cv])] W fun e w' => e = .returned (.bool (mu.mok ⟨(n0 : Nat), (k5 : Nat), (n1 : Nat), (n2 : Nat), t.extract 7 A, ps⟩)) ∧ Below W.heap.size W w') := fun W h => mu.spec_mok ⟨(n0 : Nat), (k5 : Nat), (n1 : Nat), (n2 : Nat), t.extract 7 A, ps⟩ _ W (rows_at h) HSM.out
        have HOK : Hid (p = t.size → rok t = mu.mok ⟨(n0 : Nat), (k5 : Nat), (n1 : Nat), (n2 : Nat), t.extract 7 A, ps⟩) := fun h => by rw [rok_yes HF2.out (by rw [HF1.out]; omega), HMT.out]
        have HNO : Hid (p ≠ t.size → rok t = false) := fun h => rok_left (by rw [HF1.out]; omega)
        clear HSM HF1 HF2
        generalize mu.mok ⟨(n0 : Nat), (k5 : Nat), (n1 : Nat), (n2 : Nat), t.extract 7 A, ps⟩ = ok at HFIT HOK
        by_cases hps : p = t.size
        · have HRK : Hid (rok t = (true && ok)) := HOK.out hps
          have heq : ((p : Int) == (t.size : Int)) = true := by simp; omega
          have heq2 : (decide ((p : Int) = (t.size : Int))) = true := by simp; omega
          have hJ0 : ∀ f : Nat → Value, J17 ⟨w, M, ⟨n0, n1, n2, k5, t.extract 7 A⟩, .slice av nv cv, ps, t, p, true, ok⟩ (fun _ => False) f wr.drew := fun f => ⟨fun j hj => hj.elim, HVR.out.2.2.2.1.drew, HVR.out.1, ow.own_below HVR.out.2.2.1 (Below.refl _ _).drew, fun _ => HVR.out.2.1, fun h => h.elim⟩
          clear HOK HNO hps
          refine rs.region_st (by kernel_rfl) (fun f => { tmps := List.toArray ((.string t) :: (undef) :: (.pointer (some ⟨w.heap.size, 0, none⟩)) :: (f 10) :: (.int .i64 p) :: (.pointer (some ⟨M, 0, none⟩)) :: (.int .i64 ((cnt : Int) - (j : Int))) :: (u7) :: (u8) :: (.string t) :: (.int .i64 t.size) :: (.bool (decide ((t.size : Int) < 7))) :: (.bool (decide ((t.size : Int) < 7))) :: (.string t) :: (.int .i64 t.size) :: (.string t) :: (.int .u8 ((t[4]).toNat : Int)) :: (.int .i64 ((t[4]).toNat : Int)) :: (.int .i64 A) :: (.bool (decide (t.size < A))) :: (.bool (decide ((t.size : Int) < 7) || decide (t.size < A))) :: (undef) :: (.string t) :: (.int .u8 ((t[4]).toNat : Int)) :: (.int .i64 ((t[4]).toNat : Int)) :: (.int .i64 A) :: (F 0) :: (F 1) :: (F 2) :: (F 3) :: (F 4) :: (F 5) :: (F 6) :: (F 7) :: (F 8) :: (F 9) :: (F 10) :: (F 11) :: (F 12) :: (F 13) :: (F 14) :: (v0) :: (F 16) :: (.string t) :: (.int .u8 cnt) :: (.int .i64 cnt) :: (.int .i64 ((cnt : Int) - (j : Int))) :: (.bool false) :: (u48) :: (u49) :: (u50) :: (u51) :: (u52) :: (u53) :: (u54) :: (u55) :: (u56) :: (u57) :: (u58) :: (u59) :: (u60) :: (u61) :: (u62) :: (u63) :: (u64) :: (u65) :: (u66) :: (u67) :: (u68) :: (u69) :: (u70) :: (u71) :: (u72) :: (u73) :: (u74) :: (u75) :: (u76) :: (u77) :: (u78) :: (u79) :: (u80) :: (u81) :: (u82) :: (u83) :: (u84) :: (u85) :: (u86) :: (u87) :: (u88) :: (u89) :: (u90) :: (u91) :: (u92) :: (u93) :: (u94) :: (u95) :: (u96) :: (u97) :: (u98) :: (u99) :: (u100) :: (u101) :: (u102) :: (u103) :: (u104) :: (u105) :: (u106) :: (f 0) :: (f 1) :: (f 2) :: (f 3) :: (f 4) :: (f 5) :: (f 6) :: (f 7) :: (f 8) :: []), defers := [] }) (J17 ⟨w, M, ⟨n0, n1, n2, k5, t.extract 7 A⟩, .slice av nv cv, ps, t, p, true, ok⟩) (fun k => if k = 10 then u3 else undef) rfl (hJ0 _) (rs.deps_of (by kernel_rfl)) ?_ ?_
          · clear hJ0
            intro i o ho D f x hJ hall hni hcl
            match i, ho with
            | 0, ho =>
              cases ho
              have c0 : x.cell? ⟨M, 0, none⟩ = _ := hJ.2.2.1.cell 0 _ rfl
              have c1 : x.cell? ⟨M, 0 + 1, none⟩ = _ := hJ.2.2.1.cell 1 _ rfl
              have c2 : x.cell? ⟨M, 0 + 2, none⟩ = _ := hJ.2.2.1.cell 2 _ rfl
              have c3 : x.cell? ⟨M, 0 + 3, none⟩ = _ := hJ.2.2.1.cell 3 _ rfl
              have c4 : x.cell? ⟨M, 0 + 4, none⟩ = _ := hJ.2.2.1.cell 4 _ rfl
              have c5 : x.cell? ⟨M, 0 + 5, none⟩ = _ := hJ.2.2.1.cell 5 _ rfl
              have HJ : Hid (J17 ⟨w, M, ⟨n0, n1, n2, k5, t.extract 7 A⟩, .slice av nv cv, ps, t, p, true, ok⟩ D f x) := hJ
              clear hJ hall hcl hni
              refine wpOp_step rfl (fun K' hK => ?_)
              go_wp2_with fail
              exact ⟨(.agg #[.int .i64 (n0 : Nat), .int .i64 (k5 : Nat), .int .i64 (n1 : Nat), .int .i64 (n2 : Nat), .string (t.extract 7 A), .slice av nv cv]), by simp [rs.upd], HJ.out.step _ (fun z hz => Option.some.inj hz) (by omega) (Below.refl _ _)⟩
            | 1, ho =>
              cases ho
              have HJ : Hid (J17 ⟨w, M, ⟨n0, n1, n2, k5, t.extract 7 A⟩, .slice av nv cv, ps, t, p, true, ok⟩ D f x) := hJ
              clear hJ hall hcl hni
              refine wpOp_step rfl (fun K' hK => ?_)
              go_simp
              exact hK _ _ ⟨.int .i64 p, by simp [rs.upd], HJ.out.step _ (fun z hz => Option.some.inj hz) (by omega) (Below.refl _ _)⟩
            | 2, ho =>
              cases ho
              have HJ : Hid (J17 ⟨w, M, ⟨n0, n1, n2, k5, t.extract 7 A⟩, .slice av nv cv, ps, t, p, true, ok⟩ D f x) := hJ
              clear hJ hall hcl hni
              refine wpOp_step rfl (fun K' hK => ?_)
              go_simp
              exact hK _ _ ⟨.string t, by simp [rs.upd], HJ.out.step _ (fun z hz => Option.some.inj hz) (by omega) (Below.refl _ _)⟩
            | 3, ho =>
              cases ho
              have d2 : D 2 := hall { on := 2, ground := Ground.data } (by simp) rfl
              have h2 : f 2 = .string t := hJ.1 2 d2 _ rfl
              have HJ : Hid (J17 ⟨w, M, ⟨n0, n1, n2, k5, t.extract 7 A⟩, .slice av nv cv, ps, t, p, true, ok⟩ D f x) := hJ
              clear hJ hall hcl hni
              refine wpOp_step rfl (fun K' hK => ?_)
              simp only [h2]
              go_simp
              exact hK _ _ ⟨.int .i64 t.size, by simp [rs.upd, h2], HJ.out.step _ (fun z hz => Option.some.inj hz) (by omega) (Below.refl _ _)⟩
            | 4, ho =>
              cases ho
              have d1 : D 1 := hall { on := 1, ground := Ground.data } (by simp) rfl
              have h1 : f 1 = .int .i64 p := hJ.1 1 d1 _ rfl
              have d3 : D 3 := hall { on := 3, ground := Ground.data } (by simp) rfl
              have h3 : f 3 = .int .i64 t.size := hJ.1 3 d3 _ rfl
              have HJ : Hid (J17 ⟨w, M, ⟨n0, n1, n2, k5, t.extract 7 A⟩, .slice av nv cv, ps, t, p, true, ok⟩ D f x) := hJ
              clear hJ hall hcl hni
              refine wpOp_step rfl (fun K' hK => ?_)
              simp only [h1, h3]
              go_simp
              exact hK _ _ ⟨.bool true, by simp [rs.upd, h1, h3], HJ.out.step _ (fun z hz => Option.some.inj hz) (by omega) (Below.refl _ _)⟩
            | 5, ho =>
              cases ho
              have d4 : D 4 := hall { on := 4, ground := Ground.data } (by simp) rfl
              have h4 : f 4 = .bool true := hJ.1 4 d4 _ rfl
              have HJ : Hid (J17 ⟨w, M, ⟨n0, n1, n2, k5, t.extract 7 A⟩, .slice av nv cv, ps, t, p, true, ok⟩ D f x) := hJ
              clear hJ hall hcl hni
              refine wpOp_step rfl (fun K' hK => ?_)
              simp only [h4]
              go_simp
              exact hK _ _ ⟨.bool true, by simp [rs.upd, h4], HJ.out.step _ (fun z hz => Option.some.inj hz) (by omega) (Below.refl _ _)⟩
            | 6, ho =>
              cases ho
              have d5 : D 5 := hall { on := 5, ground := Ground.guard } (by simp) rfl
              have h5 : f 5 = .bool true := hJ.1 5 d5 _ rfl
              have c0 : x.cell? ⟨M, 0, none⟩ = _ := hJ.2.2.1.cell 0 _ rfl
              have c1 : x.cell? ⟨M, 0 + 1, none⟩ = _ := hJ.2.2.1.cell 1 _ rfl
              have c2 : x.cell? ⟨M, 0 + 2, none⟩ = _ := hJ.2.2.1.cell 2 _ rfl
              have c3 : x.cell? ⟨M, 0 + 3, none⟩ = _ := hJ.2.2.1.cell 3 _ rfl
              have c4 : x.cell? ⟨M, 0 + 4, none⟩ = _ := hJ.2.2.1.cell 4 _ rfl
              have c5 : x.cell? ⟨M, 0 + 5, none⟩ = _ := hJ.2.2.1.cell 5 _ rfl
              have HJ : Hid (J17 ⟨w, M, ⟨n0, n1, n2, k5, t.extract 7 A⟩, .slice av nv cv, ps, t, p, true, ok⟩ D f x) := hJ
              clear hJ hall hcl hni
              refine wpOp_step rfl (fun K' hK => ?_)
              simp only [h5]
              go_wp2_with fail
              exact ⟨(.agg #[.int .i64 (n0 : Nat), .int .i64 (k5 : Nat), .int .i64 (n1 : Nat), .int .i64 (n2 : Nat), .string (t.extract 7 A), .slice av nv cv]), by simp [rs.upd, h5], HJ.out.step _ (fun z hz => Option.some.inj hz) (by omega) (Below.refl _ _)⟩
            | 7, ho =>
              cases ho
              have d6 : D 6 := hall { on := 6, ground := Ground.data } (by simp) rfl
              have h6 : f 6 = (.agg #[.int .i64 (n0 : Nat), .int .i64 (k5 : Nat), .int .i64 (n1 : Nat), .int .i64 (n2 : Nat), .string (t.extract 7 A), .slice av nv cv]) := hJ.1 6 d6 _ rfl
              have d5 : D 5 := hall { on := 5, ground := Ground.guard } (by simp) rfl
              have h5 : f 5 = .bool true := hJ.1 5 d5 _ rfl
              have HC : Hid (Calls Tryz.prog 80 #[(.agg #[.int .i64 (n0 : Nat), .int .i64 (k5 : Nat), .int .i64 (n1 : Nat), .int .i64 (n2 : Nat), .string (t.extract 7 A), .slice av nv cv])] x fun e w' => e = .returned (.bool ok) ∧ Below x.heap.size x w') := HFIT.out x hJ.2.2.2.1
              have HJ : Hid (J17 ⟨w, M, ⟨n0, n1, n2, k5, t.extract 7 A⟩, .slice av nv cv, ps, t, p, true, ok⟩ D f x) := hJ
              clear hJ hall hcl hni
              refine wpOp_step rfl (fun K' hK => ?_)
              simp only [h6, h5]
              go_wp2_with (go_at_call 80; refine HC.out.mono ?_; rintro e w' ⟨rfl, hb⟩)
              exact ⟨.bool ok, by simp [rs.upd, h6, h5], HJ.out.step _ (fun z hz => Option.some.inj hz) (by omega) hb⟩
            | 8, ho =>
              cases ho
              have d5 : D 5 := hall { on := 5, ground := Ground.data } (by simp) rfl
              have h5 : f 5 = .bool true := hJ.1 5 d5 _ rfl
              have d7 : D 7 := hall { on := 7, ground := Ground.data } (by simp) rfl
              have h7 : f 7 = .bool ok := hJ.1 7 d7 _ rfl
              have HJ : Hid (J17 ⟨w, M, ⟨n0, n1, n2, k5, t.extract 7 A⟩, .slice av nv cv, ps, t, p, true, ok⟩ D f x) := hJ
              clear hJ hall hcl hni
              refine wpOp_step rfl (fun K' hK => ?_)
              simp only [h5, h7]
              go_simp
              exact hK _ _ ⟨.bool ok, by simp [rs.upd, h5, h7], HJ.out.step _ (fun z hz => Option.some.inj hz) (by omega) (Below.refl _ _)⟩
            | 10, ho =>
              cases ho
              have d8 : D 8 := hall { on := 8, ground := Ground.data } (by simp) rfl
              have h8 : f 8 = .bool ok := hJ.1 8 d8 _ rfl
              have HJ : Hid (J17 ⟨w, M, ⟨n0, n1, n2, k5, t.extract 7 A⟩, .slice av nv cv, ps, t, p, true, ok⟩ D f x) := hJ
              clear hJ hall hcl hni
              refine wpOp_step rfl (fun K' hK => ?_)
              simp only [h8]
              go_simp
              exact hK _ _ ⟨.bool ok, by simp [rs.upd, h8], HJ.out.step _ (fun z hz => Option.some.inj hz) (by omega) (Below.refl _ _)⟩
            | 9, ho =>
              cases ho
              have d0 : D 0 := hall { on := 0, ground := Ground.data } (by simp) rfl
              have h0 : f 0 = (.agg #[.int .i64 (n0 : Nat), .int .i64 (k5 : Nat), .int .i64 (n1 : Nat), .int .i64 (n2 : Nat), .string (t.extract 7 A), .slice av nv cv]) := hJ.1 0 d0 _ rfl
              have hz0 := hJ.2.2.2.2.1 hni
              have m0 : x.cell? ⟨w.heap.size, 0, none⟩ = _ := hz0.cell 0 _ rfl
              have m1 : x.cell? ⟨w.heap.size, 0 + 1, none⟩ = _ := hz0.cell 1 _ rfl
              have m2 : x.cell? ⟨w.heap.size, 0 + 2, none⟩ = _ := hz0.cell 2 _ rfl
              have m3 : x.cell? ⟨w.heap.size, 0 + 3, none⟩ = _ := hz0.cell 3 _ rfl
              have m4 : x.cell? ⟨w.heap.size, 0 + 4, none⟩ = _ := hz0.cell 4 _ rfl
              have m5 : x.cell? ⟨w.heap.size, 0 + 5, none⟩ = _ := hz0.cell 5 _ rfl
              have fz := hz0.f
              have HF : Hid (J17 ⟨w, M, ⟨n0, n1, n2, k5, t.extract 7 A⟩, .slice av nv cv, ps, t, p, true, ok⟩ (fun j => j = 9 ∨ D j) (rs.upd f 9 undef) (put6 x w.heap.size (.int .i64 (n0 : Nat)) (.int .i64 (k5 : Nat)) (.int .i64 (n1 : Nat)) (.int .i64 (n2 : Nat)) (.string (t.extract 7 A)) (.slice av nv cv))) := hJ.put hni hM
              clear hJ hall hcl hni hz0
              refine wpOp_step rfl (fun K' hK => ?_)
              simp only [h0]
              go_wp2_with fail
              exact ⟨undef, by simp [rs.upd, h0], HF.out⟩
            | k + 11, ho => simp at ho
          · intro D f x hD hJ
            have h10 : f 10 = .bool ok := hJ.1 10 (hD 10 (by decide)) _ rfl
            have A5 := hJ.2.2.2.2.2 (hD 9 (by decide))
            have b5 := hJ.2.1
            have HR5 : Hid (Rows2 x w.heap.size (.slice av nv cv) ps) := own_low hJ.2.2.2.1 (by show w.heap.size ≤ w.heap.size + 1; omega)
            clear hJ hJ0 hD HVR
            rw [h10]
            go_wp2
            have d0 : x.cell? ⟨w.heap.size, 0, none⟩ = _ := A5.cell 0 _ rfl
            have d1 : x.cell? ⟨w.heap.size, 0 + 1, none⟩ = _ := A5.cell 1 _ rfl
            have d2 : x.cell? ⟨w.heap.size, 0 + 2, none⟩ = _ := A5.cell 2 _ rfl
            have d3 : x.cell? ⟨w.heap.size, 0 + 3, none⟩ = _ := A5.cell 3 _ rfl
            have d4 : x.cell? ⟨w.heap.size, 0 + 4, none⟩ = _ := A5.cell 4 _ rfl
            have d5 : x.cell? ⟨w.heap.size, 0 + 5, none⟩ = _ := A5.cell 5 _ rfl
            exact bodyPost_ret (v := .tuple #[(.agg #[.int .i64 (n0 : Nat), .int .i64 (k5 : Nat), .int .i64 (n1 : Nat), .int .i64 (n2 : Nat), .string (t.extract 7 A), .slice av nv cv]), .bool ok]) (by simp [results, Tryz.results52, go_sem, d0, d1, d2, d3, d4, d5]) rfl ⟨⟨⟨(n0 : Nat), (k5 : Nat), (n1 : Nat), (n2 : Nat), t.extract 7 A, ps⟩, _, by rw [HRK.out]; rfl, fun _ => HMT.out.symm, HR5.out⟩, b5⟩
        · have HRK : Hid (rok t = (false && ok)) := HNO.out hps
          have heq : ((p : Int) == (t.size : Int)) = false := by simp; omega
          have heq2 : (decide ((p : Int) = (t.size : Int))) = false := by simp; omega
          have hJ0 : ∀ f : Nat → Value, J17 ⟨w, M, ⟨n0, n1, n2, k5, t.extract 7 A⟩, .slice av nv cv, ps, t, p, false, ok⟩ (fun _ => False) f wr.drew := fun f => ⟨fun j hj => hj.elim, HVR.out.2.2.2.1.drew, HVR.out.1, ow.own_below HVR.out.2.2.1 (Below.refl _ _).drew, fun _ => HVR.out.2.1, fun h => h.elim⟩
          clear HOK HNO hps
          refine rs.region_st (by kernel_rfl) (fun f => { tmps := List.toArray ((.string t) :: (undef) :: (.pointer (some ⟨w.heap.size, 0, none⟩)) :: (f 10) :: (.int .i64 p) :: (.pointer (some ⟨M, 0, none⟩)) :: (.int .i64 ((cnt : Int) - (j : Int))) :: (u7) :: (u8) :: (.string t) :: (.int .i64 t.size) :: (.bool (decide ((t.size : Int) < 7))) :: (.bool (decide ((t.size : Int) < 7))) :: (.string t) :: (.int .i64 t.size) :: (.string t) :: (.int .u8 ((t[4]).toNat : Int)) :: (.int .i64 ((t[4]).toNat : Int)) :: (.int .i64 A) :: (.bool (decide (t.size < A))) :: (.bool (decide ((t.size : Int) < 7) || decide (t.size < A))) :: (undef) :: (.string t) :: (.int .u8 ((t[4]).toNat : Int)) :: (.int .i64 ((t[4]).toNat : Int)) :: (.int .i64 A) :: (F 0) :: (F 1) :: (F 2) :: (F 3) :: (F 4) :: (F 5) :: (F 6) :: (F 7) :: (F 8) :: (F 9) :: (F 10) :: (F 11) :: (F 12) :: (F 13) :: (F 14) :: (v0) :: (F 16) :: (.string t) :: (.int .u8 cnt) :: (.int .i64 cnt) :: (.int .i64 ((cnt : Int) - (j : Int))) :: (.bool false) :: (u48) :: (u49) :: (u50) :: (u51) :: (u52) :: (u53) :: (u54) :: (u55) :: (u56) :: (u57) :: (u58) :: (u59) :: (u60) :: (u61) :: (u62) :: (u63) :: (u64) :: (u65) :: (u66) :: (u67) :: (u68) :: (u69) :: (u70) :: (u71) :: (u72) :: (u73) :: (u74) :: (u75) :: (u76) :: (u77) :: (u78) :: (u79) :: (u80) :: (u81) :: (u82) :: (u83) :: (u84) :: (u85) :: (u86) :: (u87) :: (u88) :: (u89) :: (u90) :: (u91) :: (u92) :: (u93) :: (u94) :: (u95) :: (u96) :: (u97) :: (u98) :: (u99) :: (u100) :: (u101) :: (u102) :: (u103) :: (u104) :: (u105) :: (u106) :: (f 0) :: (f 1) :: (f 2) :: (f 3) :: (f 4) :: (f 5) :: (f 6) :: (f 7) :: (f 8) :: []), defers := [] }) (J17 ⟨w, M, ⟨n0, n1, n2, k5, t.extract 7 A⟩, .slice av nv cv, ps, t, p, false, ok⟩) (fun k => if k = 10 then u3 else undef) rfl (hJ0 _) (rs.deps_of (by kernel_rfl)) ?_ ?_
          · clear hJ0
            intro i o ho D f x hJ hall hni hcl
            match i, ho with
            | 0, ho =>
              cases ho
              have c0 : x.cell? ⟨M, 0, none⟩ = _ := hJ.2.2.1.cell 0 _ rfl
              have c1 : x.cell? ⟨M, 0 + 1, none⟩ = _ := hJ.2.2.1.cell 1 _ rfl
              have c2 : x.cell? ⟨M, 0 + 2, none⟩ = _ := hJ.2.2.1.cell 2 _ rfl
              have c3 : x.cell? ⟨M, 0 + 3, none⟩ = _ := hJ.2.2.1.cell 3 _ rfl
              have c4 : x.cell? ⟨M, 0 + 4, none⟩ = _ := hJ.2.2.1.cell 4 _ rfl
              have c5 : x.cell? ⟨M, 0 + 5, none⟩ = _ := hJ.2.2.1.cell 5 _ rfl
              have HJ : Hid (J17 ⟨w, M, ⟨n0, n1, n2, k5, t.extract 7 A⟩, .slice av nv cv, ps, t, p, false, ok⟩ D f x) := hJ
              clear hJ hall hcl hni
              refine wpOp_step rfl (fun K' hK => ?_)
              go_wp2_with fail
              exact ⟨(.agg #[.int .i64 (n0 : Nat), .int .i64 (k5 : Nat), .int .i64 (n1 : Nat), .int .i64 (n2 : Nat), .string (t.extract 7 A), .slice av nv cv]), by simp [rs.upd], HJ.out.step _ (fun z hz => Option.some.inj hz) (by omega) (Below.refl _ _)⟩
            | 1, ho =>
              cases ho
              have HJ : Hid (J17 ⟨w, M, ⟨n0, n1, n2, k5, t.extract 7 A⟩, .slice av nv cv, ps, t, p, false, ok⟩ D f x) := hJ
              clear hJ hall hcl hni
              refine wpOp_step rfl (fun K' hK => ?_)
              go_simp
              exact hK _ _ ⟨.int .i64 p, by simp [rs.upd], HJ.out.step _ (fun z hz => Option.some.inj hz) (by omega) (Below.refl _ _)⟩
            | 2, ho =>
              cases ho
              have HJ : Hid (J17 ⟨w, M, ⟨n0, n1, n2, k5, t.extract 7 A⟩, .slice av nv cv, ps, t, p, false, ok⟩ D f x) := hJ
              clear hJ hall hcl hni
              refine wpOp_step rfl (fun K' hK => ?_)
              go_simp
              exact hK _ _ ⟨.string t, by simp [rs.upd], HJ.out.step _ (fun z hz => Option.some.inj hz) (by omega) (Below.refl _ _)⟩
            | 3, ho =>
              cases ho
              have d2 : D 2 := hall { on := 2, ground := Ground.data } (by simp) rfl
              have h2 : f 2 = .string t := hJ.1 2 d2 _ rfl
              have HJ : Hid (J17 ⟨w, M, ⟨n0, n1, n2, k5, t.extract 7 A⟩, .slice av nv cv, ps, t, p, false, ok⟩ D f x) := hJ
              clear hJ hall hcl hni
              refine wpOp_step rfl (fun K' hK => ?_)
              simp only [h2]
              go_simp
              exact hK _ _ ⟨.int .i64 t.size, by simp [rs.upd, h2], HJ.out.step _ (fun z hz => Option.some.inj hz) (by omega) (Below.refl _ _)⟩
            | 4, ho =>
              cases ho
              have d1 : D 1 := hall { on := 1, ground := Ground.data } (by simp) rfl
              have h1 : f 1 = .int .i64 p := hJ.1 1 d1 _ rfl
              have d3 : D 3 := hall { on := 3, ground := Ground.data } (by simp) rfl
              have h3 : f 3 = .int .i64 t.size := hJ.1 3 d3 _ rfl
              have HJ : Hid (J17 ⟨w, M, ⟨n0, n1, n2, k5, t.extract 7 A⟩, .slice av nv cv, ps, t, p, false, ok⟩ D f x) := hJ
              clear hJ hall hcl hni
              refine wpOp_step rfl (fun K' hK => ?_)
              simp only [h1, h3]
              go_simp
              exact hK _ _ ⟨.bool false, by simp [rs.upd, h1, h3], HJ.out.step _ (fun z hz => Option.some.inj hz) (by omega) (Below.refl _ _)⟩
            | 5, ho =>
              cases ho
              have d4 : D 4 := hall { on := 4, ground := Ground.data } (by simp) rfl
              have h4 : f 4 = .bool false := hJ.1 4 d4 _ rfl
              have HJ : Hid (J17 ⟨w, M, ⟨n0, n1, n2, k5, t.extract 7 A⟩, .slice av nv cv, ps, t, p, false, ok⟩ D f x) := hJ
              clear hJ hall hcl hni
              refine wpOp_step rfl (fun K' hK => ?_)
              simp only [h4]
              go_simp
              exact hK _ _ ⟨.bool false, by simp [rs.upd, h4], HJ.out.step _ (fun z hz => Option.some.inj hz) (by omega) (Below.refl _ _)⟩
            | 6, ho =>
              cases ho
              have d5 : D 5 := hall { on := 5, ground := Ground.guard } (by simp) rfl
              have h5 : f 5 = .bool false := hJ.1 5 d5 _ rfl
              have HJ : Hid (J17 ⟨w, M, ⟨n0, n1, n2, k5, t.extract 7 A⟩, .slice av nv cv, ps, t, p, false, ok⟩ D f x) := hJ
              clear hJ hall hcl hni
              refine wpOp_step rfl (fun K' hK => ?_)
              simp only [h5]
              go_simp
              exact hK _ _ ⟨undef, by simp [rs.upd, h5], HJ.out.step _ (fun z hz => Option.some.inj hz) (by omega) (Below.refl _ _)⟩
            | 7, ho =>
              cases ho
              have d6 : D 6 := hall { on := 6, ground := Ground.data } (by simp) rfl
              have h6 : f 6 = undef := hJ.1 6 d6 _ rfl
              have d5 : D 5 := hall { on := 5, ground := Ground.guard } (by simp) rfl
              have h5 : f 5 = .bool false := hJ.1 5 d5 _ rfl
              have HJ : Hid (J17 ⟨w, M, ⟨n0, n1, n2, k5, t.extract 7 A⟩, .slice av nv cv, ps, t, p, false, ok⟩ D f x) := hJ
              clear hJ hall hcl hni
              refine wpOp_step rfl (fun K' hK => ?_)
              simp only [h6, h5]
              go_simp
              exact hK _ _ ⟨undef, by simp [rs.upd, h6, h5], HJ.out.step _ (fun z hz => Option.some.inj hz) (by omega) (Below.refl _ _)⟩
            | 8, ho =>
              cases ho
              have d5 : D 5 := hall { on := 5, ground := Ground.data } (by simp) rfl
              have h5 : f 5 = .bool false := hJ.1 5 d5 _ rfl
              have d7 : D 7 := hall { on := 7, ground := Ground.data } (by simp) rfl
              have h7 : f 7 = undef := hJ.1 7 d7 _ rfl
              have HJ : Hid (J17 ⟨w, M, ⟨n0, n1, n2, k5, t.extract 7 A⟩, .slice av nv cv, ps, t, p, false, ok⟩ D f x) := hJ
              clear hJ hall hcl hni
              refine wpOp_step rfl (fun K' hK => ?_)
              simp only [h5, h7]
              go_simp
              exact hK _ _ ⟨.bool false, by simp [rs.upd, h5, h7], HJ.out.step _ (fun z hz => Option.some.inj hz) (by omega) (Below.refl _ _)⟩
            | 10, ho =>
              cases ho
              have d8 : D 8 := hall { on := 8, ground := Ground.data } (by simp) rfl
              have h8 : f 8 = .bool false := hJ.1 8 d8 _ rfl
              have HJ : Hid (J17 ⟨w, M, ⟨n0, n1, n2, k5, t.extract 7 A⟩, .slice av nv cv, ps, t, p, false, ok⟩ D f x) := hJ
              clear hJ hall hcl hni
              refine wpOp_step rfl (fun K' hK => ?_)
              simp only [h8]
              go_simp
              exact hK _ _ ⟨.bool false, by simp [rs.upd, h8], HJ.out.step _ (fun z hz => Option.some.inj hz) (by omega) (Below.refl _ _)⟩
            | 9, ho =>
              cases ho
              have d0 : D 0 := hall { on := 0, ground := Ground.data } (by simp) rfl
              have h0 : f 0 = (.agg #[.int .i64 (n0 : Nat), .int .i64 (k5 : Nat), .int .i64 (n1 : Nat), .int .i64 (n2 : Nat), .string (t.extract 7 A), .slice av nv cv]) := hJ.1 0 d0 _ rfl
              have hz0 := hJ.2.2.2.2.1 hni
              have m0 : x.cell? ⟨w.heap.size, 0, none⟩ = _ := hz0.cell 0 _ rfl
              have m1 : x.cell? ⟨w.heap.size, 0 + 1, none⟩ = _ := hz0.cell 1 _ rfl
              have m2 : x.cell? ⟨w.heap.size, 0 + 2, none⟩ = _ := hz0.cell 2 _ rfl
              have m3 : x.cell? ⟨w.heap.size, 0 + 3, none⟩ = _ := hz0.cell 3 _ rfl
              have m4 : x.cell? ⟨w.heap.size, 0 + 4, none⟩ = _ := hz0.cell 4 _ rfl
              have m5 : x.cell? ⟨w.heap.size, 0 + 5, none⟩ = _ := hz0.cell 5 _ rfl
              have fz := hz0.f
              have HF : Hid (J17 ⟨w, M, ⟨n0, n1, n2, k5, t.extract 7 A⟩, .slice av nv cv, ps, t, p, false, ok⟩ (fun j => j = 9 ∨ D j) (rs.upd f 9 undef) (put6 x w.heap.size (.int .i64 (n0 : Nat)) (.int .i64 (k5 : Nat)) (.int .i64 (n1 : Nat)) (.int .i64 (n2 : Nat)) (.string (t.extract 7 A)) (.slice av nv cv))) := hJ.put hni hM
              clear hJ hall hcl hni hz0
              refine wpOp_step rfl (fun K' hK => ?_)
              simp only [h0]
              go_wp2_with fail
              exact ⟨undef, by simp [rs.upd, h0], HF.out⟩
            | k + 11, ho => simp at ho
          · intro D f x hD hJ
            have h10 : f 10 = .bool false := hJ.1 10 (hD 10 (by decide)) _ rfl
            have A5 := hJ.2.2.2.2.2 (hD 9 (by decide))
            have b5 := hJ.2.1
            have HR5 : Hid (Rows2 x w.heap.size (.slice av nv cv) ps) := own_low hJ.2.2.2.1 (by show w.heap.size ≤ w.heap.size + 1; omega)
            clear hJ hJ0 hD HVR
            rw [h10]
            go_wp2
            have d0 : x.cell? ⟨w.heap.size, 0, none⟩ = _ := A5.cell 0 _ rfl
            have d1 : x.cell? ⟨w.heap.size, 0 + 1, none⟩ = _ := A5.cell 1 _ rfl
            have d2 : x.cell? ⟨w.heap.size, 0 + 2, none⟩ = _ := A5.cell 2 _ rfl
            have d3 : x.cell? ⟨w.heap.size, 0 + 3, none⟩ = _ := A5.cell 3 _ rfl
            have d4 : x.cell? ⟨w.heap.size, 0 + 4, none⟩ = _ := A5.cell 4 _ rfl
            have d5 : x.cell? ⟨w.heap.size, 0 + 5, none⟩ = _ := A5.cell 5 _ rfl
            exact bodyPost_ret (v := .tuple #[(.agg #[.int .i64 (n0 : Nat), .int .i64 (k5 : Nat), .int .i64 (n1 : Nat), .int .i64 (n2 : Nat), .string (t.extract 7 A), .slice av nv cv]), .bool false]) (by simp [results, Tryz.results52, go_sem, d0, d1, d2, d3, d4, d5]) rfl ⟨⟨⟨(n0 : Nat), (k5 : Nat), (n1 : Nat), (n2 : Nat), t.extract 7 A, ps⟩, _, by rw [HRK.out]; rfl, fun _ => HMT.out.symm, HR5.out⟩, b5⟩
end Go.Proofs.YtncnbhekgkemfaaGreatDoor.rm
