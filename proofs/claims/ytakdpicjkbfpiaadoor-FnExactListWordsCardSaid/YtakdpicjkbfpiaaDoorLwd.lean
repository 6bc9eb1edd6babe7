/-
  The program's ListWords.
-/
import Derived.Test.YtakdpicjkbfpiaaDoorLwc
import Derived.Test.YtakdpicjkbfpiaaDoorSpo
import Derived.Test.YtakdpicjkbfpiaaDoorSps
import Derived.Test.YtakdpicjkbfpiaaDoorRsi
import Derived.Laws.ResultCell
namespace Go.Proofs.YtakdpicjkbfpiaaDoor.lw
open Go.RowKit Go.Shelf
open sp
attribute [local go_sem] Oper.semAt_some
set_option linter.unusedVariables false

theorem results_cells {fn : Func} {p u : Tmp} {ty tu : TypeId} (h : fn.results = #[.cell p ty, .cell u tu]) (tmps : Array Value) (P : Program) (w : World) :
    (results fn tmps).run P w =
      ((asAddr (tmps.getD p undef)).run P w).andThen fun a w₁ => ((loadVar ty a).run P w₁).andThen fun v w₂ => ((asAddr (tmps.getD u undef)).run P w₂).andThen fun b w₃ => ((loadVar tu b).run P w₃).andThen fun v' w₄ => .ok (.tuple #[v, v']) w₄ := by
  simp only [results, h]
  simp [Sem.run_bind, Result.andThen]
theorem bx_new (W : World) (v : Value) (t : TypeId) : (W.alloc (.cells #[v] t)).cell? ⟨W.heap.size, 0, none⟩ = some v ∧ (W.alloc (.cells #[v] t)).frozen? ⟨W.heap.size, 0, none⟩ = false := by
  have h : (W.alloc (.cells #[v] t)).heap[W.heap.size]? = some (.cells #[v] t (0, 0)) := World.alloc_heap_new W _
  exact ⟨Lib.cell_of_heap h 0, Lib.frozen_of_heap h 0⟩
theorem bx_cell {W : World} {a : Addr} {v : Value} (o : Obj) (h : W.cell? a = some v) : (W.alloc o).cell? a = some v := cell_kept h (World.grownBy_alloc W o none) (fun r e => by cases e)
theorem bx_frozen {W : World} {a : Addr} {v : Value} (o : Obj) (h : W.cell? a = some v) (hf : W.frozen? a = false) : (W.alloc o).frozen? a = false := (frozen_kept h (World.grownBy_alloc W o none) (fun r e => by cases e)).trans hf
theorem results_lw {tmps : Array Value} {w : World} {a b : Addr} {v z : Value} (ha : tmps.getD 2 undef = .pointer (some a)) (hb : tmps.getD 3 undef = .pointer (some b)) (hv : w.cell? a = some v) (hz : w.cell? b = some z) :
    (results Tryd.f9 tmps).run Tryd.prog w = .ok (.tuple #[v, z]) w := by
  rw [results_cells rfl, ha, hb]
  have h1 : (loadVar 25 a).run Tryd.prog w = .ok v w := by
    go_simp
  have h2 : (loadVar 3 b).run Tryd.prog w = .ok z w := by
    go_simp
  have e1 : (asAddr (.pointer (some a))).run Tryd.prog w = .ok a w := by simp [asAddr]
  have e2 : (asAddr (.pointer (some b))).run Tryd.prog w = .ok b w := by simp [asAddr]
  rw [e1, Result.andThen_ok, h1, Result.andThen_ok, e2, Result.andThen_ok, h2, Result.andThen_ok]
set_option maxRecDepth 100000 in
set_option maxHeartbeats 4000000 in
theorem long_in (F : Fence) (n : Nat) (hF : F.fn 9) (hro : F.round = none) (s : ByteArray) (w : World) (hs : s.size ≤ 1048576) (h : 65536 < s.size) :
    CallsIn F n Tryd.prog 9 #[.string s] w fun e W' => LwRet s w.heap.size e W' ∧ Below w.heap.size w W' := by
  refine callsIn_of_wp_marks Tryd.func9 rfl hF ?_ hro
  simp only [Tryd.ntmps9, List.size_toArray, List.length_cons, List.length_nil, Nat.reduceAdd, Nat.reduceSub, Array.replicate_succ, Array.replicate_zero, List.push_toArray, List.append_toArray, List.nil_append, List.cons_append]
  have h' : (65536 : Int) < (s.size : Int) := by omega
  have HL : Hid (LR s = ([], 2)) := if_pos h
  have c2 := bx_new w (.slice none 0 0) 25
  have c3 := bx_new (w.alloc (.cells #[.slice none 0 0] 25)) (.int .i64 2) 3
  rw [World.size_alloc] at c3
  gi_wp2
  exact ⟨_, results_lw rfl rfl (bx_cell _ c2.1) c3.1, ⟨.slice none 0 0, by rw [HL.out], by rw [HL.out]; exact World.ownsRow_nil _ _ _ _⟩, ((Below.refl _ w).alloc (Nat.le_refl _) _).alloc (by simp) _⟩
/-- What the two cuts at the brackets leave. -/
structure CutsIn (F : Fence) (n : Nat) (s rest names : ByteArray) (o c : Bool) : Prop where
  pre : ∀ W, CallsIn F n Tryd.prog 20 #[.string s, .string ⟨#[40]⟩] W fun e w' => e = .returned (.tuple #[.string rest, .bool o]) ∧ w' = W
  suf : ∀ W, CallsIn F n Tryd.prog 21 #[.string rest, .string ⟨#[41]⟩] W fun e w' => e = .returned (.tuple #[.string names, .bool c]) ∧ w' = W
set_option maxRecDepth 100000 in
set_option maxHeartbeats 4000000 in
theorem bad_in (F : Fence) (n : Nat) (hF : F.fn 9) (hF1 : F.fn 20) (hF2 : F.fn 21) (hro : F.round = none) (hn : 1 ≤ n) (s rest names : ByteArray) (o c : Bool) (w : World) (hs : s.size ≤ 65536) (hc : CutsIn F (n - 1) s rest names o c) (hoc : o = false ∨ (o = true ∧ c = false)) (hR : lwR s.data.toList = ([], 3)) :
    CallsIn F n Tryd.prog 9 #[.string s] w fun e W' => LwRet s w.heap.size e W' ∧ Below w.heap.size w W' := by
  refine callsIn_of_wp_marks Tryd.func9 rfl hF ?_ hro
  simp only [Tryd.ntmps9, List.size_toArray, List.length_cons, List.length_nil, Nat.reduceAdd, Nat.reduceSub, Array.replicate_succ, Array.replicate_zero, List.push_toArray, List.append_toArray, List.nil_append, List.cons_append]
  have h' : (s.size : Int) ≤ 65536 := by omega
  have HL : Hid (LR s = ([], 3)) := by rw [← hR]; exact if_neg (by omega)
  have HP : Hid (∀ W, CallsIn F (n - 1) Tryd.prog 20 #[.string s, .string ⟨#[40]⟩] W fun e w' => e = .returned (.tuple #[.string rest, .bool o]) ∧ w' = W) := hc.pre
  have HS : Hid (∀ W, CallsIn F (n - 1) Tryd.prog 21 #[.string rest, .string ⟨#[41]⟩] W fun e w' => e = .returned (.tuple #[.string names, .bool c]) ∧ w' = W) := hc.suf
  clear hR hc
  have c2 := bx_new w (.slice none 0 0) 25
  have c3 := bx_new (w.alloc (.cells #[.slice none 0 0] 25)) (.int .i64 3) 3
  rw [World.size_alloc] at c3
  rcases hoc with rfl | ⟨rfl, rfl⟩
  · gi_wp2_with (first | (gi_at_call 20; refine (HP.out _).mono ?_; rintro e w' ⟨rfl, rfl⟩) | (gi_at_call 21; refine (HS.out _).mono ?_; rintro e w' ⟨rfl, rfl⟩))
    exact ⟨_, results_lw rfl rfl (bx_cell _ c2.1) c3.1, ⟨.slice none 0 0, by rw [HL.out], by rw [HL.out]; exact World.ownsRow_nil _ _ _ _⟩, ((Below.refl _ w).alloc (Nat.le_refl _) _).alloc (by simp) _⟩
  · gi_wp2_with (first | (gi_at_call 20; refine (HP.out _).mono ?_; rintro e w' ⟨rfl, rfl⟩) | (gi_at_call 21; refine (HS.out _).mono ?_; rintro e w' ⟨rfl, rfl⟩))
    exact ⟨_, results_lw rfl rfl (bx_cell _ c2.1) c3.1, ⟨.slice none 0 0, by rw [HL.out], by rw [HL.out]; exact World.ownsRow_nil _ _ _ _⟩, ((Below.refl _ w).alloc (Nat.le_refl _) _).alloc (by simp) _⟩
/-- What lies beside the words: the two results, and the iterator's own cells. -/
def Cl (b : Nat) (W : World) : Prop := (W.cell? ⟨b, 0, none⟩ = some (.slice none 0 0) ∧ W.frozen? ⟨b, 0, none⟩ = false) ∧ (W.cell? ⟨b + 1, 0, none⟩ = some (.int .i64 0) ∧ W.frozen? ⟨b + 1, 0, none⟩ = false) ∧ W.cell? ⟨b + 1 + 1 + 1 + 1, 0, none⟩ = some (.string ⟨#[32]⟩) ∧ W.cell? ⟨b + 1 + 1 + 1 + 1 + 1, 0, none⟩ = some (.int .i64 0)
/-- The words that have come lie in the variable. -/
def Ws (b : Nat) (pre : List ByteArray) (W : World) : Prop := ∃ v, (W.cell? ⟨b + 1 + 1, 0, none⟩ = some v ∧ W.frozen? ⟨b + 1 + 1, 0, none⟩ = false) ∧ W.ownsRow (b + 1 + 1 + 1 + 1 + 1 + 1) 9 1 v pre.length (pre.map Value.string)
def Inv (w : World) (pre : List ByteArray) (W : World) : Prop := (Cl w.heap.size W ∧ Ws w.heap.size pre W) ∧ (Below w.heap.size w W ∧ w.heap.size + 6 ≤ W.heap.size) ∧ (ls pre).all wordB = true ∧ pre.length ≤ 30
def End (s : ByteArray) (w : World) (u : Unit) (W : World) : Prop := (W.cell? ⟨w.heap.size, 0, none⟩ = some (.slice none 0 0) ∧ W.cell? ⟨w.heap.size + 1, 0, none⟩ = some (.int .i64 3)) ∧ LR s = ([], 3) ∧ Below w.heap.size w W
theorem cl_keep {b : Nat} {W W' : World} (h : Cl b W) (hk : ∀ j, b ≤ j → j ≤ b + 5 → j ≠ b + 2 → j ≠ b + 3 → W'.heap[j]? = W.heap[j]?) : Cl b W' := by
  obtain ⟨⟨h1, h2⟩, ⟨h3, h4⟩, h5, h6⟩ := h
  have e0 := hk b (by omega) (by omega) (by omega) (by omega)
  have e1 := hk (b + 1) (by omega) (by omega) (by omega) (by omega)
  have e4 := hk (b + 1 + 1 + 1 + 1) (by omega) (by omega) (by omega) (by omega)
  have e5 := hk (b + 1 + 1 + 1 + 1 + 1) (by omega) (by omega) (by omega) (by omega)
  exact ⟨⟨(World.cell?_of_block e0).trans h1, (World.frozen?_of_block e0).trans h2⟩, ⟨(World.cell?_of_block e1).trans h3, (World.frozen?_of_block e1).trans h4⟩, (World.cell?_of_block e4).trans h5, (World.cell?_of_block e5).trans h6⟩
theorem cl_grown {b : Nat} {W W' : World} {row : Option Nat} (h : Cl b W) (hg : W.grownBy W' row) (hr : ∀ r, row = some r → ∃ o : Obj, W.heap[r]? = some o ∧ o.isCells = false) : Cl b W' := by
  obtain ⟨⟨h1, h2⟩, ⟨h3, h4⟩, h5, h6⟩ := h
  exact ⟨⟨cell_kept h1 hg hr, (frozen_kept h1 hg hr).trans h2⟩, ⟨cell_kept h3 hg hr, (frozen_kept h3 hg hr).trans h4⟩, cell_kept h5 hg hr, cell_kept h6 hg hr⟩
theorem ws_grown {b : Nat} {pre : List ByteArray} {W W' : World} {row : Option Nat} (h : Ws b pre W) (hg : W.grownBy W' row) (hr : ∀ r, row = some r → ∃ o : Obj, W.heap[r]? = some o ∧ o.isCells = false) : Ws b pre W' := by
  obtain ⟨v, ⟨h1, h2⟩, h3⟩ := h
  refine ⟨v, ⟨cell_kept h1 hg hr, (frozen_kept h1 hg hr).trans h2⟩, h3.kept hg ?_⟩
  rcases h3.2 with ⟨rfl, _⟩ | ⟨g, cap, cur, rfl, _, hc, _⟩
  · exact .inl rfl
  · right
    intro e
    obtain ⟨o, ho, hn⟩ := hr g e.symm
    rw [hc] at ho
    cases ho
    cases hn
theorem inv_own (w : World) {B : Nat} (hB : w.heap.size ≤ B) : OwnFrom B (Inv w) := by
  rintro pre W W' row ⟨⟨h1, h2⟩, ⟨h3, h4⟩, h5⟩ hg hr
  have hr2 : ∀ r, row = some r → ∃ o : Obj, W.heap[r]? = some o ∧ o.isCells = false := fun r e => (hr r e).2
  exact ⟨⟨cl_grown h1 hg hr2, ws_grown h2 hg hr2⟩, ⟨Below.grown h3 hg h3.size (fun k e => Nat.le_trans hB (hr k e).1), Nat.le_trans h4 hg.size⟩, h5⟩
theorem end_own (s : ByteArray) (w : World) {B : Nat} (hB : w.heap.size ≤ B) : OwnFrom B (End s w) := by
  rintro u W W' row ⟨⟨h1, h2⟩, h3, h4⟩ hg hr
  have hr2 : ∀ r, row = some r → ∃ o : Obj, W.heap[r]? = some o ∧ o.isCells = false := fun r e => (hr r e).2
  exact ⟨⟨cell_kept h1 hg hr2, cell_kept h2 hg hr2⟩, h3, Below.grown h4 hg h4.size (fun k e => Nat.le_trans hB (hr k e).1)⟩
theorem keeps_below {W W1 : World} (h : Below W.heap.size W W1) : KeepsOthers W W1 := ⟨h.size, fun k o hk _ => (h.block k (Array.getElem?_eq_some_iff.1 hk).1).trans hk⟩
theorem kept1 {W W1 : World} {a : Addr} {v : Value} (h : Below W.heap.size W W1) (hc : W.cell? a = some v) (hf : W.frozen? a = false) : W1.cell? a = some v ∧ W1.frozen? a = false := by
  have hb := h.block a.block (World.block_lt_of_cell? W _ hc)
  exact ⟨(World.cell?_of_block hb).trans hc, (World.frozen?_of_block hb).trans hf⟩
/-- Where the function returns with a fault. -/
theorem stop_end {s : ByteArray} {w W W1 : World} (hbw : Below w.heap.size w W) (b1 : Below W.heap.size W W1) (c0 : W1.cell? ⟨w.heap.size, 0, none⟩ = some (.slice none 0 0)) (c1 : W1.cell? ⟨w.heap.size + 1, 0, none⟩ = some (.int .i64 0)) (hF : LR s = ([], 3)) :
    KeepsOthers W ((W1.setCell ⟨w.heap.size, 0, none⟩ (.slice none 0 0)).setCell ⟨w.heap.size + 1, 0, none⟩ (.int .i64 3)) ∧ End s w () ((W1.setCell ⟨w.heap.size, 0, none⟩ (.slice none 0 0)).setCell ⟨w.heap.size + 1, 0, none⟩ (.int .i64 3)) := by
  refine ⟨(keeps_below b1).trans ((KeepsOthers.setCell _ _ _).trans (KeepsOthers.setCell _ _ _)), ⟨(World.cell?_setCell_other _ _ _ _ (by simp)).trans (World.cell?_setCell_same' _ _ _ (by rw [c0]; rfl)), World.cell?_setCell_same' _ _ _ (by rw [World.cell?_setCell_other _ _ _ _ (by simp), c1]; rfl)⟩, hF, ?_⟩
  exact ((hbw.trans (b1.mono hbw.size)).setCell (p := ⟨w.heap.size, 0, none⟩) (Nat.le_refl _) _).setCell (p := ⟨w.heap.size + 1, 0, none⟩) (by simp) _
theorem own_put {W : World} {base e size n D : Nat} {v : Value} {xs : List Value} {o' : Obj} (h : W.ownsRow base e size v n xs) (hD : W.heap[D]? = some (.deferred (some []))) : (W.putObj D o').ownsRow base e size v n xs := by
  refine h.kept (grownBy_putObj' W D o') ?_
  rcases h.2 with ⟨rfl, _⟩ | ⟨g, cap, cur, rfl, _, hc, _⟩
  · exact .inl rfl
  · right
    intro e
    have e : g = D := by simpa [Value.ownBlock] using e
    subst e
    rw [hc] at hD
    cases hD
/-- Behind an append, before the store. -/
def Mid (W1 : World) (B0 : Nat) (v0 : Value) (pre : List ByteArray) (X : ByteArray) (v' : Value) (x : World) : Prop := ∃ x1, Below W1.heap.size W1 x1 ∧ x1.grownBy x v0.ownBlock ∧ x.ownsRow B0 9 1 v' (pre ++ [X]).length ((pre ++ [X]).map Value.string)
def Post (W1 : World) (B0 c7 : Nat) (v0 : Value) (pre : List ByteArray) (X : ByteArray) (x : World) : Prop := ∃ v' x2, Mid W1 B0 v0 pre X v' x2 ∧ x = x2.setCell ⟨c7, 0, none⟩ v'
/-- What has come up of the append. -/
def J6 (W1 : World) (B0 c7 : Nat) (v0 : Value) (pre : List ByteArray) (X : ByteArray) (D : Nat → Prop) (f : Nat → Value) (x : World) : Prop :=
  (D 0 → f 0 = v0) ∧ (D 1 → f 1 = .string X) ∧ (D 2 → f 2 = .string X) ∧ (¬ D 4 → Below W1.heap.size W1 x) ∧ (D 3 → ¬ D 4 → ∃ g, f 3 = .slice (some ⟨g, 0, none⟩) 1 1 ∧ x.cell? ⟨g, 0, none⟩ = some (.string X)) ∧ (D 4 → ¬ D 5 → Mid W1 B0 v0 pre X (f 4) x) ∧ (D 5 → Post W1 B0 c7 v0 pre X x)
/-- An operation ahead of the append. -/
theorem J6.early {W1 : World} {B0 c7 : Nat} {v0 : Value} {pre : List ByteArray} {X : ByteArray} {D : Nat → Prop} {f : Nat → Value} {x x' : World} (h : J6 W1 B0 c7 v0 pre X D f x) (hn4 : ¬ D 4) (hn5 : ¬ D 5) (i : Nat) (y : Value) (hi : i = 0 ∧ y = v0 ∨ i = 1 ∧ y = .string X ∨ i = 2 ∧ y = .string X ∨ i = 3 ∧ ∃ g, y = .slice (some ⟨g, 0, none⟩) 1 1 ∧ x'.cell? ⟨g, 0, none⟩ = some (.string X)) (hb : Below x.heap.size x x') : J6 W1 B0 c7 v0 pre X (fun j => j = i ∨ D j) (ri.upd f i y) x' := by
  obtain ⟨h0, h1, h2, h3, h4, h5, h6⟩ := h
  have hb1 := h3 hn4
  have hi4 : 4 ≠ i := by omega
  have hi5 : 5 ≠ i := by omega
  refine ⟨fun d => ?_, fun d => ?_, fun d => ?_, fun _ => hb1.trans (hb.mono hb1.size), fun d _ => ?_, fun d => absurd (d.resolve_left hi4) hn4, fun d => absurd (d.resolve_left hi5) hn5⟩
  · by_cases e : 0 = i
    · subst e; rw [ri.upd_same]; rcases hi with hi | hi | hi | hi
      · exact hi.2
      all_goals exact absurd hi.1 (by omega)
    · rw [ri.upd_other f i y e]; exact h0 (d.resolve_left e)
  · by_cases e : 1 = i
    · subst e; rw [ri.upd_same]; rcases hi with hi | hi | hi | hi
      · exact absurd hi.1 (by omega)
      · exact hi.2
      all_goals exact absurd hi.1 (by omega)
    · rw [ri.upd_other f i y e]; exact h1 (d.resolve_left e)
  · by_cases e : 2 = i
    · subst e; rw [ri.upd_same]; rcases hi with hi | hi | hi | hi
      · exact absurd hi.1 (by omega)
      · exact absurd hi.1 (by omega)
      · exact hi.2
      · exact absurd hi.1 (by omega)
    · rw [ri.upd_other f i y e]; exact h2 (d.resolve_left e)
  · by_cases e : 3 = i
    · subst e; rw [ri.upd_same]; rcases hi with hi | hi | hi | hi
      · exact absurd hi.1 (by omega)
      · exact absurd hi.1 (by omega)
      · exact absurd hi.1 (by omega)
      · exact hi.2
    · rw [ri.upd_other f i y e]
      obtain ⟨g, e1, e2⟩ := h4 (d.resolve_left e) hn4
      exact ⟨g, e1, (hb.cell (p := ⟨g, 0, none⟩) (World.block_lt_of_cell? x _ e2)).trans e2⟩
theorem wpIn_append {F : Fence} {n : Nat} {P : Program} (w : World) {o : Oper} {a : Act} {K : Act → World → Prop} {Q : Exit → Act → World → Prop}
    (s x : Operand) (t : TypeId) (hop : o.op = Op.call { callee := Callee.builtin Builtin.append, args := #[s, x], argTypes := #[t, t] })
    (base : Nat) (e : TypeId) (i : TypeInfo) (z : Value) (size bytes : Nat) (h1 : P.underlying t = some (.slice e)) (h2 : P.info? e = some i) (h3 : i.zero = some z) (h4 : i.size = size) (h5 : i.bytes = bytes) (h6 : z.cells.size = size) (h7 : 0 < size)
    (v : Value) (k : Nat) (xs : List Value) (hs : a.eval s = v) (hown : w.ownsRow base e size v k xs) (ad : Addr) (m c : Nat) (news : List Value) (hx : a.eval x = .slice (some ad) m c) (hn : news.length = m * size)
    (hc : ∀ j u, news[j]? = some u → w.cell? (ad.add j) = some u) (h1c : ∀ u ∈ news, u.oneCell' = true) (b1 : k + m ≤ maxLen) (b2 : (k + m) * bytes ≤ 140737488355328) (b3 : base ≤ w.heap.size)
    (hK : ∀ v' w', w'.ownsRow base e size v' (k + m) (xs ++ news) → w.grownBy w' v.ownBlock → K (a.put o.dst v') w') : o.wpIn F n P a w K Q := by
  obtain ⟨v', w', hrun, r1, r2, r3⟩ := run_append_own (P := P) w base t o.type e i z size bytes h1 h2 h3 h4 h5 h6 h7 v k xs hown ad m c news hn hc h1c b1 b2 b3
  unfold Oper.wpIn
  refine ⟨?_, ?_⟩
  · simp [Oper.about, hop, resolve, Target.leads, Sem.run_pure]
  · rw [Oper.semAt_plain F _ _ (by rw [hop]; intro c hc'; cases hc')]
    simp [execOp, hop, resolve, invoke, builtin, hs, hx, hrun, Result.andThen]
    exact hK v' w' r1 r2
/-- A round that goes on. -/
theorem on_end {w W W1 x : World} {pre : List ByteArray} {X : ByteArray} {v0 : Value} (hI : Inv w pre W) (hv : W.cell? ⟨w.heap.size + 1 + 1, 0, none⟩ = some v0) (hown : W.ownsRow (w.heap.size + 1 + 1 + 1 + 1 + 1 + 1) 9 1 v0 pre.length (pre.map Value.string)) (b1 : Below W.heap.size W W1)
    (hp : Post W1 (w.heap.size + 1 + 1 + 1 + 1 + 1 + 1) (w.heap.size + 1 + 1) v0 pre X x) (hg : (ls (pre ++ [X])).all wordB = true) (hl : (pre ++ [X]).length ≤ 30) :
    KeepsOthers W x ∧ rl.Same (w.heap.size + 1 + 1 + 1) W x ∧ Inv w (pre ++ [X]) x := by
  obtain ⟨⟨h1, v00, ⟨h2, h2f⟩, _⟩, ⟨h4, h5⟩, h6, h7⟩ := hI
  obtain ⟨v', x2, ⟨x1, p1, p2, p3⟩, rfl⟩ := hp
  have b2 : Below W.heap.size W x1 := b1.trans (p1.mono b1.size)
  have hlt := ow.own_lt hown
  have hblk : ∀ j, j < w.heap.size + 6 → x2.heap[j]? = W.heap[j]? := fun j hj => (p2.block j (by have := b2.size; omega) (fun e => by have := hlt j e.symm; omega)).trans (b2.block j (by omega))
  have hset : ∀ j, j < w.heap.size + 6 → j ≠ w.heap.size + 1 + 1 → (x2.setCell ⟨w.heap.size + 1 + 1, 0, none⟩ v').heap[j]? = W.heap[j]? := fun j hj hn => (Below.heap_setCell _ _ _ _ (by simpa using hn)).trans (hblk j hj)
  have hc7 : x2.cell? ⟨w.heap.size + 1 + 1, 0, none⟩ = some v0 := (World.cell?_of_block (hblk (w.heap.size + 1 + 1) (by omega))).trans hv
  have hf7 : x2.frozen? ⟨w.heap.size + 1 + 1, 0, none⟩ = false := (World.frozen?_of_block (hblk (w.heap.size + 1 + 1) (by omega))).trans h2f
  have hb : Below w.heap.size w x1 := h4.trans (b2.mono h4.size)
  have hne : v'.ownBlock ≠ some (w.heap.size + 1 + 1) := fun e => by have := ow.own_lt p3 _ e; omega
  refine ⟨(keeps_below b2).trans ((KeepsOthers.of_grownBy p2 (fun j o ej hj => ?_)).trans (KeepsOthers.setCell _ _ _)), rl.same_block (hset _ (by omega) (by omega)), ⟨cl_keep h1 (fun j _ hj hn _ => hset j (by omega) (by omega)), v', ⟨World.cell?_setCell_same' _ _ _ (by rw [hc7]; rfl), by rw [World.frozen?_setCell]; exact hf7⟩, ownsRow_setCell_other p3 hne _⟩, ⟨(Below.grown hb p2 hb.size (fun k e => by have := hlt k e; omega)).setCell (p := ⟨w.heap.size + 1 + 1, 0, none⟩) (by simp; omega) _, ?_⟩, hg, hl⟩
  · rcases hown.2 with ⟨rfl, _⟩ | ⟨g, cap, cur, rfl, _, hc, _⟩
    · cases ej
    · have e : g = j := by simpa [Value.ownBlock] using ej
      subst e
      have : x1.heap[g]? = W.heap[g]? := b2.block g (Array.getElem?_eq_some_iff.1 hc).1
      rw [this, hc] at hj
      cases hj
      rfl
  · have := p2.size
    have := b2.size
    have e : (x2.setCell ⟨w.heap.size + 1 + 1, 0, none⟩ v').heap.size = x2.heap.size := by simp [World.setCell]
    omega
theorem pf_bad {V : List (List UInt8)} {pre : List ByteArray} {x : ByteArray} (hp : Pf V (pre ++ [x])) (h : wordB x.data.toList = false ∨ pre.length = 30) : goW [] V = ([], 3) := by
  obtain ⟨r, hr⟩ := hp
  rw [goW_is _ _ (Nat.zero_le _), if_neg]
  rw [← hr, ls_snoc]
  rcases h with h | h
  · simp [h]
  · have : (ls pre).length = 30 := by rw [← h]; simp [ls]
    simp [this]
theorem pf_small {q : ByteArray} {xs : List ByteArray} (hp : Pf (cutS 32 [] q.data.toList) xs) (hq : q.size ≤ 1048576) : ∀ x ∈ xs, x.size ≤ 1048576 := by
  intro x hx
  obtain ⟨r, hr⟩ := hp
  have hm : x.data.toList ∈ cutS 32 [] q.data.toList := by
    rw [← hr]
    exact List.mem_append_left _ (List.mem_map.2 ⟨x, hx, rfl⟩)
  have := cutS_small 32 _ _ _ hm
  have e := Lib.size_eq q
  have e2 := Lib.size_eq x
  simp only [List.length_nil, Nat.zero_add] at this
  omega
theorem tv_ls (xs : List ByteArray) : (ls xs).map tv = xs.map Value.string := by
  unfold ls
  rw [List.map_map]
  rfl
theorem pf_end {V : List (List UInt8)} {xs : List ByteArray} (h : ls xs = V) (h1 : (ls xs).all wordB = true) (h2 : xs.length ≤ 30) : goW [] V = (V, 0) := by
  have hl : (ls xs).length = xs.length := by simp [ls]
  rw [goW_is _ _ (Nat.zero_le _), if_pos]
  · rfl
  · rw [← h, h1, hl]
    simpa using h2
set_option maxRecDepth 100000 in
set_option maxHeartbeats 4000000 in
theorem good_in (F : Fence) (n : Nat) (hF : F.fn 9) (hF1 : F.fn 20) (hF2 : F.fn 21) (hF3 : F.fn 22) (hF4 : F.fn 47) (hF5 : F.fn 49) (hF6 : F.fn 23) (hF7 : F.fn 18) (hro : F.round = none) (hn : 4 ≤ n) (s rest q : ByteArray) (m : Int) (w : World) (hs : s.size ≤ 65536) (hq : q.size ≤ 65536) (hc : CutsIn F (n - 1) s rest q true true)
    (hm : w.cell? ⟨0, 0, none⟩ = some (.int .i64 m)) (hR : LR s = goW [] (cutS 32 [] q.data.toList))
    (hSp : ∀ W, CallsIn F (n - 1) Tryd.prog 22 #[.string q, .string ⟨#[32]⟩] W fun e W' => e = .returned (ln.seqOf W) ∧ W' = ln.seqW q ⟨#[32]⟩ W)
    (hIx : ∀ W t, W.cell? ⟨0, 0, none⟩ = some (.int .i64 m) → t.size ≤ 1048576 → CallsIn F (n - 1 - 1) Tryd.prog 49 #[.string t, .string ⟨#[32]⟩] W fun e W' => e = .returned (.int .i64 (Lib.index t.data.toList [32])) ∧ W' = W)
    (hWd : ∀ l W x, x.size ≤ 1048576 → CallsIn (F.inRound l) (n - 1 - 1 - 1) Tryd.prog 23 #[.string x] W fun e W' => e = .returned (.bool (wordB x.data.toList)) ∧ Below W.heap.size W W')
    (hCl : ∀ l W x, x.size ≤ 1048576 → CallsIn (F.inRound l) (n - 1 - 1 - 1) Tryd.prog 18 #[.string x] W fun e W' => e = .returned (.string x) ∧ Below W.heap.size W W') :
    CallsIn F n Tryd.prog 9 #[.string s] w fun e W' => LwRet s w.heap.size e W' ∧ Below w.heap.size w W' := by
  have h1 : 1 ≤ n := by omega
  refine callsIn_of_wp_marks Tryd.func9 rfl hF ?_ hro
  simp only [Tryd.ntmps9, List.size_toArray, List.length_cons, List.length_nil, Nat.reduceAdd, Nat.reduceSub, Array.replicate_succ, Array.replicate_zero, List.push_toArray, List.append_toArray, List.nil_append, List.cons_append]
  have h' : (s.size : Int) ≤ 65536 := by omega
  have HP : Hid (∀ W, CallsIn F (n - 1) Tryd.prog 20 #[.string s, .string ⟨#[40]⟩] W fun e w' => e = .returned (.tuple #[.string rest, .bool true]) ∧ w' = W) := hc.pre
  have HS : Hid (∀ W, CallsIn F (n - 1) Tryd.prog 21 #[.string rest, .string ⟨#[41]⟩] W fun e w' => e = .returned (.tuple #[.string q, .bool true]) ∧ w' = W) := hc.suf
  have HSP : Hid (∀ W, CallsIn F (n - 1) Tryd.prog 22 #[.string q, .string ⟨#[32]⟩] W fun e W' => e = .returned (ln.seqOf W) ∧ W' = ln.seqW q ⟨#[32]⟩ W) := hSp
  have hml := World.block_lt_of_cell? _ _ hm
  have HM : Hid (∀ W, Below w.heap.size w W → W.cell? ⟨0, 0, none⟩ = some (.int .i64 m)) := fun W hW => (hW.cell (p := ⟨0, 0, none⟩) hml).trans hm
  have HIX : Hid (∀ W t, W.cell? ⟨0, 0, none⟩ = some (.int .i64 m) → t.size ≤ 1048576 → CallsIn F (n - 1 - 1) Tryd.prog 49 #[.string t, .string ⟨#[32]⟩] W fun e W' => e = .returned (.int .i64 (Lib.index t.data.toList [32])) ∧ W' = W) := hIx
  have HWD : Hid (∀ l W x, x.size ≤ 1048576 → CallsIn (F.inRound l) (n - 1 - 1 - 1) Tryd.prog 23 #[.string x] W fun e W' => e = .returned (.bool (wordB x.data.toList)) ∧ Below W.heap.size W W') := hWd
  have HCL : Hid (∀ l W x, x.size ≤ 1048576 → CallsIn (F.inRound l) (n - 1 - 1 - 1) Tryd.prog 18 #[.string x] W fun e W' => e = .returned (.string x) ∧ Below W.heap.size W W') := hCl
  have HR : Hid (LR s = goW [] (cutS 32 [] q.data.toList)) := hR
  clear hm hml hR hc hSp hIx hWd hCl
  gi_wp2_with (first | (gi_at_call 20; refine (HP.out _).mono ?_; rintro e w' ⟨rfl, rfl⟩) | (gi_at_call 21; refine (HS.out _).mono ?_; rintro e w' ⟨rfl, rfl⟩) | (gi_at_call 22; refine (HSP.out _).mono ?_; rintro e w' ⟨rfl, rfl⟩))
  simp only [ln.seqOf, ln.seqW, World.size_alloc]
  have d0 := bx_new w (.slice none 0 0) 25
  have d1 := bx_new (w.alloc (.cells #[.slice none 0 0] 25)) (.int .i64 0) 3
  have d2 := bx_new ((w.alloc (.cells #[.slice none 0 0] 25)).alloc (.cells #[.int .i64 0] 3)) (.slice none 0 0) 25
  obtain ⟨W3, hW3⟩ : ∃ W3, W3 = ((w.alloc (.cells #[.slice none 0 0] 25)).alloc (.cells #[.int .i64 0] 3)).alloc (.cells #[.slice none 0 0] 25) := ⟨_, rfl⟩
  have hz3 : W3.heap.size = w.heap.size + 1 + 1 + 1 := by rw [hW3]; simp
  have hb3 : Below w.heap.size w W3 := by rw [hW3]; exact (((Below.refl _ w).alloc (Nat.le_refl _) _).alloc (by simp) _).alloc (by simp; omega) _
  simp only [World.size_alloc] at d1 d2
  have f0 : W3.cell? ⟨w.heap.size, 0, none⟩ = some (.slice none 0 0) ∧ W3.frozen? ⟨w.heap.size, 0, none⟩ = false := by rw [hW3]; exact ⟨bx_cell _ (bx_cell _ d0.1), bx_frozen _ (bx_cell _ d0.1) (bx_frozen _ d0.1 d0.2)⟩
  have f1 : W3.cell? ⟨w.heap.size + 1, 0, none⟩ = some (.int .i64 0) ∧ W3.frozen? ⟨w.heap.size + 1, 0, none⟩ = false := by rw [hW3]; exact ⟨bx_cell _ d1.1, bx_frozen _ d1.1 d1.2⟩
  have f2 : W3.cell? ⟨w.heap.size + 1 + 1, 0, none⟩ = some (.slice none 0 0) ∧ W3.frozen? ⟨w.heap.size + 1 + 1, 0, none⟩ = false := by rw [hW3]; exact d2
  rw [← hW3]
  clear hW3 d0 d1 d2
  have g3 := bx_new W3 (.string q) 9
  have g4 := bx_new (W3.alloc (.cells #[.string q] 9)) (.string ⟨#[32]⟩) 9
  have g5 := bx_new ((W3.alloc (.cells #[.string q] 9)).alloc (.cells #[.string ⟨#[32]⟩] 9)) (.int .i64 0) 3
  simp only [World.size_alloc, hz3] at g3 g4 g5
  obtain ⟨W6, hW6⟩ : ∃ W6, W6 = ((W3.alloc (.cells #[.string q] 9)).alloc (.cells #[.string ⟨#[32]⟩] 9)).alloc (.cells #[.int .i64 0] 3) := ⟨_, rfl⟩
  have hz6 : W6.heap.size = w.heap.size + 1 + 1 + 1 + 1 + 1 + 1 := by rw [hW6]; simp [hz3]
  have hb6 : Below w.heap.size w W6 := by rw [hW6]; exact ((hb3.alloc hb3.size _).alloc (by simp; omega) _).alloc (by simp; omega) _
  have k0 : W6.cell? ⟨w.heap.size, 0, none⟩ = some (.slice none 0 0) ∧ W6.frozen? ⟨w.heap.size, 0, none⟩ = false := by rw [hW6]; exact ⟨bx_cell _ (bx_cell _ (bx_cell _ f0.1)), bx_frozen _ (bx_cell _ (bx_cell _ f0.1)) (bx_frozen _ (bx_cell _ f0.1) (bx_frozen _ f0.1 f0.2))⟩
  have k1 : W6.cell? ⟨w.heap.size + 1, 0, none⟩ = some (.int .i64 0) ∧ W6.frozen? ⟨w.heap.size + 1, 0, none⟩ = false := by rw [hW6]; exact ⟨bx_cell _ (bx_cell _ (bx_cell _ f1.1)), bx_frozen _ (bx_cell _ (bx_cell _ f1.1)) (bx_frozen _ (bx_cell _ f1.1) (bx_frozen _ f1.1 f1.2))⟩
  have k2 : W6.cell? ⟨w.heap.size + 1 + 1, 0, none⟩ = some (.slice none 0 0) ∧ W6.frozen? ⟨w.heap.size + 1 + 1, 0, none⟩ = false := by rw [hW6]; exact ⟨bx_cell _ (bx_cell _ (bx_cell _ f2.1)), bx_frozen _ (bx_cell _ (bx_cell _ f2.1)) (bx_frozen _ (bx_cell _ f2.1) (bx_frozen _ f2.1 f2.2))⟩
  have k3 : W6.cell? ⟨w.heap.size + 1 + 1 + 1, 0, none⟩ = some (.string q) ∧ W6.frozen? ⟨w.heap.size + 1 + 1 + 1, 0, none⟩ = false := by rw [hW6]; exact ⟨bx_cell _ (bx_cell _ g3.1), bx_frozen _ (bx_cell _ g3.1) (bx_frozen _ g3.1 g3.2)⟩
  have k4 : W6.cell? ⟨w.heap.size + 1 + 1 + 1 + 1, 0, none⟩ = some (.string ⟨#[32]⟩) := by rw [hW6]; exact bx_cell _ g4.1
  have k5 : W6.cell? ⟨w.heap.size + 1 + 1 + 1 + 1 + 1, 0, none⟩ = some (.int .i64 0) := by rw [hW6]; exact g5.1
  rw [← hW6]
  clear hW6 f0 f1 f2 g3 g4 g5 hb3 hz3 HP HS HSP
  refine rl.range_law2 (α := ByteArray) hro h1 (gf := 47) (lb := #[.pointer (some ⟨w.heap.size + 1 + 1 + 1 + 1, 0, none⟩), .pointer (some ⟨w.heap.size + 1 + 1 + 1, 0, none⟩), .pointer (some ⟨w.heap.size + 1 + 1 + 1 + 1 + 1, 0, none⟩)]) rfl hF4 (enters_of Tryd.func47 (by kernel_rfl) rfl)
    (encs := fun x => #[.string x]) (fun _ => rfl) (w.heap.size + 1 + 1 + 1) (by omega) (fun xs => ls xs = cutS 32 [] q.data.toList) (fun xs => Pf (cutS 32 [] q.data.toList) xs ∧ ∀ x ∈ xs, x.size ≤ 1048576)
    (Inv w) (inv_own w (by omega)) (End s w) (end_own s w (by omega))
    ⟨⟨⟨k0, k1, k4, k5⟩, _, k2, World.ownsRow_nil _ _ _ _⟩, ⟨hb6, by omega⟩, rfl, Nat.zero_le _⟩
    (fun x => { tmps := #[.string s, undef, .pointer (some ⟨w.heap.size, 0, none⟩), .pointer (some ⟨w.heap.size + 1, 0, none⟩), .string q, .bool true, .bool true, .pointer (some ⟨w.heap.size + 1 + 1, 0, none⟩), .string x, .string s, .int .i64 s.size, .bool (decide (65536 < (s.size : Int))), .tuple #[.string rest, .bool true], .string s, .tuple #[.string rest, .bool true], .string rest, .bool true, .tuple #[.string q, .bool true], .string rest, .tuple #[.string q, .bool true], .string q, .bool true, .bool true, .bool false, .bool false, .bool true, .bool false, .bool false, .string q, .func (.func 47) #[] #[.pointer (some ⟨w.heap.size + 1 + 1 + 1 + 1, 0, none⟩), .pointer (some ⟨w.heap.size + 1 + 1 + 1, 0, none⟩), .pointer (some ⟨w.heap.size + 1 + 1 + 1 + 1 + 1, 0, none⟩)], .string x, undef, undef, undef, undef, undef, undef, undef, undef, undef, undef, undef, undef, undef, undef], defers := [] }) ?assign ?body ?seq ?done ?stop
  case assign =>
    intro l x W K hK
    gi_wp2
    exact hK
  case body =>
    rintro l pre x W ⟨hp, hxs⟩ hI
    have hx : x.size ≤ 1048576 := hxs x (by simp)
    have HI : Hid (Inv w pre W) := hI
    have HPF : Hid (Pf (cutS 32 [] q.data.toList) (pre ++ [x])) := hp
    obtain ⟨⟨⟨⟨c0, e0⟩, ⟨c1, e1⟩, _⟩, v, ⟨c2, e2⟩, hown⟩, ⟨hbw, hsz⟩, hgood, hl30⟩ := hI
    obtain ⟨av, cv, hv⟩ : ∃ a c, v = .slice a pre.length c := by
      rcases hown.2 with ⟨e, h0⟩ | ⟨g, cap, cur, e, _⟩
      · exact ⟨none, 0, by rw [e, h0]⟩
      · exact ⟨_, cap, e⟩
    subst hv
    have HOW : Hid (W.ownsRow (w.heap.size + 1 + 1 + 1 + 1 + 1 + 1) 9 1 (.slice av pre.length cv) pre.length (pre.map Value.string)) := hown
    have HW : Hid (CallsIn (F.inRound l) (n - 1 - 1 - 1) Tryd.prog 23 #[.string x] W fun e W' => e = .returned (.bool (wordB x.data.toList)) ∧ Below W.heap.size W W') := HWD.out l W x hx
    have hBX : (wordB x.data.toList = false ∨ pre.length = 30) → LR s = ([], 3) := fun h => by rw [HR.out]; exact pf_bad hp h
    have HBX : Hid ((wordB x.data.toList = false ∨ pre.length = 30) → LR s = ([], 3)) := hBX
    have HGX : Hid (wordB x.data.toList = true → (ls (pre ++ [x])).all wordB = true) := fun h => by rw [ls_snoc, List.all_append, hgood]; simp [h]
    obtain ⟨A, hA⟩ : ∃ A, A = pre.length := ⟨_, rfl⟩
    have HA : Hid (A = pre.length) := hA
    have hA30 : A ≤ 30 := by omega
    rw [← hA] at c2 HOW HBX
    clear hp hxs hown hgood hl30 hBX hA
    generalize wordB x.data.toList = B at HW HBX HGX
    cases B
    · have HF : Hid (LR s = ([], 3)) := HBX.out (.inl rfl)
      clear HBX HGX
      gi_wp2_with fail
      refine ⟨fun _ => by omega, HW.out.mono ?_⟩
      rintro e W1 ⟨rfl, b1⟩
      obtain ⟨c0', e0'⟩ := kept1 b1 c0 e0
      obtain ⟨c1', e1'⟩ := kept1 b1 c1 e1
      have HZ : Hid (KeepsOthers W ((W1.setCell ⟨w.heap.size, 0, none⟩ (.slice none 0 0)).setCell ⟨w.heap.size + 1, 0, none⟩ (.int .i64 3)) ∧ End s w () ((W1.setCell ⟨w.heap.size, 0, none⟩ (.slice none 0 0)).setCell ⟨w.heap.size + 1, 0, none⟩ (.int .i64 3))) := stop_end hbw b1 c0' c1' HF.out
      clear c0 e0 c1 e1 c2 e2 b1 HW HOW HI
      gi_wp2
      exact HZ.out
    · by_cases h30 : A = 30
      · have HF : Hid (LR s = ([], 3)) := HBX.out (.inr h30)
        have h30' : ((A : Int) == 30) = true := beq_iff_eq.2 (by omega)
        clear HBX HGX
        gi_wp2_with fail
        refine ⟨fun _ => by omega, HW.out.mono ?_⟩
        rintro e W1 ⟨rfl, b1⟩
        obtain ⟨c0', e0'⟩ := kept1 b1 c0 e0
        obtain ⟨c1', e1'⟩ := kept1 b1 c1 e1
        obtain ⟨c2', e2'⟩ := kept1 b1 c2 e2
        have HZ : Hid (KeepsOthers W ((W1.setCell ⟨w.heap.size, 0, none⟩ (.slice none 0 0)).setCell ⟨w.heap.size + 1, 0, none⟩ (.int .i64 3)) ∧ End s w () ((W1.setCell ⟨w.heap.size, 0, none⟩ (.slice none 0 0)).setCell ⟨w.heap.size + 1, 0, none⟩ (.int .i64 3))) := stop_end hbw b1 c0' c1' HF.out
        clear c0 e0 c1 e1 c2 e2 b1 HW HOW HI
        gi_wp2
        exact HZ.out
      · have h30' : ((A : Int) == 30) = false := beq_eq_false_iff_ne.2 (by omega)
        clear HBX
        gi_wp2_with fail
        refine ⟨fun _ => by omega, HW.out.mono ?_⟩
        rintro e W1 ⟨rfl, b1⟩
        obtain ⟨c2', e2'⟩ := kept1 b1 c2 e2
        have HB1 : Hid (Below W.heap.size W W1) := b1
        have HC2 : Hid (W.cell? ⟨w.heap.size + 1 + 1, 0, none⟩ = some (.slice av A cv)) := c2
        clear c0 e0 c1 e1 c2 e2 b1 HW
        gi_wp2_with fail
        have hlb : w.heap.size + 1 + 1 < W1.heap.size := World.block_lt_of_cell? W1 _ c2'
        have HOW1 : Hid (W1.ownsRow (w.heap.size + 1 + 1 + 1 + 1 + 1 + 1) 9 1 (.slice av A cv) A (pre.map Value.string)) := ow.own_below HOW.out HB1.out
        have HCW : Hid (∀ W', CallsIn (F.inRound l) (n - 1 - 1 - 1) Tryd.prog 18 #[.string x] W' fun e W'' => e = .returned (.string x) ∧ Below W'.heap.size W' W'') := fun W' => HCL.out l W' x hx
        obtain ⟨i0, hi, hz0, hz1, hz2⟩ := info_parts infoStr
        have hszW := HB1.out.size
        refine ri.region_st (by kernel_rfl) (fun f => { tmps := #[.string s, undef, .pointer (some ⟨w.heap.size, 0, none⟩), .pointer (some ⟨w.heap.size + 1, 0, none⟩), .string q, .bool true, .bool true, .pointer (some ⟨w.heap.size + 1 + 1, 0, none⟩), .string x, .string s, .int .i64 s.size, .bool (decide (65536 < (s.size : Int))), .tuple #[.string rest, .bool true], .string s, .tuple #[.string rest, .bool true], .string rest, .bool true, .tuple #[.string q, .bool true], .string rest, .tuple #[.string q, .bool true], .string q, .bool true, .bool true, .bool false, .bool false, .bool true, .bool false, .bool false, .string q, .func (.func 47) #[] #[.pointer (some ⟨w.heap.size + 1 + 1 + 1 + 1, 0, none⟩), .pointer (some ⟨w.heap.size + 1 + 1 + 1, 0, none⟩), .pointer (some ⟨w.heap.size + 1 + 1 + 1 + 1 + 1, 0, none⟩)], .string x, .string x, .bool true, .bool false, .bool false, .slice av A cv, .int .i64 A, .bool false, .bool false, f 0, f 1, f 2, f 3, f 4, undef], defers := [] }) (J6 W1 (w.heap.size + 1 + 1 + 1 + 1 + 1 + 1) (w.heap.size + 1 + 1) (.slice av A cv) pre x) (fun _ => undef) rfl ⟨fun d => d.elim, fun d => d.elim, fun d => d.elim, fun _ => (Below.refl _ _).drew, fun d => d.elim, fun d => d.elim, fun d => d.elim⟩ (ri.deps_of (by kernel_rfl)) ?_ ?_
        · intro i o ho D f X hJ hall hni hcl
          have h54 : D 5 → D 4 := fun h => hcl 5 _ h rfl { on := 4, ground := Ground.data } (by simp) rfl
          match i, ho with
          | 0, ho =>
            cases ho
            have hn4 : ¬ D 4 := fun h => hni (hcl 4 _ h rfl { on := 0, ground := Ground.data } (by simp) rfl)
            have hn5 : ¬ D 5 := fun h => hn4 (h54 h)
            have hbx := hJ.2.2.2.1 hn4
            have cX : X.cell? ⟨w.heap.size + 1 + 1, 0, none⟩ = some (.slice av A cv) := (hbx.cell (p := ⟨w.heap.size + 1 + 1, 0, none⟩) hlb).trans c2'
            have HN : Hid (J6 W1 (w.heap.size + 1 + 1 + 1 + 1 + 1 + 1) (w.heap.size + 1 + 1) (.slice av A cv) pre x (fun j => j = 0 ∨ D j) (ri.upd f 0 (.slice av A cv)) X) := hJ.early hn4 hn5 0 _ (.inl ⟨rfl, rfl⟩) (Below.refl _ _)
            clear hJ hall hcl hni h54 hbx
            refine wpOpIn_step rfl (fun K' hK => ?_)
            rw [if_pos (by rfl)]
            gi_wp2_with fail
            exact ⟨_, by simp [ri.upd], HN.out⟩
          | 1, ho =>
            cases ho
            have hn2 : ¬ D 2 := fun h => hni (hcl 2 _ h rfl { on := 1, ground := Ground.data } (by simp) rfl)
            have hn3 : ¬ D 3 := fun h => hn2 (hcl 3 _ h rfl { on := 2, ground := Ground.data } (by simp) rfl)
            have hn4 : ¬ D 4 := fun h => hn3 (hcl 4 _ h rfl { on := 3, ground := Ground.data } (by simp) rfl)
            have hn5 : ¬ D 5 := fun h => hn4 (h54 h)
            have HN : Hid (J6 W1 (w.heap.size + 1 + 1 + 1 + 1 + 1 + 1) (w.heap.size + 1 + 1) (.slice av A cv) pre x (fun j => j = 1 ∨ D j) (ri.upd f 1 (.string x)) X) := hJ.early hn4 hn5 1 _ (.inr (.inl ⟨rfl, rfl⟩)) (Below.refl _ _)
            clear hJ hall hcl hni h54
            refine wpOpIn_step rfl (fun K' hK => ?_)
            rw [if_pos (by rfl)]
            gi_wp2_with fail
            exact ⟨_, by simp [ri.upd], HN.out⟩
          | 2, ho =>
            cases ho
            have d1 : D 1 := hall { on := 1, ground := Ground.data } (by simp) rfl
            have h1' : f 1 = .string x := hJ.2.1 d1
            have hn3 : ¬ D 3 := fun h => hni (hcl 3 _ h rfl { on := 2, ground := Ground.data } (by simp) rfl)
            have hn4 : ¬ D 4 := fun h => hn3 (hcl 4 _ h rfl { on := 3, ground := Ground.data } (by simp) rfl)
            have hn5 : ¬ D 5 := fun h => hn4 (h54 h)
            have HN : Hid (∀ X', Below X.heap.size X X' → J6 W1 (w.heap.size + 1 + 1 + 1 + 1 + 1 + 1) (w.heap.size + 1 + 1) (.slice av A cv) pre x (fun j => j = 2 ∨ D j) (ri.upd f 2 (.string x)) X') := fun X' hb => hJ.early hn4 hn5 2 _ (.inr (.inr (.inl ⟨rfl, rfl⟩))) hb
            clear hJ hall hcl hni h54
            refine wpOpIn_step rfl (fun K' hK => ?_)
            rw [if_pos (by rfl)]
            simp only [h1']
            gi_wp2_with fail
            refine ⟨fun _ => by omega, (HCW.out _).mono ?_⟩
            rintro e X' ⟨rfl, hb⟩
            exact hK _ _ ⟨_, by simp [ri.upd, h1'], HN.out _ hb⟩
          | 3, ho =>
            cases ho
            have d2 : D 2 := hall { on := 2, ground := Ground.data } (by simp) rfl
            have h2' : f 2 = .string x := hJ.2.2.1 d2
            have hn4 : ¬ D 4 := fun h => hni (hcl 4 _ h rfl { on := 3, ground := Ground.data } (by simp) rfl)
            have hn5 : ¬ D 5 := fun h => hn4 (h54 h)
            have HN : Hid (J6 W1 (w.heap.size + 1 + 1 + 1 + 1 + 1 + 1) (w.heap.size + 1 + 1) (.slice av A cv) pre x (fun j => j = 3 ∨ D j) (ri.upd f 3 (.slice (some ⟨X.heap.size, 0, none⟩) 1 1)) (X.alloc (.cells #[.string x] 9))) := hJ.early hn4 hn5 3 _ (.inr (.inr (.inr ⟨rfl, _, rfl, (bx_new X (.string x) 9).1⟩))) ((Below.refl _ _).alloc (Nat.le_refl _) _)
            clear hJ hall hcl hni h54
            refine wpOpIn_step rfl (fun K' hK => ?_)
            rw [if_pos (by rfl)]
            simp only [h2']
            gi_wp2_with fail
            exact ⟨_, by simp [ri.upd, h2'], HN.out⟩
          | 4, ho =>
            cases ho
            have d0 : D 0 := hall { on := 0, ground := Ground.data } (by simp) rfl
            have d3 : D 3 := hall { on := 3, ground := Ground.data } (by simp) rfl
            have h0' : f 0 = .slice av A cv := hJ.1 d0
            have hn5 : ¬ D 5 := fun h => hni (h54 h)
            have hbx := hJ.2.2.2.1 hni
            obtain ⟨g, hg3, hgc⟩ := hJ.2.2.2.2.1 d3 hni
            have hownX := ow.own_below HOW1.out hbx
            have hszX := hbx.size
            refine wpOpIn_step rfl (fun K' hK => ?_)
            rw [if_pos (by rfl)]
            refine wpIn_append X _ _ 25 rfl (w.heap.size + 1 + 1 + 1 + 1 + 1 + 1) 9 i0 (.string ByteArray.empty) 1 16 Tryd.underlying25 hi hz0 hz1 hz2 rfl (by decide) (.slice av A cv) A (pre.map Value.string) h0' hownX ⟨g, 0, none⟩ 1 1 [.string x] hg3 rfl (fun j u hj => by
              match j, hj with
              | 0, hj => simp at hj; subst hj; rw [ow.add_at]; exact hgc
              | j + 1, hj => simp at hj) (by intro u hu; simp at hu; subst hu; rfl) (by unfold maxLen; omega) (by omega) (by omega) (fun v' X' hown' hgr' => hK _ _ ⟨v', by simp [ri.upd, Act.put], ?_⟩)
            obtain ⟨j0, j1, j2, j3, j4, j5, j6⟩ := hJ
            refine ⟨fun d => by rw [ri.upd_other _ _ _ (by decide)]; exact j0 (d.resolve_left (by decide)), fun d => by rw [ri.upd_other _ _ _ (by decide)]; exact j1 (d.resolve_left (by decide)), fun d => by rw [ri.upd_other _ _ _ (by decide)]; exact j2 (d.resolve_left (by decide)), fun h => absurd (.inl rfl) h, fun _ h => absurd (.inl rfl) h, fun _ _ => ?_, fun d => absurd (d.resolve_left (by decide)) hn5⟩
            rw [ri.upd_same]
            refine ⟨X, hbx, hgr', ?_⟩
            rw [List.map_append, List.length_append, ← HA.out]
            exact hown'
          | 5, ho =>
            cases ho
            have d4 : D 4 := hall { on := 4, ground := Ground.data } (by simp) rfl
            obtain ⟨j0, j1, j2, j3, j4, j5, j6⟩ := hJ
            obtain ⟨X1, p1, p2, p3⟩ := j5 d4 hni
            have hltv := ow.own_lt HOW1.out
            have hblk : X.heap[w.heap.size + 1 + 1]? = W1.heap[w.heap.size + 1 + 1]? := (p2.block _ (by have := p1.size; omega) (fun e => by have := hltv _ e.symm; omega)).trans (p1.block _ hlb)
            have cX : X.cell? ⟨w.heap.size + 1 + 1, 0, none⟩ = some (.slice av A cv) := (World.cell?_of_block hblk).trans c2'
            have eX : X.frozen? ⟨w.heap.size + 1 + 1, 0, none⟩ = false := (World.frozen?_of_block hblk).trans e2'
            obtain ⟨a4, k4, q4, h4'⟩ : ∃ a k c, f 4 = .slice a k c := by
              rcases p3.2 with ⟨e, h0⟩ | ⟨g, cap, cur, e, _⟩
              · exact ⟨none, 0, 0, e⟩
              · exact ⟨_, _, cap, e⟩
            have HN : Hid (J6 W1 (w.heap.size + 1 + 1 + 1 + 1 + 1 + 1) (w.heap.size + 1 + 1) (.slice av A cv) pre x (fun j => j = 5 ∨ D j) (ri.upd f 5 undef) (X.setCell ⟨w.heap.size + 1 + 1, 0, none⟩ (.slice a4 k4 q4))) := by
              refine ⟨fun d => by rw [ri.upd_other _ _ _ (by decide)]; exact j0 (d.resolve_left (by decide)), fun d => by rw [ri.upd_other _ _ _ (by decide)]; exact j1 (d.resolve_left (by decide)), fun d => by rw [ri.upd_other _ _ _ (by decide)]; exact j2 (d.resolve_left (by decide)), fun h => absurd (.inr d4) h, fun _ h => absurd (.inr d4) h, fun _ h => absurd (.inl rfl) h, fun _ => ⟨f 4, X, ⟨X1, p1, p2, p3⟩, by rw [h4']⟩⟩
            clear j0 j1 j2 j3 j4 j5 j6 p1 p2 p3 hall hcl hni h54 hblk
            refine wpOpIn_step rfl (fun K' hK => ?_)
            rw [if_pos (by rfl)]
            simp only [h4']
            gi_wp2_with fail
            exact ⟨undef, by simp [ri.upd, h4'], HN.out⟩
          | k + 6, ho => simp at ho
        · intro D f X hD hJ
          have hp := hJ.2.2.2.2.2.2 (hD 5 (by decide))
          have HZ := on_end HI.out HC2.out (by rw [← HA.out]; exact HOW.out) HB1.out hp (HGX.out trivial) (by rw [List.length_append, ← HA.out]; show A + 1 ≤ 30; omega)
          exact HZ
  case seq =>
    intro l J Jx W hJI hJs hS hY h0
    refine split_one F (n - 1) hF4 hF5 hro (by omega) l _ _ _ q (by omega) J Jx (fun pre W hJ => ⟨(hJI _ _ hJ).1.1.2.2.1, (hJI _ _ hJ).1.1.2.2.2⟩) (fun pre W t hJ ht => HIX.out _ _ (HM.out _ (hJI _ _ hJ).2.1.1) ht) (fun pre W v hJ => hJs _ _ _ hJ ?_) (fun pre x W1 hp hJ => hY pre x W1 ⟨hp, ?_⟩ hJ) W (hS.1.trans k3.1) (hS.2.trans k3.2) h0
    · obtain ⟨⟨h1, v, h2, h3⟩, ⟨h4, h5⟩, h6⟩ := hJI _ _ hJ
      refine ⟨⟨cl_keep h1 (fun j h7 h8 h9 h10 => Below.heap_setCell _ _ _ _ (by simp; omega)), v, ⟨(World.cell?_setCell_other _ _ _ _ (by simp)).trans h2.1, by rw [World.frozen?_setCell]; exact h2.2⟩, ownsRow_setCell_below h3 (by simp) _⟩, ⟨h4.setCell (p := ⟨w.heap.size + 1 + 1 + 1, 0, none⟩) (by simp; omega) _, by simpa [World.setCell] using h5⟩, h6⟩
    · exact pf_small hp (by omega)
  case done =>
    rintro D ys W hD hy ⟨⟨⟨h1, h2, _⟩, v, h3, h4⟩, ⟨h5, h8⟩, h6, h7⟩ hK
    obtain ⟨h1a, h1b⟩ := h1
    obtain ⟨h2a, h2b⟩ := h2
    obtain ⟨h3a, h3b⟩ := h3
    have hf : LR s = (ls ys, 0) := by rw [HR.out, pf_end hy h6 h7, hy]
    have HF : Hid (LR s = (ls ys, 0)) := hf
    clear hf
    obtain ⟨av, cv, hv⟩ : ∃ a c, v = .slice a ys.length c := by
      rcases h4.2 with ⟨e, h0⟩ | ⟨g, cap, cur, e, _⟩
      · exact ⟨none, 0, by rw [e, h0]⟩
      · exact ⟨_, cap, e⟩
    subst hv
    have hb : (Value.slice av ys.length cv).ownBlock ≠ some w.heap.size := fun e => by have := ow.own_lt h4 _ e; omega
    have hb2 : (Value.slice av ys.length cv).ownBlock ≠ some (w.heap.size + 1) := fun e => by have := ow.own_lt h4 _ e; omega
    have HO : Hid (((W.setCell ⟨w.heap.size, 0, none⟩ (.slice av ys.length cv)).setCell ⟨w.heap.size + 1, 0, none⟩ (.int .i64 0)).ownsRow w.heap.size 9 1 (.slice av ys.length cv) (ls ys).length ((ls ys).map tv)) := by
      rw [tv_ls, show (ls ys).length = ys.length from by simp [ls]]
      exact ow.own_base (ownsRow_setCell_other (ownsRow_setCell_other h4 hb _) hb2 _) (by omega)
    have HB : Hid (Below w.heap.size w ((W.setCell ⟨w.heap.size, 0, none⟩ (.slice av ys.length cv)).setCell ⟨w.heap.size + 1, 0, none⟩ (.int .i64 0))) := (h5.setCell (p := ⟨w.heap.size, 0, none⟩) (Nat.le_refl _) _).setCell (p := ⟨w.heap.size + 1, 0, none⟩) (by simp) _
    have hDk : ((W.setCell ⟨w.heap.size, 0, none⟩ (.slice av ys.length cv)).setCell ⟨w.heap.size + 1, 0, none⟩ (.int .i64 0)).heap[D]? = some (.deferred (some [])) := ((Below.heap_setCell _ _ _ _ (by simp; omega)).trans (Below.heap_setCell _ _ _ _ (by simp; omega))).trans hK
    clear h4 h5 h6 h7 hb hb2 hy
    have CX1 : ((W.setCell ⟨w.heap.size, 0, none⟩ (.slice av ys.length cv)).setCell ⟨w.heap.size + 1, 0, none⟩ (.int .i64 0)).cell? ⟨w.heap.size + 1, 0, none⟩ = some (.int .i64 0) := World.cell?_setCell_same' _ _ _ (by rw [World.cell?_setCell_other _ _ _ _ (by simp), h2a]; rfl)
    have CX0 : ((W.setCell ⟨w.heap.size, 0, none⟩ (.slice av ys.length cv)).setCell ⟨w.heap.size + 1, 0, none⟩ (.int .i64 0)).cell? ⟨w.heap.size, 0, none⟩ = some (.slice av ys.length cv) := (World.cell?_setCell_other _ _ _ _ (by simp)).trans (World.cell?_setCell_same' _ _ _ (by rw [h1a]; rfl))
    gi_wp2
    generalize (W.setCell _ _).setCell _ _ = X at HO HB hDk CX0 CX1 ⊢
    refine ⟨by simp, .inl ⟨_, _, rfl, run_takeDeferred hDk, ?_⟩⟩
    exact ⟨_, results_lw rfl rfl ((World.cell?_of_block (World.putObj_heap_other (by show w.heap.size ≠ D; omega))).trans CX0) ((World.cell?_of_block (World.putObj_heap_other (by show w.heap.size + 1 ≠ D; omega))).trans CX1), ⟨_, by rw [HF.out], by rw [HF.out]; exact own_put HO.out hDk⟩, HB.out.trans (belowK_b (w := w) (Nat.le_refl _) X D _ _ (by omega) hDk rfl rfl)⟩
  case stop =>
    rintro D W hD ⟨⟨h1, h2⟩, h3, h4⟩ hK
    have HF : Hid (LR s = ([], 3)) := h3
    clear h3
    gi_wp2
    refine ⟨by simp, .inl ⟨_, _, rfl, run_takeDeferred hK, ?_⟩⟩
    exact ⟨_, results_lw rfl rfl ((World.cell?_of_block (World.putObj_heap_other (by show w.heap.size ≠ D; omega))).trans h1) ((World.cell?_of_block (World.putObj_heap_other (by show w.heap.size + 1 ≠ D; omega))).trans h2), ⟨_, by rw [HF.out], by rw [HF.out]; exact World.ownsRow_nil _ _ _ _⟩, h4.trans (belowK_b (w := w) (Nat.le_refl _) W D _ _ (by omega) hK rfl rfl)⟩
end Go.Proofs.YtakdpicjkbfpiaaDoor.lw
