/-
  Items that are added to a box: what comes of it, plainly; what lies in the world while they are added.
-/
import Derived.Test.YtncnbhekgkemfaaGreatDoorPkax

namespace Go.Proofs.YtncnbhekgkemfaaGreatDoor.wi
open Go.ChangeShapes Go.WideShapes Go.ChangeAt Go.RowKit Go.Deep Go.Joins
open st gr bx mx bl
set_option linter.unusedVariables false

/-- A key is among those. -/
def hasK (ks : List ByteArray) (x : ByteArray) : Bool := ks.any (fun k => @decide (k = x) (ow.decB k x))
theorem hasK_iff (ks : List ByteArray) (x : ByteArray) : hasK ks x = true ↔ ∃ j, j < ks.length ∧ ks.getD j ky.nt = x := by
  unfold hasK
  rw [List.any_eq_true]
  constructor
  · rintro ⟨k, hk, h⟩
    obtain ⟨j, hj, e⟩ := List.getElem_of_mem hk
    exact ⟨j, hj, by rw [List.getD_eq_getElem?_getD, List.getElem?_eq_getElem hj]; exact e.trans (ow.dof h)⟩
  · rintro ⟨j, hj, e⟩
    rw [List.getD_eq_getElem?_getD, List.getElem?_eq_getElem hj] at e
    exact ⟨ks[j], List.getElem_mem hj, ow.dt e⟩
/-- A box with one item more. -/
def addI (b : Bx) (i : it.Pr) : Bx := ⟨b.nm, b.vd, b.nx + 1, b.ms ++ [⟨b.nx, 0, i.2⟩], b.ks ++ [i.1]⟩
/-- What adding items comes to. -/
def add : Bx → List it.Pr → Bx × Int
  | b, [] => (b, 0)
  | b, i :: r => if hasK b.ks i.1 = true then (B0, 9) else if b.ks.length = 60 then (B0, 17) else if b.ms.length = 30 then (B0, 7) else add (addI b i) r
theorem drop_at {ps : List it.Pr} {k : Nat} (h : k < ps.length) : ps.drop k = ps.getD k it.no :: ps.drop (k + 1) := by
  rw [List.getD_eq_getElem?_getD, List.getElem?_eq_getElem h]
  exact List.drop_eq_getElem_cons h

/-- Items that lie below the call's own memory. -/
def ItemsIn (w : World) (N : Nat) (v : Value) (ps : List it.Pr) : Prop :=
  ∃ a cap, v = .slice a ps.length cap ∧ (ps = [] ∨ ∃ b off, a = some ⟨b, off, none⟩ ∧ b < N ∧ ∀ j, j < ps.length → w.cell? ⟨b, off + j * 2, none⟩ = some (.string (ps.getD j it.no).1) ∧ w.cell? ⟨b, off + j * 2 + 1, none⟩ = some (.string (ps.getD j it.no).2))
theorem items_below {w w' : World} {N B : Nat} {v : Value} {ps : List it.Pr} (h : ItemsIn w N v ps) (hb : Below B w w') (hN : N ≤ B) : ItemsIn w' N v ps := by
  obtain ⟨a, cap, rfl, h⟩ := h
  refine ⟨a, cap, rfl, ?_⟩
  rcases h with h | ⟨b, off, rfl, hbN, h⟩
  · exact .inl h
  · refine .inr ⟨b, off, rfl, hbN, fun j hj => ?_⟩
    obtain ⟨h0, h1⟩ := h j hj
    exact ⟨(hb.cell (p := ⟨b, off + j * 2, none⟩) (Nat.lt_of_lt_of_le hbN hN)).trans h0, (hb.cell (p := ⟨b, off + j * 2 + 1, none⟩) (Nat.lt_of_lt_of_le hbN hN)).trans h1⟩

/-- Items that lie below the call's own memory, or in a block of items. -/
def ItemsBy (w : World) (N : Nat) (v : Value) (ps : List it.Pr) : Prop :=
  ∃ a cap, v = .slice a ps.length cap ∧ (ps = [] ∨ ∃ b off, a = some ⟨b, off, none⟩ ∧ (b < N ∨ ∃ cs fr, w.heap[b]? = some (.cells cs 136 fr)) ∧ ∀ j, j < ps.length → w.cell? ⟨b, off + j * 2, none⟩ = some (.string (ps.getD j it.no).1) ∧ w.cell? ⟨b, off + j * 2 + 1, none⟩ = some (.string (ps.getD j it.no).2))
theorem by_in {w : World} {N : Nat} {v : Value} {ps : List it.Pr} (h : ItemsIn w N v ps) : ItemsBy w N v ps := by
  obtain ⟨a, cap, rfl, h⟩ := h
  refine ⟨a, cap, rfl, ?_⟩
  rcases h with h | ⟨b, off, rfl, hbN, h⟩
  · exact .inl h
  · exact .inr ⟨b, off, rfl, .inl hbN, h⟩
theorem by_keep {w w' : World} {N : Nat} {v : Value} {ps : List it.Pr} (h : ItemsBy w N v ps) (hb : Below w.heap.size w w') : ItemsBy w' N v ps := by
  obtain ⟨a, cap, rfl, h⟩ := h
  refine ⟨a, cap, rfl, ?_⟩
  rcases h with h | ⟨b, off, rfl, hbN, h⟩
  · exact .inl h
  · refine .inr ⟨b, off, rfl, ?_, fun j hj => ?_⟩
    · rcases hbN with hbN | ⟨cs, fr, hh⟩
      · exact .inl hbN
      · exact .inr ⟨cs, fr, (hb.block b (Array.getElem?_eq_some_iff.1 hh).1).trans hh⟩
    · obtain ⟨h0, h1⟩ := h j hj
      exact ⟨(hb.cell (p := ⟨b, off + j * 2, none⟩) (World.block_lt_of_cell? w _ h0)).trans h0, (hb.cell (p := ⟨b, off + j * 2 + 1, none⟩) (World.block_lt_of_cell? w _ h1)).trans h1⟩
theorem block_kind {w : World} {base e s n b : Nat} {v : Value} {xs : List Value} {cs : Array Value} {t : TypeId} {fr : Nat × Nat} (h : w.ownsRow base e s v n xs) (hh : w.heap[b]? = some (.cells cs t fr)) (hne : t ≠ e) : some b ≠ v.ownBlock := by
  intro e1
  rcases h.2 with ⟨rfl, _⟩ | ⟨g, cap, cur, rfl, _, hg, _⟩
  · cases e1
  · have : b = g := by simpa [Value.ownBlock] using e1
    subst this
    rw [hh] at hg
    cases hg
    exact hne rfl
/-- They stand where nothing but two rows of other kinds was written. -/
theorem by_gr2 {w x : World} {base N : Nat} {p q iv : Value} {ms : List St} {ks : List ByteArray} {ps : List it.Pr} (h : ItemsBy w N iv ps) (hN : N ≤ base) (hm : OwnM w base p ms) (hk : OwnK w base q ks) (hg : Gr2 w x p.ownBlock q.ownBlock) : it.AttrsAt x iv ps := by
  obtain ⟨a, cap, rfl, h⟩ := h
  refine ⟨a, cap, rfl, ?_⟩
  rcases h with h | ⟨b, off, rfl, hbN, h⟩
  · exact .inl h
  · refine .inr ⟨b, off, rfl, fun j hj => ?_⟩
    obtain ⟨h0, h1⟩ := h j hj
    have hlt := World.block_lt_of_cell? w _ h0
    have hne : some b ≠ p.ownBlock ∧ some b ≠ q.ownBlock := by
      rcases hbN with hbN | ⟨cs, fr, hh⟩
      · exact ⟨fun e => by have := (hm.lt b e.symm).1; omega, fun e => by have := (hk.lt b e.symm).1; omega⟩
      · exact ⟨block_kind hm hh (by decide), block_kind hk hh (by decide)⟩
    have hbk := hg.block b hlt (fun e => hne.1 e.symm) (fun e => hne.2 e.symm)
    simp only [World.cell?] at h0 h1 ⊢
    rw [hbk]
    exact ⟨h0, h1⟩

theorem ownK_texts {w : World} {base : Nat} {v : Value} {ks : List ByteArray} (h : OwnK w base v ks) : tx.TextsIn w w.heap.size v ks := by
  rcases h.2 with ⟨rfl, h0⟩ | ⟨g, cap, cur, rfl, _, hb, _⟩
  · have : ks = [] := List.eq_nil_of_length_eq_zero h0
    subst this
    exact ⟨none, 0, rfl, .inl rfl⟩
  · refine ⟨_, cap, rfl, .inr ⟨g, 0, rfl, (Array.getElem?_eq_some_iff.1 hb).1, fun j hj => ?_⟩⟩
    rw [Nat.zero_add, h.cellAt j (by omega)]
    simp [List.getD_eq_getElem?_getD, hj]

theorem gr2_here {w x y : World} {p q : Option Nat} {qv u : Value} (h : Gr2 w x p q) (hg : x.grownBy y u.ownBlock) (hq : q = qv.ownBlock) (hh : Here w.heap.size qv u) : Gr2 w y p q := by
  refine ⟨hg.os.trans h.os, hg.tape.trans h.tape, hg.output.trans h.output, Nat.le_trans h.size hg.size, fun k hk h1 h2 => ?_⟩
  rw [hg.block k (Nat.lt_of_lt_of_le hk h.size) ?_]
  · exact h.block k hk h1 h2
  · intro e
    rcases hh with hh | hh
    · exact h2 (by rw [hq, ← hh]; exact e.symm)
    · have := hh k e.symm
      omega
theorem gr2_here' {w x y : World} {p q : Option Nat} {pv v : Value} (h : Gr2 w x p q) (hg : x.grownBy y v.ownBlock) (hp : p = pv.ownBlock) (hh : Here w.heap.size pv v) : Gr2 w y p q := by
  refine ⟨hg.os.trans h.os, hg.tape.trans h.tape, hg.output.trans h.output, Nat.le_trans h.size hg.size, fun k hk h1 h2 => ?_⟩
  rw [hg.block k (Nat.lt_of_lt_of_le hk h.size) ?_]
  · exact h.block k hk h1 h2
  · intro e
    rcases hh with hh | hh
    · exact h1 (by rw [hp, ← hh]; exact e.symm)
    · have := hh k e.symm
      omega
theorem gr2_cell {w x : World} {p q : Option Nat} (h : Gr2 w x p q) {S j : Nat} (hS : w.heap.size ≤ S) (y : Value) : Gr2 w (x.setCell ⟨S, j, none⟩ y) p q := by
  have hg := mk.grown_set x S j y
  refine ⟨hg.os.trans h.os, hg.tape.trans h.tape, hg.output.trans h.output, Nat.le_trans h.size hg.size, fun k hk h1 h2 => ?_⟩
  rw [hg.block k (Nat.lt_of_lt_of_le hk h.size) (by intro e; cases e; omega)]
  exact h.block k hk h1 h2

theorem mc_app : ∀ (a b : List St), mc (a ++ b) = mc a ++ mc b
  | [], b => rfl
  | x :: a, b => by rw [List.cons_append, mc, mc, mc_app a b]; rfl
/-- While items are added: the box's variable, the result's, the rows as they are and as they were. -/
structure Stt (w : World) (base : Nat) (b : Bx) (p q : Value) (y : Bx) (v u : Value) (x : World) : Prop where
  lies : Lies x w.heap.size 99 y v u
  res : Lies x (w.heap.size + 1) 99 B0 (.slice none 0 0) (.slice none 0 0)
  om : OwnM x base v y.ms
  ok : OwnK x base u y.ks
  om0 : OwnM x base p b.ms
  ok0 : OwnK x base q b.ks
  hv : Here w.heap.size p v
  hu : Here w.heap.size q u
  gr : Gr2 w x p.ownBlock q.ownBlock
  mm : ∃ m', y.ms = b.ms ++ m'
  kk : ∃ k', y.ks = b.ks ++ k'
section
variable {w x x' : World} {base : Nat} {b y : Bx} {p q v u : Value}
theorem Stt.below (h : Stt w base b p q y v u x) (hb : Below x.heap.size x x') : Stt w base b p q y v u x' :=
  ⟨h.lies.keep hb, h.res.keep hb, ow.own_below h.om hb, ow.own_below h.ok hb, ow.own_below h.om0 hb, ow.own_below h.ok0 hb, h.hv, h.hu, h.gr.trans (gr2_below hb _ _), h.mm, h.kk⟩
/-- A block that is no row's and no variable's. -/
theorem Stt.other (h : Stt w base b p q y v u x) {c : Nat} (hg : x.grownBy x' (some c)) (hc : w.heap.size + 2 ≤ c) (hn : ∀ cs e t, x.heap[c]? ≠ some (.cells cs e t)) : Stt w base b p q y v u x' := by
  have row : ∀ {e s n : Nat} {r : Value} {xs : List Value}, x.ownsRow base e s r n xs → x'.ownsRow base e s r n xs := fun {e s n r xs} ho => by
    refine ho.kept hg ?_
    rcases ho.2 with ⟨rfl, _⟩ | ⟨g, cap, cur, rfl, _, hb, _⟩
    · exact .inl rfl
    · right
      intro e1
      have : g = c := by simpa [Value.ownBlock] using e1
      subst this
      exact hn _ _ _ hb
  refine ⟨(hg.block _ h.lies.lt (by intro e; cases e; omega)).trans h.lies, (hg.block _ h.res.lt (by intro e; cases e; omega)).trans h.res, row h.om, row h.ok, row h.om0, row h.ok0, h.hv, h.hu, ?_, h.mm, h.kk⟩
  refine ⟨hg.os.trans h.gr.os, hg.tape.trans h.gr.tape, hg.output.trans h.gr.output, Nat.le_trans h.gr.size hg.size, fun k hk h1 h2 => ?_⟩
  rw [hg.block k (Nat.lt_of_lt_of_le hk h.gr.size) (by intro e; cases e; omega)]
  exact h.gr.block k hk h1 h2
/-- A cell of the box's variable. -/
theorem Stt.rows (h : Stt w base b p q y v u x) (j : Nat) (z : Value) : OwnM (x.setCell ⟨w.heap.size, j, none⟩ z) base v y.ms ∧ OwnK (x.setCell ⟨w.heap.size, j, none⟩ z) base u y.ks ∧ OwnM (x.setCell ⟨w.heap.size, j, none⟩ z) base p b.ms ∧ OwnK (x.setCell ⟨w.heap.size, j, none⟩ z) base q b.ks :=
  ⟨own_var h.om h.lies (by decide), own_var h.ok h.lies (by decide), own_var h.om0 h.lies (by decide), own_var h.ok0 h.lies (by decide)⟩
theorem Stt.next (h : Stt w base b p q y v u x) : Stt w base b p q ⟨y.nm, y.vd, y.nx + 1, y.ms, y.ks⟩ v u (x.setCell ⟨w.heap.size, 2, none⟩ (.int .i64 (y.nx + 1))) :=
  ⟨heap_setCell_same _ _ 2 _ _ _ h.lies, h.res.other (by omega), (h.rows 2 _).1, (h.rows 2 _).2.1, (h.rows 2 _).2.2.1, (h.rows 2 _).2.2.2, h.hv, h.hu, gr2_cell h.gr (Nat.le_refl _) _, h.mm, h.kk⟩
/-- A key more. -/
theorem Stt.keys {Q : rf.Q} {X : ByteArray} {u' : Value} {x2 : World} (h : Stt w base b p q y v u x) (hW : Q.W1 = x) (hb : Q.base = base) (he : Q.e = 9) (hs : Q.s = 1) (h0 : Q.v0 = u) (hn : Q.n = y.ks.length) (hx : Q.xs = y.ks.map Value.string) (hnew : Q.news = [.string X]) (hm : rf.Mid Q u' x2) : Stt w base b p q ⟨y.nm, y.vd, y.nx, y.ms, y.ks ++ [X]⟩ v u' (x2.setCell ⟨w.heap.size, 4, none⟩ u') := by
  obtain ⟨x1, hb1, hg, ho, hk, ho2⟩ := hm
  rw [hW] at hb1
  rw [hb, he, hs, hn, hx, hnew] at ho
  rw [hb, he, hs, h0, hn, hx] at ho2
  rw [h0] at hg hk
  have h1 := h.below hb1
  obtain ⟨k', hk'⟩ := h.kk
  have ho3 : OwnK x2 base u' (y.ks ++ [X]) := by
    unfold OwnK
    rw [List.map_append, List.length_append]
    exact ho
  have ok2 : OwnK x2 base u y.ks := ho2
  have L2 : Lies x2 w.heap.size 99 y v u := lies_row h1.lies h1.ok hg (by decide)
  have R2 : Lies x2 (w.heap.size + 1) 99 B0 (.slice none 0 0) (.slice none 0 0) := lies_row h1.res h1.ok hg (by decide)
  have om2 : OwnM x2 base v y.ms := row_other h1.om hg (rowkinds h1.om h1.ok (by decide))
  have om02 : OwnM x2 base p b.ms := row_other h1.om0 hg (rowkinds h1.om0 h1.ok (by decide))
  have ok02 : OwnK x2 base q b.ks := by
    have e1 : y.ks.length = b.ks.length + k'.length := by rw [hk', List.length_append]
    have e2 : y.ks.map Value.string = b.ks.map Value.string ++ k'.map Value.string := by rw [hk', List.map_append]
    have a1 := h1.ok
    unfold OwnK at a1 ok2
    rw [e1, e2] at a1 ok2
    exact apk.first_keep h1.ok0 a1 hg ok2 (by decide)
  have hu2 : Here w.heap.size q u' := by
    rcases hk with hk | hk
    · rcases h.hu with hh | hh
      · exact .inl (hk.trans hh)
      · exact .inr fun g e => hh g (by rw [← hk]; exact e)
    · refine .inr fun g e => ?_
      rw [hk] at e
      cases e
      exact h1.gr.size
  exact ⟨L2.put4 _, R2.other (by omega), own_var om2 L2 (by decide), own_var ho3 L2 (by decide), own_var om02 L2 (by decide), own_var ok02 L2 (by decide), h.hv, hu2, gr2_cell (gr2_here h1.gr hg rfl h.hu) (Nat.le_refl _) _, h.mm, ⟨k' ++ [X], by rw [hk', List.append_assoc]⟩⟩
/-- A mail more. -/
theorem Stt.mails {Q : rf.Q} {m : St} {v' : Value} {x2 : World} (h : Stt w base b p q y v u x) (hW : Q.W1 = x) (hb : Q.base = base) (he : Q.e = 110) (hs : Q.s = 3) (h0 : Q.v0 = v) (hn : Q.n = y.ms.length) (hx : Q.xs = mc y.ms) (hnew : Q.news = mc [m]) (hm : rf.Mid Q v' x2) : Stt w base b p q ⟨y.nm, y.vd, y.nx, y.ms ++ [m], y.ks⟩ v' u (x2.setCell ⟨w.heap.size, 3, none⟩ v') := by
  obtain ⟨x1, hb1, hg, ho, hk, ho2⟩ := hm
  rw [hW] at hb1
  rw [hb, he, hs, hn, hx, hnew] at ho
  rw [hb, he, hs, h0, hn, hx] at ho2
  rw [h0] at hg hk
  have h1 := h.below hb1
  obtain ⟨m', hm'⟩ := h.mm
  have ho3 : OwnM x2 base v' (y.ms ++ [m]) := by
    unfold OwnM
    rw [mc_app, List.length_append]
    exact ho
  have om2 : OwnM x2 base v y.ms := ho2
  have L2 : Lies x2 w.heap.size 99 y v u := lies_row h1.lies h1.om hg (by decide)
  have R2 : Lies x2 (w.heap.size + 1) 99 B0 (.slice none 0 0) (.slice none 0 0) := lies_row h1.res h1.om hg (by decide)
  have ok2 : OwnK x2 base u y.ks := row_other h1.ok hg (rowkinds h1.ok h1.om (by decide))
  have ok02 : OwnK x2 base q b.ks := row_other h1.ok0 hg (rowkinds h1.ok0 h1.om (by decide))
  have om02 : OwnM x2 base p b.ms := by
    have e1 : y.ms.length = b.ms.length + m'.length := by rw [hm', List.length_append]
    have e2 : mc y.ms = mc b.ms ++ mc m' := by rw [hm', mc_app]
    have a1 := h1.om
    unfold OwnM at a1 om2
    rw [e1, e2] at a1 om2
    exact apk.first_keep h1.om0 a1 hg om2 (by decide)
  have hv2 : Here w.heap.size p v' := by
    rcases hk with hk | hk
    · rcases h.hv with hh | hh
      · exact .inl (hk.trans hh)
      · exact .inr fun g e => hh g (by rw [← hk]; exact e)
    · refine .inr fun g e => ?_
      rw [hk] at e
      cases e
      exact h1.gr.size
  exact ⟨L2.put3 _, R2.other (by omega), own_var ho3 L2 (by decide), own_var ok2 L2 (by decide), own_var om02 L2 (by decide), own_var ok02 L2 (by decide), hv2, h.hu, gr2_cell (gr2_here' h1.gr hg rfl h.hv) (Nat.le_refl _) _, ⟨m' ++ [m], by rw [hm', List.append_assoc]⟩, h.kk⟩
end
end Go.Proofs.YtncnbhekgkemfaaGreatDoor.wi
