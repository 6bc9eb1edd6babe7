/-
  The arms of flags and of what goes, as impl.mutated takes them.
  A region that draws its order and appends one element to a row that a field of a variable holds: what has come up of it.
  A book of keys, with what stands at a key: not 0 just at those that it was taught.
  Items that are added to a box: what comes of it, plainly; what lies in the world while they are added.
-/
import Derived.Test.YtinnnfkhiigjpaaGreatPkao
import Derived.Test.YtinnnfkhiigjpaaGreatPkag
import Derived.Test.YtinnnfkhiigjpaaGreatPkaa
import Derived.Below
import Derived.WalkKit
import Derived.Test.YtinnnfkhiigjpaaGreatPkaf

namespace Go.Proofs.YtinnnfkhiigjpaaGreat.bl
open Go.ChangeShapes Go.WideShapes Go.ChangeAt Go.RowKit Go.Deep Go.Joins
open st gr bx mx
set_option linter.unusedVariables false

theorem arm_flags (y : Bx) (p q : Value) (m : mu.Mu) (iv : Value) (base : Nat) (X : World) (hm : OwnM X base p y.ms) (hk : OwnK X base q y.ks) (hiv : ∃ a n c, iv = .slice a n c) (hl : y.ms.length ≤ 30) (hr : Rising y.ms) (hmo : m.m = 1 ∨ m.m = 2 ∨ m.m = 3) (hmk : m.k = 3) :
    Calls Tryz.prog 47 #[BV y p q, mu.MV m iv] X (Arm base y p q (Wf y m) X) := by
  obtain ⟨pa, pn, pc, rfl⟩ := slice_fine (own_fine hm)
  obtain ⟨qa, qn, qc, rfl⟩ := slice_fine (own_fine hk)
  refine (mutated_flags y _ _ m iv base X hm hk hiv hl hr hmo hmk).mono ?_
  rintro e X' ⟨⟨y', rfl, hw, h1, h2⟩ | ⟨rfl, hw, h1, h2⟩, hg⟩
  · exact ⟨y', 0, pa, pn, pc, qa, qn, qc, rfl, hw, fun _ => ⟨h1, h2, .inl rfl, .inl rfl⟩, fun e => absurd rfl e, gr2_left hg _⟩
  · exact ⟨B0, 17, none, 0, 0, none, 0, 0, rfl, hw, fun e => absurd e (by decide), fun _ => ⟨h1, h2⟩, gr2_left hg _⟩
theorem arm_gone (y : Bx) (p q : Value) (m : mu.Mu) (iv : Value) (base : Nat) (X : World) (hm : OwnM X base p y.ms) (hk : OwnK X base q y.ks) (hb : base ≤ X.heap.size) (hiv : ∃ a n c, iv = .slice a n c) (hl : y.ms.length ≤ 30) (hmk : m.k = 4) :
    Calls Tryz.prog 47 #[BV y p q, mu.MV m iv] X (Arm base y p q (fun y' c => c = 0 ∧ y' = ⟨y.nm, y.vd, y.nx, kept y.ms, y.ks⟩) X) := by
  obtain ⟨pa, pn, pc, rfl⟩ := slice_fine (own_fine hm)
  obtain ⟨qa, qn, qc, rfl⟩ := slice_fine (own_fine hk)
  refine (mutated_gone y _ _ m iv base X hm hk hb hiv hl hmk).mono ?_
  rintro e X' ⟨⟨v', rfl, h1, h2, h3⟩, hg⟩
  obtain ⟨va, vn, vc, rfl⟩ := slice_fine (own_fine h1)
  exact ⟨⟨y.nm, y.vd, y.nx, kept y.ms, y.ks⟩, 0, va, vn, vc, qa, qn, qc, rfl, ⟨rfl, rfl⟩, fun _ => ⟨h1, h2, .inl h3, .inl rfl⟩, fun e => absurd rfl e, gr2_left hg _⟩
/-- The list, where a mail's flags change. -/
theorem imp_flags (L : Value) (base : Nat) (xs : List Bx) (us : Nat → Value × Value) (m : mu.Mu) (iv : Value) (w : World) (h : OwnL w base L xs us) (hb : base ≤ w.heap.size) (hn : xs.length ≤ 1048576) (hiv : ∃ a n c, iv = .slice a n c) (k : Nat) (hk : k < xs.length) (hp : Plc xs m.b (k : Int)) (hl : (xs.getD k noB).ms.length ≤ 30) (hr : Rising (xs.getD k noB).ms) (hmo : m.m = 1 ∨ m.m = 2 ∨ m.m = 3) (hmk : m.k = 3) :
    Calls Tryz.prog 20 #[L, mu.MV m iv] w fun e w' => ∃ y' c us', e = .returned (.tuple #[L, .int .i64 c]) ∧ Wf (xs.getD k noB) m y' c ∧ (c = 0 → OwnL w' base L (xs.set k y') us') ∧ (c ≠ 0 → OwnL w' base L xs us) ∧ Below base w w' :=
  imp_at L base xs us m iv w h hb hn hiv (by rw [hmk]; decide) k hk hp _ fun X hX => arm_flags _ _ _ m iv base X (ow.own_below (h.2.1 k hk).1 hX) (ow.own_below (h.2.1 k hk).2 hX) hiv hl hr hmo hmk
/-- .. and where mails go. -/
theorem imp_gone (L : Value) (base : Nat) (xs : List Bx) (us : Nat → Value × Value) (m : mu.Mu) (iv : Value) (w : World) (h : OwnL w base L xs us) (hb : base ≤ w.heap.size) (hn : xs.length ≤ 1048576) (hiv : ∃ a n c, iv = .slice a n c) (k : Nat) (hk : k < xs.length) (hp : Plc xs m.b (k : Int)) (hl : (xs.getD k noB).ms.length ≤ 30) (hmk : m.k = 4) :
    Calls Tryz.prog 20 #[L, mu.MV m iv] w fun e w' => ∃ y' c us', e = .returned (.tuple #[L, .int .i64 c]) ∧ (c = 0 ∧ y' = ⟨(xs.getD k noB).nm, (xs.getD k noB).vd, (xs.getD k noB).nx, kept (xs.getD k noB).ms, (xs.getD k noB).ks⟩) ∧ (c = 0 → OwnL w' base L (xs.set k y') us') ∧ (c ≠ 0 → OwnL w' base L xs us) ∧ Below base w w' :=
  imp_at L base xs us m iv w h hb hn hiv (by rw [hmk]; decide) k hk hp _ fun X hX => arm_gone _ _ _ m iv base X (ow.own_below (h.2.1 k hk).1 hX) (ow.own_below (h.2.1 k hk).2 hX) (Nat.le_trans hb hX.size) hiv hl hmk
end Go.Proofs.YtinnnfkhiigjpaaGreat.bl

namespace Go.Proofs.YtinnnfkhiigjpaaGreat.rf
open Go.RowKit
set_option linter.unusedVariables false

structure Q where
  V : Nat → Option Value
  W1 : World
  base : Nat
  e : Nat
  s : Nat
  v0 : Value
  n : Nat
  xs : List Value
  news : List Value
  iB : Nat
  iA : Nat
  iS : Nat
  P : Addr
/-- Behind the append. -/
def Mid (q : Q) (v' : Value) (x : World) : Prop :=
  ∃ x1, Below q.W1.heap.size q.W1 x1 ∧ x1.grownBy x q.v0.ownBlock ∧ x.ownsRow q.base q.e q.s v' (q.n + 1) (q.xs ++ q.news) ∧ (v'.ownBlock = q.v0.ownBlock ∨ v'.ownBlock = some x1.heap.size) ∧ x.ownsRow q.base q.e q.s q.v0 q.n q.xs
def J (q : Q) (D : Nat → Prop) (f : Nat → Value) (x : World) : Prop :=
  (∀ j, D j → ∀ y, q.V j = some y → f j = y) ∧ (¬ D q.iA → Below q.W1.heap.size q.W1 x) ∧
  (D q.iB → ¬ D q.iA → ∃ g, f q.iB = .slice (some ⟨g, 0, none⟩) 1 1 ∧ ∀ j u, q.news[j]? = some u → x.cell? ⟨g, j, none⟩ = some u) ∧
  (D q.iA → ¬ D q.iS → Mid q (f q.iA) x) ∧ (D q.iS → ∃ v' x2, Mid q v' x2 ∧ x = x2.setCell q.P v')
theorem vals {V : Nat → Option Value} {D : Nat → Prop} {f : Nat → Value} {i : Nat} {y : Value} (h : ∀ j, D j → ∀ z, V j = some z → f j = z) (hy : ∀ z, V i = some z → y = z) : ∀ j, (j = i ∨ D j) → ∀ z, V j = some z → rs.upd f i y j = z := by
  intro j hj z hz
  by_cases e : j = i
  · subst e
    rw [rs.upd_same]
    exact hy z hz
  · rw [rs.upd_other f i y e]
    exact h j (hj.resolve_left e) z hz
section
variable {q : Q} {D : Nat → Prop} {f : Nat → Value} {x x' : World} {i : Nat}
theorem J.start (h : Below q.W1.heap.size q.W1 x) : J q (fun _ => False) f x := ⟨fun j hj => hj.elim, fun _ => h, fun d => d.elim, fun d => d.elim, fun d => d.elim⟩
/-- An operation that leaves the world as it was. -/
theorem J.pure (y : Value) (h : J q D f x) (hy : ∀ z, q.V i = some z → y = z) (h1 : q.iB ≠ i) (h2 : q.iA ≠ i) (h3 : q.iS ≠ i) : J q (fun j => j = i ∨ D j) (rs.upd f i y) x := by
  obtain ⟨hv, ha, hb, hc, hd⟩ := h
  refine ⟨vals hv hy, fun n => ha (fun d => n (.inr d)), fun d n => ?_, fun d n => ?_, fun d => hd (d.resolve_left h3)⟩
  · rw [rs.upd_other f i y h1]; exact hb (d.resolve_left h1) (fun d => n (.inr d))
  · rw [rs.upd_other f i y h2]; exact hc (d.resolve_left h2) (fun d => n (.inr d))
/-- One ahead of the append, that makes memory. -/
theorem J.early (y : Value) (h : J q D f x) (hn : ¬ D q.iA) (hs : ¬ D q.iS) (hy : ∀ z, q.V i = some z → y = z) (h1 : q.iB ≠ i) (h2 : q.iA ≠ i) (h3 : q.iS ≠ i) (hbx : Below x.heap.size x x') : J q (fun j => j = i ∨ D j) (rs.upd f i y) x' := by
  obtain ⟨hv, ha, hb, hc, hd⟩ := h
  refine ⟨vals hv hy, fun _ => (ha hn).trans (hbx.mono (ha hn).size), fun d n => ?_, fun d => absurd (d.resolve_left h2) hn, fun d => absurd (d.resolve_left h3) hs⟩
  rw [rs.upd_other f i y h1]
  obtain ⟨g, e, hg⟩ := hb (d.resolve_left h1) hn
  exact ⟨g, e, fun j u hu => (hbx.cell (p := ⟨g, j, none⟩) (World.block_lt_of_cell? x _ (hg j u hu))).trans (hg j u hu)⟩
/-- The slice of the one element. -/
theorem J.build (g : Nat) (h : J q D f x) (hi : i = q.iB) (hn : ¬ D q.iA) (hs : ¬ D q.iS) (hV : q.V q.iB = none) (h2 : q.iA ≠ q.iB) (h3 : q.iS ≠ q.iB) (hbx : Below x.heap.size x x') (hg : ∀ j u, q.news[j]? = some u → x'.cell? ⟨g, j, none⟩ = some u) : J q (fun j => j = i ∨ D j) (rs.upd f i (.slice (some ⟨g, 0, none⟩) 1 1)) x' := by
  subst hi
  obtain ⟨hv, ha, hb, hc, hd⟩ := h
  refine ⟨vals hv (fun z hz => by rw [hV] at hz; cases hz), fun _ => (ha hn).trans (hbx.mono (ha hn).size), fun d n => ?_, fun d => absurd (d.resolve_left h2) hn, fun d => absurd (d.resolve_left h3) hs⟩
  rw [rs.upd_same]
  exact ⟨g, rfl, hg⟩
theorem J.app (v' : Value) (h : J q D f x) (hi : i = q.iA) (hn : ¬ D q.iA) (hs : ¬ D q.iS) (hV : q.V q.iA = none) (h3 : q.iS ≠ q.iA) (ho : x'.ownsRow q.base q.e q.s v' (q.n + 1) (q.xs ++ q.news)) (hg : x.grownBy x' q.v0.ownBlock) (hk : (v'.ownBlock = q.v0.ownBlock ∨ v'.ownBlock = some x.heap.size) ∧ x'.ownsRow q.base q.e q.s q.v0 q.n q.xs) : J q (fun j => j = i ∨ D j) (rs.upd f i v') x' := by
  subst hi
  obtain ⟨hv, ha, hb, hc, hd⟩ := h
  refine ⟨vals hv (fun z hz => by rw [hV] at hz; cases hz), fun n => absurd (.inl rfl) n, fun d n => absurd (.inl rfl) n, fun d n => ?_, fun d => absurd (d.resolve_left h3) hs⟩
  rw [rs.upd_same]
  exact ⟨x, ha hn, hg, ho, hk.1, hk.2⟩
theorem J.store (y : Value) (h : J q D f x) (hi : i = q.iS) (hd : D q.iA) (hs : ¬ D q.iS) (hV : q.V q.iS = none) (h2 : q.iA ≠ q.iS) : J q (fun j => j = i ∨ D j) (rs.upd f i y) (x.setCell q.P (f q.iA)) := by
  subst hi
  obtain ⟨hv, ha, hb, hc, he⟩ := h
  exact ⟨vals hv (fun z hz => by rw [hV] at hz; cases hz), fun n => absurd (.inr hd) n, fun d n => absurd (.inr hd) n, fun d n => absurd (.inl rfl) n, fun _ => ⟨f q.iA, x, hc hd hs, rfl⟩⟩
end
end Go.Proofs.YtinnnfkhiigjpaaGreat.rf

namespace Go.Proofs.YtinnnfkhiigjpaaGreat.bk
open Go.RowKit Go.Maps Go.ChangeMaps Go.WideMaps
open ky tx
set_option linter.unusedVariables false

/-- A number stands at every key, and it is not 0 just where p says so. -/
def Bk (D : DataW Unit) (p : ByteArray → Prop) : Prop := ∀ s, ∃ c : Int, D.atKey (lit s) (.lit (.int .i64 0)) = .lit (.int .i64 c) ∧ (c ≠ 0 ↔ p s)
theorem bk_iff {D : DataW Unit} {p q : ByteArray → Prop} (h : Bk D p) (hq : ∀ s, p s ↔ q s) : Bk D q := fun s => by
  obtain ⟨c, h1, h2⟩ := h s
  exact ⟨c, h1, h2.trans (hq s)⟩
theorem bk_empty : Bk (.map []) (fun _ => False) := fun s => ⟨0, by rw [atKey_of_not_has (by simp [Maps.has])], by simp⟩
theorem bk_put {D : DataW Unit} {p : ByteArray → Prop} (hD : Tidy D) (h : Bk D p) (x : ByteArray) (c : Int) (hc : c ≠ 0) : Bk (D.put (lit x) (.lit (.int .i64 c))) (fun s => p s ∨ s = x) := fun s => by
  have hkl : WideAt.IsKeyLit (lit x) := by unfold lit; simp [WideAt.IsKeyLit]
  by_cases e : s = x
  · subst e
    exact ⟨c, atKey_put_same hD.isMap hkl _ _, by simp [hc]⟩
  · obtain ⟨d, h1, h2⟩ := h s
    exact ⟨d, (atKey_put_other (fun y => e (lit_inj y)) _ _).trans h1, by simp [e, h2]⟩
theorem bk_start (ks : List ByteArray) : Bk (.map []) (fun s => ∃ j, j < 0 ∧ ks.getD j nt = s) := bk_iff bk_empty fun s => ⟨fun h => h.elim, fun ⟨j, h, _⟩ => absurd h (Nat.not_lt_zero _)⟩
theorem bk_step {D : DataW Unit} {ks : List ByteArray} {k : Nat} (hD : Tidy D) (h : Bk D (fun s => ∃ j, j < k ∧ ks.getD j nt = s)) {x : ByteArray} (hx : ks.getD k nt = x) (c : Int) (hc : c ≠ 0) : Bk (D.put (lit x) (.lit (.int .i64 c))) (fun s => ∃ j, j < k + 1 ∧ ks.getD j nt = s) := bk_iff (bk_put hD h x c hc) fun s => by
  constructor
  · rintro (⟨j, hj, e⟩ | rfl)
    · exact ⟨j, by omega, e⟩
    · exact ⟨k, by omega, hx⟩
  · rintro ⟨j, hj, e⟩
    by_cases ek : j = k
    · subst ek
      exact .inr (e.symm.trans hx)
    · exact .inl ⟨j, by omega, e⟩

set_option maxHeartbeats 2000000 in
set_option maxRecDepth 100000 in
theorem learn_vals (B n0 N : Nat) (D0 : DataW Unit) (v : Value) (ks : List ByteArray) (w : World) (hown : Own w B n0 D0) (h : TextsIn w N v ks) (hN : N ≤ B) (hs : Smalls ks) :
    Calls Tryz.prog 62 #[.map (some B), v] w fun e w' => (∃ b, e = .returned (.bool b)) ∧ (∃ D, Own w' B ks.length D ∧ Bk D (fun s => ∃ j, j < ks.length ∧ ks.getD j nt = s)) ∧ Below B w w' := by
  obtain ⟨a, cap, rfl, h⟩ := h
  obtain ⟨n, hn⟩ : ∃ n, n = ks.length := ⟨_, rfl⟩
  have HN : Hid (n = ks.length) := hn
  have HH : Hid (ks = [] ∨ ∃ b off, a = some ⟨b, off, none⟩ ∧ b < N ∧ ∀ j, j < ks.length → w.cell? ⟨b, off + j, none⟩ = some (.string (ks.getD j nt))) := h
  have HS : Hid (Smalls ks) := hs
  have hl : n ≤ 1048576 := by rw [hn]; exact hs.1
  rw [← hn]
  clear h hs hn
  go_enter Tryz.func62, Tryz.ntmps62
  go_wp2_with (refine wpList_clear_own rfl _ rfl B n0 D0 rfl hown ?_; intro w1 hown1 hturn1)
  have hb1 : Below B w w1 := (Below.refl _ _).grown hturn1.grown (Nat.le_of_lt hown.lt) (fun j hj => by cases hj; exact Nat.le_refl _)
  clear hturn1 hown
  go_loopw [10] (fun i wr => ∃ (k : Nat) (D : DataW Unit), k ≤ n ∧ i = .int .i64 k ∧ Own wr B k D ∧ Bk D (fun s => ∃ j, j < k ∧ ks.getD j nt = s) ∧ Below B w wr) (fun i _ => n - (intOf i).toNat)
  case atStart => exact ⟨0, _, Nat.zero_le _, rfl, hown1, bk_start ks, hb1⟩
  case round =>
    clear hown1 hb1
    obtain ⟨k, D, hk, rfl, hown, hinv, hbw⟩ := hrel
    have HI : Hid (Bk D (fun s => ∃ j, j < k ∧ ks.getD j nt = s)) := hinv
    clear hinv
    by_cases hlt : k < n
    · have hka : k < ks.length := by rw [← HN.out]; exact hlt
      rcases HH.out with e | ⟨b, off, rfl, hbN, hcells⟩
      · rw [e] at hka; simp at hka
      have c0 := (hbw.cell (p := ⟨b, off + k, none⟩) (Nat.lt_of_lt_of_le hbN hN)).trans (hcells k hka)
      have hsz := HS.out.2 k hka
      clear hcells hka
      generalize hx : ks.getD k nt = x at c0 hsz
      have HX : Hid (ks.getD k nt = x) := hx
      clear hx
      have hkey : keyOf Tryz.prog 9 (.string x) = some (lit x) := keyOf_string_mk Tryz.underlying9 (by unfold maxLen; omega)
      have HO : Hid (Own wr B k D) := hown
      have htd := hown.tidy law
      have HT : Hid (Tidy D) := htd
      have HWS : Hid (B ≤ wr.heap.size) := Nat.le_of_lt hown.lt
      clear htd hown
      have hlt' : (k : Int) < (n : Int) := by omega
      go_wp2_with (at_mapUpdate; refine wpList_mapUpdate_own _ rfl _ _ _ 58 rfl 9 3 law Tryz.underlying58 _ B k _ rfl HO.out (by unfold maxLen; omega) _ _ _ rfl rfl hkey _ [] (plainElem_int Tryz.underlying3 (WalkArith.wf_i64 (by omega))) ?_; intro w2 hown2 hgrow2)
      have hbw2 : Below B w w2 := hbw.grown hgrow2 HWS.out (fun j hj => by cases hj; exact Nat.le_refl _)
      clear hgrow2 c0
      go_wp2
      go_roundw
      case rel => exact ⟨k + 1, _, by omega, by go_num, hown2, bk_step HT.out HI.out HX.out _ (by omega), hbw2⟩
      case measure => simp [intOf]; omega
    · have hkn : k = n := by omega
      subst hkn
      have HF : Hid (∃ D, Own wr B k D ∧ Bk D (fun s => ∃ j, j < k ∧ ks.getD j nt = s)) := ⟨D, hown, HI.out⟩
      go_wp2_with (at_len; refine wpList_len_own _ rfl _ 58 rfl 9 3 Tryz.underlying58 _ B k D rfl hown ?_)
      go_wp2
      go_ret
      exact ⟨⟨_, rfl⟩, HF.out, hbw⟩
end Go.Proofs.YtinnnfkhiigjpaaGreat.bk

namespace Go.Proofs.YtinnnfkhiigjpaaGreat.wi
open Go.ChangeShapes Go.WideShapes Go.ChangeAt Go.RowKit Go.Deep Go.Joins
open st gr bx mx bl
set_option linter.unusedVariables false

/-- A key is among those. -/
def hasK (ks : List ByteArray) (x : ByteArray) : Bool := ks.any (fun k => @decide (k = x) (ow.decB k x))
theorem hasK_iff (ks : List ByteArray) (x : ByteArray) : hasK ks x = true ↔ ∃ j, j < ks.length ∧ ks.getD j ky.nt = x := by
  unfold hasK
  rw [List.any_eq_true]
  constructor
  · rintro ⟨k, hk, h⟩
    obtain ⟨j, hj, e⟩ := List.getElem_of_mem hk
    exact ⟨j, hj, by rw [List.getD_eq_getElem?_getD, List.getElem?_eq_getElem hj]; exact e.trans (ow.dof h)⟩
  · rintro ⟨j, hj, e⟩
    rw [List.getD_eq_getElem?_getD, List.getElem?_eq_getElem hj] at e
    exact ⟨ks[j], List.getElem_mem hj, ow.dt e⟩
/-- A box with one item more. -/
def addI (b : Bx) (i : it.Pr) : Bx := ⟨b.nm, b.vd, b.nx + 1, b.ms ++ [⟨b.nx, 0, i.2⟩], b.ks ++ [i.1]⟩
/-- What adding items comes to. -/
def add : Bx → List it.Pr → Bx × Int
  | b, [] => (b, 0)
  | b, i :: r => if hasK b.ks i.1 = true then (B0, 9) else if b.ks.length = 60 then (B0, 17) else if b.ms.length = 30 then (B0, 7) else add (addI b i) r
theorem drop_at {ps : List it.Pr} {k : Nat} (h : k < ps.length) : ps.drop k = ps.getD k it.no :: ps.drop (k + 1) := by
  rw [List.getD_eq_getElem?_getD, List.getElem?_eq_getElem h]
  exact List.drop_eq_getElem_cons h

/-- Items that lie below the call's own memory. -/
def ItemsIn (w : World) (N : Nat) (v : Value) (ps : List it.Pr) : Prop :=
  ∃ a cap, v = .slice a ps.length cap ∧ (ps = [] ∨ ∃ b off, a = some ⟨b, off, none⟩ ∧ b < N ∧ ∀ j, j < ps.length → w.cell? ⟨b, off + j * 2, none⟩ = some (.string (ps.getD j it.no).1) ∧ w.cell? ⟨b, off + j * 2 + 1, none⟩ = some (.string (ps.getD j it.no).2))
theorem items_below {w w' : World} {N B : Nat} {v : Value} {ps : List it.Pr} (h : ItemsIn w N v ps) (hb : Below B w w') (hN : N ≤ B) : ItemsIn w' N v ps := by
  obtain ⟨a, cap, rfl, h⟩ := h
  refine ⟨a, cap, rfl, ?_⟩
  rcases h with h | ⟨b, off, rfl, hbN, h⟩
  · exact .inl h
  · refine .inr ⟨b, off, rfl, hbN, fun j hj => ?_⟩
    obtain ⟨h0, h1⟩ := h j hj
    exact ⟨(hb.cell (p := ⟨b, off + j * 2, none⟩) (Nat.lt_of_lt_of_le hbN hN)).trans h0, (hb.cell (p := ⟨b, off + j * 2 + 1, none⟩) (Nat.lt_of_lt_of_le hbN hN)).trans h1⟩

/-- Items that lie below the call's own memory, or in a block of items. -/
def ItemsBy (w : World) (N : Nat) (v : Value) (ps : List it.Pr) : Prop :=
  ∃ a cap, v = .slice a ps.length cap ∧ (ps = [] ∨ ∃ b off, a = some ⟨b, off, none⟩ ∧ (b < N ∨ ∃ cs fr, w.heap[b]? = some (.cells cs 78 fr)) ∧ ∀ j, j < ps.length → w.cell? ⟨b, off + j * 2, none⟩ = some (.string (ps.getD j it.no).1) ∧ w.cell? ⟨b, off + j * 2 + 1, none⟩ = some (.string (ps.getD j it.no).2))
theorem by_in {w : World} {N : Nat} {v : Value} {ps : List it.Pr} (h : ItemsIn w N v ps) : ItemsBy w N v ps := by
  obtain ⟨a, cap, rfl, h⟩ := h
  refine ⟨a, cap, rfl, ?_⟩
  rcases h with h | ⟨b, off, rfl, hbN, h⟩
  · exact .inl h
  · exact .inr ⟨b, off, rfl, .inl hbN, h⟩
theorem by_keep {w w' : World} {N : Nat} {v : Value} {ps : List it.Pr} (h : ItemsBy w N v ps) (hb : Below w.heap.size w w') : ItemsBy w' N v ps := by
  obtain ⟨a, cap, rfl, h⟩ := h
  refine ⟨a, cap, rfl, ?_⟩
  rcases h with h | ⟨b, off, rfl, hbN, h⟩
  · exact .inl h
  · refine .inr ⟨b, off, rfl, ?_, fun j hj => ?_⟩
    · rcases hbN with hbN | ⟨cs, fr, hh⟩
      · exact .inl hbN
      · exact .inr ⟨cs, fr, (hb.block b (Array.getElem?_eq_some_iff.1 hh).1).trans hh⟩
    · obtain ⟨h0, h1⟩ := h j hj
      exact ⟨(hb.cell (p := ⟨b, off + j * 2, none⟩) (World.block_lt_of_cell? w _ h0)).trans h0, (hb.cell (p := ⟨b, off + j * 2 + 1, none⟩) (World.block_lt_of_cell? w _ h1)).trans h1⟩
theorem block_kind {w : World} {base e s n b : Nat} {v : Value} {xs : List Value} {cs : Array Value} {t : TypeId} {fr : Nat × Nat} (h : w.ownsRow base e s v n xs) (hh : w.heap[b]? = some (.cells cs t fr)) (hne : t ≠ e) : some b ≠ v.ownBlock := by
  intro e1
  rcases h.2 with ⟨rfl, _⟩ | ⟨g, cap, cur, rfl, _, hg, _⟩
  · cases e1
  · have : b = g := by simpa [Value.ownBlock] using e1
    subst this
    rw [hh] at hg
    cases hg
    exact hne rfl
/-- They stand where nothing but two rows of other kinds was written. -/
theorem by_gr2 {w x : World} {base N : Nat} {p q iv : Value} {ms : List St} {ks : List ByteArray} {ps : List it.Pr} (h : ItemsBy w N iv ps) (hN : N ≤ base) (hm : OwnM w base p ms) (hk : OwnK w base q ks) (hg : Gr2 w x p.ownBlock q.ownBlock) : it.AttrsAt x iv ps := by
  obtain ⟨a, cap, rfl, h⟩ := h
  refine ⟨a, cap, rfl, ?_⟩
  rcases h with h | ⟨b, off, rfl, hbN, h⟩
  · exact .inl h
  · refine .inr ⟨b, off, rfl, fun j hj => ?_⟩
    obtain ⟨h0, h1⟩ := h j hj
    have hlt := World.block_lt_of_cell? w _ h0
    have hne : some b ≠ p.ownBlock ∧ some b ≠ q.ownBlock := by
      rcases hbN with hbN | ⟨cs, fr, hh⟩
      · exact ⟨fun e => by have := (hm.lt b e.symm).1; omega, fun e => by have := (hk.lt b e.symm).1; omega⟩
      · exact ⟨block_kind hm hh (by decide), block_kind hk hh (by decide)⟩
    have hbk := hg.block b hlt (fun e => hne.1 e.symm) (fun e => hne.2 e.symm)
    simp only [World.cell?] at h0 h1 ⊢
    rw [hbk]
    exact ⟨h0, h1⟩

theorem ownK_texts {w : World} {base : Nat} {v : Value} {ks : List ByteArray} (h : OwnK w base v ks) : tx.TextsIn w w.heap.size v ks := by
  rcases h.2 with ⟨rfl, h0⟩ | ⟨g, cap, cur, rfl, _, hb, _⟩
  · have : ks = [] := List.eq_nil_of_length_eq_zero h0
    subst this
    exact ⟨none, 0, rfl, .inl rfl⟩
  · refine ⟨_, cap, rfl, .inr ⟨g, 0, rfl, (Array.getElem?_eq_some_iff.1 hb).1, fun j hj => ?_⟩⟩
    rw [Nat.zero_add, h.cellAt j (by omega)]
    simp [List.getD_eq_getElem?_getD, hj]

theorem gr2_here {w x y : World} {p q : Option Nat} {qv u : Value} (h : Gr2 w x p q) (hg : x.grownBy y u.ownBlock) (hq : q = qv.ownBlock) (hh : Here w.heap.size qv u) : Gr2 w y p q := by
  refine ⟨hg.os.trans h.os, hg.tape.trans h.tape, hg.output.trans h.output, Nat.le_trans h.size hg.size, fun k hk h1 h2 => ?_⟩
  rw [hg.block k (Nat.lt_of_lt_of_le hk h.size) ?_]
  · exact h.block k hk h1 h2
  · intro e
    rcases hh with hh | hh
    · exact h2 (by rw [hq, ← hh]; exact e.symm)
    · have := hh k e.symm
      omega
theorem gr2_here' {w x y : World} {p q : Option Nat} {pv v : Value} (h : Gr2 w x p q) (hg : x.grownBy y v.ownBlock) (hp : p = pv.ownBlock) (hh : Here w.heap.size pv v) : Gr2 w y p q := by
  refine ⟨hg.os.trans h.os, hg.tape.trans h.tape, hg.output.trans h.output, Nat.le_trans h.size hg.size, fun k hk h1 h2 => ?_⟩
  rw [hg.block k (Nat.lt_of_lt_of_le hk h.size) ?_]
  · exact h.block k hk h1 h2
  · intro e
    rcases hh with hh | hh
    · exact h1 (by rw [hp, ← hh]; exact e.symm)
    · have := hh k e.symm
      omega
theorem gr2_cell {w x : World} {p q : Option Nat} (h : Gr2 w x p q) {S j : Nat} (hS : w.heap.size ≤ S) (y : Value) : Gr2 w (x.setCell ⟨S, j, none⟩ y) p q := by
  have hg := mk.grown_set x S j y
  refine ⟨hg.os.trans h.os, hg.tape.trans h.tape, hg.output.trans h.output, Nat.le_trans h.size hg.size, fun k hk h1 h2 => ?_⟩
  rw [hg.block k (Nat.lt_of_lt_of_le hk h.size) (by intro e; cases e; omega)]
  exact h.block k hk h1 h2

theorem mc_app : ∀ (a b : List St), mc (a ++ b) = mc a ++ mc b
  | [], b => rfl
  | x :: a, b => by rw [List.cons_append, mc, mc, mc_app a b]; rfl
/-- While items are added: the box's variable, the result's, the rows as they are and as they were. -/
structure Stt (w : World) (base : Nat) (b : Bx) (p q : Value) (y : Bx) (v u : Value) (x : World) : Prop where
  lies : Lies x w.heap.size 38 y v u
  res : Lies x (w.heap.size + 1) 38 B0 (.slice none 0 0) (.slice none 0 0)
  om : OwnM x base v y.ms
  ok : OwnK x base u y.ks
  om0 : OwnM x base p b.ms
  ok0 : OwnK x base q b.ks
  hv : Here w.heap.size p v
  hu : Here w.heap.size q u
  gr : Gr2 w x p.ownBlock q.ownBlock
  mm : ∃ m', y.ms = b.ms ++ m'
  kk : ∃ k', y.ks = b.ks ++ k'
section
variable {w x x' : World} {base : Nat} {b y : Bx} {p q v u : Value}
theorem Stt.below (h : Stt w base b p q y v u x) (hb : Below x.heap.size x x') : Stt w base b p q y v u x' :=
  ⟨h.lies.keep hb, h.res.keep hb, ow.own_below h.om hb, ow.own_below h.ok hb, ow.own_below h.om0 hb, ow.own_below h.ok0 hb, h.hv, h.hu, h.gr.trans (gr2_below hb _ _), h.mm, h.kk⟩
/-- A block that is no row's and no variable's. -/
theorem Stt.other (h : Stt w base b p q y v u x) {c : Nat} (hg : x.grownBy x' (some c)) (hc : w.heap.size + 2 ≤ c) (hn : ∀ cs e t, x.heap[c]? ≠ some (.cells cs e t)) : Stt w base b p q y v u x' := by
  have row : ∀ {e s n : Nat} {r : Value} {xs : List Value}, x.ownsRow base e s r n xs → x'.ownsRow base e s r n xs := fun {e s n r xs} ho => by
    refine ho.kept hg ?_
    rcases ho.2 with ⟨rfl, _⟩ | ⟨g, cap, cur, rfl, _, hb, _⟩
    · exact .inl rfl
    · right
      intro e1
      have : g = c := by simpa [Value.ownBlock] using e1
      subst this
      exact hn _ _ _ hb
  refine ⟨(hg.block _ h.lies.lt (by intro e; cases e; omega)).trans h.lies, (hg.block _ h.res.lt (by intro e; cases e; omega)).trans h.res, row h.om, row h.ok, row h.om0, row h.ok0, h.hv, h.hu, ?_, h.mm, h.kk⟩
  refine ⟨hg.os.trans h.gr.os, hg.tape.trans h.gr.tape, hg.output.trans h.gr.output, Nat.le_trans h.gr.size hg.size, fun k hk h1 h2 => ?_⟩
  rw [hg.block k (Nat.lt_of_lt_of_le hk h.gr.size) (by intro e; cases e; omega)]
  exact h.gr.block k hk h1 h2
/-- A cell of the box's variable. -/
theorem Stt.rows (h : Stt w base b p q y v u x) (j : Nat) (z : Value) : OwnM (x.setCell ⟨w.heap.size, j, none⟩ z) base v y.ms ∧ OwnK (x.setCell ⟨w.heap.size, j, none⟩ z) base u y.ks ∧ OwnM (x.setCell ⟨w.heap.size, j, none⟩ z) base p b.ms ∧ OwnK (x.setCell ⟨w.heap.size, j, none⟩ z) base q b.ks :=
  ⟨own_var h.om h.lies (by decide), own_var h.ok h.lies (by decide), own_var h.om0 h.lies (by decide), own_var h.ok0 h.lies (by decide)⟩
theorem Stt.next (h : Stt w base b p q y v u x) : Stt w base b p q ⟨y.nm, y.vd, y.nx + 1, y.ms, y.ks⟩ v u (x.setCell ⟨w.heap.size, 2, none⟩ (.int .i64 (y.nx + 1))) :=
  ⟨heap_setCell_same _ _ 2 _ _ _ h.lies, h.res.other (by omega), (h.rows 2 _).1, (h.rows 2 _).2.1, (h.rows 2 _).2.2.1, (h.rows 2 _).2.2.2, h.hv, h.hu, gr2_cell h.gr (Nat.le_refl _) _, h.mm, h.kk⟩
/-- A key more. -/
theorem Stt.keys {Q : rf.Q} {X : ByteArray} {u' : Value} {x2 : World} (h : Stt w base b p q y v u x) (hW : Q.W1 = x) (hb : Q.base = base) (he : Q.e = 9) (hs : Q.s = 1) (h0 : Q.v0 = u) (hn : Q.n = y.ks.length) (hx : Q.xs = y.ks.map Value.string) (hnew : Q.news = [.string X]) (hm : rf.Mid Q u' x2) : Stt w base b p q ⟨y.nm, y.vd, y.nx, y.ms, y.ks ++ [X]⟩ v u' (x2.setCell ⟨w.heap.size, 4, none⟩ u') := by
  obtain ⟨x1, hb1, hg, ho, hk, ho2⟩ := hm
  rw [hW] at hb1
  rw [hb, he, hs, hn, hx, hnew] at ho
  rw [hb, he, hs, h0, hn, hx] at ho2
  rw [h0] at hg hk
  have h1 := h.below hb1
  obtain ⟨k', hk'⟩ := h.kk
  have ho3 : OwnK x2 base u' (y.ks ++ [X]) := by
    unfold OwnK
    rw [List.map_append, List.length_append]
    exact ho
  have ok2 : OwnK x2 base u y.ks := ho2
  have L2 : Lies x2 w.heap.size 38 y v u := lies_row h1.lies h1.ok hg (by decide)
  have R2 : Lies x2 (w.heap.size + 1) 38 B0 (.slice none 0 0) (.slice none 0 0) := lies_row h1.res h1.ok hg (by decide)
  have om2 : OwnM x2 base v y.ms := row_other h1.om hg (rowkinds h1.om h1.ok (by decide))
  have om02 : OwnM x2 base p b.ms := row_other h1.om0 hg (rowkinds h1.om0 h1.ok (by decide))
  have ok02 : OwnK x2 base q b.ks := by
    have e1 : y.ks.length = b.ks.length + k'.length := by rw [hk', List.length_append]
    have e2 : y.ks.map Value.string = b.ks.map Value.string ++ k'.map Value.string := by rw [hk', List.map_append]
    have a1 := h1.ok
    unfold OwnK at a1 ok2
    rw [e1, e2] at a1 ok2
    exact apk.first_keep h1.ok0 a1 hg ok2 (by decide)
  have hu2 : Here w.heap.size q u' := by
    rcases hk with hk | hk
    · rcases h.hu with hh | hh
      · exact .inl (hk.trans hh)
      · exact .inr fun g e => hh g (by rw [← hk]; exact e)
    · refine .inr fun g e => ?_
      rw [hk] at e
      cases e
      exact h1.gr.size
  exact ⟨L2.put4 _, R2.other (by omega), own_var om2 L2 (by decide), own_var ho3 L2 (by decide), own_var om02 L2 (by decide), own_var ok02 L2 (by decide), h.hv, hu2, gr2_cell (gr2_here h1.gr hg rfl h.hu) (Nat.le_refl _) _, h.mm, ⟨k' ++ [X], by rw [hk', List.append_assoc]⟩⟩
/-- A mail more. -/
theorem Stt.mails {Q : rf.Q} {m : St} {v' : Value} {x2 : World} (h : Stt w base b p q y v u x) (hW : Q.W1 = x) (hb : Q.base = base) (he : Q.e = 46) (hs : Q.s = 3) (h0 : Q.v0 = v) (hn : Q.n = y.ms.length) (hx : Q.xs = mc y.ms) (hnew : Q.news = mc [m]) (hm : rf.Mid Q v' x2) : Stt w base b p q ⟨y.nm, y.vd, y.nx, y.ms ++ [m], y.ks⟩ v' u (x2.setCell ⟨w.heap.size, 3, none⟩ v') := by
  obtain ⟨x1, hb1, hg, ho, hk, ho2⟩ := hm
  rw [hW] at hb1
  rw [hb, he, hs, hn, hx, hnew] at ho
  rw [hb, he, hs, h0, hn, hx] at ho2
  rw [h0] at hg hk
  have h1 := h.below hb1
  obtain ⟨m', hm'⟩ := h.mm
  have ho3 : OwnM x2 base v' (y.ms ++ [m]) := by
    unfold OwnM
    rw [mc_app, List.length_append]
    exact ho
  have om2 : OwnM x2 base v y.ms := ho2
  have L2 : Lies x2 w.heap.size 38 y v u := lies_row h1.lies h1.om hg (by decide)
  have R2 : Lies x2 (w.heap.size + 1) 38 B0 (.slice none 0 0) (.slice none 0 0) := lies_row h1.res h1.om hg (by decide)
  have ok2 : OwnK x2 base u y.ks := row_other h1.ok hg (rowkinds h1.ok h1.om (by decide))
  have ok02 : OwnK x2 base q b.ks := row_other h1.ok0 hg (rowkinds h1.ok0 h1.om (by decide))
  have om02 : OwnM x2 base p b.ms := by
    have e1 : y.ms.length = b.ms.length + m'.length := by rw [hm', List.length_append]
    have e2 : mc y.ms = mc b.ms ++ mc m' := by rw [hm', mc_app]
    have a1 := h1.om
    unfold OwnM at a1 om2
    rw [e1, e2] at a1 om2
    exact apk.first_keep h1.om0 a1 hg om2 (by decide)
  have hv2 : Here w.heap.size p v' := by
    rcases hk with hk | hk
    · rcases h.hv with hh | hh
      · exact .inl (hk.trans hh)
      · exact .inr fun g e => hh g (by rw [← hk]; exact e)
    · refine .inr fun g e => ?_
      rw [hk] at e
      cases e
      exact h1.gr.size
  exact ⟨L2.put3 _, R2.other (by omega), own_var ho3 L2 (by decide), own_var ok2 L2 (by decide), own_var om02 L2 (by decide), own_var ok02 L2 (by decide), hv2, h.hu, gr2_cell (gr2_here' h1.gr hg rfl h.hv) (Nat.le_refl _) _, ⟨m' ++ [m], by rw [hm', List.append_assoc]⟩, h.kk⟩
end
end Go.Proofs.YtinnnfkhiigjpaaGreat.wi
