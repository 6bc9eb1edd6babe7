/-
  Rows of stored mails and of texts, copied by slices.Clone into memory of their own.
  A book of keys: cleared, filled with a box's keys, counted.
  The program's own test of a box: its mails, its keys, the whole.
  The library's contracts (laid from the shelf) at this program.
-/
import Derived.Test.YtinnnfkhiigjpaaGreatPkad
import Derived.Laws.AppendOwn
import Derived.Laws.AppendOwnNone
import Derived.Lib.SliceRun
import Derived.Maps.Own
import Derived.Maps.OwnOps
import Derived.Maps.OwnSet
import Derived.Maps.Views
import Derived.Shelf.Small.Wraps
import Derived.Shelf.LaysM
import Derived.Shelf.Strconv.Clone
import Derived.Ground.Names2Prog
import Derived.Shelf.Slices.Clone
import Derived.Shelf.Slices.SearchI
import Derived.Ground.SlgnProg
import Derived.Shelf.SlicesE.Clone
import Derived.Test.YtinnnfkhiigjpaaGreatProg

namespace Go.Proofs.YtinnnfkhiigjpaaGreat.bx
open Go.RowKit
open st
set_option linter.unusedVariables false

/-- The cells of stored mails. -/
def mc : List St → List Value
  | [] => []
  | e :: es => .int .i64 e.u :: .int .i64 e.f :: .string e.t :: mc es
theorem mc_len : ∀ ms : List St, (mc ms).length = ms.length * 3
  | [] => rfl
  | e :: es => by simp [mc, mc_len es]; omega
theorem mc_at : ∀ (ms : List St) (j : Nat), j < ms.length → In3 (mc ms) (j * 3) (ms.getD j noS)
  | [], j, hj => by simp at hj
  | e :: es, 0, hj => ⟨rfl, rfl, rfl⟩
  | e :: es, j + 1, hj => by
    have h := mc_at es j (by simpa using hj)
    unfold In3 at h ⊢
    rw [show (j + 1) * 3 = j * 3 + 1 + 1 + 1 from by omega]
    simpa [mc] using h
theorem mc_one : ∀ (ms : List St), ∀ u ∈ mc ms, u.oneCell' = true
  | [], u, h => by simp [mc] at h
  | e :: es, u, h => by
    simp only [mc, List.mem_cons] at h
    rcases h with rfl | rfl | rfl | h
    · rfl
    · rfl
    · rfl
    · exact mc_one es u h
theorem mc_cells {w : World} {b off : Nat} {ms : List St} (h : ∀ j, j < ms.length → At3 w b (off + j * 3) (ms.getD j noS)) (j : Nat) (u : Value) (hu : (mc ms)[j]? = some u) : w.cell? ⟨b, off + j, none⟩ = some u := by
  have hj := (List.getElem?_eq_some_iff.1 hu).1
  rw [mc_len] at hj
  have hi : j / 3 < ms.length := by omega
  obtain ⟨a0, a1, a2⟩ := h (j / 3) hi
  obtain ⟨m0, m1, m2⟩ := mc_at ms (j / 3) hi
  have hr : j % 3 = 0 ∨ j % 3 = 1 ∨ j % 3 = 2 := by omega
  rcases hr with hr | hr | hr
  · have e : j = j / 3 * 3 := by omega
    rw [e] at hu ⊢
    rw [m0] at hu
    cases hu
    exact a0
  · have e : j = j / 3 * 3 + 1 := by omega
    rw [e] at hu ⊢
    rw [m1] at hu
    cases hu
    exact a1
  · have e : j = j / 3 * 3 + 2 := by omega
    rw [e] at hu ⊢
    rw [m2] at hu
    cases hu
    exact a2
/-- A row of mails that a call made. -/
def OwnM (w : World) (base : Nat) (v : Value) (ms : List St) : Prop := w.ownsRow base 46 3 v ms.length (mc ms)
def OwnK (w : World) (base : Nat) (v : Value) (ks : List ByteArray) : Prop := w.ownsRow base 9 1 v ks.length (ks.map Value.string)
theorem own_lt {w : World} {B e s n : Nat} {v : Value} {xs : List Value} (h : w.ownsRow B e s v n xs) : ∀ k, v.ownBlock = some k → k < w.heap.size := fun k hk => (h.lt k hk).2
theorem ownM_in {w : World} {B N : Nat} {v : Value} {ms : List St} (h : OwnM w B v ms) (hN : w.heap.size ≤ N) : MailsIn w N v ms := by
  rcases id h.2 with ⟨rfl, hz⟩ | ⟨g, cap, cur, rfl, _, hb, _⟩
  · have : ms = [] := List.eq_nil_of_length_eq_zero hz
    subst this
    exact ⟨none, 0, rfl, .inl rfl⟩
  · refine ⟨_, cap, rfl, .inr ⟨g, 0, rfl, Nat.lt_of_lt_of_le (Array.getElem?_eq_some_iff.1 hb).1 hN, fun j hj => ?_⟩⟩
    obtain ⟨h0, h1, h2⟩ := mc_at ms j hj
    have h' : w.ownsRow B 46 3 (.slice (some ⟨g, 0, none⟩) ms.length cap) ms.length (mc ms) := h
    refine ⟨?_, ?_, ?_⟩
    · rw [Nat.zero_add, h'.cellAt _ (by omega), h0]
    · rw [Nat.zero_add, h'.cellAt _ (by omega), h1]
    · rw [Nat.zero_add, h'.cellAt _ (by omega), h2]
theorem ownK_in {w : World} {B N : Nat} {v : Value} {ks : List ByteArray} (h : OwnK w B v ks) (hN : w.heap.size ≤ N) : tx.TextsIn w N v ks := by
  rcases id h.2 with ⟨rfl, hz⟩ | ⟨g, cap, cur, rfl, _, hb, _⟩
  · have : ks = [] := List.eq_nil_of_length_eq_zero hz
    subst this
    exact ⟨none, 0, rfl, .inl rfl⟩
  · refine ⟨_, cap, rfl, .inr ⟨g, 0, rfl, Nat.lt_of_lt_of_le (Array.getElem?_eq_some_iff.1 hb).1 hN, fun j hj => ?_⟩⟩
    have h' : w.ownsRow B 9 1 (.slice (some ⟨g, 0, none⟩) ks.length cap) ks.length (ks.map Value.string) := h
    rw [Nat.zero_add, h'.cellAt _ (by omega)]
    simp [List.getD_eq_getElem?_getD, hj]
/-- A slice that is nil, or lies in memory. -/
def Fine (v : Value) : Prop := v = .slice none 0 0 ∨ ∃ ad n c, v = .slice (some ad) n c
theorem own_fine {w : World} {B e s n : Nat} {v : Value} {xs : List Value} (h : w.ownsRow B e s v n xs) : Fine v := by
  rcases h.2 with ⟨rfl, _⟩ | ⟨g, cap, cur, rfl, _⟩
  · exact .inl rfl
  · exact .inr ⟨_, _, _, rfl⟩
theorem infoT : (Tryz.prog.info? 9).map (fun i => (i.zero, i.size, i.bytes)) = some (some (.string ⟨#[]⟩), 1, 16) := by kernel_rfl
theorem src_mails {w : World} {N : Nat} {ad : Addr} {n c : Nat} {ms : List St} (h : MailsIn w N (.slice (some ad) n c) ms) : n = ms.length ∧ ∀ j u, (mc ms)[j]? = some u → w.cell? (ad.add j) = some u := by
  obtain ⟨a, cap, e, h⟩ := h
  cases e
  refine ⟨rfl, fun j u hu => ?_⟩
  rcases h with h | ⟨b, off, e, _, h⟩
  · rw [h] at hu; simp [mc] at hu
  · cases e
    rw [show ((⟨b, off, none⟩ : Addr).add j) = ⟨b, off + j, none⟩ from by simp [Addr.add]]
    exact mc_cells h j u hu
theorem src_texts {w : World} {N : Nat} {ad : Addr} {n c : Nat} {ks : List ByteArray} (h : tx.TextsIn w N (.slice (some ad) n c) ks) : n = ks.length ∧ ∀ j u, (ks.map Value.string)[j]? = some u → w.cell? (ad.add j) = some u := by
  obtain ⟨a, cap, e, h⟩ := h
  cases e
  refine ⟨rfl, fun j u hu => ?_⟩
  rcases h with h | ⟨b, off, e, _, h⟩
  · rw [h] at hu; simp at hu
  · cases e
    rw [show ((⟨b, off, none⟩ : Addr).add j) = ⟨b, off + j, none⟩ from by simp [Addr.add]]
    have hj : j < ks.length := by
      have := (List.getElem?_eq_some_iff.1 hu).1
      simpa using this
    rw [h j hj, ← hu]
    simp [List.getD_eq_getElem?_getD, hj]
theorem str_one (ks : List ByteArray) : ∀ u ∈ ks.map Value.string, u.oneCell' = true := by
  intro u hu
  obtain ⟨b, _, rfl⟩ := List.mem_map.1 hu
  rfl

set_option maxHeartbeats 2000000 in
set_option maxRecDepth 100000 in
theorem cloneM_any (v : Value) (N : Nat) (ms : List St) (w : World) (h : MailsIn w N v ms) (hv : Fine v) (hn : ms.length ≤ 1048576) :
    Calls Tryz.prog 64 #[v] w fun e w' => (∃ v', e = .returned v' ∧ OwnM w' w.heap.size v' ms) ∧ Below w.heap.size w w' := by
  obtain ⟨i0, hi, hz0, hz1, hz2⟩ := info_parts infoS
  have hq : ∀ (w : World) (a : Option Addr) (n c n' c' : Nat), (binOp .eql 35 (.slice a n c) (.slice none n' c')).run Tryz.prog w = .ok (.bool a.isNone) w := fun w a n c n' c' => Lib.run_eql_slice_nil w _ _ a n c n' c' Tryz.underlying35
  rcases hv with rfl | ⟨ad, n, c, rfl⟩
  · have hms : ms = [] := by
      obtain ⟨a, cap, e, _⟩ := h
      simp only [Value.slice.injEq] at e
      exact List.eq_nil_of_length_eq_zero e.2.1.symm
    have HM : Hid (OwnM w w.heap.size (.slice none 0 0) ms) := by rw [hms]; exact World.ownsRow_nil _ _ _ _
    clear h hms hn
    go_enter Tryz.func64, Tryz.ntmps64
    go_wp2
    go_ret
    exact ⟨⟨_, rfl, HM.out⟩, Below.refl _ _⟩
  obtain ⟨rfl, hs⟩ := src_mails h
  have hb : Below w.heap.size w (w.alloc (.cells #[] 46)) := (Below.refl _ _).alloc (Nat.le_refl _) _
  have HS : Hid (∀ j u, (mc ms)[j]? = some u → (w.alloc (.cells #[] 46)).cell? (ad.add j) = some u) := fun j u hu => (hb.cell (World.block_lt_of_cell? w _ (hs j u hu))).trans (hs j u hu)
  have HO : Hid ((w.alloc (.cells #[] 46)).ownsRow w.heap.size 46 3 (.slice (some ⟨w.heap.size, 0, none⟩) 0 0) 0 []) := World.ownsRow_made w #[] 0 (Nat.le_refl _) (Nat.zero_le _) rfl
  clear h hs
  go_enter Tryz.func64, Tryz.ntmps64
  go_wp2_with (at_builtin; refine wpList_append_own _ rfl _ _ 35 rfl w.heap.size 46 i0 _ 3 32 Tryz.underlying35 hi hz0 hz1 hz2 rfl (by decide) _ _ _ rfl HO.out ad ms.length c (mc ms) rfl (mc_len ms) HS.out (mc_one ms) (by unfold maxLen; omega) (by omega) (by simp) ?_; intro v' w1 hown hgrow hnil)
  have HE : Hid (OwnM w1 w.heap.size v' ms ∧ Below w.heap.size w w1) := by
    refine ⟨?_, hb.grown hgrow (by simp) (fun k hk => (HO.out.lt k hk).1)⟩
    unfold OwnM
    simpa using hown
  clear hown hgrow hnil
  go_wp2
  go_ret
  exact ⟨⟨_, rfl, HE.out.1⟩, HE.out.2⟩

set_option maxHeartbeats 2000000 in
set_option maxRecDepth 100000 in
theorem cloneK_any (v : Value) (N : Nat) (ks : List ByteArray) (w : World) (h : tx.TextsIn w N v ks) (hv : Fine v) (hn : ks.length ≤ 1048576) :
    Calls Tryz.prog 65 #[v] w fun e w' => (∃ v', e = .returned v' ∧ OwnK w' w.heap.size v' ks) ∧ Below w.heap.size w w' := by
  obtain ⟨i0, hi, hz0, hz1, hz2⟩ := info_parts infoT
  have hq : ∀ (w : World) (a : Option Addr) (n c n' c' : Nat), (binOp .eql 36 (.slice a n c) (.slice none n' c')).run Tryz.prog w = .ok (.bool a.isNone) w := fun w a n c n' c' => Lib.run_eql_slice_nil w _ _ a n c n' c' Tryz.underlying36
  rcases hv with rfl | ⟨ad, n, c, rfl⟩
  · have hms : ks = [] := by
      obtain ⟨a, cap, e, _⟩ := h
      simp only [Value.slice.injEq] at e
      exact List.eq_nil_of_length_eq_zero e.2.1.symm
    have HM : Hid (OwnK w w.heap.size (.slice none 0 0) ks) := by rw [hms]; exact World.ownsRow_nil _ _ _ _
    clear h hms hn
    go_enter Tryz.func65, Tryz.ntmps65
    go_wp2
    go_ret
    exact ⟨⟨_, rfl, HM.out⟩, Below.refl _ _⟩
  obtain ⟨rfl, hs⟩ := src_texts h
  have hb : Below w.heap.size w (w.alloc (.cells #[] 9)) := (Below.refl _ _).alloc (Nat.le_refl _) _
  have HS : Hid (∀ j u, (ks.map Value.string)[j]? = some u → (w.alloc (.cells #[] 9)).cell? (ad.add j) = some u) := fun j u hu => (hb.cell (World.block_lt_of_cell? w _ (hs j u hu))).trans (hs j u hu)
  have HO : Hid ((w.alloc (.cells #[] 9)).ownsRow w.heap.size 9 1 (.slice (some ⟨w.heap.size, 0, none⟩) 0 0) 0 []) := World.ownsRow_made w #[] 0 (Nat.le_refl _) (Nat.zero_le _) rfl
  clear h hs
  go_enter Tryz.func65, Tryz.ntmps65
  go_wp2_with (at_builtin; refine wpList_append_own _ rfl _ _ 36 rfl w.heap.size 9 i0 _ 1 16 Tryz.underlying36 hi hz0 hz1 hz2 rfl (by decide) _ _ _ rfl HO.out ad ks.length c (ks.map Value.string) rfl (by simp) HS.out (str_one ks) (by unfold maxLen; omega) (by omega) (by simp) ?_; intro v' w1 hown hgrow hnil)
  have HE : Hid (OwnK w1 w.heap.size v' ks ∧ Below w.heap.size w w1) := by
    refine ⟨?_, hb.grown hgrow (by simp) (fun k hk => (HO.out.lt k hk).1)⟩
    unfold OwnK
    simpa using hown
  clear hown hgrow hnil
  go_wp2
  go_ret
  exact ⟨⟨_, rfl, HE.out.1⟩, HE.out.2⟩
/-- An append of what a slice holds, nil or not. -/
theorem wpList_append_any {P : Program} {w : World} {ops : Array Oper} {rest : List Oper} {o : Oper} {a : Act} {Q : Exit → Act → World → Prop} (hgd : o.guard = none) (s x : Operand) (t : TypeId)
    (ho : o.op = .call { callee := .builtin .append, args := #[s, x], argTypes := #[t, t] })
    (base : Nat) (e : TypeId) (i : TypeInfo) (z : Value) (size bytes : Nat) (ht : P.underlying t = some (.slice e)) (hi : P.info? e = some i) (hz : i.zero = some z)
    (hsize : i.size = size) (hby : i.bytes = bytes) (hzs : z.cells.size = size) (hsz : 0 < size)
    (v : Value) (n : Nat) (xs : List Value) (hs : a.eval s = v) (hown : w.ownsRow base e size v n xs)
    (y : Value) (m : Nat) (news : List Value) (hx : a.eval x = y) (hy : (y = .slice none 0 0 ∧ m = 0 ∧ news = []) ∨ ∃ ad c, y = .slice (some ad) m c ∧ news.length = m * size ∧ ∀ j u, news[j]? = some u → w.cell? (ad.add j) = some u) (h1 : ∀ u ∈ news, u.oneCell' = true)
    (h63 : n + m ≤ maxLen) (hbytes : (n + m) * bytes ≤ 140737488355328) (hbase : base ≤ w.heap.size)
    (h : ∀ v' w', w'.ownsRow base e size v' (n + m) (xs ++ news) → w.grownBy w' v.ownBlock → wpList P ops Q rest (a.put o.dst v') w') : wpList P ops Q (o :: rest) a w := by
  rcases hy with ⟨rfl, rfl, rfl⟩ | ⟨ad, c, rfl, hl, hn⟩
  · refine wpList_append_own_none hgd s x t ho base e i size ht hi v n xs hs hown hx (h v w ?_ (ow.grown_refl _ _))
    rw [List.append_nil]
    exact hown
  · exact wpList_append_own w hgd s x t ho base e i z size bytes ht hi hz hsize hby hzs hsz v n xs hs hown ad m c news hx hl hn h1 h63 hbytes hbase (fun v' w' a b _ => h v' w' a b)
theorem mails_src {w : World} {N : Nat} {v : Value} {ms : List St} (h : MailsIn w N v ms) (hv : Fine v) : (v = .slice none 0 0 ∧ ms.length = 0 ∧ mc ms = []) ∨ ∃ ad c, v = .slice (some ad) ms.length c ∧ (mc ms).length = ms.length * 3 ∧ ∀ j u, (mc ms)[j]? = some u → w.cell? (ad.add j) = some u := by
  rcases hv with rfl | ⟨ad, n, c, rfl⟩
  · obtain ⟨a, cap, e, _⟩ := h
    simp only [Value.slice.injEq] at e
    have : ms = [] := List.eq_nil_of_length_eq_zero e.2.1.symm
    subst this
    exact .inl ⟨rfl, rfl, rfl⟩
  · obtain ⟨rfl, hs⟩ := src_mails h
    exact .inr ⟨ad, c, rfl, mc_len ms, hs⟩
theorem texts_src {w : World} {N : Nat} {v : Value} {ks : List ByteArray} (h : tx.TextsIn w N v ks) (hv : Fine v) : (v = .slice none 0 0 ∧ ks.length = 0 ∧ ks.map Value.string = []) ∨ ∃ ad c, v = .slice (some ad) ks.length c ∧ (ks.map Value.string).length = ks.length * 1 ∧ ∀ j u, (ks.map Value.string)[j]? = some u → w.cell? (ad.add j) = some u := by
  rcases hv with rfl | ⟨ad, n, c, rfl⟩
  · obtain ⟨a, cap, e, _⟩ := h
    simp only [Value.slice.injEq] at e
    have : ks = [] := List.eq_nil_of_length_eq_zero e.2.1.symm
    subst this
    exact .inl ⟨rfl, rfl, rfl⟩
  · obtain ⟨rfl, hs⟩ := src_texts h
    exact .inr ⟨ad, c, rfl, by simp, hs⟩
end Go.Proofs.YtinnnfkhiigjpaaGreat.bx

namespace Go.Proofs.YtinnnfkhiigjpaaGreat.bk
open Go.RowKit Go.Maps Go.ChangeMaps Go.WideMaps
open ky tx
set_option linter.unusedVariables false

theorem law : Keyed Tryz.prog 9 := string_keyed Tryz.underlying9
abbrev Own (w : World) (B n : Nat) (D : DataW Unit) : Prop := w.ownsMap Tryz.prog 9 (plainElem Tryz.prog 3) B n D
theorem own_keep {w w' : World} {B n k : Nat} {D : DataW Unit} (h : Own w B n D) (hb : Below k w w') (hk : B < k) : Own w' B n D := by
  obtain ⟨es, clock, hb', F, hs, hD⟩ := h
  exact ⟨es, clock, (hb.block B hk).trans hb', F, hs, hD⟩
theorem clear_own {w : World} {B n : Nat} {D : DataW Unit} (h : Own w B n D) (ty : TypeId) :
    ∃ w', (Builtin.clear_ #[58] ty #[.map (some B)]).run Tryz.prog w = .ok (.tuple #[]) w' ∧ Own w' B 0 (.map []) ∧ w.mapTurned w' B := by
  obtain ⟨es, clock, hb, F, hs, rfl⟩ := h
  refine ⟨setBlock w B (.map #[] clock), ?_, ⟨#[], clock, heap_setBlock_same hb _, ⟨by simp, MapKept.stamped_empty clock, by simp⟩, Nat.le_refl _, rfl⟩, ⟨es, clock, #[], clock, hb, rfl⟩⟩
  simp [Builtin.clear_, run_underlying Tryz.underlying58, MapKept.run_getObj_map hb, MapKept.run_setObj_map _ hb, Result.andThen, setBlock]
theorem wpList_clear_own {w : World} {ops : Array Oper} {rest : List Oper} {o : Oper} {a : Act} {Q : Exit → Act → World → Prop}
    (hg : o.guard = none) (m : Operand) (hop : o.op = Op.call { callee := Callee.builtin Builtin.clear, args := #[m], argTypes := #[58] }) (B n : Nat) (D : DataW Unit)
    (hm : a.eval m = .map (some B)) (hown : Own w B n D)
    (hK : ∀ w', Own w' B 0 (.map []) → w.mapTurned w' B → wpList Tryz.prog ops Q rest (a.put o.dst (.tuple #[])) w') :
    wpList Tryz.prog ops Q (o :: rest) a w := by
  refine wpList_plain hg fun K' hK' => ?_
  obtain ⟨w', hrun, r1, r2⟩ := clear_own hown o.type
  unfold Oper.wp
  simp [execOp, hop, resolve, invoke, builtin, hm, hrun, Result.andThen]
  exact hK' _ _ (hK w' r1 r2)

/-- The first k are all different. -/
def Dist (ks : List ByteArray) (k : Nat) : Prop := ∀ i j, i < j → j < k → ks.getD i nt ≠ ks.getD j nt
def dDist (ks : List ByteArray) (k : Nat) : Decidable (Dist ks k) :=
  @decidable_of_iff _ (∀ j, j < k → ∀ i, i < j → (ks.getD i nt).data ≠ (ks.getD j nt).data) ⟨fun h i j hij hj e => h j hj i hij (by rw [e]), fun h j hj i hij e => h i j hij hj (ByteArray.ext e)⟩ inferInstance
def dist (ks : List ByteArray) : Bool := @decide (Dist ks ks.length) (dDist ks ks.length)
def lit (s : ByteArray) : Lit := .string s.data.toList
theorem lit_inj {a b : ByteArray} (h : lit a = lit b) : a = b := by
  unfold lit at h
  injection h with h
  exact WideShapes.bytes_inj h
/-- The book has the first k keys. -/
def Inv (D : DataW Unit) (ks : List ByteArray) (k : Nat) : Prop :=
  (∀ s, Maps.has D (lit s) = true ↔ ∃ j, j < k ∧ ks.getD j nt = s) ∧ Maps.size D ≤ k ∧ (Maps.size D = k ↔ Dist ks k)
theorem inv_start (ks : List ByteArray) : Inv (.map []) ks 0 := by
  refine ⟨fun s => ⟨fun h => by simp [Maps.has] at h, fun ⟨j, h, _⟩ => absurd h (Nat.not_lt_zero _)⟩, by simp [Maps.size], ⟨fun _ i j _ h => absurd h (Nat.not_lt_zero _), fun _ => by simp [Maps.size]⟩⟩
theorem inv_step {D : DataW Unit} {ks : List ByteArray} {k : Nat} (hD : Tidy D) (h : Inv D ks k) {s : ByteArray} (hs : ks.getD k nt = s) (d : DataW Unit) : Inv (D.put (lit s) d) ks (k + 1) := by
  obtain ⟨h1, h2, h3⟩ := h
  have hkl : WideAt.IsKeyLit (lit s) := by unfold lit; simp [WideAt.IsKeyLit]
  have hsz := size_put (k := lit s) hD d
  refine ⟨fun t => ?_, ?_, ?_⟩
  · by_cases e : t = s
    · subst e
      rw [has_put_same hD.isMap hkl]
      simp
      exact ⟨k, by omega, hs⟩
    · rw [has_put_other (fun x => e (lit_inj x)), h1]
      constructor
      · rintro ⟨j, hj, ej⟩
        exact ⟨j, by omega, ej⟩
      · rintro ⟨j, hj, ej⟩
        by_cases ejk : j = k
        · subst ejk
          exact absurd (ej.symm.trans hs) e
        · exact ⟨j, by omega, ej⟩
  · rw [hsz]
    split <;> omega
  · rw [hsz]
    by_cases hh : Maps.has D (lit s) = true
    · rw [if_pos hh]
      obtain ⟨j, hj, ej⟩ := (h1 s).1 hh
      constructor
      · intro x; omega
      · intro x
        exact absurd (ej.trans hs.symm) (x j k hj (by omega))
    · rw [if_neg hh]
      constructor
      · intro x i j hij hj
        by_cases ejk : j = k
        · subst ejk
          intro y
          exact hh ((h1 s).2 ⟨i, hij, y.trans hs⟩)
        · exact h3.1 (by omega) i j hij (by omega)
      · intro x
        have := h3.2 (fun i j hij hj => x i j hij (by omega))
        omega
theorem dist_eq {D : DataW Unit} {ks : List ByteArray} {k : Nat} (hk : k = ks.length) (h : Inv D ks k) : ((Maps.size D : Int) == (k : Int)) = dist ks := by
  subst hk
  unfold dist
  by_cases e : Maps.size D = ks.length
  · rw [ow.dt (h.2.2.1 e)]
    simp [e]
  · rw [ow.df (fun x => e (h.2.2.2 x))]
    simp
    omega

set_option maxHeartbeats 2000000 in
set_option maxRecDepth 100000 in
theorem learn_any (B n0 N : Nat) (D0 : DataW Unit) (v : Value) (ks : List ByteArray) (w : World) (hown : Own w B n0 D0) (h : TextsIn w N v ks) (hN : N ≤ B) (hs : Smalls ks) :
    Calls Tryz.prog 62 #[.map (some B), v] w fun e w' => e = .returned (.bool (dist ks)) ∧ (∃ n D, Own w' B n D ∧ Inv D ks ks.length) ∧ Below B w w' := by
  obtain ⟨a, cap, rfl, h⟩ := h
  obtain ⟨n, hn⟩ : ∃ n, n = ks.length := ⟨_, rfl⟩
  have HN : Hid (n = ks.length) := hn
  have HH : Hid (ks = [] ∨ ∃ b off, a = some ⟨b, off, none⟩ ∧ b < N ∧ ∀ j, j < ks.length → w.cell? ⟨b, off + j, none⟩ = some (.string (ks.getD j nt))) := h
  have HS : Hid (Smalls ks) := hs
  have hl : n ≤ 1048576 := by rw [hn]; exact hs.1
  rw [← hn]
  clear h hs hn
  go_enter Tryz.func62, Tryz.ntmps62
  go_wp2_with (refine wpList_clear_own rfl _ rfl B n0 D0 rfl hown ?_; intro w1 hown1 hturn1)
  have hb1 : Below B w w1 := (Below.refl _ _).grown hturn1.grown (Nat.le_of_lt hown.lt) (fun j hj => by cases hj; exact Nat.le_refl _)
  clear hturn1 hown
  go_loopw [10] (fun i wr => ∃ (k : Nat) (D : DataW Unit), k ≤ n ∧ i = .int .i64 k ∧ Own wr B k D ∧ Inv D ks k ∧ Below B w wr) (fun i _ => n - (intOf i).toNat)
  case atStart => exact ⟨0, _, Nat.zero_le _, rfl, hown1, inv_start ks, hb1⟩
  case round =>
    clear hown1 hb1
    obtain ⟨k, D, hk, rfl, hown, hinv, hbw⟩ := hrel
    have HI : Hid (Inv D ks k) := hinv
    clear hinv
    by_cases hlt : k < n
    · have hka : k < ks.length := by rw [← HN.out]; exact hlt
      rcases HH.out with e | ⟨b, off, rfl, hbN, hcells⟩
      · rw [e] at hka; simp at hka
      have c0 := (hbw.cell (p := ⟨b, off + k, none⟩) (Nat.lt_of_lt_of_le hbN hN)).trans (hcells k hka)
      have hsz := HS.out.2 k hka
      clear hcells hka
      generalize hx : ks.getD k nt = x at c0 hsz
      have HX : Hid (ks.getD k nt = x) := hx
      clear hx
      have hkey : keyOf Tryz.prog 9 (.string x) = some (lit x) := keyOf_string_mk Tryz.underlying9 (by unfold maxLen; omega)
      have HO : Hid (Own wr B k D) := hown
      have htd := hown.tidy law
      have HT : Hid (Tidy D) := htd
      have HWS : Hid (B ≤ wr.heap.size) := Nat.le_of_lt hown.lt
      clear htd hown
      have hlt' : (k : Int) < (n : Int) := by omega
      go_wp2_with (at_mapUpdate; refine wpList_mapUpdate_own _ rfl _ _ _ 58 rfl 9 3 law Tryz.underlying58 _ B k _ rfl HO.out (by unfold maxLen; omega) _ _ _ rfl rfl hkey _ [] (plainElem_int Tryz.underlying3 (WalkArith.wf_i64 (by omega))) ?_; intro w2 hown2 hgrow2)
      have hbw2 : Below B w w2 := hbw.grown hgrow2 HWS.out (fun j hj => by cases hj; exact Nat.le_refl _)
      clear hgrow2 c0
      go_wp2
      go_roundw
      case rel => exact ⟨k + 1, _, by omega, by go_num, hown2, inv_step HT.out HI.out HX.out _, hbw2⟩
      case measure => simp [intOf]; omega
    · have hkn : k = n := by omega
      subst hkn
      have HD : Hid (((Maps.size D : Int) == (k : Int)) = dist ks) := dist_eq HN.out HI.out
      have HF : Hid (∃ n D, Own wr B n D ∧ Inv D ks k) := ⟨k, D, hown, HI.out⟩
      go_wp2_with (at_len; refine wpList_len_own _ rfl _ 58 rfl 9 3 Tryz.underlying58 _ B k D rfl hown ?_)
      go_wp2
      go_ret
      exact ⟨by rw [← HD.out]; first | rfl | (congr 2; rw [Bool.eq_iff_iff]; simp), HF.out, hbw⟩
end Go.Proofs.YtinnnfkhiigjpaaGreat.bk

namespace Go.Proofs.YtinnnfkhiigjpaaGreat.bx
open Go.RowKit
open st
set_option linter.unusedVariables false

def mOK (nx prev : Int) (e : St) : Prop := prev < e.u ∧ e.u < nx ∧ (0 ≤ e.f ∧ e.f ≤ 31) ∧ e.t.size ≤ 4000
def last (ms : List St) (k : Nat) : Int := if k = 0 then 0 else (ms.getD (k - 1) noS).u
def MGood (ms : List St) (nx : Int) (k : Nat) : Prop := ∀ j, j < k → mOK nx (last ms j) (ms.getD j noS)
theorem last_succ (ms : List St) (k : Nat) : last ms (k + 1) = (ms.getD k noS).u := by simp [last]
theorem last_pos {ms : List St} {nx : Int} : ∀ {k : Nat}, MGood ms nx k → 0 ≤ last ms k
  | 0, _ => by simp [last]
  | k + 1, h => by
    rw [last_succ]
    have h1 := last_pos (k := k) (fun j hj => h j (by omega))
    have h2 := (h k (by omega)).1
    omega
theorem mgood_step {ms : List St} {nx : Int} {k : Nat} (h : MGood ms nx k) {x : St} (hx : ms.getD k noS = x) (hm : mOK nx (last ms k) x) : MGood ms nx (k + 1) := by
  intro j hj
  by_cases e : j = k
  · subst e; rw [hx]; exact hm
  · exact h j (by omega)
def dMail (ms : List St) (nx : Int) (k : Nat) : Decidable (MGood ms nx k) := inferInstanceAs (Decidable (∀ j, j < k → last ms j < (ms.getD j noS).u ∧ (ms.getD j noS).u < nx ∧ (0 ≤ (ms.getD j noS).f ∧ (ms.getD j noS).f ≤ 31) ∧ (ms.getD j noS).t.size ≤ 4000))
def mailsB (ms : List St) (nx : Int) : Bool := @decide (ms.length ≤ 30 ∧ MGood ms nx ms.length) (@instDecidableAnd _ _ _ (dMail ms nx ms.length))
theorem mails_no {ms : List St} {nx : Int} (h : ¬ (ms.length ≤ 30 ∧ MGood ms nx ms.length)) : mailsB ms nx = false := ow.df h
theorem mails_yes {ms : List St} {nx : Int} (h : ms.length ≤ 30) (h2 : MGood ms nx ms.length) : mailsB ms nx = true := ow.dt ⟨h, h2⟩
theorem mails_of {ms : List St} {nx : Int} (h : mailsB ms nx = true) : ms.length ≤ 30 ∧ MGood ms nx ms.length := ow.dof h
theorem mails_bad {ms : List St} {nx : Int} {k : Nat} (hk : k < ms.length) {x : St} (hx : ms.getD k noS = x) (hm : ¬ mOK nx (last ms k) x) : mailsB ms nx = false := mails_no fun h => hm (hx ▸ h.2 k hk)
def KGood (ks : List ByteArray) (k : Nat) : Prop := ∀ j, j < k → 1 ≤ (ks.getD j ky.nt).size ∧ (ks.getD j ky.nt).size ≤ 200
def dKeys (ks : List ByteArray) (k : Nat) : Decidable (KGood ks k) := inferInstanceAs (Decidable (∀ j, j < k → 1 ≤ (ks.getD j ky.nt).size ∧ (ks.getD j ky.nt).size ≤ 200))
def keysB (ks : List ByteArray) : Bool := @decide (ks.length ≤ 60 ∧ KGood ks ks.length) (@instDecidableAnd _ _ _ (dKeys ks ks.length))
theorem keys_no {ks : List ByteArray} (h : ¬ (ks.length ≤ 60 ∧ KGood ks ks.length)) : keysB ks = false := ow.df h
theorem keys_yes {ks : List ByteArray} (h : ks.length ≤ 60) (h2 : KGood ks ks.length) : keysB ks = true := ow.dt ⟨h, h2⟩
theorem keys_of {ks : List ByteArray} (h : keysB ks = true) : ks.length ≤ 60 ∧ KGood ks ks.length := ow.dof h
theorem kgood_step {ks : List ByteArray} {k : Nat} (h : KGood ks k) {x : ByteArray} (hx : ks.getD k ky.nt = x) (hm : 1 ≤ x.size ∧ x.size ≤ 200) : KGood ks (k + 1) := by
  intro j hj
  by_cases e : j = k
  · subst e; rw [hx]; exact hm
  · exact h j (by omega)
/-- A box is right. -/
def bok (x : Bx) : Bool := mu.nmB x.nm && decide (1 ≤ x.vd ∧ x.vd ≤ 1000000) && decide (1 ≤ x.nx ∧ x.nx ≤ 1001) && mailsB x.ms x.nx && decide ((x.ks.length : Int) = x.nx - 1) && keysB x.ks && bk.dist x.ks

set_option maxHeartbeats 2000000 in
set_option maxRecDepth 100000 in
theorem areMails_any (N : Nat) (v : Value) (ms : List St) (nx : Int) (w : World) (h : MailsIn w N v ms) (hN : N ≤ w.heap.size) (hs : st.Smalls ms) (hnx : In nx) :
    Calls Tryz.prog 60 #[v, .int .i64 nx] w fun e w' => e = .returned (.bool (mailsB ms nx)) ∧ Below w.heap.size w w' := by
  obtain ⟨a, cap, rfl, h⟩ := h
  obtain ⟨n, hn⟩ : ∃ n, n = ms.length := ⟨_, rfl⟩
  have HN : Hid (n = ms.length) := hn
  have HH : Hid (ms = [] ∨ ∃ b off, a = some ⟨b, off, none⟩ ∧ b < N ∧ ∀ j, j < ms.length → At3 w b (off + j * 3) (ms.getD j noS)) := h
  have HS : Hid (st.Smalls ms) := hs
  have hl : n ≤ 1048576 := by rw [hn]; exact hs.1
  rw [← hn]
  clear h hs hn hnx
  have HF : Hid (∀ f w, Calls Tryz.prog 32 #[.int .i64 f] w fun e w' => e = .returned (.bool (mu.fOK f)) ∧ w' = w) := fun f w => mu.areFlags_any f w
  by_cases g0 : 30 < n
  · have g0' : (30 : Int) < (n : Int) := by omega
    rw [mails_no (by have := HN.out; omega)]
    go_enter Tryz.func60, Tryz.ntmps60
    go_wp2
    go_ret
    exact ⟨rfl, Below.refl _ _⟩
  have g0' : (n : Int) ≤ 30 := by omega
  go_enter Tryz.func60, Tryz.ntmps60
  go_wp2
  go_loopw [5, 13] (fun l i wr => ∃ (k : Nat), k ≤ n ∧ l = .int .i64 (last ms k) ∧ i = .int .i64 k ∧ MGood ms nx k ∧ Below w.heap.size w wr) (fun _ i _ => n - (intOf i).toNat)
  case atStart => exact ⟨0, Nat.zero_le _, rfl, rfl, fun j hj => absurd hj (Nat.not_lt_zero _), Below.refl _ _⟩
  case round =>
    obtain ⟨k, hk, rfl, rfl, hal, hbw⟩ := hrel
    have HAL : Hid (MGood ms nx k) := hal
    clear hal
    obtain ⟨l, hl⟩ : ∃ l, l = last ms k := ⟨_, rfl⟩
    have HLL : Hid (l = last ms k) := hl
    rw [← hl]
    clear hl
    by_cases hlt : k < n
    · have hka : k < ms.length := by rw [← HN.out]; exact hlt
      rcases HH.out with e | ⟨b, off, rfl, _, hcells⟩
      · rw [e] at hka; simp at hka
      have hat := (hcells k hka).keep hbw (hcells k hka).lt
      have HKA : Hid (k < ms.length) := hka
      clear hcells hka
      generalize hx : ms.getD k noS = x at hat
      have HX : Hid (ms.getD k noS = x) := hx
      clear hx
      obtain ⟨u, f, t⟩ := x
      obtain ⟨c0, c1, c2⟩ := hat
      simp only at c0 c1 c2
      have hlt' : (k : Int) < (n : Int) := by omega
      have hb2 : Below w.heap.size w (wr.alloc (.cells #[.int .i64 u, .int .i64 f, .string t] 46)) := hbw.alloc hbw.size _
      have HB : Hid (¬ mOK nx l ⟨u, f, t⟩ → mailsB ms nx = false) := fun h => mails_bad HKA.out HX.out (by rw [← HLL.out]; exact h)
      have HG : Hid (mOK nx l ⟨u, f, t⟩ → MGood ms nx (k + 1)) := fun h => mgood_step HAL.out HX.out (by rw [← HLL.out]; exact h)
      have hls : last ms (k + 1) = u := by rw [last_succ, HX.out]
      have HLS : Hid (last ms (k + 1) = u) := hls
      clear hls
      clear HAL HX HKA HLL
      by_cases q0 : u ≤ l
      · have HR : Hid (mailsB ms nx = false) := HB.out (fun x => by have := x.1; simp only at this; omega)
        go_wp2
        go_ret
        exact ⟨mu.ret_bool HR.out.symm, hb2⟩
      have q0' : l < u := by omega
      by_cases q1 : nx ≤ u
      · have HR : Hid (mailsB ms nx = false) := HB.out (fun x => by have := x.2.1; simp only at this; omega)
        go_wp2
        go_ret
        exact ⟨mu.ret_bool HR.out.symm, hb2⟩
      have q1' : u < nx := by omega
      by_cases q2 : 0 ≤ f ∧ f ≤ 31
      · have e2 : mu.fOK f = true := decide_eq_true q2
        by_cases q3 : t.size ≤ 4000
        · have q3' : (t.size : Int) ≤ 4000 := by omega
          have HR : Hid (MGood ms nx (k + 1)) := HG.out ⟨q0', q1', q2, q3⟩
          go_wp2_with (go_at_call 32; refine (HF.out _ _).mono ?_; rintro e w' ⟨rfl, rfl⟩; rw [e2])
          go_roundw
          case rel => exact ⟨k + 1, by omega, by rw [HLS.out], by go_num, HR.out, hb2⟩
          case measure => simp [intOf]; omega
        · have q3' : (4000 : Int) < (t.size : Int) := by omega
          have HR : Hid (mailsB ms nx = false) := HB.out (fun x => q3 x.2.2.2)
          go_wp2_with (go_at_call 32; refine (HF.out _ _).mono ?_; rintro e w' ⟨rfl, rfl⟩; rw [e2])
          go_ret
          exact ⟨mu.ret_bool HR.out.symm, hb2⟩
      · have e2 : mu.fOK f = false := decide_eq_false q2
        have HR : Hid (mailsB ms nx = false) := HB.out (fun x => q2 x.2.2.1)
        go_wp2_with (go_at_call 32; refine (HF.out _ _).mono ?_; rintro e w' ⟨rfl, rfl⟩; rw [e2])
        go_ret
        exact ⟨mu.ret_bool HR.out.symm, hb2⟩
    · have HR : Hid (mailsB ms nx = true) := mails_yes (by have := HN.out; omega) (fun j hj => HAL.out j (by have := HN.out; omega))
      go_wp2
      go_ret
      exact ⟨mu.ret_bool HR.out.symm, hbw⟩

set_option maxHeartbeats 2000000 in
set_option maxRecDepth 100000 in
theorem areKeys_any (N : Nat) (v : Value) (ks : List ByteArray) (w : World) (h : tx.TextsIn w N v ks) (hs : tx.Smalls ks) :
    Calls Tryz.prog 61 #[v] w fun e w' => e = .returned (.bool (keysB ks)) ∧ w' = w := by
  obtain ⟨a, cap, rfl, h⟩ := h
  obtain ⟨n, hn⟩ : ∃ n, n = ks.length := ⟨_, rfl⟩
  have HN : Hid (n = ks.length) := hn
  have HH : Hid (ks = [] ∨ ∃ b off, a = some ⟨b, off, none⟩ ∧ b < N ∧ ∀ j, j < ks.length → w.cell? ⟨b, off + j, none⟩ = some (.string (ks.getD j ky.nt))) := h
  have hl : n ≤ 1048576 := by rw [hn]; exact hs.1
  rw [← hn]
  clear h hs hn
  have HF : Hid (∀ s w, Calls Tryz.prog 76 #[.string s] w fun e w' => e = .returned (.bool (mu.kOK s.size)) ∧ w' = w) := fun f w => mu.isKey_any f w
  by_cases g0 : 60 < n
  · have g0' : (60 : Int) < (n : Int) := by omega
    rw [keys_no (by have := HN.out; omega)]
    go_enter Tryz.func61, Tryz.ntmps61
    go_wp2
    go_ret
    exact ⟨rfl, rfl⟩
  have g0' : (n : Int) ≤ 60 := by omega
  go_enter Tryz.func61, Tryz.ntmps61
  go_wp2
  go_loopw [10] (fun i wr => ∃ (k : Nat), k ≤ n ∧ i = .int .i64 k ∧ KGood ks k ∧ wr = w) (fun i _ => n - (intOf i).toNat)
  case atStart => exact ⟨0, Nat.zero_le _, rfl, fun j hj => absurd hj (Nat.not_lt_zero _), rfl⟩
  case round =>
    obtain ⟨k, hk, rfl, hal, rfl⟩ := hrel
    have HAL : Hid (KGood ks k) := hal
    clear hal
    by_cases hlt : k < n
    · have hka : k < ks.length := by rw [← HN.out]; exact hlt
      rcases HH.out with e | ⟨b, off, rfl, _, hcells⟩
      · rw [e] at hka; simp at hka
      have c0 := hcells k hka
      have HKA : Hid (k < ks.length) := hka
      clear hcells hka
      generalize hx : ks.getD k ky.nt = x at c0
      have HX : Hid (ks.getD k ky.nt = x) := hx
      clear hx
      have hlt' : (k : Int) < (n : Int) := by omega
      by_cases q : 1 ≤ x.size ∧ x.size ≤ 200
      · have e2 : mu.kOK x.size = true := decide_eq_true q
        have HR : Hid (KGood ks (k + 1)) := kgood_step HAL.out HX.out q
        clear q
        go_wp2_with (go_at_call 76; refine (HF.out _ _).mono ?_; rintro e w' ⟨rfl, rfl⟩; rw [e2])
        go_roundw
        case rel => exact ⟨k + 1, by omega, by go_num, HR.out, by trivial⟩
        case measure => simp [intOf]; omega
      · have e2 : mu.kOK x.size = false := decide_eq_false q
        have HR : Hid (keysB ks = false) := keys_no (fun y => q (HX.out ▸ y.2 k HKA.out))
        clear q
        go_wp2_with (go_at_call 76; refine (HF.out _ _).mono ?_; rintro e w' ⟨rfl, rfl⟩; rw [e2])
        go_ret
        exact ⟨mu.ret_bool HR.out.symm, rfl⟩
    · have HR : Hid (keysB ks = true) := keys_yes (by have := HN.out; omega) (fun j hj => HAL.out j (by have := HN.out; omega))
      go_wp2
      go_ret
      exact ⟨mu.ret_bool HR.out.symm, rfl⟩
end Go.Proofs.YtinnnfkhiigjpaaGreat.bx

namespace Go.Proofs
open Go.Shelf
def Tryz.laysM316_ren : Go.Shelf.Ren := ⟨fun | 316 => 82 | n => n, fun | 9 => 9 | 3 => 3 | 4 => 4 | 37 => 22 | 0 => 0 | 127 => 113 | 5 => 5 | n => n, fun | n => n⟩
theorem Tryz.laysM316 : Go.Proofs.LaysM.n316 Tryz.prog Tryz.laysM316_ren := {
  mixed := by kernel_rfl
  f316 := Tryz.func82.trans (congrArg some (by kernel_rfl))
  t0 := Tryz.underlying0
  a0 := Tryz.isAgg0
  z0 := Tryz.sizeOf0
  v0 := Tryz.zeroValue0
  t3 := Tryz.underlying3
  a3 := Tryz.isAgg3
  z3 := Tryz.sizeOf3
  v3 := Tryz.zeroValue3
  t4 := Tryz.underlying4
  a4 := Tryz.isAgg4
  z4 := Tryz.sizeOf4
  v4 := Tryz.zeroValue4
  t9 := Tryz.underlying9
  a9 := Tryz.isAgg9
  z9 := Tryz.sizeOf9
  v9 := Tryz.zeroValue9
  t37 := Tryz.underlying22
  a37 := Tryz.isAgg22
  z37 := Tryz.sizeOf22
  v37 := Tryz.zeroValue22
  t127 := Tryz.underlying113
  a127 := Tryz.isAgg113
  z127 := Tryz.sizeOf113
  v127 := Tryz.zeroValue113
  t5 := Tryz.underlying5
  a5 := Tryz.isAgg5
  z5 := Tryz.sizeOf5
  v5 := Tryz.zeroValue5
  i0 := by kernel_rfl
  i3 := by kernel_rfl
  i4 := by kernel_rfl
  i5 := by kernel_rfl
  i9 := by kernel_rfl
  i37 := by kernel_rfl
  i127 := by kernel_rfl }
open Go.RowKit in
theorem Tryz.stringslite_Clone (s : ByteArray) (w : World) (hlim : s.size ≤ 281474976710656) :
    Calls Tryz.prog 82 #[.string s] w fun e w' => e = .returned (.string s) ∧ Below w.heap.size w w' := Any.stringslite_Clone Tryz.laysM316 s w hlim
end Go.Proofs
