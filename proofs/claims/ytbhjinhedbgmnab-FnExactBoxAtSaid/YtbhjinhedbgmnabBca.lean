/-
  Rows of stored mails and of texts, copied by slices.Clone into memory of their own.
-/
import Derived.Test.YtbhjinhedbgmnabBwa
import Derived.Laws.AppendOwn
import Derived.Laws.AppendOwnNone
import Derived.Lib.SliceRun
namespace Go.Proofs.Ytbhjinhedbgmnab.bx
open Go.RowKit
open st
set_option linter.unusedVariables false

/-- The cells of stored mails. -/
def mc : List St → List Value
  | [] => []
  | e :: es => .int .i64 e.u :: .int .i64 e.f :: .string e.t :: mc es
theorem mc_len : ∀ ms : List St, (mc ms).length = ms.length * 3
  | [] => rfl
  | e :: es => by simp [mc, mc_len es]; omega
theorem mc_at : ∀ (ms : List St) (j : Nat), j < ms.length → In3 (mc ms) (j * 3) (ms.getD j noS)
  | [], j, hj => by simp at hj
  | e :: es, 0, hj => ⟨rfl, rfl, rfl⟩
  | e :: es, j + 1, hj => by
    have h := mc_at es j (by simpa using hj)
    unfold In3 at h ⊢
    rw [show (j + 1) * 3 = j * 3 + 1 + 1 + 1 from by omega]
    simpa [mc] using h
theorem mc_one : ∀ (ms : List St), ∀ u ∈ mc ms, u.oneCell' = true
  | [], u, h => by simp [mc] at h
  | e :: es, u, h => by
    simp only [mc, List.mem_cons] at h
    rcases h with rfl | rfl | rfl | h
    · rfl
    · rfl
    · rfl
    · exact mc_one es u h
theorem mc_cells {w : World} {b off : Nat} {ms : List St} (h : ∀ j, j < ms.length → At3 w b (off + j * 3) (ms.getD j noS)) (j : Nat) (u : Value) (hu : (mc ms)[j]? = some u) : w.cell? ⟨b, off + j, none⟩ = some u := by
  have hj := (List.getElem?_eq_some_iff.1 hu).1
  rw [mc_len] at hj
  have hi : j / 3 < ms.length := by omega
  obtain ⟨a0, a1, a2⟩ := h (j / 3) hi
  obtain ⟨m0, m1, m2⟩ := mc_at ms (j / 3) hi
  have hr : j % 3 = 0 ∨ j % 3 = 1 ∨ j % 3 = 2 := by omega
  rcases hr with hr | hr | hr
  · have e : j = j / 3 * 3 := by omega
    rw [e] at hu ⊢
    rw [m0] at hu
    cases hu
    exact a0
  · have e : j = j / 3 * 3 + 1 := by omega
    rw [e] at hu ⊢
    rw [m1] at hu
    cases hu
    exact a1
  · have e : j = j / 3 * 3 + 2 := by omega
    rw [e] at hu ⊢
    rw [m2] at hu
    cases hu
    exact a2
/-- A row of mails that a call made. -/
def OwnM (w : World) (base : Nat) (v : Value) (ms : List St) : Prop := w.ownsRow base 97 3 v ms.length (mc ms)
def OwnK (w : World) (base : Nat) (v : Value) (ks : List ByteArray) : Prop := w.ownsRow base 9 1 v ks.length (ks.map Value.string)
theorem own_lt {w : World} {B e s n : Nat} {v : Value} {xs : List Value} (h : w.ownsRow B e s v n xs) : ∀ k, v.ownBlock = some k → k < w.heap.size := fun k hk => (h.lt k hk).2
theorem ownM_in {w : World} {B N : Nat} {v : Value} {ms : List St} (h : OwnM w B v ms) (hN : w.heap.size ≤ N) : MailsIn w N v ms := by
  rcases id h.2 with ⟨rfl, hz⟩ | ⟨g, cap, cur, rfl, _, hb, _⟩
  · have : ms = [] := List.eq_nil_of_length_eq_zero hz
    subst this
    exact ⟨none, 0, rfl, .inl rfl⟩
  · refine ⟨_, cap, rfl, .inr ⟨g, 0, rfl, Nat.lt_of_lt_of_le (Array.getElem?_eq_some_iff.1 hb).1 hN, fun j hj => ?_⟩⟩
    obtain ⟨h0, h1, h2⟩ := mc_at ms j hj
    have h' : w.ownsRow B 97 3 (.slice (some ⟨g, 0, none⟩) ms.length cap) ms.length (mc ms) := h
    refine ⟨?_, ?_, ?_⟩
    · rw [Nat.zero_add, h'.cellAt _ (by omega), h0]
    · rw [Nat.zero_add, h'.cellAt _ (by omega), h1]
    · rw [Nat.zero_add, h'.cellAt _ (by omega), h2]
theorem ownK_in {w : World} {B N : Nat} {v : Value} {ks : List ByteArray} (h : OwnK w B v ks) (hN : w.heap.size ≤ N) : tx.TextsIn w N v ks := by
  rcases id h.2 with ⟨rfl, hz⟩ | ⟨g, cap, cur, rfl, _, hb, _⟩
  · have : ks = [] := List.eq_nil_of_length_eq_zero hz
    subst this
    exact ⟨none, 0, rfl, .inl rfl⟩
  · refine ⟨_, cap, rfl, .inr ⟨g, 0, rfl, Nat.lt_of_lt_of_le (Array.getElem?_eq_some_iff.1 hb).1 hN, fun j hj => ?_⟩⟩
    have h' : w.ownsRow B 9 1 (.slice (some ⟨g, 0, none⟩) ks.length cap) ks.length (ks.map Value.string) := h
    rw [Nat.zero_add, h'.cellAt _ (by omega)]
    simp [List.getD_eq_getElem?_getD, hj]
/-- A slice that is nil, or lies in memory. -/
def Fine (v : Value) : Prop := v = .slice none 0 0 ∨ ∃ ad n c, v = .slice (some ad) n c
theorem own_fine {w : World} {B e s n : Nat} {v : Value} {xs : List Value} (h : w.ownsRow B e s v n xs) : Fine v := by
  rcases h.2 with ⟨rfl, _⟩ | ⟨g, cap, cur, rfl, _⟩
  · exact .inl rfl
  · exact .inr ⟨_, _, _, rfl⟩
theorem infoT : (Try.prog.info? 9).map (fun i => (i.zero, i.size, i.bytes)) = some (some (.string ⟨#[]⟩), 1, 16) := by kernel_rfl
theorem src_mails {w : World} {N : Nat} {ad : Addr} {n c : Nat} {ms : List St} (h : MailsIn w N (.slice (some ad) n c) ms) : n = ms.length ∧ ∀ j u, (mc ms)[j]? = some u → w.cell? (ad.add j) = some u := by
  obtain ⟨a, cap, e, h⟩ := h
  cases e
  refine ⟨rfl, fun j u hu => ?_⟩
  rcases h with h | ⟨b, off, e, _, h⟩
  · rw [h] at hu; simp [mc] at hu
  · cases e
    rw [show ((⟨b, off, none⟩ : Addr).add j) = ⟨b, off + j, none⟩ from by simp [Addr.add]]
    exact mc_cells h j u hu
theorem src_texts {w : World} {N : Nat} {ad : Addr} {n c : Nat} {ks : List ByteArray} (h : tx.TextsIn w N (.slice (some ad) n c) ks) : n = ks.length ∧ ∀ j u, (ks.map Value.string)[j]? = some u → w.cell? (ad.add j) = some u := by
  obtain ⟨a, cap, e, h⟩ := h
  cases e
  refine ⟨rfl, fun j u hu => ?_⟩
  rcases h with h | ⟨b, off, e, _, h⟩
  · rw [h] at hu; simp at hu
  · cases e
    rw [show ((⟨b, off, none⟩ : Addr).add j) = ⟨b, off + j, none⟩ from by simp [Addr.add]]
    have hj : j < ks.length := by
      have := (List.getElem?_eq_some_iff.1 hu).1
      simpa using this
    rw [h j hj, ← hu]
    simp [List.getD_eq_getElem?_getD, hj]
theorem str_one (ks : List ByteArray) : ∀ u ∈ ks.map Value.string, u.oneCell' = true := by
  intro u hu
  obtain ⟨b, _, rfl⟩ := List.mem_map.1 hu
  rfl

set_option maxHeartbeats 2000000 in
set_option maxRecDepth 100000 in
theorem cloneM_any (v : Value) (N : Nat) (ms : List St) (w : World) (h : MailsIn w N v ms) (hv : Fine v) (hn : ms.length ≤ 1048576) :
    Calls Try.prog 63 #[v] w fun e w' => (∃ v', e = .returned v' ∧ OwnM w' w.heap.size v' ms) ∧ Below w.heap.size w w' := by
  obtain ⟨i0, hi, hz0, hz1, hz2⟩ := info_parts infoS
  have hq : ∀ (w : World) (a : Option Addr) (n c n' c' : Nat), (binOp .eql 24 (.slice a n c) (.slice none n' c')).run Try.prog w = .ok (.bool a.isNone) w := fun w a n c n' c' => Lib.run_eql_slice_nil w _ _ a n c n' c' Try.underlying24
  rcases hv with rfl | ⟨ad, n, c, rfl⟩
  · have hms : ms = [] := by
      obtain ⟨a, cap, e, _⟩ := h
      simp only [Value.slice.injEq] at e
      exact List.eq_nil_of_length_eq_zero e.2.1.symm
    have HM : Hid (OwnM w w.heap.size (.slice none 0 0) ms) := by rw [hms]; exact World.ownsRow_nil _ _ _ _
    clear h hms hn
    go_enter Try.func63, Try.ntmps63
    go_wp2
    go_ret
    exact ⟨⟨_, rfl, HM.out⟩, Below.refl _ _⟩
  obtain ⟨rfl, hs⟩ := src_mails h
  have hb : Below w.heap.size w (w.alloc (.cells #[] 97)) := (Below.refl _ _).alloc (Nat.le_refl _) _
  have HS : Hid (∀ j u, (mc ms)[j]? = some u → (w.alloc (.cells #[] 97)).cell? (ad.add j) = some u) := fun j u hu => (hb.cell (World.block_lt_of_cell? w _ (hs j u hu))).trans (hs j u hu)
  have HO : Hid ((w.alloc (.cells #[] 97)).ownsRow w.heap.size 97 3 (.slice (some ⟨w.heap.size, 0, none⟩) 0 0) 0 []) := World.ownsRow_made w #[] 0 (Nat.le_refl _) (Nat.zero_le _) rfl
  clear h hs
  go_enter Try.func63, Try.ntmps63
  go_wp2_with (at_builtin; refine wpList_append_own _ rfl _ _ 24 rfl w.heap.size 97 i0 _ 3 32 Try.underlying24 hi hz0 hz1 hz2 rfl (by decide) _ _ _ rfl HO.out ad ms.length c (mc ms) rfl (mc_len ms) HS.out (mc_one ms) (by unfold maxLen; omega) (by omega) (by simp) ?_; intro v' w1 hown hgrow hnil)
  have HE : Hid (OwnM w1 w.heap.size v' ms ∧ Below w.heap.size w w1) := by
    refine ⟨?_, hb.grown hgrow (by simp) (fun k hk => (HO.out.lt k hk).1)⟩
    unfold OwnM
    simpa using hown
  clear hown hgrow hnil
  go_wp2
  go_ret
  exact ⟨⟨_, rfl, HE.out.1⟩, HE.out.2⟩

set_option maxHeartbeats 2000000 in
set_option maxRecDepth 100000 in
theorem cloneK_any (v : Value) (N : Nat) (ks : List ByteArray) (w : World) (h : tx.TextsIn w N v ks) (hv : Fine v) (hn : ks.length ≤ 1048576) :
    Calls Try.prog 65 #[v] w fun e w' => (∃ v', e = .returned v' ∧ OwnK w' w.heap.size v' ks) ∧ Below w.heap.size w w' := by
  obtain ⟨i0, hi, hz0, hz1, hz2⟩ := info_parts infoT
  have hq : ∀ (w : World) (a : Option Addr) (n c n' c' : Nat), (binOp .eql 25 (.slice a n c) (.slice none n' c')).run Try.prog w = .ok (.bool a.isNone) w := fun w a n c n' c' => Lib.run_eql_slice_nil w _ _ a n c n' c' Try.underlying25
  rcases hv with rfl | ⟨ad, n, c, rfl⟩
  · have hms : ks = [] := by
      obtain ⟨a, cap, e, _⟩ := h
      simp only [Value.slice.injEq] at e
      exact List.eq_nil_of_length_eq_zero e.2.1.symm
    have HM : Hid (OwnK w w.heap.size (.slice none 0 0) ks) := by rw [hms]; exact World.ownsRow_nil _ _ _ _
    clear h hms hn
    go_enter Try.func65, Try.ntmps65
    go_wp2
    go_ret
    exact ⟨⟨_, rfl, HM.out⟩, Below.refl _ _⟩
  obtain ⟨rfl, hs⟩ := src_texts h
  have hb : Below w.heap.size w (w.alloc (.cells #[] 9)) := (Below.refl _ _).alloc (Nat.le_refl _) _
  have HS : Hid (∀ j u, (ks.map Value.string)[j]? = some u → (w.alloc (.cells #[] 9)).cell? (ad.add j) = some u) := fun j u hu => (hb.cell (World.block_lt_of_cell? w _ (hs j u hu))).trans (hs j u hu)
  have HO : Hid ((w.alloc (.cells #[] 9)).ownsRow w.heap.size 9 1 (.slice (some ⟨w.heap.size, 0, none⟩) 0 0) 0 []) := World.ownsRow_made w #[] 0 (Nat.le_refl _) (Nat.zero_le _) rfl
  clear h hs
  go_enter Try.func65, Try.ntmps65
  go_wp2_with (at_builtin; refine wpList_append_own _ rfl _ _ 25 rfl w.heap.size 9 i0 _ 1 16 Try.underlying25 hi hz0 hz1 hz2 rfl (by decide) _ _ _ rfl HO.out ad ks.length c (ks.map Value.string) rfl (by simp) HS.out (str_one ks) (by unfold maxLen; omega) (by omega) (by simp) ?_; intro v' w1 hown hgrow hnil)
  have HE : Hid (OwnK w1 w.heap.size v' ks ∧ Below w.heap.size w w1) := by
    refine ⟨?_, hb.grown hgrow (by simp) (fun k hk => (HO.out.lt k hk).1)⟩
    unfold OwnK
    simpa using hown
  clear hown hgrow hnil
  go_wp2
  go_ret
  exact ⟨⟨_, rfl, HE.out.1⟩, HE.out.2⟩
/-- An append of what a slice holds, nil or not. -/
theorem wpList_append_any {P : Program} {w : World} {ops : Array Oper} {rest : List Oper} {o : Oper} {a : Act} {Q : Exit → Act → World → Prop} (hgd : o.guard = none) (s x : Operand) (t : TypeId)
    (ho : o.op = .call { callee := .builtin .append, args := #[s, x], argTypes := #[t, t] })
    (base : Nat) (e : TypeId) (i : TypeInfo) (z : Value) (size bytes : Nat) (ht : P.underlying t = some (.slice e)) (hi : P.info? e = some i) (hz : i.zero = some z)
    (hsize : i.size = size) (hby : i.bytes = bytes) (hzs : z.cells.size = size) (hsz : 0 < size)
    (v : Value) (n : Nat) (xs : List Value) (hs : a.eval s = v) (hown : w.ownsRow base e size v n xs)
    (y : Value) (m : Nat) (news : List Value) (hx : a.eval x = y) (hy : (y = .slice none 0 0 ∧ m = 0 ∧ news = []) ∨ ∃ ad c, y = .slice (some ad) m c ∧ news.length = m * size ∧ ∀ j u, news[j]? = some u → w.cell? (ad.add j) = some u) (h1 : ∀ u ∈ news, u.oneCell' = true)
    (h63 : n + m ≤ maxLen) (hbytes : (n + m) * bytes ≤ 140737488355328) (hbase : base ≤ w.heap.size)
    (h : ∀ v' w', w'.ownsRow base e size v' (n + m) (xs ++ news) → w.grownBy w' v.ownBlock → wpList P ops Q rest (a.put o.dst v') w') : wpList P ops Q (o :: rest) a w := by
  rcases hy with ⟨rfl, rfl, rfl⟩ | ⟨ad, c, rfl, hl, hn⟩
  · refine wpList_append_own_none hgd s x t ho base e i size ht hi v n xs hs hown hx (h v w ?_ (ow.grown_refl _ _))
    rw [List.append_nil]
    exact hown
  · exact wpList_append_own w hgd s x t ho base e i z size bytes ht hi hz hsize hby hzs hsz v n xs hs hown ad m c news hx hl hn h1 h63 hbytes hbase (fun v' w' a b _ => h v' w' a b)
theorem mails_src {w : World} {N : Nat} {v : Value} {ms : List St} (h : MailsIn w N v ms) (hv : Fine v) : (v = .slice none 0 0 ∧ ms.length = 0 ∧ mc ms = []) ∨ ∃ ad c, v = .slice (some ad) ms.length c ∧ (mc ms).length = ms.length * 3 ∧ ∀ j u, (mc ms)[j]? = some u → w.cell? (ad.add j) = some u := by
  rcases hv with rfl | ⟨ad, n, c, rfl⟩
  · obtain ⟨a, cap, e, _⟩ := h
    simp only [Value.slice.injEq] at e
    have : ms = [] := List.eq_nil_of_length_eq_zero e.2.1.symm
    subst this
    exact .inl ⟨rfl, rfl, rfl⟩
  · obtain ⟨rfl, hs⟩ := src_mails h
    exact .inr ⟨ad, c, rfl, mc_len ms, hs⟩
theorem texts_src {w : World} {N : Nat} {v : Value} {ks : List ByteArray} (h : tx.TextsIn w N v ks) (hv : Fine v) : (v = .slice none 0 0 ∧ ks.length = 0 ∧ ks.map Value.string = []) ∨ ∃ ad c, v = .slice (some ad) ks.length c ∧ (ks.map Value.string).length = ks.length * 1 ∧ ∀ j u, (ks.map Value.string)[j]? = some u → w.cell? (ad.add j) = some u := by
  rcases hv with rfl | ⟨ad, n, c, rfl⟩
  · obtain ⟨a, cap, e, _⟩ := h
    simp only [Value.slice.injEq] at e
    have : ks = [] := List.eq_nil_of_length_eq_zero e.2.1.symm
    subst this
    exact .inl ⟨rfl, rfl, rfl⟩
  · obtain ⟨rfl, hs⟩ := src_texts h
    exact .inr ⟨ad, c, rfl, by simp, hs⟩
end Go.Proofs.Ytbhjinhedbgmnab.bx
