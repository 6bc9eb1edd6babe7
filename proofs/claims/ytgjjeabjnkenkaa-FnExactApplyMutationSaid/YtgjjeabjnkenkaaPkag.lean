/-
  Rows of stored mails and of texts, copied by slices.Clone into memory of their own.
  Rows of stored mails, marked by the law's own functions, and held against the marks.
-/
import Derived.Test.YtgjjeabjnkenkaaPkaf
import Derived.Laws.AppendOwn
import Derived.Laws.AppendOwnNone
import Derived.Lib.SliceRun
import Derived.Test.YtgjjeabjnkenkaaPkab

namespace Go.Proofs.Ytgjjeabjnkenkaa.bx
open Go.RowKit
open st
set_option linter.unusedVariables false

/-- The cells of stored mails. -/
def mc : List St → List Value
  | [] => []
  | e :: es => .int .i64 e.u :: .int .i64 e.f :: .string e.t :: mc es
theorem mc_len : ∀ ms : List St, (mc ms).length = ms.length * 3
  | [] => rfl
  | e :: es => by simp [mc, mc_len es]; omega
theorem mc_at : ∀ (ms : List St) (j : Nat), j < ms.length → In3 (mc ms) (j * 3) (ms.getD j noS)
  | [], j, hj => by simp at hj
  | e :: es, 0, hj => ⟨rfl, rfl, rfl⟩
  | e :: es, j + 1, hj => by
    have h := mc_at es j (by simpa using hj)
    unfold In3 at h ⊢
    rw [show (j + 1) * 3 = j * 3 + 1 + 1 + 1 from by omega]
    simpa [mc] using h
theorem mc_one : ∀ (ms : List St), ∀ u ∈ mc ms, u.oneCell' = true
  | [], u, h => by simp [mc] at h
  | e :: es, u, h => by
    simp only [mc, List.mem_cons] at h
    rcases h with rfl | rfl | rfl | h
    · rfl
    · rfl
    · rfl
    · exact mc_one es u h
theorem mc_cells {w : World} {b off : Nat} {ms : List St} (h : ∀ j, j < ms.length → At3 w b (off + j * 3) (ms.getD j noS)) (j : Nat) (u : Value) (hu : (mc ms)[j]? = some u) : w.cell? ⟨b, off + j, none⟩ = some u := by
  have hj := (List.getElem?_eq_some_iff.1 hu).1
  rw [mc_len] at hj
  have hi : j / 3 < ms.length := by omega
  obtain ⟨a0, a1, a2⟩ := h (j / 3) hi
  obtain ⟨m0, m1, m2⟩ := mc_at ms (j / 3) hi
  have hr : j % 3 = 0 ∨ j % 3 = 1 ∨ j % 3 = 2 := by omega
  rcases hr with hr | hr | hr
  · have e : j = j / 3 * 3 := by omega
    rw [e] at hu ⊢
    rw [m0] at hu
    cases hu
    exact a0
  · have e : j = j / 3 * 3 + 1 := by omega
    rw [e] at hu ⊢
    rw [m1] at hu
    cases hu
    exact a1
  · have e : j = j / 3 * 3 + 2 := by omega
    rw [e] at hu ⊢
    rw [m2] at hu
    cases hu
    exact a2
/-- A row of mails that a call made. -/
def OwnM (w : World) (base : Nat) (v : Value) (ms : List St) : Prop := w.ownsRow base 92 3 v ms.length (mc ms)
def OwnK (w : World) (base : Nat) (v : Value) (ks : List ByteArray) : Prop := w.ownsRow base 9 1 v ks.length (ks.map Value.string)
theorem own_lt {w : World} {B e s n : Nat} {v : Value} {xs : List Value} (h : w.ownsRow B e s v n xs) : ∀ k, v.ownBlock = some k → k < w.heap.size := fun k hk => (h.lt k hk).2
theorem ownM_in {w : World} {B N : Nat} {v : Value} {ms : List St} (h : OwnM w B v ms) (hN : w.heap.size ≤ N) : MailsIn w N v ms := by
  rcases id h.2 with ⟨rfl, hz⟩ | ⟨g, cap, cur, rfl, _, hb, _⟩
  · have : ms = [] := List.eq_nil_of_length_eq_zero hz
    subst this
    exact ⟨none, 0, rfl, .inl rfl⟩
  · refine ⟨_, cap, rfl, .inr ⟨g, 0, rfl, Nat.lt_of_lt_of_le (Array.getElem?_eq_some_iff.1 hb).1 hN, fun j hj => ?_⟩⟩
    obtain ⟨h0, h1, h2⟩ := mc_at ms j hj
    have h' : w.ownsRow B 92 3 (.slice (some ⟨g, 0, none⟩) ms.length cap) ms.length (mc ms) := h
    refine ⟨?_, ?_, ?_⟩
    · rw [Nat.zero_add, h'.cellAt _ (by omega), h0]
    · rw [Nat.zero_add, h'.cellAt _ (by omega), h1]
    · rw [Nat.zero_add, h'.cellAt _ (by omega), h2]
theorem ownK_in {w : World} {B N : Nat} {v : Value} {ks : List ByteArray} (h : OwnK w B v ks) (hN : w.heap.size ≤ N) : tx.TextsIn w N v ks := by
  rcases id h.2 with ⟨rfl, hz⟩ | ⟨g, cap, cur, rfl, _, hb, _⟩
  · have : ks = [] := List.eq_nil_of_length_eq_zero hz
    subst this
    exact ⟨none, 0, rfl, .inl rfl⟩
  · refine ⟨_, cap, rfl, .inr ⟨g, 0, rfl, Nat.lt_of_lt_of_le (Array.getElem?_eq_some_iff.1 hb).1 hN, fun j hj => ?_⟩⟩
    have h' : w.ownsRow B 9 1 (.slice (some ⟨g, 0, none⟩) ks.length cap) ks.length (ks.map Value.string) := h
    rw [Nat.zero_add, h'.cellAt _ (by omega)]
    simp [List.getD_eq_getElem?_getD, hj]
/-- A slice that is nil, or lies in memory. -/
def Fine (v : Value) : Prop := v = .slice none 0 0 ∨ ∃ ad n c, v = .slice (some ad) n c
theorem own_fine {w : World} {B e s n : Nat} {v : Value} {xs : List Value} (h : w.ownsRow B e s v n xs) : Fine v := by
  rcases h.2 with ⟨rfl, _⟩ | ⟨g, cap, cur, rfl, _⟩
  · exact .inl rfl
  · exact .inr ⟨_, _, _, rfl⟩
theorem infoT : (Try.prog.info? 9).map (fun i => (i.zero, i.size, i.bytes)) = some (some (.string ⟨#[]⟩), 1, 16) := by kernel_rfl
theorem src_mails {w : World} {N : Nat} {ad : Addr} {n c : Nat} {ms : List St} (h : MailsIn w N (.slice (some ad) n c) ms) : n = ms.length ∧ ∀ j u, (mc ms)[j]? = some u → w.cell? (ad.add j) = some u := by
  obtain ⟨a, cap, e, h⟩ := h
  cases e
  refine ⟨rfl, fun j u hu => ?_⟩
  rcases h with h | ⟨b, off, e, _, h⟩
  · rw [h] at hu; simp [mc] at hu
  · cases e
    rw [show ((⟨b, off, none⟩ : Addr).add j) = ⟨b, off + j, none⟩ from by simp [Addr.add]]
    exact mc_cells h j u hu
theorem src_texts {w : World} {N : Nat} {ad : Addr} {n c : Nat} {ks : List ByteArray} (h : tx.TextsIn w N (.slice (some ad) n c) ks) : n = ks.length ∧ ∀ j u, (ks.map Value.string)[j]? = some u → w.cell? (ad.add j) = some u := by
  obtain ⟨a, cap, e, h⟩ := h
  cases e
  refine ⟨rfl, fun j u hu => ?_⟩
  rcases h with h | ⟨b, off, e, _, h⟩
  · rw [h] at hu; simp at hu
  · cases e
    rw [show ((⟨b, off, none⟩ : Addr).add j) = ⟨b, off + j, none⟩ from by simp [Addr.add]]
    have hj : j < ks.length := by
      have := (List.getElem?_eq_some_iff.1 hu).1
      simpa using this
    rw [h j hj, ← hu]
    simp [List.getD_eq_getElem?_getD, hj]
theorem str_one (ks : List ByteArray) : ∀ u ∈ ks.map Value.string, u.oneCell' = true := by
  intro u hu
  obtain ⟨b, _, rfl⟩ := List.mem_map.1 hu
  rfl

set_option maxHeartbeats 2000000 in
set_option maxRecDepth 100000 in
theorem cloneM_any (v : Value) (N : Nat) (ms : List St) (w : World) (h : MailsIn w N v ms) (hv : Fine v) (hn : ms.length ≤ 1048576) :
    Calls Try.prog 101 #[v] w fun e w' => (∃ v', e = .returned v' ∧ OwnM w' w.heap.size v' ms) ∧ Below w.heap.size w w' := by
  obtain ⟨i0, hi, hz0, hz1, hz2⟩ := info_parts infoS
  have hq : ∀ (w : World) (a : Option Addr) (n c n' c' : Nat), (binOp .eql 60 (.slice a n c) (.slice none n' c')).run Try.prog w = .ok (.bool a.isNone) w := fun w a n c n' c' => Lib.run_eql_slice_nil w _ _ a n c n' c' Try.underlying60
  rcases hv with rfl | ⟨ad, n, c, rfl⟩
  · have hms : ms = [] := by
      obtain ⟨a, cap, e, _⟩ := h
      simp only [Value.slice.injEq] at e
      exact List.eq_nil_of_length_eq_zero e.2.1.symm
    have HM : Hid (OwnM w w.heap.size (.slice none 0 0) ms) := by rw [hms]; exact World.ownsRow_nil _ _ _ _
    clear h hms hn
    go_enter Try.func101, Try.ntmps101
    go_wp2
    go_ret
    exact ⟨⟨_, rfl, HM.out⟩, Below.refl _ _⟩
  obtain ⟨rfl, hs⟩ := src_mails h
  have hb : Below w.heap.size w (w.alloc (.cells #[] 92)) := (Below.refl _ _).alloc (Nat.le_refl _) _
  have HS : Hid (∀ j u, (mc ms)[j]? = some u → (w.alloc (.cells #[] 92)).cell? (ad.add j) = some u) := fun j u hu => (hb.cell (World.block_lt_of_cell? w _ (hs j u hu))).trans (hs j u hu)
  have HO : Hid ((w.alloc (.cells #[] 92)).ownsRow w.heap.size 92 3 (.slice (some ⟨w.heap.size, 0, none⟩) 0 0) 0 []) := World.ownsRow_made w #[] 0 (Nat.le_refl _) (Nat.zero_le _) rfl
  clear h hs
  go_enter Try.func101, Try.ntmps101
  go_wp2_with (at_builtin; refine wpList_append_own _ rfl _ _ 60 rfl w.heap.size 92 i0 _ 3 32 Try.underlying60 hi hz0 hz1 hz2 rfl (by decide) _ _ _ rfl HO.out ad ms.length c (mc ms) rfl (mc_len ms) HS.out (mc_one ms) (by unfold maxLen; omega) (by omega) (by simp) ?_; intro v' w1 hown hgrow hnil)
  have HE : Hid (OwnM w1 w.heap.size v' ms ∧ Below w.heap.size w w1) := by
    refine ⟨?_, hb.grown hgrow (by simp) (fun k hk => (HO.out.lt k hk).1)⟩
    unfold OwnM
    simpa using hown
  clear hown hgrow hnil
  go_wp2
  go_ret
  exact ⟨⟨_, rfl, HE.out.1⟩, HE.out.2⟩

set_option maxHeartbeats 2000000 in
set_option maxRecDepth 100000 in
theorem cloneK_any (v : Value) (N : Nat) (ks : List ByteArray) (w : World) (h : tx.TextsIn w N v ks) (hv : Fine v) (hn : ks.length ≤ 1048576) :
    Calls Try.prog 103 #[v] w fun e w' => (∃ v', e = .returned v' ∧ OwnK w' w.heap.size v' ks) ∧ Below w.heap.size w w' := by
  obtain ⟨i0, hi, hz0, hz1, hz2⟩ := info_parts infoT
  have hq : ∀ (w : World) (a : Option Addr) (n c n' c' : Nat), (binOp .eql 54 (.slice a n c) (.slice none n' c')).run Try.prog w = .ok (.bool a.isNone) w := fun w a n c n' c' => Lib.run_eql_slice_nil w _ _ a n c n' c' Try.underlying54
  rcases hv with rfl | ⟨ad, n, c, rfl⟩
  · have hms : ks = [] := by
      obtain ⟨a, cap, e, _⟩ := h
      simp only [Value.slice.injEq] at e
      exact List.eq_nil_of_length_eq_zero e.2.1.symm
    have HM : Hid (OwnK w w.heap.size (.slice none 0 0) ks) := by rw [hms]; exact World.ownsRow_nil _ _ _ _
    clear h hms hn
    go_enter Try.func103, Try.ntmps103
    go_wp2
    go_ret
    exact ⟨⟨_, rfl, HM.out⟩, Below.refl _ _⟩
  obtain ⟨rfl, hs⟩ := src_texts h
  have hb : Below w.heap.size w (w.alloc (.cells #[] 9)) := (Below.refl _ _).alloc (Nat.le_refl _) _
  have HS : Hid (∀ j u, (ks.map Value.string)[j]? = some u → (w.alloc (.cells #[] 9)).cell? (ad.add j) = some u) := fun j u hu => (hb.cell (World.block_lt_of_cell? w _ (hs j u hu))).trans (hs j u hu)
  have HO : Hid ((w.alloc (.cells #[] 9)).ownsRow w.heap.size 9 1 (.slice (some ⟨w.heap.size, 0, none⟩) 0 0) 0 []) := World.ownsRow_made w #[] 0 (Nat.le_refl _) (Nat.zero_le _) rfl
  clear h hs
  go_enter Try.func103, Try.ntmps103
  go_wp2_with (at_builtin; refine wpList_append_own _ rfl _ _ 54 rfl w.heap.size 9 i0 _ 1 16 Try.underlying54 hi hz0 hz1 hz2 rfl (by decide) _ _ _ rfl HO.out ad ks.length c (ks.map Value.string) rfl (by simp) HS.out (str_one ks) (by unfold maxLen; omega) (by omega) (by simp) ?_; intro v' w1 hown hgrow hnil)
  have HE : Hid (OwnK w1 w.heap.size v' ks ∧ Below w.heap.size w w1) := by
    refine ⟨?_, hb.grown hgrow (by simp) (fun k hk => (HO.out.lt k hk).1)⟩
    unfold OwnK
    simpa using hown
  clear hown hgrow hnil
  go_wp2
  go_ret
  exact ⟨⟨_, rfl, HE.out.1⟩, HE.out.2⟩
/-- An append of what a slice holds, nil or not. -/
theorem wpList_append_any {P : Program} {w : World} {ops : Array Oper} {rest : List Oper} {o : Oper} {a : Act} {Q : Exit → Act → World → Prop} (hgd : o.guard = none) (s x : Operand) (t : TypeId)
    (ho : o.op = .call { callee := .builtin .append, args := #[s, x], argTypes := #[t, t] })
    (base : Nat) (e : TypeId) (i : TypeInfo) (z : Value) (size bytes : Nat) (ht : P.underlying t = some (.slice e)) (hi : P.info? e = some i) (hz : i.zero = some z)
    (hsize : i.size = size) (hby : i.bytes = bytes) (hzs : z.cells.size = size) (hsz : 0 < size)
    (v : Value) (n : Nat) (xs : List Value) (hs : a.eval s = v) (hown : w.ownsRow base e size v n xs)
    (y : Value) (m : Nat) (news : List Value) (hx : a.eval x = y) (hy : (y = .slice none 0 0 ∧ m = 0 ∧ news = []) ∨ ∃ ad c, y = .slice (some ad) m c ∧ news.length = m * size ∧ ∀ j u, news[j]? = some u → w.cell? (ad.add j) = some u) (h1 : ∀ u ∈ news, u.oneCell' = true)
    (h63 : n + m ≤ maxLen) (hbytes : (n + m) * bytes ≤ 140737488355328) (hbase : base ≤ w.heap.size)
    (h : ∀ v' w', w'.ownsRow base e size v' (n + m) (xs ++ news) → w.grownBy w' v.ownBlock → wpList P ops Q rest (a.put o.dst v') w') : wpList P ops Q (o :: rest) a w := by
  rcases hy with ⟨rfl, rfl, rfl⟩ | ⟨ad, c, rfl, hl, hn⟩
  · refine wpList_append_own_none hgd s x t ho base e i size ht hi v n xs hs hown hx (h v w ?_ (ow.grown_refl _ _))
    rw [List.append_nil]
    exact hown
  · exact wpList_append_own w hgd s x t ho base e i z size bytes ht hi hz hsize hby hzs hsz v n xs hs hown ad m c news hx hl hn h1 h63 hbytes hbase (fun v' w' a b _ => h v' w' a b)
theorem mails_src {w : World} {N : Nat} {v : Value} {ms : List St} (h : MailsIn w N v ms) (hv : Fine v) : (v = .slice none 0 0 ∧ ms.length = 0 ∧ mc ms = []) ∨ ∃ ad c, v = .slice (some ad) ms.length c ∧ (mc ms).length = ms.length * 3 ∧ ∀ j u, (mc ms)[j]? = some u → w.cell? (ad.add j) = some u := by
  rcases hv with rfl | ⟨ad, n, c, rfl⟩
  · obtain ⟨a, cap, e, _⟩ := h
    simp only [Value.slice.injEq] at e
    have : ms = [] := List.eq_nil_of_length_eq_zero e.2.1.symm
    subst this
    exact .inl ⟨rfl, rfl, rfl⟩
  · obtain ⟨rfl, hs⟩ := src_mails h
    exact .inr ⟨ad, c, rfl, mc_len ms, hs⟩
theorem texts_src {w : World} {N : Nat} {v : Value} {ks : List ByteArray} (h : tx.TextsIn w N v ks) (hv : Fine v) : (v = .slice none 0 0 ∧ ks.length = 0 ∧ ks.map Value.string = []) ∨ ∃ ad c, v = .slice (some ad) ks.length c ∧ (ks.map Value.string).length = ks.length * 1 ∧ ∀ j u, (ks.map Value.string)[j]? = some u → w.cell? (ad.add j) = some u := by
  rcases hv with rfl | ⟨ad, n, c, rfl⟩
  · obtain ⟨a, cap, e, _⟩ := h
    simp only [Value.slice.injEq] at e
    have : ks = [] := List.eq_nil_of_length_eq_zero e.2.1.symm
    subst this
    exact .inl ⟨rfl, rfl, rfl⟩
  · obtain ⟨rfl, hs⟩ := src_texts h
    exact .inr ⟨ad, c, rfl, by simp, hs⟩
end Go.Proofs.Ytgjjeabjnkenkaa.bx

namespace Go.Proofs.Ytgjjeabjnkenkaa.mm
open Go.RowKit
open gr mk st bx
set_option linter.unusedVariables false

/-- The marks of so many mails, from a number on. -/
def marksM (k : Int) : Nat → List Value
  | 0 => []
  | n + 1 => marksM k n ++ [.int .i64 (k + 3 * (n : Int)), .int .i64 (k + 3 * (n : Int) + 1), .string (mt (k + 3 * (n : Int) + 2))]
theorem marksM_len (k : Int) : ∀ n, (marksM k n).length = n * 3
  | 0 => rfl
  | n + 1 => by simp [marksM, marksM_len k n]; omega
def At3m (k : Int) (xs : List Value) (j : Nat) : Prop := xs[j * 3]? = some (.int .i64 (k + 3 * (j : Int))) ∧ xs[j * 3 + 1]? = some (.int .i64 (k + 3 * (j : Int) + 1)) ∧ xs[j * 3 + 2]? = some (.string (mt (k + 3 * (j : Int) + 2)))
theorem marksM_at (k : Int) : ∀ n j, j < n → At3m k (marksM k n) j
  | 0, j, hj => absurd hj (Nat.not_lt_zero _)
  | n + 1, j, hj => by
    unfold At3m
    by_cases e : j < n
    · have h := marksM_at k n j e
      have hl := marksM_len k n
      rw [marksM, List.getElem?_append_left (by omega), List.getElem?_append_left (by omega), List.getElem?_append_left (by omega)]
      exact h
    · have e : j = n := by omega
      subst e
      have hl := marksM_len k j
      rw [marksM, List.getElem?_append_right (by omega), List.getElem?_append_right (by omega), List.getElem?_append_right (by omega), hl]
      rw [show j * 3 - j * 3 = 0 by omega, show j * 3 + 1 - j * 3 = 1 by omega, show j * 3 + 2 - j * 3 = 2 by omega]
      exact ⟨rfl, rfl, rfl⟩
def UptoM (k : Int) (j : Nat) (xs : List Value) : Prop := ∀ i, i < j → At3m k xs i
theorem uptoM_all {k : Int} {n : Nat} {xs : List Value} (h : UptoM k n xs) (hl : xs.length = n * 3) : xs = marksM k n := by
  refine List.ext_getElem? fun i => ?_
  by_cases hi : i < n * 3
  · have hq : i / 3 < n := by omega
    obtain ⟨a0, a1, a2⟩ := h (i / 3) hq
    obtain ⟨b0, b1, b2⟩ := marksM_at k n (i / 3) hq
    have hr : i % 3 = 0 ∨ i % 3 = 1 ∨ i % 3 = 2 := by omega
    rcases hr with hr | hr | hr
    · rw [show i = i / 3 * 3 by omega, a0, b0]
    · rw [show i = i / 3 * 3 + 1 by omega, a1, b1]
    · rw [show i = i / 3 * 3 + 2 by omega, a2, b2]
  · rw [List.getElem?_eq_none (by omega), List.getElem?_eq_none (by rw [marksM_len]; omega)]
theorem uptoM_step {k : Int} {j : Nat} {xs : List Value} (h : UptoM k j xs) (hl : j * 3 + 2 < xs.length) : UptoM k (j + 1) (((xs.set (j * 3) (.int .i64 (k + 3 * (j : Int)))).set (j * 3 + 1) (.int .i64 (k + 3 * (j : Int) + 1))).set (j * 3 + 2) (.string (mt (k + 3 * (j : Int) + 2)))) := by
  intro i hi
  unfold At3m
  by_cases e : i = j
  · subst e
    refine ⟨?_, ?_, ?_⟩
    · rw [List.getElem?_set_ne (by omega), List.getElem?_set_ne (by omega), List.getElem?_set_self (by omega)]
    · rw [List.getElem?_set_ne (by omega), List.getElem?_set_self (by simp; omega)]
    · rw [List.getElem?_set_self (by simp; omega)]
  · obtain ⟨a0, a1, a2⟩ := h i (by omega)
    refine ⟨?_, ?_, ?_⟩
    · rw [List.getElem?_set_ne (by omega), List.getElem?_set_ne (by omega), List.getElem?_set_ne (by omega), a0]
    · rw [List.getElem?_set_ne (by omega), List.getElem?_set_ne (by omega), List.getElem?_set_ne (by omega), a1]
    · rw [List.getElem?_set_ne (by omega), List.getElem?_set_ne (by omega), List.getElem?_set_ne (by omega), a2]

set_option maxHeartbeats 2000000 in
set_option maxRecDepth 100000 in
theorem markM_any (v : Value) (base n : Nat) (xs0 : List Value) (k : Int) (w : World) (h : w.ownsRow base 92 3 v n xs0) (hn : n ≤ 1048576) (h0 : 0 < k) (h1 : k ≤ 50000000) :
    Calls Try.prog 42 #[v, .int .i64 k] w fun e w' => e = .returned (.int .i64 (k + 3 * (n : Int))) ∧ w'.ownsRow base 92 3 v n (marksM k n) ∧ w.grownBy w' v.ownBlock := by
  have hxl := h.1
  have HO : Hid (w.ownsRow base 92 3 v n xs0) := h
  rcases h.2 with ⟨rfl, hz⟩ | ⟨g, cap, cur, rfl, _⟩
  · subst hz
    clear h hn hxl HO
    go_enter Try.func42, Try.ntmps42
    go_wp2
    go_loop [1, 5] (fun z i => z = .int .i64 k ∧ i = .int .i64 0) (fun _ _ => 0)
    case atStart => exact ⟨rfl, rfl⟩
    case round =>
      obtain ⟨rfl, rfl⟩ := hrel
      go_wp2
      go_ret
      exact ⟨by simp, World.ownsRow_nil _ _ _ _, ow.grown_refl _ _⟩
  clear h
  go_enter Try.func42, Try.ntmps42
  go_wp2
  go_loopw [1, 5] (fun z i wr => ∃ (j : Nat) (xs : List Value), j ≤ n ∧ z = .int .i64 (k + 3 * (j : Int)) ∧ i = .int .i64 j ∧ xs.length = n * 3 ∧ UptoM k j xs ∧ wr.ownsRow base 92 3 (.slice (some ⟨g, 0, none⟩) n cap) n xs ∧ w.grownBy wr (some g)) (fun _ i _ => n - (intOf i).toNat)
  case atStart => exact ⟨0, xs0, Nat.zero_le _, by simp, rfl, hxl, fun i hi => absurd hi (by omega), HO.out, ow.grown_refl _ _⟩
  case round =>
    clear HO
    obtain ⟨j, xs, hj, rfl, rfl, hxl2, hu, hown, hgr⟩ := hrel
    have HU : Hid (UptoM k j xs) := hu
    have HL : Hid (xs.length = n * 3) := hxl2
    have HG : Hid (w.grownBy wr (some g)) := hgr
    clear hu hxl2 hgr
    by_cases hlt : j < n
    · have hlt' : (j : Int) < (n : Int) := by omega
      have hj0 : (0 : Int) ≤ (j : Int) := by omega
      generalize hK : k + 3 * (j : Int) = K
      have hK0 : 0 < K := by omega
      have hK1 : K ≤ 60000000 := by omega
      have HK : Hid (k + 3 * (j : Int) = K) := hK
      have HKN : Hid (k + 3 * ((j + 1 : Nat) : Int) = K + 1 + 1 + 1) := (show _ = _ by omega)
      clear hK
      have HO0 : Hid (wr.ownsRow base 92 3 (.slice (some ⟨g, 0, none⟩) n cap) n xs) := hown
      have q0 := hown.cellAt (j * 3) (by omega)
      have q1 := hown.cellAt (j * 3 + 1) (by omega)
      have q2 := hown.cellAt (j * 3 + 2) (by omega)
      rw [List.getElem?_eq_getElem (by rw [HL.out]; omega)] at q0 q1 q2
      have f0 := hown.frozenAt (j * 3)
      have f1 := hown.frozenAt (j * 3 + 1)
      have f2 := hown.frozenAt (j * 3 + 2)
      generalize xs[j * 3]'(by rw [HL.out]; omega) = u0 at q0
      generalize xs[j * 3 + 1]'(by rw [HL.out]; omega) = u1 at q1
      generalize xs[j * 3 + 2]'(by rw [HL.out]; omega) = u2 at q2
      clear hown
      go_wp2_with fail
      have HX : Hid (((wr.setCell ⟨g, j * 3, none⟩ (.int .i64 K)).setCell ⟨g, j * 3 + 1, none⟩ (.int .i64 (K + 1))).ownsRow base 92 3 (.slice (some ⟨g, 0, none⟩) n cap) n ((xs.set (j * 3) (.int .i64 K)).set (j * 3 + 1) (.int .i64 (K + 1))) ∧ w.grownBy ((wr.setCell ⟨g, j * 3, none⟩ (.int .i64 K)).setCell ⟨g, j * 3 + 1, none⟩ (.int .i64 (K + 1))) (some g)) := ⟨((HO0.out.stored _ _).1.stored _ _).1, ow.grown_trans (ow.grown_trans HG.out (grown_set _ _ _ _)) (grown_set _ _ _ _)⟩
      clear q0 q1 q2 f0 f1 f2 HO0
      generalize hX : World.setCell _ _ _ = X at HX ⊢
      clear hX
      refine (mark_any (K + 1 + 1) _ (by omega) (by omega)).mono ?_
      rintro e w1 ⟨rfl, hb⟩
      have o1 := ow.own_below HX.out.1 hb
      have HG1 : Hid (w.grownBy w1 (some g)) := ow.grown_trans HX.out.2 (ow.grown_below hb)
      have q2 := o1.cellAt (j * 3 + 2) (by omega)
      rw [List.getElem?_eq_getElem (by rw [List.length_set, List.length_set, HL.out]; omega)] at q2
      have f2 := o1.frozenAt (j * 3 + 2)
      have HY : Hid ((w1.setCell ⟨g, j * 3 + 2, none⟩ (.string (mt (K + 1 + 1)))).ownsRow base 92 3 (.slice (some ⟨g, 0, none⟩) n cap) n (((xs.set (j * 3) (.int .i64 K)).set (j * 3 + 1) (.int .i64 (K + 1))).set (j * 3 + 2) (.string (mt (K + 1 + 1)))) ∧ w.grownBy (w1.setCell ⟨g, j * 3 + 2, none⟩ (.string (mt (K + 1 + 1)))) (some g)) := ⟨(o1.stored _ _).1, ow.grown_trans HG1.out (grown_set _ _ _ _)⟩
      clear o1 HX hb HG1
      generalize ((xs.set (j * 3) (Value.int .i64 K)).set (j * 3 + 1) (Value.int .i64 (K + 1)))[j * 3 + 2]'(by rw [List.length_set, List.length_set, HL.out]; omega) = u2 at q2
      have HU1 : Hid (UptoM k (j + 1) (((xs.set (j * 3) (.int .i64 K)).set (j * 3 + 1) (.int .i64 (K + 1))).set (j * 3 + 2) (.string (mt (K + 1 + 1))))) := by
        have h := uptoM_step HU.out (by rw [HL.out]; omega)
        rw [HK.out, show K + 2 = K + 1 + 1 by omega] at h
        exact h
      go_wp2
      go_roundw
      case rel => exact ⟨j + 1, _, by omega, by rw [HKN.out], by go_num, by rw [List.length_set, List.length_set, List.length_set]; exact HL.out, HU1.out, HY.out.1, HY.out.2⟩
      case measure => simp [intOf]; omega
    · obtain rfl : j = n := by omega
      have HX : Hid (xs = marksM k j) := uptoM_all HU.out HL.out
      go_wp2
      go_ret
      refine ⟨rfl, ?_, HG.out⟩
      rw [← HX.out]
      exact hown

set_option maxHeartbeats 2000000 in
set_option maxRecDepth 100000 in
theorem heldM_any (v : Value) (base n : Nat) (k : Int) (w : World) (h : w.ownsRow base 92 3 v n (marksM k n)) (hn : n ≤ 1048576) (h0 : 0 < k) (h1 : k ≤ 50000000) :
    Calls Try.prog 45 #[v, .int .i64 k] w fun e w' => e = .returned (.int .i64 (k + 3 * (n : Int))) ∧ Below w.heap.size w w' := by
  rcases h.2 with ⟨rfl, hz⟩ | ⟨g, cap, cur, rfl, _⟩
  · subst hz
    clear h hn
    go_enter Try.func45, Try.ntmps45
    go_wp2
    go_loop [1, 5] (fun z i => z = .int .i64 k ∧ i = .int .i64 0) (fun _ _ => 0)
    case atStart => exact ⟨rfl, rfl⟩
    case round =>
      obtain ⟨rfl, rfl⟩ := hrel
      go_wp2
      go_ret
      exact ⟨by simp, Below.refl _ _⟩
  have HC : Hid (∀ j, j < n → w.cell? ⟨g, j * 3, none⟩ = some (.int .i64 (k + 3 * (j : Int))) ∧ w.cell? ⟨g, j * 3 + 1, none⟩ = some (.int .i64 (k + 3 * (j : Int) + 1)) ∧ w.cell? ⟨g, j * 3 + 2, none⟩ = some (.string (mt (k + 3 * (j : Int) + 2)))) := fun j hj => by
    obtain ⟨a0, a1, a2⟩ := marksM_at k n j hj
    exact ⟨by rw [h.cellAt _ (by omega), a0], by rw [h.cellAt _ (by omega), a1], by rw [h.cellAt _ (by omega), a2]⟩
  clear h
  go_enter Try.func45, Try.ntmps45
  go_wp2
  go_loopw [1, 5] (fun z i wr => ∃ j : Nat, j ≤ n ∧ z = .int .i64 (k + 3 * (j : Int)) ∧ i = .int .i64 j ∧ Below w.heap.size w wr) (fun _ i _ => n - (intOf i).toNat)
  case atStart => exact ⟨0, Nat.zero_le _, by simp, rfl, Below.refl _ _⟩
  case round =>
    obtain ⟨j, hj, rfl, rfl, hbw⟩ := hrel
    by_cases hlt : j < n
    · obtain ⟨v0, v1, v2⟩ := HC.out j hlt
      have c0 := (hbw.cell (p := ⟨g, j * 3, none⟩) (World.block_lt_of_cell? w _ v0)).trans v0
      have c1 := (hbw.cell (p := ⟨g, j * 3 + 1, none⟩) (World.block_lt_of_cell? w _ v1)).trans v1
      have c2 := (hbw.cell (p := ⟨g, j * 3 + 2, none⟩) (World.block_lt_of_cell? w _ v2)).trans v2
      clear v0 v1 v2
      have hK0 : 0 < k + 3 * (j : Int) := by omega
      have hK1 : k + 3 * (j : Int) ≤ 60000000 := by omega
      have HKN : Hid (k + 3 * ((j + 1 : Nat) : Int) = k + 3 * (j : Int) + 1 + 1 + 1) := (show _ = _ by omega)
      rw [show k + 3 * (j : Int) + 2 = k + 3 * (j : Int) + 1 + 1 by omega] at c2
      generalize k + 3 * (j : Int) = K at *
      have HM : Hid (∀ w, Calls Try.prog 41 #[.int .i64 (K + 1 + 1)] w fun e w' => e = .returned (.string (mt (K + 1 + 1))) ∧ Below w.heap.size w w') := fun w => mark_any _ w (by omega) (by omega)
      have HC2 : Hid (wr.cell? ⟨g, j * 3 + 2, none⟩ = some (.string (mt (K + 1 + 1)))) := c2
      clear c2
      generalize mt (K + 1 + 1) = x at HC2 HM
      have hxx : (x.toList == x.toList) = true := by simp
      have n0 : ((K : Int) != K) = false := by simp
      have n1 : ((K + 1 : Int) != K + 1) = false := by simp
      have hlt' : (j : Int) < (n : Int) := by omega
      have hk0 : (0 : Int) ≤ (j : Int) := by omega
      go_wp2_with fail
      have ne := ext_some wr
      have c2 := fun y : Ext wr => gw_cell y HC2.out
      refine region_lit (by kernel_rfl) (by kernel_rfl) ?_
      repeat (go_big_quiet_step ((go_at_call 41; exact grow_of (HM.out _))))
      refine wpQuiet_nil ?_
      rintro W' ⟨y0, rfl⟩
      have b3 := hbw.trans ((gw_below y0).mono hbw.size)
      generalize gw y0 = W' at b3 ⊢
      clear c0 c1 c2 hbw HM HC2
      go_wp2
      go_roundw
      case rel => exact ⟨j + 1, by omega, by rw [HKN.out], by go_num, b3⟩
      case measure => simp [intOf]; omega
    · obtain rfl : j = n := by omega
      go_wp2
      go_ret
      exact ⟨rfl, hbw⟩
end Go.Proofs.Ytgjjeabjnkenkaa.mm
