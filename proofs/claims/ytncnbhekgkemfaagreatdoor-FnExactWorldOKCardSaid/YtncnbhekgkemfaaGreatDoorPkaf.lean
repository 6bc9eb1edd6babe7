/-
  Texts as rows: measured and copied by the law's own functions; as an argument, opened.
  A box as an argument: opened; measured, copied and compared by the law's own functions.
  A box: copied by the law's own function.
-/
import Derived.Test.YtncnbhekgkemfaaGreatDoorPkae

namespace Go.Proofs.YtncnbhekgkemfaaGreatDoor.tx
open Go.ChangeShapes Go.WideShapes Go.ChangeAt Go.RowKit Go.Joins Go.Deep
open ky
set_option linter.unusedVariables false

/-- A slice of texts, in a block below n. -/
def TextsIn (w : World) (n : Nat) (v : Value) (ks : List ByteArray) : Prop :=
  ∃ a cap, v = .slice a ks.length cap ∧ (ks = [] ∨ ∃ b off, a = some ⟨b, off, none⟩ ∧ b < n ∧ ∀ j, j < ks.length → w.cell? ⟨b, off + j, none⟩ = some (.string (ks.getD j nt)))
theorem texts_at {w : World} {n : Nat} {v : Value} {ks : List ByteArray} (h : TextsIn w n v ks) : TextsAt w v ks := by
  obtain ⟨a, cap, rfl, h⟩ := h
  refine ⟨a, cap, rfl, ?_⟩
  rcases h with h | ⟨b, off, rfl, hb', h⟩
  · exact .inl h
  · exact .inr ⟨b, off, rfl, h⟩
theorem texts_below {w w' : World} {n k : Nat} {v : Value} {ks : List ByteArray} (h : TextsIn w n v ks) (hb : Below k w w') (hk : n ≤ k) : TextsIn w' n v ks := by
  obtain ⟨a, cap, rfl, h⟩ := h
  refine ⟨a, cap, rfl, ?_⟩
  rcases h with h | ⟨b, off, rfl, hb', h⟩
  · exact .inl h
  · exact .inr ⟨b, off, rfl, hb', fun j hj => (hb.cell (p := ⟨b, off + j, none⟩) (Nat.lt_of_lt_of_le hb' hk)).trans (h j hj)⟩
theorem texts_more {w : World} {n k : Nat} {v : Value} {ks : List ByteArray} (h : TextsIn w n v ks) (hk : n ≤ k) : TextsIn w k v ks := by
  obtain ⟨a, cap, rfl, h⟩ := h
  refine ⟨a, cap, rfl, ?_⟩
  rcases h with h | ⟨b, off, rfl, hb', h⟩
  · exact .inl h
  · exact .inr ⟨b, off, rfl, by omega, h⟩
def Smalls (ks : List ByteArray) : Prop := ks.length ≤ 1048576 ∧ ∀ j, j < ks.length → (ks.getD j nt).size ≤ 1048576
def SmallsTo (ks : List ByteArray) (k : Nat) : Prop := ks.length ≤ 1048576 ∧ ∀ j, j < k → (ks.getD j nt).size ≤ 1048576

set_option maxHeartbeats 1000000 in
theorem szTexts_any (N : Nat) (v : Value) (ks : List ByteArray) (left : Int) (w : World) (h : TextsIn w N v ks) (h0 : 0 ≤ left) (h1 : left ≤ 1048576) (hl : ks.length ≤ maxLen) (hs : ∀ j, j < ks.length → (ks.getD j nt).size ≤ maxLen) :
    Calls Tryz.prog 75 #[v, .int .i64 left] w fun e w' => (∃ z : Int, e = .returned (.int .i64 z) ∧ z ≤ left ∧ -1 ≤ z ∧ (0 ≤ z → Smalls ks)) ∧ w' = w := by
  obtain ⟨a, cap, rfl, h⟩ := h
  obtain ⟨n, hn⟩ : ∃ n, n = ks.length := ⟨_, rfl⟩
  have HN : Hid (n = ks.length) := hn
  have HH : Hid (ks = [] ∨ ∃ b off, a = some ⟨b, off, none⟩ ∧ b < N ∧ ∀ j, j < ks.length → w.cell? ⟨b, off + j, none⟩ = some (.string (ks.getD j nt))) := h
  have HS : Hid (∀ j, j < ks.length → (ks.getD j nt).size ≤ maxLen) := hs
  rw [← hn] at hl ⊢
  clear h hs hn
  unfold maxLen at hl
  by_cases g0 : left - (n : Int) < 0
  · go_enter Tryz.func75, Tryz.ntmps75
    go_wp2
    go_ret
    exact ⟨⟨-1, rfl, by omega, by omega, by omega⟩, rfl⟩
  go_enter Tryz.func75, Tryz.ntmps75
  go_wp2
  go_loopw [1, 5] (fun z i wr => ∃ (k : Nat) (y : Int), k ≤ n ∧ 0 ≤ y ∧ y ≤ left ∧ z = .int .i64 y ∧ i = .int .i64 k ∧ SmallsTo ks k ∧ wr = w) (fun _ i _ => n - (intOf i).toNat)
  case atStart => exact ⟨0, left - (n : Int), Nat.zero_le _, by omega, by omega, rfl, rfl, ⟨by rw [← HN.out]; omega, fun j hj => absurd hj (Nat.not_lt_zero _)⟩, rfl⟩
  case round =>
    obtain ⟨k, y, hk, hy0, hy1, rfl, rfl, hsm, rfl⟩ := hrel
    have HSM : Hid (SmallsTo ks k) := hsm
    clear hsm
    by_cases hlt : k < n
    · have hka : k < ks.length := by rw [← HN.out]; exact hlt
      rcases HH.out with e | ⟨b, off, rfl, _, hcells⟩
      · rw [e] at hka; simp at hka
      have c0 := hcells k hka
      have hhd := HS.out k hka
      clear hcells hka
      generalize hx : ks.getD k nt = x at c0 hhd
      have HX : Hid (ks.getD k nt = x) := hx
      clear hx
      have hhd' : x.size ≤ 9223372036854775807 := hhd
      by_cases hz : y - (x.size : Int) < 0
      · go_wp2
        go_ret
        exact ⟨⟨-1, rfl, by omega, by omega, by omega⟩, rfl⟩
      · go_wp2
        go_roundw
        case rel => exact ⟨k + 1, y - (x.size : Int), by omega, by omega, by omega, by go_num, by go_num, ⟨HSM.out.1, fun j hj => by by_cases hjk : j = k; subst hjk; rw [HX.out]; omega; exact HSM.out.2 j (by omega)⟩, by trivial⟩
        case measure => simp [intOf]; omega
    · go_wp2
      go_ret
      exact ⟨⟨y, rfl, by omega, by omega, fun _ => ⟨HSM.out.1, fun j hj => HSM.out.2 j (by have := HN.out; omega)⟩⟩, rfl⟩

theorem infoT : (Tryz.prog.info? 9).map (fun i => (i.zero, i.size, i.bytes)) = some (some (.string ⟨#[]⟩), 1, 16) := by kernel_rfl
def Lay (ks : List ByteArray) (k : Nat) (xs : List Value) : Prop := ∀ j, j < k → xs[j]? = some (.string (ks.getD j nt))
theorem lay_step {ks : List ByteArray} {k : Nat} {xs : List Value} (h : Lay ks k xs) (hl : k < xs.length) {x : ByteArray} (hx : ks.getD k nt = x) : Lay ks (k + 1) (xs.set k (.string x)) := by
  intro j hj
  by_cases e : j = k
  · subst e
    rw [hx, List.getElem?_set_self (by omega)]
  · rw [List.getElem?_set_ne (by omega)]
    exact h j (by omega)
theorem texts_lay {w : World} {base e g n cap N : Nat} {ks : List ByteArray} {xs : List Value} (hn : n = ks.length) (h : w.ownsRow base e 1 (.slice (some ⟨g, 0, none⟩) n cap) n xs) (hl : Lay ks n xs) (hg : g < N) : TextsIn w N (.slice (some ⟨g, 0, none⟩) n cap) ks := by
  subst hn
  refine ⟨_, cap, rfl, .inr ⟨g, 0, rfl, hg, fun j hj => ?_⟩⟩
  rw [Nat.zero_add, h.cellAt _ (by omega), hl j hj]

set_option maxHeartbeats 2000000 in
set_option maxRecDepth 100000 in
theorem toTexts_any (N : Nat) (v : Value) (ks : List ByteArray) (w : World) (h : TextsIn w N v ks) (hN : N ≤ w.heap.size) (hn : ks.length ≤ 1048576) :
    Calls Tryz.prog 86 #[v] w fun e w' => e = .returned (.slice (some ⟨w.heap.size, 0, none⟩) ks.length ks.length) ∧ TextsIn w' w'.heap.size (.slice (some ⟨w.heap.size, 0, none⟩) ks.length ks.length) ks ∧ Below w.heap.size w w' := by
  obtain ⟨a, cap, rfl, h⟩ := h
  obtain ⟨i0, hi, hz0, hz1, hz2⟩ := info_parts infoT
  obtain ⟨n, hn'⟩ : ∃ n, n = ks.length := ⟨_, rfl⟩
  have HN : Hid (n = ks.length) := hn'
  have HH : Hid (ks = [] ∨ ∃ b off, a = some ⟨b, off, none⟩ ∧ b < N ∧ ∀ j, j < ks.length → w.cell? ⟨b, off + j, none⟩ = some (.string (ks.getD j nt))) := h
  rw [← hn'] at hn ⊢
  clear h hn'
  go_enter Tryz.func86, Tryz.ntmps86
  go_wp2_with (at_make; refine wpList_make_full _ rfl _ _ 68 rfl w.heap.size 9 i0 _ 1 Tryz.underlying68 hi hz0 hz1 _ _ _ _ n rfl rfl rfl rfl (by rw [hz2]; omega) (by unfold maxLen; omega) (Nat.le_refl _) ?_; intro w1 hown1 hg1)
  have hb1 : Below w.heap.size w w1 := (Below.refl _ _).grown hg1 (Nat.le_refl _) (fun k hk => by cases hk)
  clear hg1
  go_loopw [4] (fun i wr => ∃ (k : Nat) (xs : List Value), k ≤ n ∧ i = .int .i64 k ∧ xs.length = n ∧ Lay ks k xs ∧ wr.ownsRow w.heap.size 9 1 (.slice (some ⟨w.heap.size, 0, none⟩) n n) n xs ∧ Below w.heap.size w wr) (fun i _ => n - (intOf i).toNat)
  case atStart => exact ⟨0, _, Nat.zero_le _, rfl, by have := hown1.1; omega, fun j hj => absurd hj (Nat.not_lt_zero _), hown1, hb1⟩
  case round =>
    clear hown1 hb1
    obtain ⟨k, xs, hk, rfl, hxl, hm, hown, hbw⟩ := hrel
    have HM : Hid (Lay ks k xs) := hm
    have HL : Hid (xs.length = n) := hxl
    clear hm hxl
    by_cases hlt : k < n
    · have hka : k < ks.length := by rw [← HN.out]; exact hlt
      rcases HH.out with e | ⟨b, off, rfl, hbN, hcells⟩
      · rw [e] at hka; simp at hka
      have c0 := (hbw.cell (p := ⟨b, off + k, none⟩) (Nat.lt_of_lt_of_le hbN hN)).trans (hcells k hka)
      clear hcells hka
      generalize hx : ks.getD k nt = x at c0
      have HX : Hid (ks.getD k nt = x) := hx
      clear hx
      have HO : Hid (wr.ownsRow w.heap.size 9 1 (.slice (some ⟨w.heap.size, 0, none⟩) n n) n xs) := hown
      have q0 := hown.cellAt k (by omega)
      rw [List.getElem?_eq_getElem (by rw [HL.out]; omega)] at q0
      have f0 := hown.frozenAt k
      clear hown
      generalize xs[k]'(by rw [HL.out]; omega) = u0 at q0
      have hlt' : (k : Int) < (n : Int) := by omega
      go_wp2
      go_roundw
      case rel => exact ⟨k + 1, xs.set k (.string x), by omega, by go_num, by rw [List.length_set]; exact HL.out, lay_step HM.out (by rw [HL.out]; omega) HX.out, (HO.out.stored _ _).1, hbw.setCell (Nat.le_refl _) _⟩
      case measure => simp [intOf]; omega
    · have hgl : w.heap.size < wr.heap.size := by
        rcases hown.2 with ⟨hv, _⟩ | ⟨g', cap', cur, hv, _, hb', _⟩
        · cases hv
        · cases hv
          exact (Array.getElem?_eq_some_iff.1 hb').1
      have HQ : Hid (TextsIn wr wr.heap.size (.slice (some ⟨w.heap.size, 0, none⟩) n n) ks) := texts_lay HN.out hown (fun j hj => HM.out j (by omega)) hgl
      go_wp2
      go_ret
      exact ⟨rfl, HQ.out, hbw⟩

section
variable {H : Type} {enc : TypeId × Value → H} {w : World} {base : Nat} {spare : Nat → Bool} {held : Bool}
theorem cellsT : Tryz.prog.cellsOf 9 = 1 := by kernel_rfl
theorem open_texts {fuel : Nat} {v : Value} {x : DataW H × List MemPlace} (h : DataW.trod enc Tryz.prog w base spare held fuel 68 [v] = some x) :
    ∃ ks : List ByteArray, TextsIn w w.heap.size v ks ∧ ks.length ≤ maxLen ∧ ∀ j, j < ks.length → (ks.getD j nt).size ≤ maxLen := by
  rcases open_slice Tryz.underlying68 h with ⟨hc, _⟩ | ⟨a, len, cap, m, n, D, Pl, hc, _, hl, hm, hmm, _, hall⟩
  · cases hc
    exact ⟨[], ⟨none, 0, rfl, .inl rfl⟩, Nat.zero_le _, fun j hj => absurd hj (Nat.not_lt_zero _)⟩
  · cases hc
    have hml : len ≤ m := by rw [hmm]; split <;> omega
    have each : ∀ i, ∃ e : ByteArray, i < len → e.size ≤ maxLen ∧ w.cell? (a.add i) = some (.string e) := by
      intro i
      by_cases hi : i < len
      · obtain ⟨cs', h1, h2⟩ := hall i (by omega)
        obtain ⟨e, rfl, _, hh⟩ := DataW.trod_string Tryz.underlying9 h2
        rw [cellsT] at h1
        obtain ⟨_, hlen, hcell⟩ := World.cells?_some h1
        refine ⟨e, fun _ => ⟨hh, ?_⟩⟩
        have := hcell 0 (by omega)
        rw [add_add, Nat.mul_one, Nat.add_zero] at this
        rw [this]
        rfl
      · exact ⟨nt, fun h => absurd h hi⟩
    obtain ⟨q, hq⟩ := Classical.axiomOfChoice each
    have hget : ∀ j, j < len → ((List.range len).map q).getD j nt = q j := by
      intro j hj
      simp [List.getD_eq_getElem?_getD, hj]
    refine ⟨(List.range len).map q, ⟨some a, cap, by simp, ?_⟩, by simp; omega, ?_⟩
    · by_cases h0 : len = 0
      · left; simp [h0]
      · right
        have c0 := (hq 0 (by omega)).2
        obtain ⟨b, off, spot⟩ := a
        have hspot : spot = none := by simpa [Addr.add] using World.cell?_spot c0
        subst hspot
        have hblt : b < w.heap.size := by simpa [Addr.add] using World.block_lt_of_cell? w _ c0
        refine ⟨b, off, rfl, hblt, fun j hj => ?_⟩
        have hj' : j < len := by simpa using hj
        have hc := (hq j hj').2
        rw [hget j hj']
        have hadd : (⟨b, off, none⟩ : Addr).add j = ⟨b, off + j, none⟩ := by simp only [Addr.add]; split <;> simp_all
        rw [hadd] at hc
        exact hc
    · intro j hj
      have hj' : j < len := by simpa using hj
      rw [hget j hj']
      exact (hq j hj').1
end
end Go.Proofs.YtncnbhekgkemfaaGreatDoor.tx

namespace Go.Proofs.YtncnbhekgkemfaaGreatDoor.bx
open Go.ChangeShapes Go.WideShapes Go.ChangeAt Go.RowKit Go.Deep Go.Joins
open st
set_option linter.unusedVariables false

/-- A box: name, valid, next, mails, keys. -/
structure Bx where
  nm : ByteArray
  vd : Int
  nx : Int
  ms : List St
  ks : List ByteArray
/-- It as the program has it, its mails in v, its keys in u. -/
def BV (x : Bx) (v u : Value) : Value := .agg #[.string x.nm, .int .i64 x.vd, .int .i64 x.nx, v, u]
def Ins (x : Bx) : Prop := In x.vd ∧ In x.nx
def Small (x : Bx) : Prop := Ins x ∧ x.nm.size ≤ 1048576 ∧ st.Smalls x.ms ∧ tx.Smalls x.ks
def Held (x : Bx) : Prop := Ins x ∧ x.nm.size ≤ maxLen ∧ (x.ms.length ≤ maxLen ∧ ∀ j, j < x.ms.length → st.Held (x.ms.getD j noS)) ∧ x.ks.length ≤ maxLen ∧ ∀ j, j < x.ks.length → (x.ks.getD j ky.nt).size ≤ maxLen
/-- Its rows, in blocks below n. -/
def RowsIn (w : World) (n : Nat) (v u : Value) (ms : List St) (ks : List ByteArray) : Prop := MailsIn w n v ms ∧ tx.TextsIn w n u ks
theorem rows_in_below {w w' : World} {n k : Nat} {v u : Value} {ms : List St} {ks : List ByteArray} (h : RowsIn w n v u ms ks) (hb : Below k w w') (hk : n ≤ k) : RowsIn w' n v u ms ks := ⟨mails_below h.1 hb hk, tx.texts_below h.2 hb hk⟩
theorem rows_more {w : World} {n k : Nat} {v u : Value} {ms : List St} {ks : List ByteArray} (h : RowsIn w n v u ms ks) (hk : n ≤ k) : RowsIn w k v u ms ks := ⟨mails_more h.1 hk, tx.texts_more h.2 hk⟩
/-- Its rows. -/
def RowsAt (w : World) (v u : Value) (ms : List St) (ks : List ByteArray) : Prop := RowsIn w w.heap.size v u ms ks
theorem rows_below {w w' : World} {v u : Value} {ms : List St} {ks : List ByteArray} (h : RowsAt w v u ms ks) (hb : Below w.heap.size w w') : RowsAt w' v u ms ks := rows_more (rows_in_below h hb (Nat.le_refl _)) hb.size

theorem five_list {α : Type} {l : List α} (h : l.length = 5) : ∃ a b c d e, l = [a, b, c, d, e] := by
  match l, h with
  | [a, b, c, d, e], _ => exact ⟨a, b, c, d, e, rfl⟩
section
variable {H : Type} {enc : TypeId × Value → H} {w : World} {base : Nat} {spare : Nat → Bool} {held : Bool}
set_option maxRecDepth 100000 in
theorem trod_box {fuel : Nat} {cs : List Value} {x : DataW H × List MemPlace} (h : DataW.trod enc Tryz.prog w base spare held fuel 92 cs = some x) :
    ∃ (x : Bx) (v u : Value), cs = [.string x.nm, .int .i64 x.vd, .int .i64 x.nx, v, u] ∧ RowsAt w v u x.ms x.ks ∧ Held x := by
  obtain ⟨hl, n, hall⟩ := trod_cells Tryz.underlying92 (by kernel_rfl) (by kernel_rfl) h
  obtain ⟨c0, c1, c2, c3, c4, rfl⟩ := five_list hl
  obtain ⟨y0, t0⟩ := hall 0 _ _ rfl rfl
  obtain ⟨y1, t1⟩ := hall 1 _ _ rfl rfl
  obtain ⟨y2, t2⟩ := hall 2 _ _ rfl rfl
  obtain ⟨y3, t3⟩ := hall 3 _ _ rfl rfl
  obtain ⟨y4, t4⟩ := hall 4 _ _ rfl rfl
  obtain ⟨s0, e0, _, f0⟩ := DataW.trod_string Tryz.underlying9 t0
  obtain ⟨z1, e1, _, f1⟩ := DataW.trod_int Tryz.underlying3 t1
  obtain ⟨z2, e2, _, f2⟩ := DataW.trod_int Tryz.underlying3 t2
  obtain ⟨ms, hat, hpl, hps⟩ := open_mails t3
  obtain ⟨ks, hat2, hpl2, hps2⟩ := tx.open_texts t4
  simp only [List.cons.injEq, and_true] at e0 e1 e2
  subst e0 e1 e2
  exact ⟨⟨s0, z1, z2, ms, ks⟩, c3, c4, rfl, ⟨hat, hat2⟩, ⟨in_of_wf f1, in_of_wf f2⟩, f0, ⟨hpl, hps⟩, hpl2, hps2⟩
set_option maxRecDepth 100000 in
theorem open_box {r : Reach} {b0 : Nat} {v : Value} {d : DataW H} {p : List MemPlace} (hv : Value.okWide Tryz.prog w r b0 92 v) (h : DataW.Trod enc Tryz.prog w base spare held 92 v d p) :
    ∃ (x : Bx) (u1 u2 : Value), v = BV x u1 u2 ∧ RowsAt w u1 u2 x.ms x.ks ∧ Held x := by
  obtain ⟨cs, rfl, hsz⟩ := okWide_struct Tryz.underlying92 hv
  obtain ⟨fuel, hf⟩ := h
  have hcs : (Value.agg cs).cells.toList = cs.toList := by simp [Value.cells]
  rw [hcs] at hf
  obtain ⟨x, u1, u2, hc, hr, hh⟩ := trod_box hf
  exact ⟨x, u1, u2, congrArg Value.agg (Array.toList_inj.1 hc), hr, hh⟩
end

/-- A box that lies as a variable. -/
def Lies (w : World) (b : Nat) (T : TypeId) (x : Bx) (v u : Value) : Prop := w.heap[b]? = some (.cells #[.string x.nm, .int .i64 x.vd, .int .i64 x.nx, v, u] T (0, 0))
section
variable {w w' : World} {b : Nat} {T : TypeId} {x : Bx} {v u : Value}
theorem Lies.c0 (h : Lies w b T x v u) : w.cell? ⟨b, 0, none⟩ = some (.string x.nm) := by rw [cell_of_row w _ _ _ _ _ h]; rfl
theorem Lies.c1 (h : Lies w b T x v u) : w.cell? ⟨b, 0 + 1, none⟩ = some (.int .i64 x.vd) := by rw [cell_of_row w _ _ _ _ _ h]; rfl
theorem Lies.c2 (h : Lies w b T x v u) : w.cell? ⟨b, 0 + 2, none⟩ = some (.int .i64 x.nx) := by rw [cell_of_row w _ _ _ _ _ h]; rfl
theorem Lies.c3 (h : Lies w b T x v u) : w.cell? ⟨b, 0 + 3, none⟩ = some v := by rw [cell_of_row w _ _ _ _ _ h]; rfl
theorem Lies.c4 (h : Lies w b T x v u) : w.cell? ⟨b, 0 + 4, none⟩ = some u := by rw [cell_of_row w _ _ _ _ _ h]; rfl
theorem Lies.lt (h : Lies w b T x v u) : b < w.heap.size := World.block_lt_of_cell? w _ h.c0
theorem Lies.keep (h : Lies w b T x v u) (hb : Below w.heap.size w w') : Lies w' b T x v u := (hb.block b h.lt).trans h
theorem lies_new (w : World) (T : TypeId) (x : Bx) (v u : Value) : Lies (w.alloc (.cells #[.string x.nm, .int .i64 x.vd, .int .i64 x.nx, v, u] T)) w.heap.size T x v u := by show (w.heap.push _)[w.heap.size]? = _; simp
theorem new_below (w : World) (T : TypeId) (cs : Array Value) : Below w.heap.size w (w.alloc (.cells cs T)) := (Below.refl _ _).alloc (Nat.le_refl _) _
end

set_option maxHeartbeats 1000000 in
set_option maxRecDepth 100000 in
theorem szBox_any (x : Bx) (v u : Value) (left : Int) (w : World) (h : RowsAt w v u x.ms x.ks) (h0 : 0 ≤ left) (h1 : left ≤ 1048576) (hh : Held x) :
    Calls Tryz.prog 45 #[BV x v u, .int .i64 left] w fun e w' => (∃ z : Int, e = .returned (.int .i64 z) ∧ z ≤ left ∧ -1 ≤ z ∧ (0 ≤ z → Small x)) ∧ Below w.heap.size w w' := by
  have L0 := lies_new w 92 x v u
  have hbw := new_below w 92 #[.string x.nm, .int .i64 x.vd, .int .i64 x.nx, v, u]
  have H2 : Hid (RowsAt (w.alloc (.cells #[.string x.nm, .int .i64 x.vd, .int .i64 x.nx, v, u] 92)) v u x.ms x.ks) := rows_below h hbw
  obtain ⟨⟨a, cap, rfl, _⟩, ⟨a1, cap1, rfl, _⟩⟩ := h
  obtain ⟨nm, vd, nx, ms, ks⟩ := x
  obtain ⟨hi, hb, hl, hl2⟩ := hh
  unfold BV
  simp only at L0 hbw H2 hb hl hl2 ⊢
  have hb' : nm.size ≤ 9223372036854775807 := hb
  have HL : Hid (ms.length ≤ maxLen ∧ ∀ j, j < ms.length → st.Held (ms.getD j noS)) := hl
  have HL2 : Hid (ks.length ≤ maxLen ∧ ∀ j, j < ks.length → (ks.getD j ky.nt).size ≤ maxLen) := hl2
  have HI : Hid (Ins ⟨nm, vd, nx, ms, ks⟩) := hi
  clear hl hl2 hi
  by_cases g0 : left - (nm.size : Int) < 0
  · go_enter Tryz.func45, Tryz.ntmps45
    go_wp2
    go_ret
    exact ⟨⟨-1, rfl, by omega, by omega, by omega⟩, hbw⟩
  go_enter Tryz.func45, Tryz.ntmps45
  go_wp2_with fail
  generalize w.alloc _ = w0 at L0 hbw H2 ⊢
  refine (szStoredS_any _ _ ms _ _ H2.out.1 (Nat.le_refl _) (by omega) (by omega) HL.out.1 HL.out.2).mono ?_
  rintro e w2 ⟨⟨z, rfl, hz0, hz1, hz2⟩, hb2⟩
  have HZ : Hid (0 ≤ z → st.Smalls ms) := hz2
  have L2 := L0.keep hb2
  have H3 : Hid (RowsAt w2 (.slice a ms.length cap) (.slice a1 ks.length cap1) ms ks) := rows_below H2.out hb2
  have hb3 := hbw.trans (hb2.mono hbw.size)
  clear hz2 H2 HL hbw hb2 L0
  have c4 := L2.c4
  clear L2
  by_cases hz : z < 0
  · go_wp2
    go_ret
    exact ⟨⟨-1, rfl, by omega, by omega, by omega⟩, hb3⟩
  go_wp2_with fail
  refine (tx.szTexts_any _ _ ks _ _ H3.out.2 (by omega) (by omega) HL2.out.1 HL2.out.2).mono ?_
  rintro e w3 ⟨⟨y, rfl, hy0, hy1, hy2⟩, rfl⟩
  have HY : Hid (0 ≤ y → tx.Smalls ks) := hy2
  clear hy2 H3 HL2
  by_cases hy : y < 0
  · go_wp2
    go_ret
    exact ⟨⟨-1, rfl, by omega, by omega, by omega⟩, hb3⟩
  · go_wp2
    go_ret
    exact ⟨⟨_, rfl, by omega, by omega, fun _ => ⟨HI.out, by show nm.size ≤ _; omega, HZ.out (by omega), HY.out (by omega)⟩⟩, hb3⟩

set_option maxHeartbeats 1000000 in
set_option maxRecDepth 100000 in
theorem eqBox_any (x : Bx) (v u v' u' : Value) (w : World) (h1 : RowsAt w v u x.ms x.ks) (h2 : RowsAt w v' u' x.ms x.ks) (hn : x.ms.length ≤ 1048576 ∧ x.ks.length ≤ 1048576) :
    Calls Tryz.prog 71 #[BV x v u, BV x v' u'] w fun e w' => e = .returned (.bool true) ∧ Below w.heap.size w w' := by
  have hbw := (new_below w 99 #[.string x.nm, .int .i64 x.vd, .int .i64 x.nx, v, u]).alloc (by simp) (.cells #[.string x.nm, .int .i64 x.vd, .int .i64 x.nx, v', u'] 99)
  have L0 := (lies_new w 99 x v u).keep (new_below _ 99 #[.string x.nm, .int .i64 x.vd, .int .i64 x.nx, v', u'])
  have M0 := lies_new (w.alloc (.cells #[.string x.nm, .int .i64 x.vd, .int .i64 x.nx, v, u] 99)) 99 x v' u'
  have HA := rows_below h1 hbw
  have HB := rows_below h2 hbw
  obtain ⟨⟨a, cap, rfl, _⟩, ⟨a1, cap1, rfl, _⟩⟩ := h1
  obtain ⟨⟨a', cap', rfl, _⟩, ⟨a1', cap1', rfl, _⟩⟩ := h2
  obtain ⟨nm, vd, nx, ms, ks⟩ := x
  unfold BV
  simp only at hbw L0 M0 HA HB hn ⊢
  rw [show (w.alloc (.cells #[.string nm, .int .i64 vd, .int .i64 nx, .slice a ms.length cap, .slice a1 ks.length cap1] 99)).heap.size = w.heap.size + 1 by simp] at M0
  have k1 : ((vd : Int) != vd) = false := by simp
  have k2 : ((nx : Int) != nx) = false := by simp
  go_enter Tryz.func71, Tryz.ntmps71
  go_wp2_with fail
  generalize World.alloc _ _ = w0 at hbw L0 M0 HA HB ⊢
  have HA : Hid (RowsAt w0 (.slice a ms.length cap) (.slice a1 ks.length cap1) ms ks) := HA
  have HB : Hid (RowsAt w0 (.slice a' ms.length cap') (.slice a1' ks.length cap1') ms ks) := HB
  refine (eqStoredS_any _ _ _ _ ms _ HA.out.1 HB.out.1 hn.1).mono ?_
  rintro e w2 ⟨rfl, hb2⟩
  have HA2 : Hid (RowsAt w2 (.slice a ms.length cap) (.slice a1 ks.length cap1) ms ks) := rows_below HA.out hb2
  have HB2 : Hid (RowsAt w2 (.slice a' ms.length cap') (.slice a1' ks.length cap1') ms ks) := rows_below HB.out hb2
  have c4 := (L0.keep hb2).c4
  have d4 := (M0.keep hb2).c4
  have b3 := hbw.trans (hb2.mono hbw.size)
  clear hbw hb2 HA HB L0 M0
  go_wp2_with fail
  refine (ky.eqTexts_any _ _ ks _ (tx.texts_at HA2.out.2) (tx.texts_at HB2.out.2) hn.2).mono ?_
  rintro e w3 ⟨rfl, hb3⟩
  have b4 := b3.trans (hb3.mono b3.size)
  clear b3 hb3 HA2 HB2 c4 d4
  go_wp2
  go_ret
  exact ⟨rfl, b4⟩
end Go.Proofs.YtncnbhekgkemfaaGreatDoor.bx

namespace Go.Proofs.YtncnbhekgkemfaaGreatDoor.bx
open Go.ChangeShapes Go.WideShapes Go.ChangeAt Go.RowKit Go.Deep Go.Joins
open st
set_option linter.unusedVariables false

theorem mails_other {w w' : World} {N M g n cap : Nat} {es : List St} (h : MailsIn w N (.slice (some ⟨g, 0, none⟩) n cap) es) (hb : w'.heap[g]? = w.heap[g]?) (hM : g < N → g < M) : MailsIn w' M (.slice (some ⟨g, 0, none⟩) n cap) es := by
  obtain ⟨a, cp, e, h⟩ := h
  refine ⟨a, cp, e, ?_⟩
  rcases h with h | ⟨b, off, rfl, hgN, h⟩
  · exact .inl h
  · cases e
    refine .inr ⟨g, 0, rfl, hM hgN, fun j hj => ?_⟩
    obtain ⟨h0, h1, h2⟩ := h j hj
    exact ⟨by rw [← h0]; simp only [World.cell?, hb], by rw [← h1]; simp only [World.cell?, hb], by rw [← h2]; simp only [World.cell?, hb]⟩
theorem texts_other {w w' : World} {N M g n cap : Nat} {es : List ByteArray} (h : tx.TextsIn w N (.slice (some ⟨g, 0, none⟩) n cap) es) (hb : w'.heap[g]? = w.heap[g]?) (hM : g < N → g < M) : tx.TextsIn w' M (.slice (some ⟨g, 0, none⟩) n cap) es := by
  obtain ⟨a, cp, e, h⟩ := h
  refine ⟨a, cp, e, ?_⟩
  rcases h with h | ⟨b, off, rfl, hgN, h⟩
  · exact .inl h
  · cases e
    refine .inr ⟨g, 0, rfl, hM hgN, fun j hj => ?_⟩
    rw [← h j hj]; simp only [World.cell?, hb]
theorem heap_new (w : World) (o : Obj) : (w.alloc o).heap[w.heap.size]? = some o := (MapKept.heap_alloc w _).1
theorem new1 (w : World) (o0 o1 o2 : Obj) : (((w.alloc o0).alloc o1).alloc o2).heap[w.heap.size + 1]? = some o1 := by
  have h := heap_new (w.alloc o0) o1
  rw [show (w.alloc o0).heap.size = w.heap.size + 1 by simp] at h
  rw [Below.heap_alloc _ _ _ (by simp), h]
theorem new2 (w : World) (o0 o1 o2 : Obj) : (((w.alloc o0).alloc o1).alloc o2).heap[w.heap.size + 1 + 1]? = some o2 := by
  have h := heap_new ((w.alloc o0).alloc o1) o2
  rw [show ((w.alloc o0).alloc o1).heap.size = w.heap.size + 1 + 1 by simp] at h
  exact h
def zeros (T : TypeId) : Obj := .cells #[.string ⟨#[]⟩, .int .i64 0, .int .i64 0, .slice none 0 0, .slice none 0 0] T (0, 0)
/-- What the copy of a box leaves. -/
def fin (w2 : World) (b : Nat) (x : Bx) (V U : Value) : World := (((((w2.setCell ⟨b + 1 + 1, 4, none⟩ U).setCell ⟨b + 1, 0, none⟩ (.string x.nm)).setCell ⟨b + 1, 1, none⟩ (.int .i64 x.vd)).setCell ⟨b + 1, 2, none⟩ (.int .i64 x.nx)).setCell ⟨b + 1, 3, none⟩ V).setCell ⟨b + 1, 4, none⟩ U
theorem fin_block {w2 : World} {b : Nat} {T : TypeId} {u0 u1 u2 u3 u4 : Value} (h : w2.heap[b + 1]? = some (.cells #[u0, u1, u2, u3, u4] T (0, 0))) (x : Bx) (V U : Value) : Lies (fin w2 b x V U) (b + 1) T x V U := by
  have M1 := (heap_setCell_other w2 ⟨b + 1 + 1, 4, none⟩ (b + 1) U (by simp)).trans h
  have M2 := heap_setCell_same _ (b + 1) 0 _ _ (.string x.nm) M1
  have M3 := heap_setCell_same _ (b + 1) 1 _ _ (.int .i64 x.vd) M2
  have M4 := heap_setCell_same _ (b + 1) 2 _ _ (.int .i64 x.nx) M3
  have M5 := heap_setCell_same _ (b + 1) 3 _ _ V M4
  exact heap_setCell_same _ (b + 1) 4 _ _ U M5
theorem fin_other (w2 : World) (b g : Nat) (x : Bx) (V U : Value) (h1 : g ≠ b + 1) (h2 : g ≠ b + 1 + 1) : (fin w2 b x V U).heap[g]? = w2.heap[g]? := by
  unfold fin
  rw [heap_setCell_other _ _ _ _ h1, heap_setCell_other _ _ _ _ h1, heap_setCell_other _ _ _ _ h1, heap_setCell_other _ _ _ _ h1, heap_setCell_other _ _ _ _ h1, heap_setCell_other _ _ _ _ h2]
theorem fin_below {w w2 : World} {b : Nat} (h : Below b w w2) (x : Bx) (V U : Value) : Below b w (fin w2 b x V U) := by
  unfold fin
  exact (((((h.setCell (by simp; omega) _).setCell (by simp) _).setCell (by simp) _).setCell (by simp) _).setCell (by simp) _).setCell (by simp) _

set_option maxHeartbeats 2000000 in
set_option maxRecDepth 100000 in
theorem toBox_any (x : Bx) (v u : Value) (w : World) (h : RowsAt w v u x.ms x.ks) (hn : x.ms.length ≤ 1048576 ∧ x.ks.length ≤ 1048576) :
    Calls Tryz.prog 56 #[BV x v u] w fun e w' => ∃ g g', e = .returned (BV x (.slice (some ⟨g, 0, none⟩) x.ms.length x.ms.length) (.slice (some ⟨g', 0, none⟩) x.ks.length x.ks.length)) ∧ RowsAt w' (.slice (some ⟨g, 0, none⟩) x.ms.length x.ms.length) (.slice (some ⟨g', 0, none⟩) x.ks.length x.ks.length) x.ms x.ks ∧ Below w.heap.size w w' := by
  have HB : Hid (RowsAt w v u x.ms x.ks) := h
  obtain ⟨⟨a, cap, rfl, _⟩, ⟨a1, cap1, rfl, _⟩⟩ := h
  obtain ⟨W, hW⟩ : ∃ W, W = (((w.alloc (.cells #[.string x.nm, .int .i64 x.vd, .int .i64 x.nx, .slice a x.ms.length cap, .slice a1 x.ks.length cap1] 92)).alloc (.cells #[.string ⟨#[]⟩, .int .i64 0, .int .i64 0, .slice none 0 0, .slice none 0 0] 99)).alloc (.cells #[.string x.nm, .int .i64 x.vd, .int .i64 x.nx, .slice none 0 0, .slice none 0 0] 99)) := ⟨_, rfl⟩
  obtain ⟨nm, vd, nx, ms, ks⟩ := x
  unfold BV
  simp only at HB hn hW ⊢
  go_enter Tryz.func56, Tryz.ntmps56
  go_wp2_with fail
  have b3 : Below w.heap.size w W := by rw [hW]; exact ((new_below w _ _).alloc (by simp) _).alloc (by simp; omega) _
  have sz : W.heap.size = w.heap.size + 3 := by rw [hW]; simp
  have k0 : Lies W w.heap.size 92 ⟨nm, vd, nx, ms, ks⟩ (.slice a ms.length cap) (.slice a1 ks.length cap1) := by
    rw [hW]; exact ((lies_new w 92 ⟨nm, vd, nx, ms, ks⟩ (.slice a ms.length cap) (.slice a1 ks.length cap1)).keep (new_below _ _ _)).keep (new_below _ _ _)
  have k1 : W.heap[w.heap.size + 1]? = some (.cells #[.string ⟨#[]⟩, .int .i64 0, .int .i64 0, .slice none 0 0, .slice none 0 0] 99 (0, 0)) := by rw [hW]; exact new1 _ _ _ _
  have k2 : Lies W (w.heap.size + 1 + 1) 99 ⟨nm, vd, nx, ms, ks⟩ (.slice none 0 0) (.slice none 0 0) := by rw [hW]; exact new2 _ _ _ _
  rw [← hW]
  have HA : Hid (RowsAt W (.slice a ms.length cap) (.slice a1 ks.length cap1) ms ks) := rows_below HB.out b3
  have HB0 : Hid (tx.TextsIn w w.heap.size (.slice a1 ks.length cap1) ks) := HB.out.2
  clear HB hW
  refine (toStoredS_any _ _ ms _ HA.out.1 (Nat.le_refl _) hn.1).mono ?_
  rintro e w2 ⟨rfl, hv', hb2⟩
  have HV : Hid (MailsIn w2 w2.heap.size (.slice (some ⟨W.heap.size, 0, none⟩) ms.length ms.length) ms) := hv'
  clear hv'
  have m0 := k0.keep hb2
  have m1 := (hb2.block (w.heap.size + 1) (by omega)).trans k1
  have m2 := k2.keep hb2
  have b4 := b3.trans (hb2.mono b3.size)
  have HA2 : Hid (RowsAt w2 (.slice a ms.length cap) (.slice a1 ks.length cap1) ms ks) := rows_below HA.out hb2
  have HSZ : Hid (W.heap.size = w.heap.size + 3) := sz
  have HS2 : Hid (W.heap.size ≤ w2.heap.size) := hb2.size
  clear k0 k1 k2 hb2 b3 sz
  have c04 := m0.c4
  have c23 := m2.c3
  have f2 : w2.frozen? ⟨w.heap.size + 1 + 1, 3, none⟩ = false := frozen_of_row w2 _ 3 _ _ m2
  have f2' : w2.frozen? ⟨w.heap.size + 1 + 1, 0 + 3, none⟩ = false := f2
  have HW2 : Hid (w2.heap[w.heap.size + 1 + 1]? = some (.cells #[.string nm, .int .i64 vd, .int .i64 nx, .slice none 0 0, .slice none 0 0] 99 (0, 0))) := m2
  have HW1 : Hid (w2.heap[w.heap.size + 1]? = some (.cells #[.string ⟨#[]⟩, .int .i64 0, .int .i64 0, .slice none 0 0, .slice none 0 0] 99 (0, 0))) := m1
  clear m0 m1 m2
  go_wp2_with fail
  obtain ⟨V, hV⟩ : ∃ V, V = Value.slice (some ⟨W.heap.size, 0, none⟩) ms.length ms.length := ⟨_, rfl⟩
  obtain ⟨w3, hw3⟩ : ∃ w3, w3 = w2.setCell ⟨w.heap.size + 1 + 1, 3, none⟩ V := ⟨_, rfl⟩
  have b5 : Below w.heap.size w w3 := by rw [hw3]; exact b4.setCell (by simp; omega) _
  have s3 : w3.heap.size = w2.heap.size := by rw [hw3]; simp
  have n2 : Lies w3 (w.heap.size + 1 + 1) 99 ⟨nm, vd, nx, ms, ks⟩ V (.slice none 0 0) := by rw [hw3]; exact heap_setCell_same _ _ 3 _ _ _ HW2.out
  have n1 : w3.heap[w.heap.size + 1]? = some (.cells #[.string ⟨#[]⟩, .int .i64 0, .int .i64 0, .slice none 0 0, .slice none 0 0] 99 (0, 0)) := by rw [hw3, heap_setCell_other _ _ _ _ (by simp)]; exact HW1.out
  have HV3 : Hid (MailsIn w3 w3.heap.size (.slice (some ⟨W.heap.size, 0, none⟩) ms.length ms.length) ms) := mails_other HV.out (by rw [hw3, heap_setCell_other _ _ _ _ (by rw [HSZ.out]; simp)]) (fun h => by rw [s3]; exact h)
  have HA3 : Hid (tx.TextsIn w3 w.heap.size (.slice a1 ks.length cap1) ks) := tx.texts_below HB0.out b5 (Nat.le_refl _)
  rw [← hV, ← hw3]
  have HVH : Hid (V = Value.slice (some ⟨W.heap.size, 0, none⟩) ms.length ms.length) := hV
  clear hV
  clear HV HA2 c04 c23 f2 f2' HW1 HW2 b4
  refine (tx.toTexts_any _ _ ks _ HA3.out b5.size hn.2).mono ?_
  rintro e w4 ⟨rfl, hv4, hb4⟩
  have HU : Hid (tx.TextsIn w4 w4.heap.size (.slice (some ⟨w3.heap.size, 0, none⟩) ks.length ks.length) ks) := hv4
  have HV4 : Hid (MailsIn w4 w4.heap.size (.slice (some ⟨W.heap.size, 0, none⟩) ms.length ms.length) ms) := mails_more (mails_below HV3.out hb4 (Nat.le_refl _)) hb4.size
  have q1 := (hb4.block (w.heap.size + 1) (by have := HSZ.out; have := HS2.out; omega)).trans n1
  have q2 := n2.keep hb4
  have b6 := b5.trans (hb4.mono b5.size)
  have HS3 : Hid (w.heap.size + 3 ≤ w3.heap.size) := by have := HSZ.out; have := HS2.out; exact (by omega : w.heap.size + 3 ≤ w3.heap.size)
  clear hv4 hb4 n1 n2 b5 HV3 HA3 s3 hw3
  have c10 : w4.cell? ⟨w.heap.size + 1, 0, none⟩ = some (.string ⟨#[]⟩) := by rw [cell_of_row w4 _ _ _ _ _ q1]; rfl
  have c11 : w4.cell? ⟨w.heap.size + 1, 0 + 1, none⟩ = some (.int .i64 0) := by rw [cell_of_row w4 _ _ _ _ _ q1]; rfl
  have c12 : w4.cell? ⟨w.heap.size + 1, 0 + 2, none⟩ = some (.int .i64 0) := by rw [cell_of_row w4 _ _ _ _ _ q1]; rfl
  have c13 : w4.cell? ⟨w.heap.size + 1, 0 + 3, none⟩ = some (.slice none 0 0) := by rw [cell_of_row w4 _ _ _ _ _ q1]; rfl
  have c14 : w4.cell? ⟨w.heap.size + 1, 0 + 4, none⟩ = some (.slice none 0 0) := by rw [cell_of_row w4 _ _ _ _ _ q1]; rfl
  have c20 := q2.c0
  have c21 := q2.c1
  have c22 := q2.c2
  have c23 := q2.c3
  have c24 := q2.c4
  have f1 : ∀ j, w4.frozen? ⟨w.heap.size + 1, j, none⟩ = false := fun j => frozen_of_row w4 _ j _ _ q1
  have f2 : ∀ j, w4.frozen? ⟨w.heap.size + 1 + 1, j, none⟩ = false := fun j => frozen_of_row w4 _ j _ _ q2
  have HQ1 : Hid (w4.heap[w.heap.size + 1]? = some (.cells #[.string ⟨#[]⟩, .int .i64 0, .int .i64 0, .slice none 0 0, .slice none 0 0] 99 (0, 0))) := q1
  clear q1 q2
  simp only at c20 c21 c22
  obtain rfl := HVH.out
  clear HVH
  go_wp2
  have M5 := fin_block HQ1.out ⟨nm, vd, nx, ms, ks⟩ (.slice (some ⟨W.heap.size, 0, none⟩) ms.length ms.length) (.slice (some ⟨w3.heap.size, 0, none⟩) ks.length ks.length)
  have b7 := fin_below b6 ⟨nm, vd, nx, ms, ks⟩ (.slice (some ⟨W.heap.size, 0, none⟩) ms.length ms.length) (.slice (some ⟨w3.heap.size, 0, none⟩) ks.length ks.length)
  have hsz : (fin w4 w.heap.size ⟨nm, vd, nx, ms, ks⟩ (.slice (some ⟨W.heap.size, 0, none⟩) ms.length ms.length) (.slice (some ⟨w3.heap.size, 0, none⟩) ks.length ks.length)).heap.size = w4.heap.size := by simp [fin]
  have hat : MailsIn (fin w4 w.heap.size ⟨nm, vd, nx, ms, ks⟩ (.slice (some ⟨W.heap.size, 0, none⟩) ms.length ms.length) (.slice (some ⟨w3.heap.size, 0, none⟩) ks.length ks.length)) (fin w4 w.heap.size ⟨nm, vd, nx, ms, ks⟩ (.slice (some ⟨W.heap.size, 0, none⟩) ms.length ms.length) (.slice (some ⟨w3.heap.size, 0, none⟩) ks.length ks.length)).heap.size (.slice (some ⟨W.heap.size, 0, none⟩) ms.length ms.length) ms := mails_other HV4.out (fin_other _ _ _ _ _ _ (by rw [HSZ.out]; omega) (by rw [HSZ.out]; omega)) (fun h => by rw [hsz]; exact h)
  have hau : tx.TextsIn (fin w4 w.heap.size ⟨nm, vd, nx, ms, ks⟩ (.slice (some ⟨W.heap.size, 0, none⟩) ms.length ms.length) (.slice (some ⟨w3.heap.size, 0, none⟩) ks.length ks.length)) (fin w4 w.heap.size ⟨nm, vd, nx, ms, ks⟩ (.slice (some ⟨W.heap.size, 0, none⟩) ms.length ms.length) (.slice (some ⟨w3.heap.size, 0, none⟩) ks.length ks.length)).heap.size (.slice (some ⟨w3.heap.size, 0, none⟩) ks.length ks.length) ks := texts_other HU.out (fin_other _ _ _ _ _ _ (by have := HS3.out; omega) (by have := HS3.out; omega)) (fun h => by rw [hsz]; exact h)
  clear c10 c11 c12 c13 c14 c20 c21 c22 c23 c24 f1 f2 HV4 HU b6 HQ1 hsz
  change bodyPost _ _ _ _ _ (fin w4 w.heap.size ⟨nm, vd, nx, ms, ks⟩ (.slice (some ⟨W.heap.size, 0, none⟩) ms.length ms.length) (.slice (some ⟨w3.heap.size, 0, none⟩) ks.length ks.length))
  generalize fin w4 w.heap.size ⟨nm, vd, nx, ms, ks⟩ (.slice (some ⟨W.heap.size, 0, none⟩) ms.length ms.length) (.slice (some ⟨w3.heap.size, 0, none⟩) ks.length ks.length) = X at M5 b7 hat hau ⊢
  have x0 : X.cell? ⟨w.heap.size + 1, 0, none⟩ = some (.string nm) := M5.c0
  have x1 : X.cell? ⟨w.heap.size + 1, 1, none⟩ = some (.int .i64 vd) := M5.c1
  have x2 : X.cell? ⟨w.heap.size + 1, 2, none⟩ = some (.int .i64 nx) := M5.c2
  have x3 : X.cell? ⟨w.heap.size + 1, 3, none⟩ = some (.slice (some ⟨W.heap.size, 0, none⟩) ms.length ms.length) := M5.c3
  have x4 : X.cell? ⟨w.heap.size + 1, 4, none⟩ = some (.slice (some ⟨w3.heap.size, 0, none⟩) ks.length ks.length) := M5.c4
  exact bodyPost_ret (v := .agg #[.string nm, .int .i64 vd, .int .i64 nx, (.slice (some ⟨W.heap.size, 0, none⟩) ms.length ms.length), (.slice (some ⟨w3.heap.size, 0, none⟩) ks.length ks.length)]) (by simp [results, Tryz.results56, go_sem, x0, x1, x2, x3, x4]) rfl ⟨_, _, rfl, ⟨hat, hau⟩, b7⟩
end Go.Proofs.YtncnbhekgkemfaaGreatDoor.bx
