/-
  Texts as rows: measured and copied by the law's own functions; as an argument, opened.
  A box as an argument: opened; measured, copied and compared by the law's own functions.
-/
import Derived.Test.YtcnjgmeddkidaaaGreatDoorPkac
import Derived.Test.YtcnjgmeddkidaaaGreatDoorPkaa

namespace Go.Proofs.YtcnjgmeddkidaaaGreatDoor.tx
open Go.ChangeShapes Go.WideShapes Go.ChangeAt Go.RowKit Go.Joins Go.Deep
open ky
set_option linter.unusedVariables false

/-- A slice of texts, in a block below n. -/
def TextsIn (w : World) (n : Nat) (v : Value) (ks : List ByteArray) : Prop :=
  ∃ a cap, v = .slice a ks.length cap ∧ (ks = [] ∨ ∃ b off, a = some ⟨b, off, none⟩ ∧ b < n ∧ ∀ j, j < ks.length → w.cell? ⟨b, off + j, none⟩ = some (.string (ks.getD j nt)))
theorem texts_at {w : World} {n : Nat} {v : Value} {ks : List ByteArray} (h : TextsIn w n v ks) : TextsAt w v ks := by
  obtain ⟨a, cap, rfl, h⟩ := h
  refine ⟨a, cap, rfl, ?_⟩
  rcases h with h | ⟨b, off, rfl, hb', h⟩
  · exact .inl h
  · exact .inr ⟨b, off, rfl, h⟩
theorem texts_below {w w' : World} {n k : Nat} {v : Value} {ks : List ByteArray} (h : TextsIn w n v ks) (hb : Below k w w') (hk : n ≤ k) : TextsIn w' n v ks := by
  obtain ⟨a, cap, rfl, h⟩ := h
  refine ⟨a, cap, rfl, ?_⟩
  rcases h with h | ⟨b, off, rfl, hb', h⟩
  · exact .inl h
  · exact .inr ⟨b, off, rfl, hb', fun j hj => (hb.cell (p := ⟨b, off + j, none⟩) (Nat.lt_of_lt_of_le hb' hk)).trans (h j hj)⟩
theorem texts_more {w : World} {n k : Nat} {v : Value} {ks : List ByteArray} (h : TextsIn w n v ks) (hk : n ≤ k) : TextsIn w k v ks := by
  obtain ⟨a, cap, rfl, h⟩ := h
  refine ⟨a, cap, rfl, ?_⟩
  rcases h with h | ⟨b, off, rfl, hb', h⟩
  · exact .inl h
  · exact .inr ⟨b, off, rfl, by omega, h⟩
def Smalls (ks : List ByteArray) : Prop := ks.length ≤ 1048576 ∧ ∀ j, j < ks.length → (ks.getD j nt).size ≤ 1048576
def SmallsTo (ks : List ByteArray) (k : Nat) : Prop := ks.length ≤ 1048576 ∧ ∀ j, j < k → (ks.getD j nt).size ≤ 1048576

set_option maxHeartbeats 1000000 in
theorem szTexts_any (N : Nat) (v : Value) (ks : List ByteArray) (left : Int) (w : World) (h : TextsIn w N v ks) (h0 : 0 ≤ left) (h1 : left ≤ 1048576) (hl : ks.length ≤ maxLen) (hs : ∀ j, j < ks.length → (ks.getD j nt).size ≤ maxLen) :
    Calls Tryz.prog 69 #[v, .int .i64 left] w fun e w' => (∃ z : Int, e = .returned (.int .i64 z) ∧ z ≤ left ∧ -1 ≤ z ∧ (0 ≤ z → Smalls ks)) ∧ w' = w := by
  obtain ⟨a, cap, rfl, h⟩ := h
  obtain ⟨n, hn⟩ : ∃ n, n = ks.length := ⟨_, rfl⟩
  have HN : Hid (n = ks.length) := hn
  have HH : Hid (ks = [] ∨ ∃ b off, a = some ⟨b, off, none⟩ ∧ b < N ∧ ∀ j, j < ks.length → w.cell? ⟨b, off + j, none⟩ = some (.string (ks.getD j nt))) := h
  have HS : Hid (∀ j, j < ks.length → (ks.getD j nt).size ≤ maxLen) := hs
  rw [← hn] at hl ⊢
  clear h hs hn
  unfold maxLen at hl
  by_cases g0 : left - (n : Int) < 0
  · go_enter Tryz.func69, Tryz.ntmps69
    go_wp2
    go_ret
    exact ⟨⟨-1, rfl, by omega, by omega, by omega⟩, rfl⟩
  go_enter Tryz.func69, Tryz.ntmps69
  go_wp2
  go_loopw [1, 5] (fun z i wr => ∃ (k : Nat) (y : Int), k ≤ n ∧ 0 ≤ y ∧ y ≤ left ∧ z = .int .i64 y ∧ i = .int .i64 k ∧ SmallsTo ks k ∧ wr = w) (fun _ i _ => n - (intOf i).toNat)
  case atStart => exact ⟨0, left - (n : Int), Nat.zero_le _, by omega, by omega, rfl, rfl, ⟨by rw [← HN.out]; omega, fun j hj => absurd hj (Nat.not_lt_zero _)⟩, rfl⟩
  case round =>
    obtain ⟨k, y, hk, hy0, hy1, rfl, rfl, hsm, rfl⟩ := hrel
    have HSM : Hid (SmallsTo ks k) := hsm
    clear hsm
    by_cases hlt : k < n
    · have hka : k < ks.length := by rw [← HN.out]; exact hlt
      rcases HH.out with e | ⟨b, off, rfl, _, hcells⟩
      · rw [e] at hka; simp at hka
      have c0 := hcells k hka
      have hhd := HS.out k hka
      clear hcells hka
      generalize hx : ks.getD k nt = x at c0 hhd
      have HX : Hid (ks.getD k nt = x) := hx
      clear hx
      have hhd' : x.size ≤ 9223372036854775807 := hhd
      by_cases hz : y - (x.size : Int) < 0
      · go_wp2
        go_ret
        exact ⟨⟨-1, rfl, by omega, by omega, by omega⟩, rfl⟩
      · go_wp2
        go_roundw
        case rel => exact ⟨k + 1, y - (x.size : Int), by omega, by omega, by omega, by go_num, by go_num, ⟨HSM.out.1, fun j hj => by by_cases hjk : j = k; subst hjk; rw [HX.out]; omega; exact HSM.out.2 j (by omega)⟩, by trivial⟩
        case measure => simp [intOf]; omega
    · go_wp2
      go_ret
      exact ⟨⟨y, rfl, by omega, by omega, fun _ => ⟨HSM.out.1, fun j hj => HSM.out.2 j (by have := HN.out; omega)⟩⟩, rfl⟩

theorem infoT : (Tryz.prog.info? 9).map (fun i => (i.zero, i.size, i.bytes)) = some (some (.string ⟨#[]⟩), 1, 16) := by kernel_rfl
def Lay (ks : List ByteArray) (k : Nat) (xs : List Value) : Prop := ∀ j, j < k → xs[j]? = some (.string (ks.getD j nt))
theorem lay_step {ks : List ByteArray} {k : Nat} {xs : List Value} (h : Lay ks k xs) (hl : k < xs.length) {x : ByteArray} (hx : ks.getD k nt = x) : Lay ks (k + 1) (xs.set k (.string x)) := by
  intro j hj
  by_cases e : j = k
  · subst e
    rw [hx, List.getElem?_set_self (by omega)]
  · rw [List.getElem?_set_ne (by omega)]
    exact h j (by omega)
theorem texts_lay {w : World} {base e g n cap N : Nat} {ks : List ByteArray} {xs : List Value} (hn : n = ks.length) (h : w.ownsRow base e 1 (.slice (some ⟨g, 0, none⟩) n cap) n xs) (hl : Lay ks n xs) (hg : g < N) : TextsIn w N (.slice (some ⟨g, 0, none⟩) n cap) ks := by
  subst hn
  refine ⟨_, cap, rfl, .inr ⟨g, 0, rfl, hg, fun j hj => ?_⟩⟩
  rw [Nat.zero_add, h.cellAt _ (by omega), hl j hj]

set_option maxHeartbeats 2000000 in
set_option maxRecDepth 100000 in
theorem toTexts_any (N : Nat) (v : Value) (ks : List ByteArray) (w : World) (h : TextsIn w N v ks) (hN : N ≤ w.heap.size) (hn : ks.length ≤ 1048576) :
    Calls Tryz.prog 74 #[v] w fun e w' => e = .returned (.slice (some ⟨w.heap.size, 0, none⟩) ks.length ks.length) ∧ TextsIn w' w'.heap.size (.slice (some ⟨w.heap.size, 0, none⟩) ks.length ks.length) ks ∧ Below w.heap.size w w' := by
  obtain ⟨a, cap, rfl, h⟩ := h
  obtain ⟨i0, hi, hz0, hz1, hz2⟩ := info_parts infoT
  obtain ⟨n, hn'⟩ : ∃ n, n = ks.length := ⟨_, rfl⟩
  have HN : Hid (n = ks.length) := hn'
  have HH : Hid (ks = [] ∨ ∃ b off, a = some ⟨b, off, none⟩ ∧ b < N ∧ ∀ j, j < ks.length → w.cell? ⟨b, off + j, none⟩ = some (.string (ks.getD j nt))) := h
  rw [← hn'] at hn ⊢
  clear h hn'
  go_enter Tryz.func74, Tryz.ntmps74
  go_wp2_with (at_make; refine wpList_make_full _ rfl _ _ 46 rfl w.heap.size 9 i0 _ 1 Tryz.underlying46 hi hz0 hz1 _ _ _ _ n rfl rfl rfl rfl (by rw [hz2]; omega) (by unfold maxLen; omega) (Nat.le_refl _) ?_; intro w1 hown1 hg1)
  have hb1 : Below w.heap.size w w1 := (Below.refl _ _).grown hg1 (Nat.le_refl _) (fun k hk => by cases hk)
  clear hg1
  go_loopw [4] (fun i wr => ∃ (k : Nat) (xs : List Value), k ≤ n ∧ i = .int .i64 k ∧ xs.length = n ∧ Lay ks k xs ∧ wr.ownsRow w.heap.size 9 1 (.slice (some ⟨w.heap.size, 0, none⟩) n n) n xs ∧ Below w.heap.size w wr) (fun i _ => n - (intOf i).toNat)
  case atStart => exact ⟨0, _, Nat.zero_le _, rfl, by have := hown1.1; omega, fun j hj => absurd hj (Nat.not_lt_zero _), hown1, hb1⟩
  case round =>
    clear hown1 hb1
    obtain ⟨k, xs, hk, rfl, hxl, hm, hown, hbw⟩ := hrel
    have HM : Hid (Lay ks k xs) := hm
    have HL : Hid (xs.length = n) := hxl
    clear hm hxl
    by_cases hlt : k < n
    · have hka : k < ks.length := by rw [← HN.out]; exact hlt
      rcases HH.out with e | ⟨b, off, rfl, hbN, hcells⟩
      · rw [e] at hka; simp at hka
      have c0 := (hbw.cell (p := ⟨b, off + k, none⟩) (Nat.lt_of_lt_of_le hbN hN)).trans (hcells k hka)
      clear hcells hka
      generalize hx : ks.getD k nt = x at c0
      have HX : Hid (ks.getD k nt = x) := hx
      clear hx
      have HO : Hid (wr.ownsRow w.heap.size 9 1 (.slice (some ⟨w.heap.size, 0, none⟩) n n) n xs) := hown
      have q0 := hown.cellAt k (by omega)
      rw [List.getElem?_eq_getElem (by rw [HL.out]; omega)] at q0
      have f0 := hown.frozenAt k
      clear hown
      generalize xs[k]'(by rw [HL.out]; omega) = u0 at q0
      have hlt' : (k : Int) < (n : Int) := by omega
      go_wp2
      go_roundw
      case rel => exact ⟨k + 1, xs.set k (.string x), by omega, by go_num, by rw [List.length_set]; exact HL.out, lay_step HM.out (by rw [HL.out]; omega) HX.out, (HO.out.stored _ _).1, hbw.setCell (Nat.le_refl _) _⟩
      case measure => simp [intOf]; omega
    · have hgl : w.heap.size < wr.heap.size := by
        rcases hown.2 with ⟨hv, _⟩ | ⟨g', cap', cur, hv, _, hb', _⟩
        · cases hv
        · cases hv
          exact (Array.getElem?_eq_some_iff.1 hb').1
      have HQ : Hid (TextsIn wr wr.heap.size (.slice (some ⟨w.heap.size, 0, none⟩) n n) ks) := texts_lay HN.out hown (fun j hj => HM.out j (by omega)) hgl
      go_wp2
      go_ret
      exact ⟨rfl, HQ.out, hbw⟩

section
variable {H : Type} {enc : TypeId × Value → H} {w : World} {base : Nat} {spare : Nat → Bool} {held : Bool}
theorem cellsT : Tryz.prog.cellsOf 9 = 1 := by kernel_rfl
theorem open_texts {fuel : Nat} {v : Value} {x : DataW H × List MemPlace} (h : DataW.trod enc Tryz.prog w base spare held fuel 46 [v] = some x) :
    ∃ ks : List ByteArray, TextsIn w w.heap.size v ks ∧ ks.length ≤ maxLen ∧ ∀ j, j < ks.length → (ks.getD j nt).size ≤ maxLen := by
  rcases open_slice Tryz.underlying46 h with ⟨hc, _⟩ | ⟨a, len, cap, m, n, D, Pl, hc, _, hl, hm, hmm, _, hall⟩
  · cases hc
    exact ⟨[], ⟨none, 0, rfl, .inl rfl⟩, Nat.zero_le _, fun j hj => absurd hj (Nat.not_lt_zero _)⟩
  · cases hc
    have hml : len ≤ m := by rw [hmm]; split <;> omega
    have each : ∀ i, ∃ e : ByteArray, i < len → e.size ≤ maxLen ∧ w.cell? (a.add i) = some (.string e) := by
      intro i
      by_cases hi : i < len
      · obtain ⟨cs', h1, h2⟩ := hall i (by omega)
        obtain ⟨e, rfl, _, hh⟩ := DataW.trod_string Tryz.underlying9 h2
        rw [cellsT] at h1
        obtain ⟨_, hlen, hcell⟩ := World.cells?_some h1
        refine ⟨e, fun _ => ⟨hh, ?_⟩⟩
        have := hcell 0 (by omega)
        rw [add_add, Nat.mul_one, Nat.add_zero] at this
        rw [this]
        rfl
      · exact ⟨nt, fun h => absurd h hi⟩
    obtain ⟨q, hq⟩ := Classical.axiomOfChoice each
    have hget : ∀ j, j < len → ((List.range len).map q).getD j nt = q j := by
      intro j hj
      simp [List.getD_eq_getElem?_getD, hj]
    refine ⟨(List.range len).map q, ⟨some a, cap, by simp, ?_⟩, by simp; omega, ?_⟩
    · by_cases h0 : len = 0
      · left; simp [h0]
      · right
        have c0 := (hq 0 (by omega)).2
        obtain ⟨b, off, spot⟩ := a
        have hspot : spot = none := by simpa [Addr.add] using World.cell?_spot c0
        subst hspot
        have hblt : b < w.heap.size := by simpa [Addr.add] using World.block_lt_of_cell? w _ c0
        refine ⟨b, off, rfl, hblt, fun j hj => ?_⟩
        have hj' : j < len := by simpa using hj
        have hc := (hq j hj').2
        rw [hget j hj']
        have hadd : (⟨b, off, none⟩ : Addr).add j = ⟨b, off + j, none⟩ := by simp only [Addr.add]; split <;> simp_all
        rw [hadd] at hc
        exact hc
    · intro j hj
      have hj' : j < len := by simpa using hj
      rw [hget j hj']
      exact (hq j hj').1
end
end Go.Proofs.YtcnjgmeddkidaaaGreatDoor.tx

namespace Go.Proofs.YtcnjgmeddkidaaaGreatDoor.bx
open Go.ChangeShapes Go.WideShapes Go.ChangeAt Go.RowKit Go.Deep Go.Joins
open st
set_option linter.unusedVariables false

/-- A box: name, valid, next, mails, keys. -/
structure Bx where
  nm : ByteArray
  vd : Int
  nx : Int
  ms : List St
  ks : List ByteArray
/-- It as the program has it, its mails in v, its keys in u. -/
def BV (x : Bx) (v u : Value) : Value := .agg #[.string x.nm, .int .i64 x.vd, .int .i64 x.nx, v, u]
def Ins (x : Bx) : Prop := In x.vd ∧ In x.nx
def Small (x : Bx) : Prop := Ins x ∧ x.nm.size ≤ 1048576 ∧ st.Smalls x.ms ∧ tx.Smalls x.ks
def Held (x : Bx) : Prop := Ins x ∧ x.nm.size ≤ maxLen ∧ (x.ms.length ≤ maxLen ∧ ∀ j, j < x.ms.length → st.Held (x.ms.getD j noS)) ∧ x.ks.length ≤ maxLen ∧ ∀ j, j < x.ks.length → (x.ks.getD j ky.nt).size ≤ maxLen
/-- Its rows, in blocks below n. -/
def RowsIn (w : World) (n : Nat) (v u : Value) (ms : List St) (ks : List ByteArray) : Prop := MailsIn w n v ms ∧ tx.TextsIn w n u ks
theorem rows_in_below {w w' : World} {n k : Nat} {v u : Value} {ms : List St} {ks : List ByteArray} (h : RowsIn w n v u ms ks) (hb : Below k w w') (hk : n ≤ k) : RowsIn w' n v u ms ks := ⟨mails_below h.1 hb hk, tx.texts_below h.2 hb hk⟩
theorem rows_more {w : World} {n k : Nat} {v u : Value} {ms : List St} {ks : List ByteArray} (h : RowsIn w n v u ms ks) (hk : n ≤ k) : RowsIn w k v u ms ks := ⟨mails_more h.1 hk, tx.texts_more h.2 hk⟩
/-- Its rows. -/
def RowsAt (w : World) (v u : Value) (ms : List St) (ks : List ByteArray) : Prop := RowsIn w w.heap.size v u ms ks
theorem rows_below {w w' : World} {v u : Value} {ms : List St} {ks : List ByteArray} (h : RowsAt w v u ms ks) (hb : Below w.heap.size w w') : RowsAt w' v u ms ks := rows_more (rows_in_below h hb (Nat.le_refl _)) hb.size

theorem five_list {α : Type} {l : List α} (h : l.length = 5) : ∃ a b c d e, l = [a, b, c, d, e] := by
  match l, h with
  | [a, b, c, d, e], _ => exact ⟨a, b, c, d, e, rfl⟩
section
variable {H : Type} {enc : TypeId × Value → H} {w : World} {base : Nat} {spare : Nat → Bool} {held : Bool}
set_option maxRecDepth 100000 in
theorem trod_box {fuel : Nat} {cs : List Value} {x : DataW H × List MemPlace} (h : DataW.trod enc Tryz.prog w base spare held fuel 89 cs = some x) :
    ∃ (x : Bx) (v u : Value), cs = [.string x.nm, .int .i64 x.vd, .int .i64 x.nx, v, u] ∧ RowsAt w v u x.ms x.ks ∧ Held x := by
  obtain ⟨hl, n, hall⟩ := trod_cells Tryz.underlying89 (by kernel_rfl) (by kernel_rfl) h
  obtain ⟨c0, c1, c2, c3, c4, rfl⟩ := five_list hl
  obtain ⟨y0, t0⟩ := hall 0 _ _ rfl rfl
  obtain ⟨y1, t1⟩ := hall 1 _ _ rfl rfl
  obtain ⟨y2, t2⟩ := hall 2 _ _ rfl rfl
  obtain ⟨y3, t3⟩ := hall 3 _ _ rfl rfl
  obtain ⟨y4, t4⟩ := hall 4 _ _ rfl rfl
  obtain ⟨s0, e0, _, f0⟩ := DataW.trod_string Tryz.underlying9 t0
  obtain ⟨z1, e1, _, f1⟩ := DataW.trod_int Tryz.underlying3 t1
  obtain ⟨z2, e2, _, f2⟩ := DataW.trod_int Tryz.underlying3 t2
  obtain ⟨ms, hat, hpl, hps⟩ := open_mails t3
  obtain ⟨ks, hat2, hpl2, hps2⟩ := tx.open_texts t4
  simp only [List.cons.injEq, and_true] at e0 e1 e2
  subst e0 e1 e2
  exact ⟨⟨s0, z1, z2, ms, ks⟩, c3, c4, rfl, ⟨hat, hat2⟩, ⟨in_of_wf f1, in_of_wf f2⟩, f0, ⟨hpl, hps⟩, hpl2, hps2⟩
set_option maxRecDepth 100000 in
theorem open_box {r : Reach} {b0 : Nat} {v : Value} {d : DataW H} {p : List MemPlace} (hv : Value.okWide Tryz.prog w r b0 89 v) (h : DataW.Trod enc Tryz.prog w base spare held 89 v d p) :
    ∃ (x : Bx) (u1 u2 : Value), v = BV x u1 u2 ∧ RowsAt w u1 u2 x.ms x.ks ∧ Held x := by
  obtain ⟨cs, rfl, hsz⟩ := okWide_struct Tryz.underlying89 hv
  obtain ⟨fuel, hf⟩ := h
  have hcs : (Value.agg cs).cells.toList = cs.toList := by simp [Value.cells]
  rw [hcs] at hf
  obtain ⟨x, u1, u2, hc, hr, hh⟩ := trod_box hf
  exact ⟨x, u1, u2, congrArg Value.agg (Array.toList_inj.1 hc), hr, hh⟩
end

/-- A box that lies as a variable. -/
def Lies (w : World) (b : Nat) (T : TypeId) (x : Bx) (v u : Value) : Prop := w.heap[b]? = some (.cells #[.string x.nm, .int .i64 x.vd, .int .i64 x.nx, v, u] T (0, 0))
section
variable {w w' : World} {b : Nat} {T : TypeId} {x : Bx} {v u : Value}
theorem Lies.c0 (h : Lies w b T x v u) : w.cell? ⟨b, 0, none⟩ = some (.string x.nm) := by rw [cell_of_row w _ _ _ _ _ h]; rfl
theorem Lies.c1 (h : Lies w b T x v u) : w.cell? ⟨b, 0 + 1, none⟩ = some (.int .i64 x.vd) := by rw [cell_of_row w _ _ _ _ _ h]; rfl
theorem Lies.c2 (h : Lies w b T x v u) : w.cell? ⟨b, 0 + 2, none⟩ = some (.int .i64 x.nx) := by rw [cell_of_row w _ _ _ _ _ h]; rfl
theorem Lies.c3 (h : Lies w b T x v u) : w.cell? ⟨b, 0 + 3, none⟩ = some v := by rw [cell_of_row w _ _ _ _ _ h]; rfl
theorem Lies.c4 (h : Lies w b T x v u) : w.cell? ⟨b, 0 + 4, none⟩ = some u := by rw [cell_of_row w _ _ _ _ _ h]; rfl
theorem Lies.lt (h : Lies w b T x v u) : b < w.heap.size := World.block_lt_of_cell? w _ h.c0
theorem Lies.keep (h : Lies w b T x v u) (hb : Below w.heap.size w w') : Lies w' b T x v u := (hb.block b h.lt).trans h
theorem lies_new (w : World) (T : TypeId) (x : Bx) (v u : Value) : Lies (w.alloc (.cells #[.string x.nm, .int .i64 x.vd, .int .i64 x.nx, v, u] T)) w.heap.size T x v u := by show (w.heap.push _)[w.heap.size]? = _; simp
theorem new_below (w : World) (T : TypeId) (cs : Array Value) : Below w.heap.size w (w.alloc (.cells cs T)) := (Below.refl _ _).alloc (Nat.le_refl _) _
end

set_option maxHeartbeats 1000000 in
set_option maxRecDepth 100000 in
theorem szBox_any (x : Bx) (v u : Value) (left : Int) (w : World) (h : RowsAt w v u x.ms x.ks) (h0 : 0 ≤ left) (h1 : left ≤ 1048576) (hh : Held x) :
    Calls Tryz.prog 46 #[BV x v u, .int .i64 left] w fun e w' => (∃ z : Int, e = .returned (.int .i64 z) ∧ z ≤ left ∧ -1 ≤ z ∧ (0 ≤ z → Small x)) ∧ Below w.heap.size w w' := by
  have L0 := lies_new w 89 x v u
  have hbw := new_below w 89 #[.string x.nm, .int .i64 x.vd, .int .i64 x.nx, v, u]
  have H2 : Hid (RowsAt (w.alloc (.cells #[.string x.nm, .int .i64 x.vd, .int .i64 x.nx, v, u] 89)) v u x.ms x.ks) := rows_below h hbw
  obtain ⟨⟨a, cap, rfl, _⟩, ⟨a1, cap1, rfl, _⟩⟩ := h
  obtain ⟨nm, vd, nx, ms, ks⟩ := x
  obtain ⟨hi, hb, hl, hl2⟩ := hh
  unfold BV
  simp only at L0 hbw H2 hb hl hl2 ⊢
  have hb' : nm.size ≤ 9223372036854775807 := hb
  have HL : Hid (ms.length ≤ maxLen ∧ ∀ j, j < ms.length → st.Held (ms.getD j noS)) := hl
  have HL2 : Hid (ks.length ≤ maxLen ∧ ∀ j, j < ks.length → (ks.getD j ky.nt).size ≤ maxLen) := hl2
  have HI : Hid (Ins ⟨nm, vd, nx, ms, ks⟩) := hi
  clear hl hl2 hi
  by_cases g0 : left - (nm.size : Int) < 0
  · go_enter Tryz.func46, Tryz.ntmps46
    go_wp2
    go_ret
    exact ⟨⟨-1, rfl, by omega, by omega, by omega⟩, hbw⟩
  go_enter Tryz.func46, Tryz.ntmps46
  go_wp2_with fail
  generalize w.alloc _ = w0 at L0 hbw H2 ⊢
  refine (szStoredS_any _ _ ms _ _ H2.out.1 (Nat.le_refl _) (by omega) (by omega) HL.out.1 HL.out.2).mono ?_
  rintro e w2 ⟨⟨z, rfl, hz0, hz1, hz2⟩, hb2⟩
  have HZ : Hid (0 ≤ z → st.Smalls ms) := hz2
  have L2 := L0.keep hb2
  have H3 : Hid (RowsAt w2 (.slice a ms.length cap) (.slice a1 ks.length cap1) ms ks) := rows_below H2.out hb2
  have hb3 := hbw.trans (hb2.mono hbw.size)
  clear hz2 H2 HL hbw hb2 L0
  have c4 := L2.c4
  clear L2
  by_cases hz : z < 0
  · go_wp2
    go_ret
    exact ⟨⟨-1, rfl, by omega, by omega, by omega⟩, hb3⟩
  go_wp2_with fail
  refine (tx.szTexts_any _ _ ks _ _ H3.out.2 (by omega) (by omega) HL2.out.1 HL2.out.2).mono ?_
  rintro e w3 ⟨⟨y, rfl, hy0, hy1, hy2⟩, rfl⟩
  have HY : Hid (0 ≤ y → tx.Smalls ks) := hy2
  clear hy2 H3 HL2
  by_cases hy : y < 0
  · go_wp2
    go_ret
    exact ⟨⟨-1, rfl, by omega, by omega, by omega⟩, hb3⟩
  · go_wp2
    go_ret
    exact ⟨⟨_, rfl, by omega, by omega, fun _ => ⟨HI.out, by show nm.size ≤ _; omega, HZ.out (by omega), HY.out (by omega)⟩⟩, hb3⟩

set_option maxHeartbeats 1000000 in
set_option maxRecDepth 100000 in
theorem eqBox_any (x : Bx) (v u v' u' : Value) (w : World) (h1 : RowsAt w v u x.ms x.ks) (h2 : RowsAt w v' u' x.ms x.ks) (hn : x.ms.length ≤ 1048576 ∧ x.ks.length ≤ 1048576) :
    Calls Tryz.prog 22 #[BV x v u, BV x v' u'] w fun e w' => e = .returned (.bool true) ∧ Below w.heap.size w w' := by
  have hbw := (new_below w 54 #[.string x.nm, .int .i64 x.vd, .int .i64 x.nx, v, u]).alloc (by simp) (.cells #[.string x.nm, .int .i64 x.vd, .int .i64 x.nx, v', u'] 54)
  have L0 := (lies_new w 54 x v u).keep (new_below _ 54 #[.string x.nm, .int .i64 x.vd, .int .i64 x.nx, v', u'])
  have M0 := lies_new (w.alloc (.cells #[.string x.nm, .int .i64 x.vd, .int .i64 x.nx, v, u] 54)) 54 x v' u'
  have HA := rows_below h1 hbw
  have HB := rows_below h2 hbw
  obtain ⟨⟨a, cap, rfl, _⟩, ⟨a1, cap1, rfl, _⟩⟩ := h1
  obtain ⟨⟨a', cap', rfl, _⟩, ⟨a1', cap1', rfl, _⟩⟩ := h2
  obtain ⟨nm, vd, nx, ms, ks⟩ := x
  unfold BV
  simp only at hbw L0 M0 HA HB hn ⊢
  rw [show (w.alloc (.cells #[.string nm, .int .i64 vd, .int .i64 nx, .slice a ms.length cap, .slice a1 ks.length cap1] 54)).heap.size = w.heap.size + 1 by simp] at M0
  have k1 : ((vd : Int) != vd) = false := by simp
  have k2 : ((nx : Int) != nx) = false := by simp
  go_enter Tryz.func22, Tryz.ntmps22
  go_wp2_with fail
  generalize World.alloc _ _ = w0 at hbw L0 M0 HA HB ⊢
  have HA : Hid (RowsAt w0 (.slice a ms.length cap) (.slice a1 ks.length cap1) ms ks) := HA
  have HB : Hid (RowsAt w0 (.slice a' ms.length cap') (.slice a1' ks.length cap1') ms ks) := HB
  refine (eqStoredS_any _ _ _ _ ms _ HA.out.1 HB.out.1 hn.1).mono ?_
  rintro e w2 ⟨rfl, hb2⟩
  have HA2 : Hid (RowsAt w2 (.slice a ms.length cap) (.slice a1 ks.length cap1) ms ks) := rows_below HA.out hb2
  have HB2 : Hid (RowsAt w2 (.slice a' ms.length cap') (.slice a1' ks.length cap1') ms ks) := rows_below HB.out hb2
  have c4 := (L0.keep hb2).c4
  have d4 := (M0.keep hb2).c4
  have b3 := hbw.trans (hb2.mono hbw.size)
  clear hbw hb2 HA HB L0 M0
  go_wp2_with fail
  refine (ky.eqTexts_any _ _ ks _ (tx.texts_at HA2.out.2) (tx.texts_at HB2.out.2) hn.2).mono ?_
  rintro e w3 ⟨rfl, hb3⟩
  have b4 := b3.trans (hb3.mono b3.size)
  clear b3 hb3 HA2 HB2 c4 d4
  go_wp2
  go_ret
  exact ⟨rfl, b4⟩
end Go.Proofs.YtcnjgmeddkidaaaGreatDoor.bx
