/-
  Entries as rows: read by the law's own measure, copied and compared by the law's own functions.
-/
import Derived.Test.YtbgoejalbhkmeaaDoorEnc
import Derived.Test.YtbgoejalbhkmeaaDoorGrw
import Derived.Laws.OwnMore
import Derived.BigRegion
namespace Go.Proofs.YtbgoejalbhkmeaaDoor.en
open Go.RowKit
open gr
set_option linter.unusedVariables false

def noE : En := ⟨⟨#[]⟩, ⟨#[]⟩, ⟨#[]⟩, ⟨#[]⟩, 0, ⟨#[]⟩⟩
/-- An entry that lies at a place. -/
def At6 (w : World) (b o : Nat) (e : En) : Prop :=
  w.cell? ⟨b, o, none⟩ = some (.string e.i) ∧ w.cell? ⟨b, o + 1, none⟩ = some (.string e.t) ∧ w.cell? ⟨b, o + 2, none⟩ = some (.string e.l) ∧ w.cell? ⟨b, o + 3, none⟩ = some (.string e.a) ∧ w.cell? ⟨b, o + 4, none⟩ = some (.int .i64 e.d) ∧ w.cell? ⟨b, o + 5, none⟩ = some (.string e.c)
theorem At6.lt {w : World} {b o : Nat} {e : En} (h : At6 w b o e) : b < w.heap.size := World.block_lt_of_cell? w _ h.1
theorem At6.keep {w w' : World} {n b o : Nat} {e : En} (h : At6 w b o e) (hb : Below n w w') (hn : b < n) : At6 w' b o e := by
  obtain ⟨h0, h1, h2, h3, h4, h5⟩ := h
  exact ⟨(hb.cell (p := ⟨b, o, none⟩) hn).trans h0, (hb.cell (p := ⟨b, o + 1, none⟩) hn).trans h1, (hb.cell (p := ⟨b, o + 2, none⟩) hn).trans h2, (hb.cell (p := ⟨b, o + 3, none⟩) hn).trans h3, (hb.cell (p := ⟨b, o + 4, none⟩) hn).trans h4, (hb.cell (p := ⟨b, o + 5, none⟩) hn).trans h5⟩
/-- A slice of entries. -/
def EntsAt (w : World) (v : Value) (es : List En) : Prop :=
  ∃ a cap, v = .slice a es.length cap ∧ (es = [] ∨ ∃ b off, a = some ⟨b, off, none⟩ ∧ ∀ j, j < es.length → At6 w b (off + j * 6) (es.getD j noE))
theorem ents_below {w w' : World} {v : Value} {es : List En} (h : EntsAt w v es) (hb : Below w.heap.size w w') : EntsAt w' v es := by
  obtain ⟨a, cap, rfl, h⟩ := h
  refine ⟨a, cap, rfl, ?_⟩
  rcases h with h | ⟨b, off, rfl, h⟩
  · exact .inl h
  · exact .inr ⟨b, off, rfl, fun j hj => (h j hj).keep hb (h j hj).lt⟩
/-- Entries of a size that a law takes. -/
def Smalls (es : List En) : Prop := es.length ≤ 1048576 ∧ ∀ j, j < es.length → Small (es.getD j noE)
def SmallsTo (es : List En) (k : Nat) : Prop := es.length ≤ 1048576 ∧ ∀ j, j < k → Small (es.getD j noE)

set_option maxHeartbeats 1000000 in
theorem szEntryS_any (v : Value) (es : List En) (left : Int) (w : World) (h : EntsAt w v es) (h0 : 0 ≤ left) (h1 : left ≤ 1048576) (hl : es.length ≤ maxLen) (hs : ∀ j, j < es.length → Held (es.getD j noE)) :
    Calls Tryd.prog 9 #[v, .int .i64 left] w fun e w' => (∃ z : Int, e = .returned (.int .i64 z) ∧ z ≤ left ∧ -1 ≤ z ∧ (0 ≤ z → Smalls es)) ∧ Below w.heap.size w w' := by
  obtain ⟨a, cap, rfl, h⟩ := h
  obtain ⟨n, hn⟩ : ∃ n, n = es.length := ⟨_, rfl⟩
  have HN : Hid (n = es.length) := hn
  have HH : Hid (es = [] ∨ ∃ b off, a = some ⟨b, off, none⟩ ∧ ∀ j, j < es.length → At6 w b (off + j * 6) (es.getD j noE)) := h
  have HS : Hid (∀ j, j < es.length → Held (es.getD j noE)) := hs
  rw [← hn] at hl ⊢
  clear h hs hn
  unfold maxLen at hl
  by_cases g0 : left - (n : Int) < 0
  · go_enter Tryd.func9, Tryd.ntmps9
    go_wp2
    go_ret
    exact ⟨⟨-1, rfl, by omega, by omega, by omega⟩, Below.refl _ _⟩
  go_enter Tryd.func9, Tryd.ntmps9
  go_wp2
  go_loopw [1, 5] (fun z i wr => ∃ (k : Nat) (y : Int), k ≤ n ∧ 0 ≤ y ∧ y ≤ left ∧ z = .int .i64 y ∧ i = .int .i64 k ∧ SmallsTo es k ∧ Below w.heap.size w wr) (fun _ i _ => n - (intOf i).toNat)
  case atStart => exact ⟨0, left - (n : Int), Nat.zero_le _, by omega, by omega, rfl, rfl, ⟨by rw [← HN.out]; omega, fun j hj => absurd hj (Nat.not_lt_zero _)⟩, Below.refl _ _⟩
  case round =>
    obtain ⟨k, y, hk, hy0, hy1, rfl, rfl, hsm, hbw⟩ := hrel
    have HSM : Hid (SmallsTo es k) := hsm
    clear hsm
    by_cases hlt : k < n
    · have hka : k < es.length := by rw [← HN.out]; exact hlt
      rcases HH.out with e | ⟨b, off, rfl, hcells⟩
      · rw [e] at hka; simp at hka
      have hat := (hcells k hka).keep hbw (hcells k hka).lt
      have hhd := HS.out k hka
      clear hcells hka
      generalize hx : es.getD k noE = x at hat hhd
      have HX : Hid (es.getD k noE = x) := hx
      obtain ⟨c0, c1, c2, c3, c4, c5⟩ := hat
      clear hx
      have HE : Hid (∀ w, Calls Tryd.prog 19 #[.agg #[.string x.i, .string x.t, .string x.l, .string x.a, .int .i64 x.d, .string x.c], .int .i64 y] w fun r w' => (∃ z : Int, r = .returned (.int .i64 z) ∧ z ≤ y ∧ -1 ≤ z ∧ (0 ≤ z → Small x)) ∧ Below w.heap.size w w') := fun w => szEntry_any x y w hy0 (by omega) hhd
      clear hhd
      go_wp2_with fail
      refine (HE.out _).mono ?_
      rintro e w2 ⟨⟨z, rfl, hz0, hz1, hz2⟩, hb2⟩
      have HZ : Hid (0 ≤ z → Small x) := hz2
      clear hz2 HE c0 c1 c2 c3 c4 c5
      by_cases hz : z < 0
      · go_wp2
        go_ret
        exact ⟨⟨-1, rfl, by omega, by omega, by omega⟩, hbw.trans (hb2.mono hbw.size)⟩
      · go_wp2
        go_roundw
        case rel => exact ⟨k + 1, z, by omega, by omega, by omega, rfl, by go_num, ⟨HSM.out.1, fun j hj => by by_cases hjk : j = k; subst hjk; rw [HX.out]; exact HZ.out (by omega); exact HSM.out.2 j (by omega)⟩, hbw.trans (hb2.mono hbw.size)⟩
        case measure => simp [intOf]; omega
    · go_wp2
      go_ret
      exact ⟨⟨y, rfl, by omega, by omega, fun _ => ⟨HSM.out.1, fun j hj => HSM.out.2 j (by have := HN.out; omega)⟩⟩, hbw⟩

theorem infoE : (Tryd.prog.info? 40).map (fun i => (i.zero, i.size, i.bytes)) = some (some (.agg #[.string ⟨#[]⟩, .string ⟨#[]⟩, .string ⟨#[]⟩, .string ⟨#[]⟩, .int .i64 0, .string ⟨#[]⟩]), 6, 88) := by kernel_rfl
/-- A row with an entry laid into it. -/
def put6 (xs : List Value) (o : Nat) (e : En) : List Value := (((((xs.set o (.string e.i)).set (o + 1) (.string e.t)).set (o + 2) (.string e.l)).set (o + 3) (.string e.a)).set (o + 4) (.int .i64 e.d)).set (o + 5) (.string e.c)
theorem put_len (xs : List Value) (o : Nat) (e : En) : (put6 xs o e).length = xs.length := by simp [put6]
theorem put_other {xs : List Value} {o j : Nat} {e : En} (h : j < o ∨ o + 5 < j) : (put6 xs o e)[j]? = xs[j]? := by
  unfold put6
  rw [List.getElem?_set_ne (by omega), List.getElem?_set_ne (by omega), List.getElem?_set_ne (by omega), List.getElem?_set_ne (by omega), List.getElem?_set_ne (by omega), List.getElem?_set_ne (by omega)]
/-- An entry in a row. -/
def In6 (xs : List Value) (o : Nat) (e : En) : Prop := xs[o]? = some (.string e.i) ∧ xs[o + 1]? = some (.string e.t) ∧ xs[o + 2]? = some (.string e.l) ∧ xs[o + 3]? = some (.string e.a) ∧ xs[o + 4]? = some (.int .i64 e.d) ∧ xs[o + 5]? = some (.string e.c)
theorem put_same {xs : List Value} {o : Nat} {e : En} (h : o + 5 < xs.length) : In6 (put6 xs o e) o e := by
  unfold put6 In6
  refine ⟨?_, ?_, ?_, ?_, ?_, ?_⟩
  · rw [List.getElem?_set_ne (by omega), List.getElem?_set_ne (by omega), List.getElem?_set_ne (by omega), List.getElem?_set_ne (by omega), List.getElem?_set_ne (by omega), List.getElem?_set_self (by omega)]
  · rw [List.getElem?_set_ne (by omega), List.getElem?_set_ne (by omega), List.getElem?_set_ne (by omega), List.getElem?_set_ne (by omega), List.getElem?_set_self (by simp; omega)]
  · rw [List.getElem?_set_ne (by omega), List.getElem?_set_ne (by omega), List.getElem?_set_ne (by omega), List.getElem?_set_self (by simp; omega)]
  · rw [List.getElem?_set_ne (by omega), List.getElem?_set_ne (by omega), List.getElem?_set_self (by simp; omega)]
  · rw [List.getElem?_set_ne (by omega), List.getElem?_set_self (by simp; omega)]
  · rw [List.getElem?_set_self (by simp; omega)]
theorem in_other {xs : List Value} {o p : Nat} {e x : En} (h : In6 xs p x) (hp : p + 5 < o ∨ o + 5 < p) : In6 (put6 xs o e) p x := by
  obtain ⟨h0, h1, h2, h3, h4, h5⟩ := h
  refine ⟨?_, ?_, ?_, ?_, ?_, ?_⟩ <;> (rw [put_other (by omega)]; assumption)
def Lay (es : List En) (k : Nat) (xs : List Value) : Prop := ∀ j, j < k → In6 xs (j * 6) (es.getD j noE)
theorem lay_step {es : List En} {k : Nat} {xs : List Value} (h : Lay es k xs) (hl : k * 6 + 5 < xs.length) {x : En} (hx : es.getD k noE = x) : Lay es (k + 1) (put6 xs (k * 6) x) := by
  intro j hj
  by_cases e : j = k
  · subst e
    rw [hx]
    exact put_same hl
  · exact in_other (h j (by omega)) (by omega)
theorem ents_lay {w : World} {base e g n cap : Nat} {es : List En} {xs : List Value} (hn : n = es.length) (h : w.ownsRow base e 6 (.slice (some ⟨g, 0, none⟩) n cap) n xs) (hl : Lay es n xs) : EntsAt w (.slice (some ⟨g, 0, none⟩) n cap) es := by
  subst hn
  refine ⟨_, cap, rfl, .inr ⟨g, 0, rfl, fun j hj => ?_⟩⟩
  obtain ⟨h0, h1, h2, h3, h4, h5⟩ := hl j hj
  refine ⟨?_, ?_, ?_, ?_, ?_, ?_⟩
  · rw [Nat.zero_add, h.cellAt _ (by omega), h0]
  · rw [Nat.zero_add, h.cellAt _ (by omega), h1]
  · rw [Nat.zero_add, h.cellAt _ (by omega), h2]
  · rw [Nat.zero_add, h.cellAt _ (by omega), h3]
  · rw [Nat.zero_add, h.cellAt _ (by omega), h4]
  · rw [Nat.zero_add, h.cellAt _ (by omega), h5]

/-- A row of entries that a call made. -/
def OwnE (w : World) (base : Nat) (v : Value) (es : List En) : Prop := ∃ xs, Lay es es.length xs ∧ w.ownsRow base 40 6 v es.length xs
theorem own_ents {w : World} {base g n cap : Nat} {es : List En} (h : OwnE w base (.slice (some ⟨g, 0, none⟩) n cap) es) : EntsAt w (.slice (some ⟨g, 0, none⟩) n cap) es := by
  obtain ⟨xs, hl, h⟩ := h
  have hn : n = es.length := by
    rcases h.2 with ⟨hv, _⟩ | ⟨g', cap', cur, hv, _⟩
    · cases hv
    · cases hv; rfl
  subst hn
  exact ents_lay rfl h hl
theorem own_other {w w' : World} {base g n cap : Nat} {es : List En} (h : OwnE w base (.slice (some ⟨g, 0, none⟩) n cap) es) (hb : w'.heap[g]? = w.heap[g]?) : OwnE w' base (.slice (some ⟨g, 0, none⟩) n cap) es := by
  obtain ⟨xs, hl, h1, h2⟩ := h
  refine ⟨xs, hl, h1, ?_⟩
  rcases h2 with h2 | ⟨g', cap', cur, a, b, c, d⟩
  · exact .inl h2
  · cases a
    exact .inr ⟨_, _, cur, rfl, b, hb.trans c, d⟩
theorem own_keep {w w' : World} {base : Nat} {v : Value} {es : List En} (h : OwnE w base v es) (hb : Below w.heap.size w w') : OwnE w' base v es := by
  obtain ⟨xs, hl, h⟩ := h
  exact ⟨xs, hl, ow.own_below h hb⟩
theorem own_less {w : World} {base base' : Nat} {v : Value} {es : List En} (h : OwnE w base v es) (hb : base' ≤ base) : OwnE w base' v es := by
  obtain ⟨xs, hl, h⟩ := h
  exact ⟨xs, hl, ow.own_base h hb⟩

set_option maxHeartbeats 2000000 in
set_option maxRecDepth 100000 in
theorem toEntryS_any (v : Value) (es : List En) (w : World) (h : EntsAt w v es) (hn : es.length ≤ 1048576) :
    Calls Tryd.prog 12 #[v] w fun e w' => e = .returned (.slice (some ⟨w.heap.size, 0, none⟩) es.length es.length) ∧ OwnE w' w.heap.size (.slice (some ⟨w.heap.size, 0, none⟩) es.length es.length) es ∧ Below w.heap.size w w' := by
  obtain ⟨a, cap, rfl, h⟩ := h
  obtain ⟨i0, hi, hz0, hz1, hz2⟩ := info_parts infoE
  obtain ⟨n, hn'⟩ : ∃ n, n = es.length := ⟨_, rfl⟩
  have HN : Hid (n = es.length) := hn'
  have HH : Hid (es = [] ∨ ∃ b off, a = some ⟨b, off, none⟩ ∧ ∀ j, j < es.length → At6 w b (off + j * 6) (es.getD j noE)) := h
  rw [← hn'] at hn ⊢
  clear h hn'
  go_enter Tryd.func12, Tryd.ntmps12
  go_wp2_with (at_make; refine wpList_make_full _ rfl _ _ 28 rfl w.heap.size 40 i0 _ 6 Tryd.underlying28 hi hz0 hz1 _ _ _ _ n rfl rfl rfl rfl (by rw [hz2]; omega) (by unfold maxLen; omega) (Nat.le_refl _) ?_; intro w1 hown1 hg1)
  have hb1 : Below w.heap.size w w1 := (Below.refl _ _).grown hg1 (Nat.le_refl _) (fun k hk => by cases hk)
  clear hg1
  go_loopw [4] (fun i wr => ∃ (k : Nat) (xs : List Value), k ≤ n ∧ i = .int .i64 k ∧ xs.length = n * 6 ∧ Lay es k xs ∧ wr.ownsRow w.heap.size 40 6 (.slice (some ⟨w.heap.size, 0, none⟩) n n) n xs ∧ Below w.heap.size w wr) (fun i _ => n - (intOf i).toNat)
  case atStart => exact ⟨0, _, Nat.zero_le _, rfl, hown1.1.symm ▸ rfl, fun j hj => absurd hj (Nat.not_lt_zero _), hown1, hb1⟩
  case round =>
    clear hown1 hb1
    obtain ⟨k, xs, hk, rfl, hxl, hm, hown, hbw⟩ := hrel
    have HM : Hid (Lay es k xs) := hm
    have HL : Hid (xs.length = n * 6) := hxl
    clear hm hxl
    by_cases hlt : k < n
    · have hka : k < es.length := by rw [← HN.out]; exact hlt
      rcases HH.out with e | ⟨b, off, rfl, hcells⟩
      · rw [e] at hka; simp at hka
      have hat := (hcells k hka).keep hbw (hcells k hka).lt
      clear hcells hka
      generalize hx : es.getD k noE = x at hat
      have HX : Hid (es.getD k noE = x) := hx
      obtain ⟨c0, c1, c2, c3, c4, c5⟩ := hat
      clear hx
      have HE : Hid (∀ w, Calls Tryd.prog 25 #[.agg #[.string x.i, .string x.t, .string x.l, .string x.a, .int .i64 x.d, .string x.c]] w fun r w' => r = .returned (.agg #[.string x.i, .string x.t, .string x.l, .string x.a, .int .i64 x.d, .string x.c]) ∧ Below w.heap.size w w') := fun w => toEntry_any x w
      go_wp2_with fail
      refine (HE.out _).mono ?_
      rintro e w2 ⟨rfl, hb2⟩
      have hown2 := ow.own_below hown hb2
      have hbw2 := hbw.trans (hb2.mono hbw.size)
      clear hb2 hbw hown c0 c1 c2 c3 c4 c5 HE
      have HO : Hid (w2.ownsRow w.heap.size 40 6 (.slice (some ⟨w.heap.size, 0, none⟩) n n) n xs) := hown2
      have q0 := hown2.cellAt (k * 6) (by omega)
      have q1 := hown2.cellAt (k * 6 + 1) (by omega)
      have q2 := hown2.cellAt (k * 6 + 2) (by omega)
      have q3 := hown2.cellAt (k * 6 + 3) (by omega)
      have q4 := hown2.cellAt (k * 6 + 4) (by omega)
      have q5 := hown2.cellAt (k * 6 + 5) (by omega)
      rw [List.getElem?_eq_getElem (by rw [HL.out]; omega)] at q0 q1 q2 q3 q4 q5
      have f0 := hown2.frozenAt (k * 6)
      have f1 := hown2.frozenAt (k * 6 + 1)
      have f2 := hown2.frozenAt (k * 6 + 2)
      have f3 := hown2.frozenAt (k * 6 + 3)
      have f4 := hown2.frozenAt (k * 6 + 4)
      have f5 := hown2.frozenAt (k * 6 + 5)
      clear hown2
      generalize xs[k * 6]'(by rw [HL.out]; omega) = u0 at q0
      generalize xs[k * 6 + 1]'(by rw [HL.out]; omega) = u1 at q1
      generalize xs[k * 6 + 2]'(by rw [HL.out]; omega) = u2 at q2
      generalize xs[k * 6 + 3]'(by rw [HL.out]; omega) = u3 at q3
      generalize xs[k * 6 + 4]'(by rw [HL.out]; omega) = u4 at q4
      generalize xs[k * 6 + 5]'(by rw [HL.out]; omega) = u5 at q5
      have hlt' : (k : Int) < (n : Int) := by omega
      go_wp2
      go_roundw
      case rel => exact ⟨k + 1, put6 xs (k * 6) x, by omega, by go_num, by rw [put_len]; exact HL.out, lay_step HM.out (by rw [HL.out]; omega) HX.out, ((((((HO.out.stored _ _).1.stored _ _).1.stored _ _).1.stored _ _).1.stored _ _).1.stored _ _).1, (((((hbw2.setCell (Nat.le_refl _) _).setCell (Nat.le_refl _) _).setCell (Nat.le_refl _) _).setCell (Nat.le_refl _) _).setCell (Nat.le_refl _) _).setCell (Nat.le_refl _) _⟩
      case measure => simp [intOf]; omega
    · have HQ : Hid (OwnE wr w.heap.size (.slice (some ⟨w.heap.size, 0, none⟩) n n) es) := ⟨xs, fun j hj => HM.out j (by have := HN.out; omega), HN.out ▸ hown⟩
      go_wp2
      go_ret
      exact ⟨rfl, HQ.out, hbw⟩
end Go.Proofs.YtbgoejalbhkmeaaDoor.en
