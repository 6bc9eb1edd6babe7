/-
  Texts as rows: measured and copied by the law's own functions; as an argument, opened.
-/
import Derived.Test.YtejmfffapkmjoaaDoorSta
import Derived.Test.YtejmfffapkmjoaaDoorKya
namespace Go.Proofs.YtejmfffapkmjoaaDoor.tx
open Go.ChangeShapes Go.WideShapes Go.ChangeAt Go.RowKit Go.Joins Go.Deep
open ky
set_option linter.unusedVariables false

/-- A slice of texts, in a block below n. -/
def TextsIn (w : World) (n : Nat) (v : Value) (ks : List ByteArray) : Prop :=
  ∃ a cap, v = .slice a ks.length cap ∧ (ks = [] ∨ ∃ b off, a = some ⟨b, off, none⟩ ∧ b < n ∧ ∀ j, j < ks.length → w.cell? ⟨b, off + j, none⟩ = some (.string (ks.getD j nt)))
theorem texts_at {w : World} {n : Nat} {v : Value} {ks : List ByteArray} (h : TextsIn w n v ks) : TextsAt w v ks := by
  obtain ⟨a, cap, rfl, h⟩ := h
  refine ⟨a, cap, rfl, ?_⟩
  rcases h with h | ⟨b, off, rfl, hb', h⟩
  · exact .inl h
  · exact .inr ⟨b, off, rfl, h⟩
theorem texts_below {w w' : World} {n k : Nat} {v : Value} {ks : List ByteArray} (h : TextsIn w n v ks) (hb : Below k w w') (hk : n ≤ k) : TextsIn w' n v ks := by
  obtain ⟨a, cap, rfl, h⟩ := h
  refine ⟨a, cap, rfl, ?_⟩
  rcases h with h | ⟨b, off, rfl, hb', h⟩
  · exact .inl h
  · exact .inr ⟨b, off, rfl, hb', fun j hj => (hb.cell (p := ⟨b, off + j, none⟩) (Nat.lt_of_lt_of_le hb' hk)).trans (h j hj)⟩
theorem texts_more {w : World} {n k : Nat} {v : Value} {ks : List ByteArray} (h : TextsIn w n v ks) (hk : n ≤ k) : TextsIn w k v ks := by
  obtain ⟨a, cap, rfl, h⟩ := h
  refine ⟨a, cap, rfl, ?_⟩
  rcases h with h | ⟨b, off, rfl, hb', h⟩
  · exact .inl h
  · exact .inr ⟨b, off, rfl, by omega, h⟩
def Smalls (ks : List ByteArray) : Prop := ks.length ≤ 1048576 ∧ ∀ j, j < ks.length → (ks.getD j nt).size ≤ 1048576
def SmallsTo (ks : List ByteArray) (k : Nat) : Prop := ks.length ≤ 1048576 ∧ ∀ j, j < k → (ks.getD j nt).size ≤ 1048576

set_option maxHeartbeats 1000000 in
theorem szTexts_any (N : Nat) (v : Value) (ks : List ByteArray) (left : Int) (w : World) (h : TextsIn w N v ks) (h0 : 0 ≤ left) (h1 : left ≤ 1048576) (hl : ks.length ≤ maxLen) (hs : ∀ j, j < ks.length → (ks.getD j nt).size ≤ maxLen) :
    Calls Tryd.prog 5 #[v, .int .i64 left] w fun e w' => (∃ z : Int, e = .returned (.int .i64 z) ∧ z ≤ left ∧ -1 ≤ z ∧ (0 ≤ z → Smalls ks)) ∧ w' = w := by
  obtain ⟨a, cap, rfl, h⟩ := h
  obtain ⟨n, hn⟩ : ∃ n, n = ks.length := ⟨_, rfl⟩
  have HN : Hid (n = ks.length) := hn
  have HH : Hid (ks = [] ∨ ∃ b off, a = some ⟨b, off, none⟩ ∧ b < N ∧ ∀ j, j < ks.length → w.cell? ⟨b, off + j, none⟩ = some (.string (ks.getD j nt))) := h
  have HS : Hid (∀ j, j < ks.length → (ks.getD j nt).size ≤ maxLen) := hs
  rw [← hn] at hl ⊢
  clear h hs hn
  unfold maxLen at hl
  by_cases g0 : left - (n : Int) < 0
  · go_enter Tryd.func5, Tryd.ntmps5
    go_wp2
    go_ret
    exact ⟨⟨-1, rfl, by omega, by omega, by omega⟩, rfl⟩
  go_enter Tryd.func5, Tryd.ntmps5
  go_wp2
  go_loopw [1, 5] (fun z i wr => ∃ (k : Nat) (y : Int), k ≤ n ∧ 0 ≤ y ∧ y ≤ left ∧ z = .int .i64 y ∧ i = .int .i64 k ∧ SmallsTo ks k ∧ wr = w) (fun _ i _ => n - (intOf i).toNat)
  case atStart => exact ⟨0, left - (n : Int), Nat.zero_le _, by omega, by omega, rfl, rfl, ⟨by rw [← HN.out]; omega, fun j hj => absurd hj (Nat.not_lt_zero _)⟩, rfl⟩
  case round =>
    obtain ⟨k, y, hk, hy0, hy1, rfl, rfl, hsm, rfl⟩ := hrel
    have HSM : Hid (SmallsTo ks k) := hsm
    clear hsm
    by_cases hlt : k < n
    · have hka : k < ks.length := by rw [← HN.out]; exact hlt
      rcases HH.out with e | ⟨b, off, rfl, _, hcells⟩
      · rw [e] at hka; simp at hka
      have c0 := hcells k hka
      have hhd := HS.out k hka
      clear hcells hka
      generalize hx : ks.getD k nt = x at c0 hhd
      have HX : Hid (ks.getD k nt = x) := hx
      clear hx
      have hhd' : x.size ≤ 9223372036854775807 := hhd
      by_cases hz : y - (x.size : Int) < 0
      · go_wp2
        go_ret
        exact ⟨⟨-1, rfl, by omega, by omega, by omega⟩, rfl⟩
      · go_wp2
        go_roundw
        case rel => exact ⟨k + 1, y - (x.size : Int), by omega, by omega, by omega, by go_num, by go_num, ⟨HSM.out.1, fun j hj => by by_cases hjk : j = k; subst hjk; rw [HX.out]; omega; exact HSM.out.2 j (by omega)⟩, by trivial⟩
        case measure => simp [intOf]; omega
    · go_wp2
      go_ret
      exact ⟨⟨y, rfl, by omega, by omega, fun _ => ⟨HSM.out.1, fun j hj => HSM.out.2 j (by have := HN.out; omega)⟩⟩, rfl⟩

theorem infoT : (Tryd.prog.info? 9).map (fun i => (i.zero, i.size, i.bytes)) = some (some (.string ⟨#[]⟩), 1, 16) := by kernel_rfl
def Lay (ks : List ByteArray) (k : Nat) (xs : List Value) : Prop := ∀ j, j < k → xs[j]? = some (.string (ks.getD j nt))
theorem lay_step {ks : List ByteArray} {k : Nat} {xs : List Value} (h : Lay ks k xs) (hl : k < xs.length) {x : ByteArray} (hx : ks.getD k nt = x) : Lay ks (k + 1) (xs.set k (.string x)) := by
  intro j hj
  by_cases e : j = k
  · subst e
    rw [hx, List.getElem?_set_self (by omega)]
  · rw [List.getElem?_set_ne (by omega)]
    exact h j (by omega)
theorem texts_lay {w : World} {base e g n cap N : Nat} {ks : List ByteArray} {xs : List Value} (hn : n = ks.length) (h : w.ownsRow base e 1 (.slice (some ⟨g, 0, none⟩) n cap) n xs) (hl : Lay ks n xs) (hg : g < N) : TextsIn w N (.slice (some ⟨g, 0, none⟩) n cap) ks := by
  subst hn
  refine ⟨_, cap, rfl, .inr ⟨g, 0, rfl, hg, fun j hj => ?_⟩⟩
  rw [Nat.zero_add, h.cellAt _ (by omega), hl j hj]

set_option maxHeartbeats 2000000 in
set_option maxRecDepth 100000 in
theorem toTexts_any (N : Nat) (v : Value) (ks : List ByteArray) (w : World) (h : TextsIn w N v ks) (hN : N ≤ w.heap.size) (hn : ks.length ≤ 1048576) :
    Calls Tryd.prog 8 #[v] w fun e w' => e = .returned (.slice (some ⟨w.heap.size, 0, none⟩) ks.length ks.length) ∧ TextsIn w' w'.heap.size (.slice (some ⟨w.heap.size, 0, none⟩) ks.length ks.length) ks ∧ Below w.heap.size w w' := by
  obtain ⟨a, cap, rfl, h⟩ := h
  obtain ⟨i0, hi, hz0, hz1, hz2⟩ := info_parts infoT
  obtain ⟨n, hn'⟩ : ∃ n, n = ks.length := ⟨_, rfl⟩
  have HN : Hid (n = ks.length) := hn'
  have HH : Hid (ks = [] ∨ ∃ b off, a = some ⟨b, off, none⟩ ∧ b < N ∧ ∀ j, j < ks.length → w.cell? ⟨b, off + j, none⟩ = some (.string (ks.getD j nt))) := h
  rw [← hn'] at hn ⊢
  clear h hn'
  go_enter Tryd.func8, Tryd.ntmps8
  go_wp2_with (at_make; refine wpList_make_full _ rfl _ _ 24 rfl w.heap.size 9 i0 _ 1 Tryd.underlying24 hi hz0 hz1 _ _ _ _ n rfl rfl rfl rfl (by rw [hz2]; omega) (by unfold maxLen; omega) (Nat.le_refl _) ?_; intro w1 hown1 hg1)
  have hb1 : Below w.heap.size w w1 := (Below.refl _ _).grown hg1 (Nat.le_refl _) (fun k hk => by cases hk)
  clear hg1
  go_loopw [4] (fun i wr => ∃ (k : Nat) (xs : List Value), k ≤ n ∧ i = .int .i64 k ∧ xs.length = n ∧ Lay ks k xs ∧ wr.ownsRow w.heap.size 9 1 (.slice (some ⟨w.heap.size, 0, none⟩) n n) n xs ∧ Below w.heap.size w wr) (fun i _ => n - (intOf i).toNat)
  case atStart => exact ⟨0, _, Nat.zero_le _, rfl, by have := hown1.1; omega, fun j hj => absurd hj (Nat.not_lt_zero _), hown1, hb1⟩
  case round =>
    clear hown1 hb1
    obtain ⟨k, xs, hk, rfl, hxl, hm, hown, hbw⟩ := hrel
    have HM : Hid (Lay ks k xs) := hm
    have HL : Hid (xs.length = n) := hxl
    clear hm hxl
    by_cases hlt : k < n
    · have hka : k < ks.length := by rw [← HN.out]; exact hlt
      rcases HH.out with e | ⟨b, off, rfl, hbN, hcells⟩
      · rw [e] at hka; simp at hka
      have c0 := (hbw.cell (p := ⟨b, off + k, none⟩) (Nat.lt_of_lt_of_le hbN hN)).trans (hcells k hka)
      clear hcells hka
      generalize hx : ks.getD k nt = x at c0
      have HX : Hid (ks.getD k nt = x) := hx
      clear hx
      have HO : Hid (wr.ownsRow w.heap.size 9 1 (.slice (some ⟨w.heap.size, 0, none⟩) n n) n xs) := hown
      have q0 := hown.cellAt k (by omega)
      rw [List.getElem?_eq_getElem (by rw [HL.out]; omega)] at q0
      have f0 := hown.frozenAt k
      clear hown
      generalize xs[k]'(by rw [HL.out]; omega) = u0 at q0
      have hlt' : (k : Int) < (n : Int) := by omega
      go_wp2
      go_roundw
      case rel => exact ⟨k + 1, xs.set k (.string x), by omega, by go_num, by rw [List.length_set]; exact HL.out, lay_step HM.out (by rw [HL.out]; omega) HX.out, (HO.out.stored _ _).1, hbw.setCell (Nat.le_refl _) _⟩
      case measure => simp [intOf]; omega
    · have hgl : w.heap.size < wr.heap.size := by
        rcases hown.2 with ⟨hv, _⟩ | ⟨g', cap', cur, hv, _, hb', _⟩
        · cases hv
        · cases hv
          exact (Array.getElem?_eq_some_iff.1 hb').1
      have HQ : Hid (TextsIn wr wr.heap.size (.slice (some ⟨w.heap.size, 0, none⟩) n n) ks) := texts_lay HN.out hown (fun j hj => HM.out j (by omega)) hgl
      go_wp2
      go_ret
      exact ⟨rfl, HQ.out, hbw⟩

section
variable {H : Type} {enc : TypeId × Value → H} {w : World} {base : Nat} {spare : Nat → Bool} {held : Bool}
theorem cellsT : Tryd.prog.cellsOf 9 = 1 := by kernel_rfl
theorem open_texts {fuel : Nat} {v : Value} {x : DataW H × List MemPlace} (h : DataW.trod enc Tryd.prog w base spare held fuel 24 [v] = some x) :
    ∃ ks : List ByteArray, TextsIn w w.heap.size v ks ∧ ks.length ≤ maxLen ∧ ∀ j, j < ks.length → (ks.getD j nt).size ≤ maxLen := by
  rcases open_slice Tryd.underlying24 h with ⟨hc, _⟩ | ⟨a, len, cap, m, n, D, Pl, hc, _, hl, hm, hmm, _, hall⟩
  · cases hc
    exact ⟨[], ⟨none, 0, rfl, .inl rfl⟩, Nat.zero_le _, fun j hj => absurd hj (Nat.not_lt_zero _)⟩
  · cases hc
    have hml : len ≤ m := by rw [hmm]; split <;> omega
    have each : ∀ i, ∃ e : ByteArray, i < len → e.size ≤ maxLen ∧ w.cell? (a.add i) = some (.string e) := by
      intro i
      by_cases hi : i < len
      · obtain ⟨cs', h1, h2⟩ := hall i (by omega)
        obtain ⟨e, rfl, _, hh⟩ := DataW.trod_string Tryd.underlying9 h2
        rw [cellsT] at h1
        obtain ⟨_, hlen, hcell⟩ := World.cells?_some h1
        refine ⟨e, fun _ => ⟨hh, ?_⟩⟩
        have := hcell 0 (by omega)
        rw [add_add, Nat.mul_one, Nat.add_zero] at this
        rw [this]
        rfl
      · exact ⟨nt, fun h => absurd h hi⟩
    obtain ⟨q, hq⟩ := Classical.axiomOfChoice each
    have hget : ∀ j, j < len → ((List.range len).map q).getD j nt = q j := by
      intro j hj
      simp [List.getD_eq_getElem?_getD, hj]
    refine ⟨(List.range len).map q, ⟨some a, cap, by simp, ?_⟩, by simp; omega, ?_⟩
    · by_cases h0 : len = 0
      · left; simp [h0]
      · right
        have c0 := (hq 0 (by omega)).2
        obtain ⟨b, off, spot⟩ := a
        have hspot : spot = none := by simpa [Addr.add] using World.cell?_spot c0
        subst hspot
        have hblt : b < w.heap.size := by simpa [Addr.add] using World.block_lt_of_cell? w _ c0
        refine ⟨b, off, rfl, hblt, fun j hj => ?_⟩
        have hj' : j < len := by simpa using hj
        have hc := (hq j hj').2
        rw [hget j hj']
        have hadd : (⟨b, off, none⟩ : Addr).add j = ⟨b, off + j, none⟩ := by simp only [Addr.add]; split <;> simp_all
        rw [hadd] at hc
        exact hc
    · intro j hj
      have hj' : j < len := by simpa using hj
      rw [hget j hj']
      exact (hq j hj').1
end
end Go.Proofs.YtejmfffapkmjoaaDoor.tx
