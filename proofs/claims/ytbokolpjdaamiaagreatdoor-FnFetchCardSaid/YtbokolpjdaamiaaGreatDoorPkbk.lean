/-
  What a fetch tells of a mail: the items of all words, and what is among them.
-/
import Derived.Test.YtbokolpjdaamiaaGreatDoorPkbj
import Derived.Test.YtbokolpjdaamiaaGreatDoorPkas
import Derived.Test.YtbokolpjdaamiaaGreatDoorPkae
import Derived.Test.YtbokolpjdaamiaaGreatDoorPkaf

namespace Go.Proofs.YtbokolpjdaamiaaGreatDoor.fq
open Go.RowKit
open gr bl
open ky (TextsAt nt)
set_option linter.unusedVariables false

theorem kq {w w' : World} {p : Addr} {v : Value} (hb : Below w.heap.size w w') (h : w.cell? p = some v) : w'.cell? p = some v := (hb.cell (World.block_lt_of_cell? w _ h)).trans h
def nmB (i : It) : ByteArray := ⟨(nmOf i).toArray⟩
def paB (i : It) : ByteArray := ⟨(paOf i).toArray⟩
def ItAt (w : World) (v : Value) (is : List It) : Prop :=
  ∃ b off cap, v = .slice (some ⟨b, off, none⟩) is.length cap ∧ ∀ j, j < is.length → w.cell? ⟨b, off + j * 2, none⟩ = some (.string (nmB (is.getD j .fl))) ∧ w.cell? ⟨b, off + j * 2 + 1, none⟩ = some (.string (paB (is.getD j .fl)))
theorem it_below {w w' : World} {v : Value} {is : List It} (h : ItAt w v is) (hb : Below w.heap.size w w') : ItAt w' v is := by
  obtain ⟨b, off, cap, rfl, h⟩ := h
  refine ⟨b, off, cap, rfl, fun j hj => ?_⟩
  obtain ⟨h0, h1⟩ := h j hj
  exact ⟨kq hb h0, kq hb h1⟩
def its (ks : List ByteArray) : List It := ks.map fun s => (itm s).getD .fl
theorem its_len (ks : List ByteArray) : (its ks).length = ks.length := by simp [its]
theorem its_at {ks : List ByteArray} {k : Nat} (h : k < ks.length) {i : It} (e : itm (ks.getD k nt) = some i) : (its ks).getD k .fl = i := by
  have e2 : ks[k]? = some (ks.getD k nt) := by rw [List.getD_eq_getElem?_getD, List.getElem?_eq_getElem h]; rfl
  unfold its
  rw [List.getD_eq_getElem?_getD, List.getElem?_map, e2]
  show (itm (ks.getD k nt)).getD .fl = i
  rw [e]
  rfl
def AllIt (ks : List ByteArray) (k : Nat) : Prop := ∀ j, j < k → itm (ks.getD j nt) ≠ none
theorem all_step {ks : List ByteArray} {k : Nat} {i : It} (h : AllIt ks k) (e : itm (ks.getD k nt) = some i) : AllIt ks (k + 1) := fun j hj => by
  by_cases ee : j = k
  · subst ee; rw [e]; simp
  · exact h j (by omega)
def IsRet (ks : List ByteArray) (e : Ending) (w' : World) : Prop :=
  (AllIt ks ks.length ∧ ∃ v, e = .returned (.tuple #[v, .int .i64 0]) ∧ ItAt w' v (its ks)) ∨ ((∃ j, j < ks.length ∧ itm (ks.getD j nt) = none) ∧ e = .returned (.tuple #[.slice none 0 0, .int .i64 3]))
theorem infoIt : (Tryz.prog.info? 63).map (fun i => (i.zero, i.size, i.bytes)) = some (some (.agg #[.string ByteArray.empty, .string ByteArray.empty]), 2, 32) := by kernel_rfl
def Lay (is : List It) (k : Nat) (xs : List Value) : Prop := ∀ j, j < k → xs[j * 2]? = some (.string (nmB (is.getD j .fl))) ∧ xs[j * 2 + 1]? = some (.string (paB (is.getD j .fl)))
theorem lay_step {is : List It} {k : Nat} {xs : List Value} (h : Lay is k xs) (hl : k * 2 + 1 < xs.length) {i : It} (hi : is.getD k .fl = i) : Lay is (k + 1) ((xs.set (k * 2) (.string (nmB i))).set (k * 2 + 1) (.string (paB i))) := by
  intro j hj
  by_cases e : j = k
  · subst e
    rw [hi]
    refine ⟨?_, ?_⟩
    · rw [List.getElem?_set_ne (by omega), List.getElem?_set_self (by omega)]
    · rw [List.getElem?_set_self (by rw [List.length_set]; omega)]
  · obtain ⟨h0, h1⟩ := h j (by omega)
    refine ⟨?_, ?_⟩
    · rw [List.getElem?_set_ne (by omega), List.getElem?_set_ne (by omega)]; exact h0
    · rw [List.getElem?_set_ne (by omega), List.getElem?_set_ne (by omega)]; exact h1
theorem it_lay {w : World} {base e g n cap : Nat} {is : List It} {xs : List Value} (hn : n = is.length) (h : w.ownsRow base e 2 (.slice (some ⟨g, 0, none⟩) n cap) n xs) (hl : Lay is n xs) : ItAt w (.slice (some ⟨g, 0, none⟩) n cap) is := by
  subst hn
  refine ⟨g, 0, cap, rfl, fun j hj => ?_⟩
  obtain ⟨h0, h1⟩ := hl j hj
  refine ⟨?_, ?_⟩
  · rw [Nat.zero_add, h.cellAt (j * 2) (by omega), h0]
  · rw [Nat.zero_add, h.cellAt (j * 2 + 1) (by omega), h1]
/-- The cells of a list of items, one behind another. -/
def newsOf (is : List It) : List Value := (List.range (is.length * 2)).map fun j => if j % 2 = 0 then .string (nmB (is.getD (j / 2) .fl)) else .string (paB (is.getD (j / 2) .fl))
theorem news_len (is : List It) : (newsOf is).length = is.length * 2 := by simp [newsOf]
theorem news_at {is : List It} {j : Nat} (h : j < is.length * 2) : (newsOf is)[j]? = some (if j % 2 = 0 then .string (nmB (is.getD (j / 2) .fl)) else .string (paB (is.getD (j / 2) .fl))) := by
  unfold newsOf
  rw [List.getElem?_map, List.getElem?_range h]
  rfl
theorem news_one (is : List It) : ∀ u ∈ newsOf is, u.oneCell' = true := fun u hu => by
  obtain ⟨j, _, rfl⟩ := List.mem_map.1 hu
  split <;> rfl
theorem news_cell {w : World} {b off : Nat} {is : List It} (h : ∀ j, j < is.length → w.cell? ⟨b, off + j * 2, none⟩ = some (.string (nmB (is.getD j .fl))) ∧ w.cell? ⟨b, off + j * 2 + 1, none⟩ = some (.string (paB (is.getD j .fl)))) : ∀ j u, (newsOf is)[j]? = some u → w.cell? ((⟨b, off, none⟩ : Addr).add j) = some u := fun j u hu => by
  have hj : j < is.length * 2 := by
    have := (List.getElem?_eq_some_iff.1 hu).1
    rwa [news_len] at this
  rw [news_at hj] at hu
  obtain ⟨h0, h1⟩ := h (j / 2) (by omega)
  rw [show ((⟨b, off, none⟩ : Addr).add j) = ⟨b, off + j, none⟩ from by simp [Addr.add]]
  rw [← hu]
  by_cases hm : j % 2 = 0
  · rw [if_pos hm, ← h0]
    congr 2
    omega
  · rw [if_neg hm, ← h1]
    congr 2
    omega
theorem lay_more (is : List It) (i : It) : Lay (i :: is) (1 + is.length) ([.string (nmB i), .string (paB i)] ++ newsOf is) := by
  intro j hj
  cases j with
  | zero => exact ⟨rfl, rfl⟩
  | succ j =>
    have e0 : (j + 1) * 2 = j * 2 + 1 + 1 := by omega
    rw [e0]
    show (newsOf is)[j * 2]? = some (.string (nmB (is.getD j .fl))) ∧ (newsOf is)[j * 2 + 1]? = some (.string (paB (is.getD j .fl)))
    rw [news_at (by omega), news_at (by omega), if_pos (by omega), if_neg (by omega), show j * 2 / 2 = j by omega, show (j * 2 + 1) / 2 = j by omega]
    exact ⟨rfl, rfl⟩
theorem own_it (w : World) (X Y : ByteArray) : (w.alloc (.cells #[.string X, .string Y] 63)).ownsRow w.heap.size 63 2 (.slice (some ⟨w.heap.size, 0, none⟩) 1 1) 1 [.string X, .string Y] :=
  ⟨rfl, .inr ⟨w.heap.size, 1, #[.string X, .string Y], rfl, Nat.le_refl _, (MapKept.heap_alloc w _).1, Nat.le_refl _, by unfold maxLen; omega, rfl, rfl⟩⟩
theorem itRet_nm {s : ByteArray} {e : Ending} (h : ItRet s e) : (∃ i, itm s = some i ∧ e = .returned (.tuple #[.agg #[.string (nmB i), .string (paB i)], .bool true])) ∨ (itm s = none ∧ ∃ a b, e = .returned (.tuple #[.agg #[.string a, .string b], .bool false])) := h
set_option maxHeartbeats 4000000 in
set_option maxRecDepth 100000 in
theorem itemsOf_any (v : Value) (ks : List ByteArray) (w : World) (mx : Int) (hm : w.cell? ⟨1, 0, none⟩ = some (.int .i64 mx)) (h : TextsAt w v ks) (hl : ks.length ≤ 30) (hz : ∀ j, j < ks.length → (ks.getD j nt).size ≤ 1048576) :
    Calls Tryz.prog 17 #[v] w fun e w' => IsRet ks e w' ∧ Below w.heap.size w w' := by
  obtain ⟨a, cap, rfl, hh⟩ := h
  obtain ⟨i0, hi, hz0, hz1, hz2⟩ := info_parts infoIt
  obtain ⟨n, hn⟩ : ∃ n, n = ks.length := ⟨_, rfl⟩
  have HN : Hid (n = ks.length) := hn
  have HH : Hid (ks = [] ∨ ∃ b off, a = some ⟨b, off, none⟩ ∧ ∀ j, j < ks.length → w.cell? ⟨b, off + j, none⟩ = some (.string (ks.getD j nt))) := hh
  have hg : 1 < w.heap.size := World.block_lt_of_cell? w _ hm
  have HIO : Hid (∀ s W, s.size ≤ 1048576 → Below w.heap.size w W → Calls Tryz.prog 35 #[.string s] W fun e w' => ItRet s e ∧ Below W.heap.size W w') := fun s W hs hW => itemOf_any s hs W mx ((hW.cell (p := ⟨1, 0, none⟩) hg).trans hm)
  have HZ : Hid (∀ j, j < ks.length → (ks.getD j nt).size ≤ 1048576) := hz
  rw [← hn] at hl ⊢
  clear hh hn hm hg hz
  go_enter Tryz.func17, Tryz.ntmps17
  go_wp2_with (at_make; refine wpList_make_full _ rfl _ _ 42 rfl w.heap.size 63 i0 _ 2 Tryz.underlying42 hi hz0 hz1 _ _ _ _ n rfl rfl rfl rfl (by rw [hz2]; omega) (by unfold maxLen; omega) (Nat.le_refl _) ?_; intro w1 hown1 hg1)
  have hb1 : Below w.heap.size w w1 := (Below.refl _ _).grown hg1 (Nat.le_refl _) (fun k hk => by cases hk)
  clear hg1
  go_loopw [14] (fun i wr => ∃ (k : Nat) (xs : List Value), k ≤ n ∧ i = .int .i64 k ∧ xs.length = n * 2 ∧ Lay (its ks) k xs ∧ AllIt ks k ∧ wr.ownsRow w.heap.size 63 2 (.slice (some ⟨w.heap.size, 0, none⟩) n n) n xs ∧ Below w.heap.size w wr) (fun i _ => n - (intOf i).toNat)
  case atStart => exact ⟨0, _, Nat.zero_le _, rfl, hown1.1.symm ▸ rfl, fun j hj => absurd hj (Nat.not_lt_zero _), fun j hj => absurd hj (Nat.not_lt_zero _), hown1, hb1⟩
  case round =>
    clear hown1 hb1
    obtain ⟨k, xs, hk, rfl, hxl, hm, hall, hown, hbw⟩ := hrel
    have HM : Hid (Lay (its ks) k xs) := hm
    have HL : Hid (xs.length = n * 2) := hxl
    have HA : Hid (AllIt ks k) := hall
    clear hm hxl hall
    by_cases hlt : k < n
    · have hka : k < ks.length := by rw [← HN.out]; exact hlt
      have HKA : Hid (k < ks.length) := hka
      rcases HH.out with e | ⟨b, off, rfl, hcells⟩
      · rw [e] at hka; simp at hka
      have v0 := hcells k hka
      have hblt : b < w.heap.size := World.block_lt_of_cell? w _ v0
      have c0 := (hbw.cell (p := ⟨b, off + k, none⟩) hblt).trans v0
      have hsz := HZ.out k hka
      have hlt' : (k : Int) < (n : Int) := by omega
      clear hcells hka v0
      generalize hs : ks.getD k nt = s at c0 hsz
      have HS : Hid (ks.getD k nt = s) := hs
      clear hs
      go_wp2_with fail
      refine (HIO.out s _ hsz hbw).mono ?_
      rintro e w2 ⟨h2, hb2⟩
      have hbw2 := hbw.trans (hb2.mono hbw.size)
      have hown2 := ow.own_below hown hb2
      have HB2 : Hid (Below w.heap.size w w2) := hbw2

      clear hb2 hbw hown c0 hbw2
      rcases itRet_nm h2 with ⟨i, hi1, rfl⟩ | ⟨hno, x, y, rfl⟩
      · have HI : Hid (itm (ks.getD k nt) = some i) := (show itm (ks.getD k nt) = some i by rw [HS.out]; exact hi1)
        have HA2 : Hid (AllIt ks (k + 1)) := all_step HA.out HI.out
        have HLY : Hid (Lay (its ks) (k + 1) ((xs.set (k * 2) (.string (nmB i))).set (k * 2 + 1) (.string (paB i)))) := lay_step HM.out (by rw [HL.out]; omega) (its_at HKA.out HI.out)
        clear hi1 h2
        generalize nmB i = X at HLY ⊢
        generalize paB i = Y at HLY ⊢
        have HO : Hid (w2.ownsRow w.heap.size 63 2 (.slice (some ⟨w.heap.size, 0, none⟩) n n) n xs) := hown2
        have q0 := hown2.cellAt (k * 2) (by omega)
        have q1 := hown2.cellAt (k * 2 + 1) (by omega)
        rw [List.getElem?_eq_getElem (by rw [HL.out]; omega)] at q0 q1
        have f0 := hown2.frozenAt (k * 2)
        have f1 := hown2.frozenAt (k * 2 + 1)
        have hG : w.heap.size < w2.heap.size := World.block_lt_of_cell? w2 _ q0
        clear hown2
        generalize xs[k * 2]'(by rw [HL.out]; omega) = u0 at q0
        generalize xs[k * 2 + 1]'(by rw [HL.out]; omega) = u1 at q1
        go_wp2
        go_roundw
        case rel => exact ⟨k + 1, (xs.set (k * 2) (.string X)).set (k * 2 + 1) (.string Y), by omega, by go_num, by rw [List.length_set, List.length_set]; exact HL.out, HLY.out, HA2.out, ((HO.out.stored _ _).1.stored _ _).1.alloc _, ((HB2.out.setCell (Nat.le_refl _) _).setCell (Nat.le_refl _) _).alloc (by simp; omega) _⟩
        case measure => simp [intOf]; omega
      · have HR : Hid (∀ W, IsRet ks (.returned (.tuple #[.slice none 0 0, .int .i64 3])) W) := fun W => .inr ⟨⟨k, HKA.out, (by rw [HS.out]; exact hno)⟩, rfl⟩
        clear hown2
        go_wp2
        go_ret2
        exact ⟨HR.out _, HB2.out.alloc HB2.out.size _⟩
    · have HQ : Hid (ItAt wr (.slice (some ⟨w.heap.size, 0, none⟩) n n) (its ks)) := it_lay (by rw [its_len]; exact HN.out) hown (fun j hj => HM.out j (by omega))
      have HR : Hid (∀ e, e = .returned (.tuple #[.slice (some ⟨w.heap.size, 0, none⟩) n n, .int .i64 0]) → IsRet ks e wr) := fun e he => .inl ⟨fun j hj => HA.out j (by have := HN.out; omega), _, he, HQ.out⟩
      clear HQ hown
      go_wp2
      go_ret2
      exact ⟨HR.out _ rfl, hbw⟩
end Go.Proofs.YtbokolpjdaamiaaGreatDoor.fq
