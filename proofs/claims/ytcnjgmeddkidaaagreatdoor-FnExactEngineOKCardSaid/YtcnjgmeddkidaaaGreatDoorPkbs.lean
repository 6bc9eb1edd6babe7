/-
  What the records of a log make: each is a mutation, done to the boxes that those ahead of it made.
-/
import Derived.Test.YtcnjgmeddkidaaaGreatDoorPkbg
import Derived.Test.YtcnjgmeddkidaaaGreatDoorPkbk
import Derived.Test.YtcnjgmeddkidaaaGreatDoorPkbo
import Derived.Test.YtcnjgmeddkidaaaGreatDoorPkbq
import Derived.Test.YtcnjgmeddkidaaaGreatDoorPkbr

namespace Go.Proofs.YtcnjgmeddkidaaaGreatDoor.rp
open Go.RowKit
open st gr bx mx bl wi ml sa lg
set_option linter.unusedVariables false

theorem scan_small (t : ByteArray) : ∀ f p acc, (∀ x ∈ acc, x.size ≤ 20000) → ∀ x ∈ (scan t f p acc).1, x.size ≤ 20000
  | 0, p, acc, h => h
  | f + 1, p, acc, h => by
    rw [scan]
    split
    · exact h
    · split
      · rename_i h0 h1
        refine scan_small t f _ _ fun x hx => ?_
        rcases List.mem_append.1 hx with hx | hx
        · exact h x hx
        · rw [List.mem_singleton] at hx
          subst hx
          exact (next_ok h1).2.2
      · exact h
theorem recs_small (t : ByteArray) : ∀ x ∈ (recs t).1, x.size ≤ 20000 := scan_small t _ _ _ (fun x hx => absurd hx List.not_mem_nil)
theorem recR_small (r : Int) (d : ByteArray) (s : Int) : ∀ x ∈ (recR r d s).1, x.size ≤ 20000 := by
  unfold recR
  split
  · exact recs_small d
  · exact fun x hx => absurd hx List.not_mem_nil
/-- The mutation that bytes say. -/
def mt (t : ByteArray) : mu.Mu := rm.mtn (t, false)
theorem mt_small (t : ByteArray) : mu.Small (mt t) := rm.mtn_small _
theorem mt_ok {t : ByteArray} (h : rm.rok t = true) : mu.mok (mt t) = true := by
  unfold rm.rok at h
  simp only [Bool.and_eq_true] at h
  exact h.2.2
theorem mk_self (t : ByteArray) : (⟨t.data.toList.toArray⟩ : ByteArray) = t := by cases t; simp
theorem rm_yes {t : ByteArray} (hs : t.size ≤ 20000) (h : rm.rok t = true) : rm.rmx t.data.toList = mt t ∧ rm.rmc t.data.toList = 0 := by
  have := rm.rm_ok (l := t.data.toList) (by rw [← Lib.size_eq]; exact hs) (by rw [mk_self]; exact h)
  rw [mk_self] at this
  exact this
theorem rm_no {t : ByteArray} (hs : t.size ≤ 20000) (h : rm.rok t = false) : rm.rmx t.data.toList = rm.noM ∧ rm.rmc t.data.toList = 3 :=
  rm.rm_form (by rw [← Lib.size_eq]; omega) (by rw [mk_self, h]; simp)
/-- What records make of boxes: the boxes, and whether all could be done. -/
def Rp : List ByteArray → List Bx → List Bx × Bool → Prop
  | [], xs, r => r = (xs, true)
  | t :: ts, xs, r => (rm.rok t = false ∧ r = ([], false)) ∨ (rm.rok t = true ∧ ∃ ys c, Am xs (mt t) ys c ∧ ((c ≠ 0 ∧ r = ([], false)) ∨ (c = 0 ∧ Rp ts ys r)))
theorem rising_sok {xs : List Bx} (h : sok xs = true) : ∀ k, k < xs.length → Rising (xs.getD k noB).ms := fun k hk => rising_of (bok_iff.1 ((sok_of h).2 k hk).1).2.2.2.1.2
theorem rp_one : ∀ {ts : List ByteArray} {xs : List Bx} {r r' : List Bx × Bool}, sok xs = true → Rp ts xs r → Rp ts xs r' → r = r'
  | [], xs, r, r', _, h, h' => by rw [h, h']
  | t :: ts, xs, r, r', hs, h, h' => by
    rcases h with ⟨h1, e⟩ | ⟨h1, ys, c, hA, hc⟩
    · rcases h' with ⟨_, e'⟩ | ⟨h1', _⟩
      · rw [e, e']
      · rw [h1] at h1'; cases h1'
    · rcases h' with ⟨h1', _⟩ | ⟨_, ys', c', hA', hc'⟩
      · rw [h1] at h1'; cases h1'
      · obtain ⟨rfl, rfl⟩ := am_one (rising_sok hs) hA hA'
        rcases hc with ⟨c0, e⟩ | ⟨rfl, hR⟩
        · rcases hc' with ⟨_, e'⟩ | ⟨c1, _⟩
          · rw [e, e']
          · exact absurd c1 c0
        · rcases hc' with ⟨c1, _⟩ | ⟨_, hR'⟩
          · exact absurd rfl c1
          · exact rp_one (am_ok hs (mt_ok h1) hA) hR hR'
theorem drop_getD {ts : List ByteArray} {k : Nat} (h : k < ts.length) : ts.drop k = ts.getD k ky.nt :: ts.drop (k + 1) := by
  rw [List.drop_eq_getElem_cons h]
  simp [List.getD_eq_getElem?_getD, h]
/-- What is made of the records from k on is what is made of all. -/
def Go (ts : List ByteArray) (k : Nat) (xs : List Bx) : Prop := ∀ r, Rp (ts.drop k) xs r → Rp ts [] r
theorem go_start (ts : List ByteArray) : Go ts 0 [] := fun r h => h
theorem go_end {ts : List ByteArray} {xs : List Bx} {k : Nat} (h : Go ts k xs) (hk : ts.length ≤ k) : Rp ts [] (xs, true) := h _ (by rw [List.drop_eq_nil_of_le hk]; rfl)
theorem go_bad {ts : List ByteArray} {xs : List Bx} {k : Nat} {t : ByteArray} (h : Go ts k xs) (hk : k < ts.length) (ht : ts.getD k ky.nt = t) (hr : rm.rok t = false) : Rp ts [] ([], false) := h _ (by rw [drop_getD hk, ht]; exact .inl ⟨hr, rfl⟩)
theorem go_code {ts : List ByteArray} {xs ys : List Bx} {k : Nat} {t : ByteArray} {c : Int} (h : Go ts k xs) (hk : k < ts.length) (ht : ts.getD k ky.nt = t) (hr : rm.rok t = true) (hA : Am xs (mt t) ys c) (hc : c ≠ 0) : Rp ts [] ([], false) := h _ (by rw [drop_getD hk, ht]; exact .inr ⟨hr, ys, c, hA, .inl ⟨hc, rfl⟩⟩)
theorem go_next {ts : List ByteArray} {xs ys : List Bx} {k : Nat} {t : ByteArray} (h : Go ts k xs) (hk : k < ts.length) (ht : ts.getD k ky.nt = t) (hr : rm.rok t = true) (hA : Am xs (mt t) ys 0) : Go ts (k + 1) ys := fun r hR => h r (by rw [drop_getD hk, ht]; exact .inr ⟨hr, ys, 0, hA, .inr ⟨rfl, hR⟩⟩)
theorem sok_nil : sok [] = true := sok_yes (Nat.zero_le _) (fun j hj => absurd hj (Nat.not_lt_zero _))
theorem smalls_nil : bx.Smalls [] := ⟨Nat.zero_le _, fun j hj => absurd hj (Nat.not_lt_zero _)⟩
theorem ownL_nil (w : World) (base : Nat) (us : Nat → Value × Value) : OwnL w base (.slice none 0 0) [] us := ⟨World.ownsRow_nil _ _ _ _, fun j hj => absurd hj (Nat.not_lt_zero _), fun i j _ hj => absurd hj (Nat.not_lt_zero _)⟩
/-- A mutation's own row of items. -/
theorem items_by {w : World} {base N : Nat} {u : Value} {ps : List it.Pr} (h : rm.Rows2 w base u ps) : ItemsBy w N u ps := by
  have ha := rm.rows_at h
  obtain ⟨a, cap, rfl, h2⟩ := ha
  refine ⟨a, cap, rfl, ?_⟩
  rcases h2 with h2 | ⟨b, off, rfl, h2⟩
  · exact .inl h2
  · refine .inr ⟨b, off, rfl, .inr ?_, h2⟩
    rcases h.2 with ⟨e, _⟩ | ⟨g, c, cur, e, _, hh, _⟩
    · cases e
    · cases e
      exact ⟨_, _, hh⟩
end Go.Proofs.YtcnjgmeddkidaaaGreatDoor.rp
