/-
  A feed as an argument, opened.
-/
import Derived.Test.YtbgoejalbhkmeaaDoorEnf
import Derived.Lib.SmallJoins
namespace Go.Proofs.YtbgoejalbhkmeaaDoor.en
open Go.ChangeShapes Go.WideShapes Go.ChangeAt Go.RowKit Go.Joins Go.Deep
set_option linter.unusedVariables false


section
variable {H : Type} {enc : TypeId × Value → H} {w : World} {base : Nat} {spare : Nat → Bool} {held : Bool}
theorem open_ents {fuel : Nat} {v : Value} {x : DataW H × List MemPlace} (h : DataW.trod enc Tryd.prog w base spare held fuel 22 [v] = some x) :
    ∃ es : List En, EntsAt w v es ∧ es.length ≤ maxLen ∧ ∀ j, j < es.length → Held (es.getD j noE) := by
  rcases open_slice Tryd.underlying22 h with ⟨hc, _⟩ | ⟨a, len, cap, m, n, D, Pl, hc, _, hl, hm, hmm, _, hall⟩
  · cases hc
    exact ⟨[], ⟨none, 0, rfl, .inl rfl⟩, Nat.zero_le _, fun j hj => absurd hj (Nat.not_lt_zero _)⟩
  · cases hc
    have hml : len ≤ m := by rw [hmm]; split <;> omega
    have each : ∀ i, i < len → ∃ e : En, Held e ∧ ∀ k, k < 6 → w.cell? (a.add (i * 6 + k)) = (cl e)[k]? := by
      intro i hi
      obtain ⟨cs', h1, h2⟩ := hall i (by omega)
      obtain ⟨e, rfl, hh⟩ := trod_entry h2
      rw [cellsE] at h1
      obtain ⟨_, hlen, hcell⟩ := World.cells?_some h1
      refine ⟨e, hh, fun k hk => ?_⟩
      have := hcell k hk
      rw [add_add] at this
      rw [this]
      simp
    haveI : Inhabited En := ⟨noE⟩
    obtain ⟨q, hq⟩ := choose_lt each
    have hget : ∀ j, j < len → ((List.range len).map q).getD j noE = q j := by
      intro j hj
      simp [List.getD_eq_getElem?_getD, hj]
    refine ⟨(List.range len).map q, ⟨some a, cap, by simp, ?_⟩, by simp; omega, ?_⟩
    · by_cases h0 : len = 0
      · left; simp [h0]
      · right
        have c0 := (hq 0 (by omega)).2 0 (by omega)
        obtain ⟨b, off, spot⟩ := a
        have hspot : spot = none := by simpa [Addr.add] using World.cell?_spot (c0.trans (show (cl (q 0))[0]? = some (.string (q 0).i) from rfl))
        subst hspot
        refine ⟨b, off, rfl, fun j hj => ?_⟩
        have hj' : j < len := by simpa using hj
        have hc := (hq j hj').2
        have hadd : ∀ k : Nat, ((⟨b, off, none⟩ : Addr).add (j * 6 + k)) = ⟨b, off + j * 6 + k, none⟩ := fun k => by simp [Addr.add, Nat.add_assoc]
        rw [hget j hj']
        have g0 := hc 0 (by omega)
        have g1 := hc 1 (by omega)
        have g2 := hc 2 (by omega)
        have g3 := hc 3 (by omega)
        have g4 := hc 4 (by omega)
        have g5 := hc 5 (by omega)
        rw [hadd] at g0 g1 g2 g3 g4 g5
        exact ⟨g0, g1, g2, g3, g4, g5⟩
    · intro j hj
      have hj' : j < len := by simpa using hj
      rw [hget j hj']
      exact (hq j hj').1
theorem open_feed {r : Reach} {b0 : Nat} {v : Value} {d : DataW H} {p : List MemPlace} (hv : Value.okWide Tryd.prog w r b0 24 v) (h : DataW.Trod enc Tryd.prog w base spare held 24 v d p) :
    ∃ (f : Bool) (t : ByteArray) (u : Value) (es : List En), v = FV f t u ∧ EntsAt w u es ∧ t.size ≤ maxLen ∧ es.length ≤ maxLen ∧ ∀ j, j < es.length → Held (es.getD j noE) := by
  obtain ⟨f0, f1, f2, y0, y1, y2, m, rfl, _, _, t0, t1, t2⟩ := open_agg3 Tryd.underlying24 (by kernel_rfl) (by kernel_rfl) hv h
  obtain ⟨b, e0, _⟩ := DataW.trod_bool Tryd.underlying4 t0
  obtain ⟨s, e1, _, hs⟩ := DataW.trod_string Tryd.underlying9 t1
  obtain ⟨es, hat, hl, hh⟩ := open_ents t2
  simp only [List.cons.injEq, and_true] at e0 e1
  subst e0 e1
  exact ⟨b, s, f2, es, rfl, hat, hs, hl, hh⟩
end
end Go.Proofs.YtbgoejalbhkmeaaDoor.en
