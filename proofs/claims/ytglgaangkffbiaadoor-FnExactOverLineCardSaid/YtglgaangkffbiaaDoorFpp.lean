/-
  Plain facts on the fields of a mail: pairs of texts, small ones, safe ones.
-/
import Derived.Test.YtglgaangkffbiaaDoorFoa
import Derived.Test.YtglgaangkffbiaaDoorPac
namespace Go.Proofs.YtglgaangkffbiaaDoor.fp
open Go.RowKit
open fa fo ml
set_option linter.unusedVariables false

/-- Fields as pairs of texts. -/
def prs (fs : List (B × B)) : List Pr := fs.map fun x => (⟨x.1.toArray⟩, ⟨x.2.toArray⟩)
theorem fcells_at : ∀ (fs : List (B × B)) (j : Nat), j < fs.length → (fcells fs)[j * 2]? = some (.string ((prs fs).getD j no).1) ∧ (fcells fs)[j * 2 + 1]? = some (.string ((prs fs).getD j no).2)
  | x :: fs, 0, _ => ⟨rfl, rfl⟩
  | x :: fs, j + 1, h => by
    have := fcells_at fs j (by simpa using h)
    rw [show (j + 1) * 2 = j * 2 + 2 from by omega]
    exact this
theorem attrs_of {w : World} {base : Nat} {v : Value} {fs : List (B × B)} (h : FieldsAt w base v fs) : AttrsAt w v (prs fs) := by
  have hl : (prs fs).length = fs.length := by simp [prs]
  rcases h.2 with ⟨rfl, h0⟩ | ⟨g, cap, cur, rfl, _⟩
  · refine ⟨none, 0, by rw [hl, h0], .inl ?_⟩
    exact List.eq_nil_of_length_eq_zero (by rw [hl, h0])
  · refine ⟨_, cap, by rw [hl], .inr ⟨g, 0, rfl, fun j hj => ?_⟩⟩
    rw [hl] at hj
    obtain ⟨h1, h2⟩ := fcells_at fs j hj
    have c1 := h.cellAt (j * 2) (by omega)
    have c2 := h.cellAt (j * 2 + 1) (by omega)
    rw [h1] at c1
    rw [h2] at c2
    rw [Nat.zero_add]
    exact ⟨c1, c2⟩
theorem run_mem : ∀ (fs : List (B × B)) (l r : B), Run F fs l r → ∀ x ∈ fs, ∃ f, F f x.1 x.2
  | y :: fs, l, r, ⟨_, f, q, _, hF, hr⟩, x, hx => by
    rcases List.mem_cons.1 hx with rfl | hx
    · exact ⟨f, hF⟩
    · exact run_mem fs q r hr x hx
theorem mail_mem {l : B} {fs : List (B × B)} {b : B} (h : IsMail l fs b) : ∀ x ∈ fs, x.1.length ≤ 40 ∧ hd.Safe x.2 := by
  intro x hx
  obtain ⟨r, hr, _⟩ := h.2.1
  obtain ⟨f, y, _, hn, _, hs⟩ := run_mem fs l r hr x hx
  exact ⟨hn.2.1, hs⟩
theorem small_of {l : B} {fs : List (B × B)} {b : B} (h : IsMail l fs b) : fa.Small (prs fs) := by
  have h40 := h.2.2
  refine ⟨by simp [prs]; omega, fun j hj => ?_⟩
  have hj' : j < fs.length := by simpa [prs] using hj
  have hm := mail_mem h fs[j] (List.getElem_mem hj')
  have e : (prs fs).getD j no = (⟨(fs[j]).1.toArray⟩, ⟨(fs[j]).2.toArray⟩) := by simp [prs, List.getD_eq_getElem?_getD, hj']
  rw [e]
  have h2 := hm.2.1
  constructor
  · show ((fs[j]).1.toArray).size ≤ _
    simp
    omega
  · show ((fs[j]).2.toArray).size ≤ _
    simp
    omega
theorem find_safe {l : B} {fs : List (B × B)} {b : B} (h : IsMail l fs b) {nm x : ByteArray} (hf : find (prs fs) nm = some x) : hd.Safe x.data.toList := by
  unfold find at hf
  obtain ⟨p, hp, rfl⟩ := Option.map_eq_some_iff.1 hf
  have hm := List.mem_of_find?_eq_some hp
  obtain ⟨y, hy, rfl⟩ := List.mem_map.1 hm
  exact (mail_mem h y hy).2
theorem safe_size {x : ByteArray} (h : hd.Safe x.data.toList) : x.size ≤ 2000 := h.1

end Go.Proofs.YtglgaangkffbiaaDoor.fp
