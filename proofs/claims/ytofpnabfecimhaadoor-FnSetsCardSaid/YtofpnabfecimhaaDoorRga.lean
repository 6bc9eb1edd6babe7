/-
  Ranges as rows of pairs of numbers: the law's own measure, copy and comparison of them.
-/
import Derived.Test.YtofpnabfecimhaaDoorRows
import Derived.Test.YtofpnabfecimhaaDoorOwn
import Derived.Test.YtofpnabfecimhaaDoorGrw
import Derived.WalkKit
import Derived.WalkLawsBesides
import Derived.Below
import Derived.BigRegion
namespace Go.Proofs.YtofpnabfecimhaaDoor.rg
open Go.RowKit
set_option linter.unusedVariables false

abbrev Pr := Int × Int
def no : Pr := (0, 0)
/-- A number that an int can be. -/
def In (z : Int) : Prop := -9223372036854775808 ≤ z ∧ z ≤ 9223372036854775807
theorem in_of_wf {z : Int} (h : (Lit.int .i64 z).wf = true) : In z := by
  have h1 : IntKind.i64.min = -9223372036854775808 := rfl
  have h2 : IntKind.i64.max = 9223372036854775807 := rfl
  simp [Lit.wf, h1, h2] at h
  exact ⟨by omega, by omega⟩
def Ins (ps : List Pr) : Prop := ∀ j, j < ps.length → In (ps.getD j no).1 ∧ In (ps.getD j no).2
/-- A slice of ranges. -/
def RgAt (w : World) (v : Value) (ps : List Pr) : Prop :=
  ∃ a cap, v = .slice a ps.length cap ∧ (ps = [] ∨ ∃ b off, a = some ⟨b, off, none⟩ ∧ ∀ j, j < ps.length → w.cell? ⟨b, off + j * 2, none⟩ = some (.int .i64 (ps.getD j no).1) ∧ w.cell? ⟨b, off + j * 2 + 1, none⟩ = some (.int .i64 (ps.getD j no).2))
theorem at_below {w w' : World} {v : Value} {ps : List Pr} (h : RgAt w v ps) (hb : Below w.heap.size w w') : RgAt w' v ps := by
  obtain ⟨a, cap, rfl, h⟩ := h
  refine ⟨a, cap, rfl, ?_⟩
  rcases h with h | ⟨b, off, rfl, h⟩
  · exact .inl h
  · refine .inr ⟨b, off, rfl, fun j hj => ?_⟩
    obtain ⟨h0, h1⟩ := h j hj
    have hl := World.block_lt_of_cell? w _ h0
    exact ⟨(hb.cell (p := ⟨b, off + j * 2, none⟩) hl).trans h0, (hb.cell (p := ⟨b, off + j * 2 + 1, none⟩) hl).trans h1⟩
theorem at_nil (w : World) : RgAt w (.slice none 0 0) [] := ⟨none, 0, rfl, .inl rfl⟩
theorem new_below (w : World) (T : TypeId) (cs : Array Value) : Below w.heap.size w (w.alloc (.cells cs T)) := (Below.refl _ _).alloc (Nat.le_refl _) _

theorem infoAt : (Tryd.prog.info? 38).map (fun i => (i.zero, i.size, i.bytes)) = some (some (.agg #[.int .i64 0, .int .i64 0]), 2, 16) := by kernel_rfl

def Lay (ps : List Pr) (k : Nat) (xs : List Value) : Prop := ∀ j, j < k → xs[j * 2]? = some (.int .i64 (ps.getD j no).1) ∧ xs[j * 2 + 1]? = some (.int .i64 (ps.getD j no).2)
theorem lay_step {ps : List Pr} {k : Nat} {xs : List Value} (h : Lay ps k xs) (hl : k * 2 + 1 < xs.length) {a b : Int} (ha : (ps.getD k no).1 = a) (hb : (ps.getD k no).2 = b) : Lay ps (k + 1) ((xs.set (k * 2) (.int .i64 a)).set (k * 2 + 1) (.int .i64 b)) := by
  intro j hj
  by_cases e : j = k
  · subst e
    rw [ha, hb]
    refine ⟨?_, ?_⟩
    · rw [List.getElem?_set_ne (by omega), List.getElem?_set_self (by omega)]
    · rw [List.getElem?_set_self (by rw [List.length_set]; omega)]
  · obtain ⟨h0, h1⟩ := h j (by omega)
    refine ⟨?_, ?_⟩
    · rw [List.getElem?_set_ne (by omega), List.getElem?_set_ne (by omega)]; exact h0
    · rw [List.getElem?_set_ne (by omega), List.getElem?_set_ne (by omega)]; exact h1
theorem rg_lay {w : World} {base e g n cap : Nat} {ps : List Pr} {xs : List Value} (hn : n = ps.length) (h : w.ownsRow base e 2 (.slice (some ⟨g, 0, none⟩) n cap) n xs) (hl : Lay ps n xs) : RgAt w (.slice (some ⟨g, 0, none⟩) n cap) ps := by
  subst hn
  refine ⟨_, cap, rfl, .inr ⟨g, 0, rfl, fun j hj => ?_⟩⟩
  obtain ⟨h0, h1⟩ := hl j hj
  refine ⟨?_, ?_⟩
  · rw [Nat.zero_add, h.cellAt (j * 2) (by omega), h0]
  · rw [Nat.zero_add, h.cellAt (j * 2 + 1) (by omega), h1]

open gr
end Go.Proofs.YtofpnabfecimhaaDoor.rg
