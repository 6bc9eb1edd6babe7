/-
  Plain facts on the table of the codes' words: what its cells hold when it reads as listed.
-/
import Derived.Test.YthndloempbcflagDoorRows
import Derived.WalkKit
import Derived.WalkLawsBesides
import Derived.Lib.LaidTab
namespace Go.Proofs.YthndloempbcflagDoor.cd
open Go.RowKit
set_option linter.unusedVariables false

def wordsB : List (List UInt8) := [[111, 107], [98, 97, 100], [108, 111, 110, 103], [102, 111, 114, 109], [114, 97, 110, 103, 101], [110, 111, 110, 101], [109, 97, 110, 121], [102, 117, 108, 108], [115, 117, 109], [116, 119, 105, 99, 101], [100, 101, 112, 116, 104], [99, 108, 111, 115, 101], [101, 110, 116, 105, 116, 121], [114, 111, 111, 116], [115, 116, 97, 116, 101], [114, 101, 97, 100, 111, 110, 108, 121], [102, 108, 97, 103], [117, 105, 100], [109, 111, 114, 101], [103, 111, 110, 101]]
/-- The word of the k-th code. -/
def wd (k : Nat) : ByteArray := ⟨(wordsB.getD k []).toArray⟩
theorem words_len : wordsB.length = 20 := rfl
def tabS {H : Type} (ss : List (List UInt8)) : DataW H := .agg (ss.map fun s => .lit (.string s))
def cellsS (ss : List (List UInt8)) : List Value := ss.map fun s => Value.string ⟨s.toArray⟩
theorem laid_tab {H : Type} : (Rows.laid_loop_example_g00268_impl_codeWords : DataW H) = tabS wordsB := rfl

/-- An array of texts that reads as the table holds the table's texts, cell for cell. -/
theorem cells_of_texts {H : Type} {enc : TypeId × Value → H} {P : Program} {w : World} {base : Nat} {sp : Nat → Bool} {held : Bool} {fuel : Nat} {t e : TypeId} {n : Nat} {cs : List Value} {ss : List (List UInt8)} {p : List MemPlace}
    (ht : P.underlying t = some (.array n e)) (he : P.underlying e = some .string) (hce : P.cellsOf e = 1) (hct : P.cellsOf t = n)
    (h : DataW.trod enc P w base sp held fuel t cs = some (tabS ss, p)) : cs = cellsS ss := by
  cases fuel with
  | zero => simp [DataW.trod] at h
  | succ fuel =>
    simp only [DataW.trod, ht, hce, hct, Nat.mul_one] at h
    split at h
    · rename_i hl
      obtain ⟨xs, hm, hx⟩ := Option.map_eq_some_iff.1 h
      have hxs : xs.map (·.1) = ss.map fun s => (DataW.lit (.string s) : DataW H) := by
        have := congrArg Prod.fst hx
        simpa [tabS] using this
      have hxl : xs.length = n := by simpa using Lib.mapM_length hm
      have hzl : ss.length = n := by
        have := congrArg List.length hxs
        simp at this
        omega
      apply List.ext_getElem?
      intro i
      by_cases hi : i < n
      · obtain ⟨b, hb, hf⟩ := Lib.mapM_at hm i i (by simp [hi])
        obtain ⟨s, hc, rfl, _⟩ := DataW.trod_string he hf
        have h1 : cs[i]? = some (.string s) := by
          have := congrArg (·[0]?) hc
          simpa [List.getElem?_take, List.getElem?_drop] using this
        have h2 : (xs.map (·.1))[i]? = some (DataW.lit (.string s.data.toList) : DataW H) := by simp [hb]
        rw [hxs] at h2
        simp only [List.getElem?_map, Option.map_eq_some_iff, DataW.lit.injEq, Lit.string.injEq] at h2
        obtain ⟨z, hz, hze⟩ := h2
        simp [h1, cellsS, hz, hze]
      · rw [List.getElem?_eq_none (by omega), List.getElem?_eq_none (by simp [cellsS]; omega)]
    · cases h

/-- The table's block holds the words. -/
def Tab (w : World) : Prop := ∃ t fr, w.heap[0]? = some (.cells (cellsS wordsB).toArray t fr)

/-- The table's name. -/
def nm : String := Rows.fnExactCodeWordSpec.vars.headD ""
theorem gTab : Tryd.prog.globalNamed nm = some 0 := by kernel_rfl
theorem gType : (Tryd.prog.globals[0]?).map (·.type) = some 27 := by kernel_rfl
theorem cTab : Tryd.prog.cellsOf 27 = 20 := by kernel_rfl
theorem cStr : Tryd.prog.cellsOf 9 = 1 := by kernel_rfl

theorem tab_of {W : World} (h : laidMetH Tryd.prog Rows.fnExactCodeWordRow.laid W) : Tab W := by
  have h' : laidMet Tryd.prog [(nm, Rows.laid_loop_example_g00268_impl_codeWords)] W := h
  obtain ⟨ps, ⟨g', t', cs, fuel, p, q, hg', ht', hvar, hd, _, _⟩, _⟩ := h'
  obtain rfl := Option.some.inj (gTab.symm.trans hg')
  obtain rfl := Option.some.inj (gType.symm.trans ht')
  have hc := cells_of_texts Tryd.underlying27 Tryd.underlying9 cStr cTab (ss := wordsB) hd
  simp only [World.var?, gTab, Option.bind_some] at hvar
  split at hvar
  · rename_i c t fr hh
    obtain rfl := Option.some.inj hvar
    refine ⟨t, fr, ?_⟩
    rw [hh, ← hc]
  · cases hvar
theorem tab_cell {w : World} (h : Tab w) (k : Nat) (hk : k < 20) : w.cell? ⟨0, k, none⟩ = some (.string (wd k)) := by
  obtain ⟨t, fr, h⟩ := h
  rw [cell_of_row w 0 k _ t fr h]
  have hl : k < wordsB.length := hk
  simp [cellsS, wd, hl]
theorem tab_below {w w' : World} (h : Tab w) (hb : Below w.heap.size w w') : Tab w' := by
  obtain ⟨t, fr, h⟩ := h
  exact ⟨t, fr, (hb.block 0 (Array.getElem?_eq_some_iff.1 h).1).trans h⟩
end Go.Proofs.YthndloempbcflagDoor.cd
