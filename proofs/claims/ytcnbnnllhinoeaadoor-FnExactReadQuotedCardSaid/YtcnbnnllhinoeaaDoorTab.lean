/-
  Plain facts on the program's tables: what their blocks hold when they read as listed.
-/
import Derived.Test.YtcnbnnllhinoeaaDoorRows
import Derived.Test.YtcnbnnllhinoeaaDoorSen
import Derived.Lib.LaidTab
import Derived.Lib.Space
namespace Go.Proofs.YtcnbnnllhinoeaaDoor.tb
open Go.RowKit
set_option linter.unusedVariables false

def digs : List UInt8 := [48, 49, 50, 51, 52, 53, 54, 55, 56, 57, 65, 66, 67, 68, 69, 70]
/-- A block holds these numbers. -/
def Holds (k : IntKind) (g : Nat) (zs : List Int) (w : World) : Prop := ∃ t fr, w.heap[g]? = some (.cells (zs.map (Value.int k)).toArray t fr)
def TD (w : World) : Prop := Holds .u8 0 (b6.bz digs) w

theorem cell {k : IntKind} {g : Nat} {zs : List Int} {w : World} (h : Holds k g zs w) (j : Nat) (hj : j < zs.length) : w.cell? ⟨g, j, none⟩ = some (.int k (zs.getD j 0)) := by
  obtain ⟨t, fr, h⟩ := h
  rw [cell_of_row w g j _ t fr h]
  simp [List.getD_eq_getElem?_getD, hj]
theorem keep {k : IntKind} {g : Nat} {zs : List Int} {w w' : World} {B : Nat} (h : Holds k g zs w) (hb : Below B w w') (hg : g < B) : Holds k g zs w' := by
  obtain ⟨t, fr, h⟩ := h
  exact ⟨t, fr, (hb.block g hg).trans h⟩
theorem lt {k : IntKind} {g : Nat} {zs : List Int} {w : World} (h : Holds k g zs w) : g < w.heap.size := by
  obtain ⟨t, fr, h⟩ := h
  exact (Array.getElem?_eq_some_iff.1 h).1
theorem keep' {k : IntKind} {g : Nat} {zs : List Int} {w w' : World} (h : Holds k g zs w) (hb : Below w.heap.size w w') : Holds k g zs w' := keep h hb (lt h)

theorem of_laid {P : Program} {W : World} {name : String} {k : IntKind} {zs : List Int} {g : Nat} {t e : TypeId} {n : Nat}
    (hg : P.globalNamed name = some g) (hty : (P.globals[g]?).map (·.type) = some t) (ht : P.underlying t = some (.array n e)) (he : P.underlying e = some (.int k)) (hce : P.cellsOf e = 1) (hct : P.cellsOf t = n) :
    ∀ {laid : List (String × DataW Unit)} {ps : List MemPlace}, (name, Lib.tabData k zs) ∈ laid → DataW.LaidVars P W laid ps → Holds k g zs W := by
  intro laid
  induction laid with
  | nil => intro ps h; cases h
  | cons x xs ih =>
    intro ps hm hl
    obtain ⟨g', t', cs, fuel, p, q, hg', ht', hvar, hd, hr, _⟩ := hl
    rcases List.mem_cons.1 hm with e1 | e1
    · subst e1
      obtain rfl := Option.some.inj (hg.symm.trans hg')
      obtain rfl := Option.some.inj (hty.symm.trans ht')
      have hc := Lib.cells_of_tab ht he hce hct hd
      simp only [World.var?, hg, Option.bind_some] at hvar
      split at hvar
      · rename_i c t fr hh
        obtain rfl := Option.some.inj hvar
        refine ⟨t, fr, ?_⟩
        rw [hh]
        congr 2
        rw [← Array.toArray_toList (xs := c), hc]
      · cases hvar
    · exact ih e1 hr

def nmD : String := ((Rows.fnExactQuotedTextRow.laid.map (·.1)).getD 0 "")
theorem gD : Tryd.prog.globalNamed nmD = some 0 := by kernel_rfl
theorem yD : (Tryd.prog.globals[0]?).map (·.type) = some 48 := by kernel_rfl
theorem nD : Tryd.prog.cellsOf 48 = 16 := by kernel_rfl
theorem eD : Tryd.prog.cellsOf 5 = 1 := by kernel_rfl
set_option maxRecDepth 100000 in
theorem lD : (Rows.laid_loop_example_g00268_impl_digitChars : DataW Unit) = Lib.tabData .u8 (b6.bz digs) := rfl
theorem td_of {W : World} {laid : List (String × DataW Unit)} {ps : List MemPlace} (hm : (nmD, Rows.laid_loop_example_g00268_impl_digitChars) ∈ laid) (h : DataW.LaidVars Tryd.prog W laid ps) : TD W :=
  of_laid gD yD Tryd.underlying48 Tryd.underlying5 eD nD (lD ▸ hm) h
theorem td_cell {w : World} (h : TD w) (j : Nat) (hj : j < 16) : w.cell? ⟨0, j, none⟩ = some (.int .u8 ((digs.getD j 0).toNat : Int)) := by
  rw [cell h j hj, b6.bz_at]
end Go.Proofs.YtcnbnnllhinoeaaDoor.tb
