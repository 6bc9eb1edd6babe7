/-
  Plain facts on the program's tables: what their blocks hold when they read as listed.
-/
import Derived.Test.YtpbmofofigkpjaaDoorRows
import Derived.Test.YtpbmofofigkpjaaDoorSen
import Derived.Lib.LaidTab
import Derived.Lib.Space
namespace Go.Proofs.YtpbmofofigkpjaaDoor.tb
open Go.RowKit
set_option linter.unusedVariables false

def digs : List UInt8 := [48, 49, 50, 51, 52, 53, 54, 55, 56, 57, 65, 66, 67, 68, 69, 70]
/-- A block holds these numbers. -/
def Holds (k : IntKind) (g : Nat) (zs : List Int) (w : World) : Prop := ∃ t fr, w.heap[g]? = some (.cells (zs.map (Value.int k)).toArray t fr)
def TC (w : World) : Prop := Holds .u8 4 (b6.bz b6.alpha) w
def TV (w : World) : Prop := Holds .i8 5 b6.vals w
def TD (w : World) : Prop := Holds .u8 0 (b6.bz digs) w
def TA (w : World) : Prop := Holds .u8 1 Lib.asciiSpaceTab w

theorem cell {k : IntKind} {g : Nat} {zs : List Int} {w : World} (h : Holds k g zs w) (j : Nat) (hj : j < zs.length) : w.cell? ⟨g, j, none⟩ = some (.int k (zs.getD j 0)) := by
  obtain ⟨t, fr, h⟩ := h
  rw [cell_of_row w g j _ t fr h]
  simp [List.getD_eq_getElem?_getD, hj]
theorem keep {k : IntKind} {g : Nat} {zs : List Int} {w w' : World} {B : Nat} (h : Holds k g zs w) (hb : Below B w w') (hg : g < B) : Holds k g zs w' := by
  obtain ⟨t, fr, h⟩ := h
  exact ⟨t, fr, (hb.block g hg).trans h⟩
theorem lt {k : IntKind} {g : Nat} {zs : List Int} {w : World} (h : Holds k g zs w) : g < w.heap.size := by
  obtain ⟨t, fr, h⟩ := h
  exact (Array.getElem?_eq_some_iff.1 h).1
theorem keep' {k : IntKind} {g : Nat} {zs : List Int} {w w' : World} (h : Holds k g zs w) (hb : Below w.heap.size w w') : Holds k g zs w' := keep h hb (lt h)

theorem of_laid {P : Program} {W : World} {name : String} {k : IntKind} {zs : List Int} {g : Nat} {t e : TypeId} {n : Nat}
    (hg : P.globalNamed name = some g) (hty : (P.globals[g]?).map (·.type) = some t) (ht : P.underlying t = some (.array n e)) (he : P.underlying e = some (.int k)) (hce : P.cellsOf e = 1) (hct : P.cellsOf t = n) :
    ∀ {laid : List (String × DataW Unit)} {ps : List MemPlace}, (name, Lib.tabData k zs) ∈ laid → DataW.LaidVars P W laid ps → Holds k g zs W := by
  intro laid
  induction laid with
  | nil => intro ps h; cases h
  | cons x xs ih =>
    intro ps hm hl
    obtain ⟨g', t', cs, fuel, p, q, hg', ht', hvar, hd, hr, _⟩ := hl
    rcases List.mem_cons.1 hm with e1 | e1
    · subst e1
      obtain rfl := Option.some.inj (hg.symm.trans hg')
      obtain rfl := Option.some.inj (hty.symm.trans ht')
      have hc := Lib.cells_of_tab ht he hce hct hd
      simp only [World.var?, hg, Option.bind_some] at hvar
      split at hvar
      · rename_i c t fr hh
        obtain rfl := Option.some.inj hvar
        refine ⟨t, fr, ?_⟩
        rw [hh]
        congr 2
        rw [← Array.toArray_toList (xs := c), hc]
      · cases hvar
    · exact ih e1 hr

def nmC : String := ((Rows.fnWordsRow.laid.map (·.1)).getD 2 "")
theorem gC : Tryd.prog.globalNamed nmC = some 4 := by kernel_rfl
theorem yC : (Tryd.prog.globals[4]?).map (·.type) = some 105 := by kernel_rfl
theorem nC : Tryd.prog.cellsOf 105 = 64 := by kernel_rfl
theorem eC : Tryd.prog.cellsOf 5 = 1 := by kernel_rfl
set_option maxRecDepth 100000 in
theorem lC : (Rows.laid_loop_example_g00268_impl_base64Chars : DataW Unit) = Lib.tabData .u8 (b6.bz b6.alpha) := rfl
theorem tc_of {W : World} {laid : List (String × DataW Unit)} {ps : List MemPlace} (hm : (nmC, Rows.laid_loop_example_g00268_impl_base64Chars) ∈ laid) (h : DataW.LaidVars Tryd.prog W laid ps) : TC W :=
  of_laid gC yC Tryd.underlying105 Tryd.underlying5 eC nC (lC ▸ hm) h
def nmV : String := ((Rows.fnWordsRow.laid.map (·.1)).getD 3 "")
theorem gV : Tryd.prog.globalNamed nmV = some 5 := by kernel_rfl
theorem yV : (Tryd.prog.globals[5]?).map (·.type) = some 118 := by kernel_rfl
theorem nV : Tryd.prog.cellsOf 118 = 128 := by kernel_rfl
theorem eV : Tryd.prog.cellsOf 117 = 1 := by kernel_rfl
set_option maxRecDepth 100000 in
theorem lV : (Rows.laid_loop_example_g00268_impl_base64Values : DataW Unit) = Lib.tabData .i8 (b6.vals) := rfl
theorem tv_of {W : World} {laid : List (String × DataW Unit)} {ps : List MemPlace} (hm : (nmV, Rows.laid_loop_example_g00268_impl_base64Values) ∈ laid) (h : DataW.LaidVars Tryd.prog W laid ps) : TV W :=
  of_laid gV yV Tryd.underlying118 Tryd.underlying117 eV nV (lV ▸ hm) h
def nmD : String := ((Rows.fnQuotedRow.laid.map (·.1)).getD 1 "")
theorem gD : Tryd.prog.globalNamed nmD = some 0 := by kernel_rfl
theorem yD : (Tryd.prog.globals[0]?).map (·.type) = some 70 := by kernel_rfl
theorem nD : Tryd.prog.cellsOf 70 = 16 := by kernel_rfl
theorem eD : Tryd.prog.cellsOf 5 = 1 := by kernel_rfl
set_option maxRecDepth 100000 in
theorem lD : (Rows.laid_loop_example_g00268_impl_digitChars : DataW Unit) = Lib.tabData .u8 (b6.bz digs) := rfl
theorem td_of {W : World} {laid : List (String × DataW Unit)} {ps : List MemPlace} (hm : (nmD, Rows.laid_loop_example_g00268_impl_digitChars) ∈ laid) (h : DataW.LaidVars Tryd.prog W laid ps) : TD W :=
  of_laid gD yD Tryd.underlying70 Tryd.underlying5 eD nD (lD ▸ hm) h
def nmA : String := ((Rows.fnWordsRow.laid.map (·.1)).getD 1 "")
theorem gA : Tryd.prog.globalNamed nmA = some 1 := by kernel_rfl
theorem yA : (Tryd.prog.globals[1]?).map (·.type) = some 82 := by kernel_rfl
theorem nA : Tryd.prog.cellsOf 82 = 256 := by kernel_rfl
theorem eA : Tryd.prog.cellsOf 5 = 1 := by kernel_rfl
set_option maxRecDepth 100000 in
theorem lA : (Rows.laid_strings_asciiSpace : DataW Unit) = Lib.tabData .u8 (Lib.asciiSpaceTab) := rfl
theorem ta_of {W : World} {laid : List (String × DataW Unit)} {ps : List MemPlace} (hm : (nmA, Rows.laid_strings_asciiSpace) ∈ laid) (h : DataW.LaidVars Tryd.prog W laid ps) : TA W :=
  of_laid gA yA Tryd.underlying82 Tryd.underlying5 eA nA (lA ▸ hm) h
theorem tc_cell {w : World} (h : TC w) (j : Nat) (hj : j < 64) : w.cell? ⟨4, j, none⟩ = some (.int .u8 ((b6.L j).toNat : Int)) := by
  rw [cell h j hj, b6.bz_at]
  rfl
theorem tv_cell {w : World} (h : TV w) (c : UInt8) (hj : c.toNat < 128) : w.cell? ⟨5, c.toNat, none⟩ = some (.int .i8 (b6.V c)) := by
  rw [cell h c.toNat hj]
  unfold b6.V
  rw [List.getD_eq_getElem?_getD, List.getD_eq_getElem?_getD, List.getElem?_eq_getElem (show c.toNat < b6.vals.length from hj)]
  rfl
theorem td_cell {w : World} (h : TD w) (j : Nat) (hj : j < 16) : w.cell? ⟨0, j, none⟩ = some (.int .u8 ((digs.getD j 0).toNat : Int)) := by
  rw [cell h j hj, b6.bz_at]
theorem ta_is {w : World} (h : TA w) : Lib.TabIs Tryd.prog w nmA .u8 Lib.asciiSpaceTab := by
  obtain ⟨t, fr, h⟩ := h
  unfold Lib.TabIs World.var?
  rw [gA]
  simp only [Option.bind_some, h]
end Go.Proofs.YtpbmofofigkpjaaDoor.tb
