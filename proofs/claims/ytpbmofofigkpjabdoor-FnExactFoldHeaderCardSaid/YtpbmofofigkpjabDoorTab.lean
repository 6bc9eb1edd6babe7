/-
  Plain facts on the program's tables: what their blocks hold when they read as listed.
-/
import Derived.Test.YtpbmofofigkpjabDoorRows
import Derived.Test.YtpbmofofigkpjabDoorSen
import Derived.Lib.LaidTab
import Derived.Lib.Space
namespace Go.Proofs.YtpbmofofigkpjabDoor.tb
open Go.RowKit
set_option linter.unusedVariables false

def digs : List UInt8 := [48, 49, 50, 51, 52, 53, 54, 55, 56, 57, 65, 66, 67, 68, 69, 70]
/-- A block holds these numbers. -/
def Holds (k : IntKind) (g : Nat) (zs : List Int) (w : World) : Prop := ∃ t fr, w.heap[g]? = some (.cells (zs.map (Value.int k)).toArray t fr)
def TV (w : World) : Prop := Holds .i8 2 b6.vals w
def TA (w : World) : Prop := Holds .u8 0 Lib.asciiSpaceTab w

theorem cell {k : IntKind} {g : Nat} {zs : List Int} {w : World} (h : Holds k g zs w) (j : Nat) (hj : j < zs.length) : w.cell? ⟨g, j, none⟩ = some (.int k (zs.getD j 0)) := by
  obtain ⟨t, fr, h⟩ := h
  rw [cell_of_row w g j _ t fr h]
  simp [List.getD_eq_getElem?_getD, hj]
theorem keep {k : IntKind} {g : Nat} {zs : List Int} {w w' : World} {B : Nat} (h : Holds k g zs w) (hb : Below B w w') (hg : g < B) : Holds k g zs w' := by
  obtain ⟨t, fr, h⟩ := h
  exact ⟨t, fr, (hb.block g hg).trans h⟩
theorem lt {k : IntKind} {g : Nat} {zs : List Int} {w : World} (h : Holds k g zs w) : g < w.heap.size := by
  obtain ⟨t, fr, h⟩ := h
  exact (Array.getElem?_eq_some_iff.1 h).1
theorem keep' {k : IntKind} {g : Nat} {zs : List Int} {w w' : World} (h : Holds k g zs w) (hb : Below w.heap.size w w') : Holds k g zs w' := keep h hb (lt h)

theorem of_laid {P : Program} {W : World} {name : String} {k : IntKind} {zs : List Int} {g : Nat} {t e : TypeId} {n : Nat}
    (hg : P.globalNamed name = some g) (hty : (P.globals[g]?).map (·.type) = some t) (ht : P.underlying t = some (.array n e)) (he : P.underlying e = some (.int k)) (hce : P.cellsOf e = 1) (hct : P.cellsOf t = n) :
    ∀ {laid : List (String × DataW Unit)} {ps : List MemPlace}, (name, Lib.tabData k zs) ∈ laid → DataW.LaidVars P W laid ps → Holds k g zs W := by
  intro laid
  induction laid with
  | nil => intro ps h; cases h
  | cons x xs ih =>
    intro ps hm hl
    obtain ⟨g', t', cs, fuel, p, q, hg', ht', hvar, hd, hr, _⟩ := hl
    rcases List.mem_cons.1 hm with e1 | e1
    · subst e1
      obtain rfl := Option.some.inj (hg.symm.trans hg')
      obtain rfl := Option.some.inj (hty.symm.trans ht')
      have hc := Lib.cells_of_tab ht he hce hct hd
      simp only [World.var?, hg, Option.bind_some] at hvar
      split at hvar
      · rename_i c t fr hh
        obtain rfl := Option.some.inj hvar
        refine ⟨t, fr, ?_⟩
        rw [hh]
        congr 2
        rw [← Array.toArray_toList (xs := c), hc]
      · cases hvar
    · exact ih e1 hr

def nmV : String := ((Rows.fnExactDecodeWordsRow.laid.map (·.1)).getD 2 "")
theorem gV : Tryd.prog.globalNamed nmV = some 2 := by kernel_rfl
theorem yV : (Tryd.prog.globals[2]?).map (·.type) = some 89 := by kernel_rfl
theorem nV : Tryd.prog.cellsOf 89 = 128 := by kernel_rfl
theorem eV : Tryd.prog.cellsOf 88 = 1 := by kernel_rfl
set_option maxRecDepth 100000 in
theorem lV : (Rows.laid_loop_example_g00268_impl_base64Values : DataW Unit) = Lib.tabData .i8 (b6.vals) := rfl
theorem tv_of {W : World} {laid : List (String × DataW Unit)} {ps : List MemPlace} (hm : (nmV, Rows.laid_loop_example_g00268_impl_base64Values) ∈ laid) (h : DataW.LaidVars Tryd.prog W laid ps) : TV W :=
  of_laid gV yV Tryd.underlying89 Tryd.underlying88 eV nV (lV ▸ hm) h
def nmA : String := ((Rows.fnExactDecodeWordsRow.laid.map (·.1)).getD 1 "")
theorem gA : Tryd.prog.globalNamed nmA = some 0 := by kernel_rfl
theorem yA : (Tryd.prog.globals[0]?).map (·.type) = some 52 := by kernel_rfl
theorem nA : Tryd.prog.cellsOf 52 = 256 := by kernel_rfl
theorem eA : Tryd.prog.cellsOf 5 = 1 := by kernel_rfl
set_option maxRecDepth 100000 in
theorem lA : (Rows.laid_strings_asciiSpace : DataW Unit) = Lib.tabData .u8 (Lib.asciiSpaceTab) := rfl
theorem ta_of {W : World} {laid : List (String × DataW Unit)} {ps : List MemPlace} (hm : (nmA, Rows.laid_strings_asciiSpace) ∈ laid) (h : DataW.LaidVars Tryd.prog W laid ps) : TA W :=
  of_laid gA yA Tryd.underlying52 Tryd.underlying5 eA nA (lA ▸ hm) h
theorem tv_cell {w : World} (h : TV w) (c : UInt8) (hj : c.toNat < 128) : w.cell? ⟨2, c.toNat, none⟩ = some (.int .i8 (b6.V c)) := by
  rw [cell h c.toNat hj]
  unfold b6.V
  rw [List.getD_eq_getElem?_getD, List.getD_eq_getElem?_getD, List.getElem?_eq_getElem (show c.toNat < b6.vals.length from hj)]
  rfl
theorem ta_is {w : World} (h : TA w) : Lib.TabIs Tryd.prog w nmA .u8 Lib.asciiSpaceTab := by
  obtain ⟨t, fr, h⟩ := h
  unfold Lib.TabIs World.var?
  rw [gA]
  simp only [Option.bind_some, h]
end Go.Proofs.YtpbmofofigkpjabDoor.tb
