/-
  Plain facts on the tables of the sets and flags: what their blocks hold when they read as listed.
-/
import Derived.Test.YtejmfffapkmjoaaDoorRows
import Derived.Lib.LaidTab
import Derived.OpenShut
import Derived.Below
import Derived.WalkKit
import Derived.Lib.ItoaNum
namespace Go.Proofs.YtejmfffapkmjoaaDoor.tb
open Go.RowKit
set_option linter.unusedVariables false

/-- A block holds these numbers. -/
def Holds (k : IntKind) (g : Nat) (zs : List Int) (w : World) : Prop := ∃ t fr, w.heap[g]? = some (.cells (zs.map (Value.int k)).toArray t fr)
theorem lt {k : IntKind} {g : Nat} {zs : List Int} {w : World} (h : Holds k g zs w) : g < w.heap.size := by
  obtain ⟨t, fr, h⟩ := h
  exact (Array.getElem?_eq_some_iff.1 h).1
theorem keep' {k : IntKind} {g : Nat} {zs : List Int} {w w' : World} (h : Holds k g zs w) (hb : Below w.heap.size w w') : Holds k g zs w' := by
  have hg := lt h
  obtain ⟨t, fr, h⟩ := h
  exact ⟨t, fr, (hb.block g hg).trans h⟩
/-- A block holds these texts. -/
def HoldsS (g : Nat) (ls : List (List UInt8)) (w : World) : Prop := ∃ t fr, w.heap[g]? = some (.cells (ls.map fun l => Value.string ⟨l.toArray⟩).toArray t fr)
theorem ltS {g : Nat} {ls : List (List UInt8)} {w : World} (h : HoldsS g ls w) : g < w.heap.size := by
  obtain ⟨t, fr, h⟩ := h
  exact (Array.getElem?_eq_some_iff.1 h).1
theorem keepS {g : Nat} {ls : List (List UInt8)} {w w' : World} (h : HoldsS g ls w) (hb : Below w.heap.size w w') : HoldsS g ls w' := by
  have hg := ltS h
  obtain ⟨t, fr, h⟩ := h
  exact ⟨t, fr, (hb.block g hg).trans h⟩
theorem cellS {g : Nat} {ls : List (List UInt8)} {w : World} (h : HoldsS g ls w) (j : Nat) (hj : j < ls.length) : w.cell? ⟨g, j, none⟩ = some (.string ⟨(ls[j]).toArray⟩) := by
  obtain ⟨t, fr, h⟩ := h
  rw [cell_of_row w g j _ t fr h]
  simp [hj]
def strData {H : Type} (ls : List (List UInt8)) : DataW H := .agg (ls.map fun l => .lit (.string l))
theorem cells_of_strs {H : Type} {enc : TypeId × Value → H} {P : Program} {w : World} {base : Nat} {sp : Nat → Bool} {held : Bool} {fuel : Nat} {t e : TypeId} {n : Nat} {cs : List Value} {ls : List (List UInt8)} {p : List MemPlace}
    (ht : P.underlying t = some (.array n e)) (he : P.underlying e = some .string) (hce : P.cellsOf e = 1) (hct : P.cellsOf t = n)
    (h : DataW.trod enc P w base sp held fuel t cs = some (strData ls, p)) : cs = ls.map fun l => Value.string ⟨l.toArray⟩ := by
  obtain ⟨xs, m, _, hx, hl, hxl, hf⟩ := DataW.trod_array ht h
  have hxs : xs.map (·.1) = ls.map fun l => (DataW.lit (.string l) : DataW H) := by
    have := congrArg Prod.fst hx
    simpa [strData] using this.symm
  have hzl : ls.length = n := by
    have := congrArg List.length hxs
    simp at this
    omega
  rw [hct] at hl
  apply List.ext_getElem?
  intro i
  by_cases hi : i < n
  · have hh := hf i hi
    rw [hce, Nat.mul_one] at hh
    rw [List.getElem?_eq_getElem (by omega)] at hh
    obtain ⟨s, hc, hb, _⟩ := DataW.trod_string he hh
    have h1 : cs[i]? = some (.string s) := by
      have := congrArg (·[0]?) hc
      simpa [List.getElem?_take, List.getElem?_drop] using this
    have h2 : (xs.map (·.1))[i]? = some (DataW.lit (.string s.data.toList) : DataW H) := by
      rw [List.getElem?_map, List.getElem?_eq_getElem (by omega), hb]
      rfl
    rw [hxs] at h2
    simp only [List.getElem?_map, Option.map_eq_some_iff, DataW.lit.injEq, Lit.string.injEq] at h2
    obtain ⟨l', hz', hl'⟩ := h2
    subst hl'
    simp [h1, hz']
  · rw [List.getElem?_eq_none (by omega), List.getElem?_eq_none (by simp; omega)]

section
variable {P : Program} {W : World} {name : String} {g : Nat} {t e : TypeId} {n : Nat}
theorem of_laid {k : IntKind} {zs : List Int} (hg : P.globalNamed name = some g) (hty : (P.globals[g]?).map (·.type) = some t) (ht : P.underlying t = some (.array n e)) (he : P.underlying e = some (.int k)) (hce : P.cellsOf e = 1) (hct : P.cellsOf t = n) :
    ∀ {laid : List (String × DataW Unit)} {ps : List MemPlace}, (name, Lib.tabData k zs) ∈ laid → DataW.LaidVars P W laid ps → Holds k g zs W := by
  intro laid
  induction laid with
  | nil => intro ps h; cases h
  | cons x xs ih =>
    intro ps hm hl
    obtain ⟨g', t', cs, fuel, p, q, hg', ht', hvar, hd, hr, _⟩ := hl
    rcases List.mem_cons.1 hm with e1 | e1
    · subst e1
      obtain rfl := Option.some.inj (hg.symm.trans hg')
      obtain rfl := Option.some.inj (hty.symm.trans ht')
      have hc := Lib.cells_of_tab ht he hce hct hd
      simp only [World.var?, hg, Option.bind_some] at hvar
      split at hvar
      · rename_i c t fr hh
        obtain rfl := Option.some.inj hvar
        refine ⟨t, fr, ?_⟩
        rw [hh]
        congr 2
        rw [← Array.toArray_toList (xs := c), hc]
      · cases hvar
    · exact ih e1 hr
theorem of_laidS {ls : List (List UInt8)} (hg : P.globalNamed name = some g) (hty : (P.globals[g]?).map (·.type) = some t) (ht : P.underlying t = some (.array n e)) (he : P.underlying e = some .string) (hce : P.cellsOf e = 1) (hct : P.cellsOf t = n) :
    ∀ {laid : List (String × DataW Unit)} {ps : List MemPlace}, (name, strData ls) ∈ laid → DataW.LaidVars P W laid ps → HoldsS g ls W := by
  intro laid
  induction laid with
  | nil => intro ps h; cases h
  | cons x xs ih =>
    intro ps hm hl
    obtain ⟨g', t', cs, fuel, p, q, hg', ht', hvar, hd, hr, _⟩ := hl
    rcases List.mem_cons.1 hm with e1 | e1
    · subst e1
      obtain rfl := Option.some.inj (hg.symm.trans hg')
      obtain rfl := Option.some.inj (hty.symm.trans ht')
      have hc := cells_of_strs ht he hce hct hd
      simp only [World.var?, hg, Option.bind_some] at hvar
      split at hvar
      · rename_i c t fr hh
        obtain rfl := Option.some.inj hvar
        refine ⟨t, fr, ?_⟩
        rw [hh]
        congr 2
        rw [← Array.toArray_toList (xs := c), hc]
      · cases hvar
    · exact ih e1 hr
end

/-- The powers of ten. -/
def TP (w : World) : Prop := Holds .u64 2 Lib.pow10Tab w
def nmP : String := ((Rows.fnExactFetchTextRow.laid.map (·.1)).getD 2 "")
theorem gP : Tryd.prog.globalNamed nmP = some 2 := by kernel_rfl
theorem yP : (Tryd.prog.globals[2]?).map (·.type) = some 114 := by kernel_rfl
theorem nP : Tryd.prog.cellsOf 114 = 20 := by kernel_rfl
theorem eP : Tryd.prog.cellsOf 102 = 1 := by kernel_rfl
set_option maxRecDepth 100000 in
theorem lP : (Rows.laid_internal_strconv_uint64pow10 : DataW Unit) = Lib.tabData .u64 Lib.pow10Tab := rfl
theorem tp_of {W : World} {laid : List (String × DataW Unit)} {ps : List MemPlace} (hm : (nmP, Rows.laid_internal_strconv_uint64pow10) ∈ laid) (h : DataW.LaidVars Tryd.prog W laid ps) : TP W :=
  of_laid gP yP Tryd.underlying114 Tryd.underlying102 eP nP (lP ▸ hm) h
theorem tp_is {w : World} (h : TP w) : Lib.TabIs Tryd.prog w nmP .u64 Lib.pow10Tab := by
  obtain ⟨t, fr, h⟩ := h
  unfold Lib.TabIs World.var?
  rw [gP]
  simp only [Option.bind_some, h]
theorem eS : Tryd.prog.cellsOf 9 = 1 := by kernel_rfl
/-- The names of the flags. -/
def fls : List (List UInt8) := [[92, 83, 101, 101, 110], [92, 65, 110, 115, 119, 101, 114, 101, 100], [92, 70, 108, 97, 103, 103, 101, 100], [92, 68, 101, 108, 101, 116, 101, 100], [92, 68, 114, 97, 102, 116]]
def TF (w : World) : Prop := HoldsS 0 fls w
def nmF : String := ((Rows.fnExactFetchTextRow.laid.map (·.1)).getD 4 "")
theorem gF : Tryd.prog.globalNamed nmF = some 0 := by kernel_rfl
theorem yF : (Tryd.prog.globals[0]?).map (·.type) = some 80 := by kernel_rfl
theorem nF : Tryd.prog.cellsOf 80 = 5 := by kernel_rfl
theorem lF : (Rows.laid_loop_example_g00268_impl_flagNames : DataW Unit) = strData fls := rfl
theorem tf_of {W : World} {laid : List (String × DataW Unit)} {ps : List MemPlace} (hm : (nmF, Rows.laid_loop_example_g00268_impl_flagNames) ∈ laid) (h : DataW.LaidVars Tryd.prog W laid ps) : TF W :=
  of_laidS gF yF Tryd.underlying80 Tryd.underlying9 eS nF (lF ▸ hm) h
end Go.Proofs.YtejmfffapkmjoaaDoor.tb
