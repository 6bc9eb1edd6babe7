/-
  Plain facts on the program's tables: what their blocks hold when they read as listed.
  Plain facts on quoted text: what a line's bytes come to, step by step.
-/
import Derived.Test.YtbokolpjdaamiaaGreatDoorRows
import Derived.Test.YtbokolpjdaamiaaGreatDoorPkag
import Derived.Lib.LaidTab
import Derived.Lib.Space
import Derived.OpenShut
import Derived.Below
import Derived.WalkKit
import Derived.Lib.ItoaNum

namespace Go.Proofs.YtbokolpjdaamiaaGreatDoor.tb
open Go.RowKit
set_option linter.unusedVariables false

def digs : List UInt8 := [48, 49, 50, 51, 52, 53, 54, 55, 56, 57, 65, 66, 67, 68, 69, 70]
/-- A block holds these numbers. -/
def Holds (k : IntKind) (g : Nat) (zs : List Int) (w : World) : Prop := ∃ t fr, w.heap[g]? = some (.cells (zs.map (Value.int k)).toArray t fr)

theorem cell {k : IntKind} {g : Nat} {zs : List Int} {w : World} (h : Holds k g zs w) (j : Nat) (hj : j < zs.length) : w.cell? ⟨g, j, none⟩ = some (.int k (zs.getD j 0)) := by
  obtain ⟨t, fr, h⟩ := h
  rw [cell_of_row w g j _ t fr h]
  simp [List.getD_eq_getElem?_getD, hj]
theorem keep {k : IntKind} {g : Nat} {zs : List Int} {w w' : World} {B : Nat} (h : Holds k g zs w) (hb : Below B w w') (hg : g < B) : Holds k g zs w' := by
  obtain ⟨t, fr, h⟩ := h
  exact ⟨t, fr, (hb.block g hg).trans h⟩
theorem lt {k : IntKind} {g : Nat} {zs : List Int} {w : World} (h : Holds k g zs w) : g < w.heap.size := by
  obtain ⟨t, fr, h⟩ := h
  exact (Array.getElem?_eq_some_iff.1 h).1
theorem keep' {k : IntKind} {g : Nat} {zs : List Int} {w w' : World} (h : Holds k g zs w) (hb : Below w.heap.size w w') : Holds k g zs w' := keep h hb (lt h)

theorem of_laid {P : Program} {W : World} {name : String} {k : IntKind} {zs : List Int} {g : Nat} {t e : TypeId} {n : Nat}
    (hg : P.globalNamed name = some g) (hty : (P.globals[g]?).map (·.type) = some t) (ht : P.underlying t = some (.array n e)) (he : P.underlying e = some (.int k)) (hce : P.cellsOf e = 1) (hct : P.cellsOf t = n) :
    ∀ {laid : List (String × DataW Unit)} {ps : List MemPlace}, (name, Lib.tabData k zs) ∈ laid → DataW.LaidVars P W laid ps → Holds k g zs W := by
  intro laid
  induction laid with
  | nil => intro ps h; cases h
  | cons x xs ih =>
    intro ps hm hl
    obtain ⟨g', t', cs, fuel, p, q, hg', ht', hvar, hd, hr, _⟩ := hl
    rcases List.mem_cons.1 hm with e1 | e1
    · subst e1
      obtain rfl := Option.some.inj (hg.symm.trans hg')
      obtain rfl := Option.some.inj (hty.symm.trans ht')
      have hc := Lib.cells_of_tab ht he hce hct hd
      simp only [World.var?, hg, Option.bind_some] at hvar
      split at hvar
      · rename_i c t fr hh
        obtain rfl := Option.some.inj hvar
        refine ⟨t, fr, ?_⟩
        rw [hh]
        congr 2
        rw [← Array.toArray_toList (xs := c), hc]
      · cases hvar
    · exact ih e1 hr

/-- A block holds these texts. -/
def HoldsS (g : Nat) (ls : List (List UInt8)) (w : World) : Prop := ∃ t fr, w.heap[g]? = some (.cells (ls.map fun l => Value.string ⟨l.toArray⟩).toArray t fr)
theorem ltS {g : Nat} {ls : List (List UInt8)} {w : World} (h : HoldsS g ls w) : g < w.heap.size := by
  obtain ⟨t, fr, h⟩ := h
  exact (Array.getElem?_eq_some_iff.1 h).1
theorem keepS {g : Nat} {ls : List (List UInt8)} {w w' : World} (h : HoldsS g ls w) (hb : Below w.heap.size w w') : HoldsS g ls w' := by
  have hg := ltS h
  obtain ⟨t, fr, h⟩ := h
  exact ⟨t, fr, (hb.block g hg).trans h⟩
theorem cellS {g : Nat} {ls : List (List UInt8)} {w : World} (h : HoldsS g ls w) (j : Nat) (hj : j < ls.length) : w.cell? ⟨g, j, none⟩ = some (.string ⟨(ls[j]).toArray⟩) := by
  obtain ⟨t, fr, h⟩ := h
  rw [cell_of_row w g j _ t fr h]
  simp [hj]
def strData {H : Type} (ls : List (List UInt8)) : DataW H := .agg (ls.map fun l => .lit (.string l))
theorem cells_of_strs {H : Type} {enc : TypeId × Value → H} {P : Program} {w : World} {base : Nat} {sp : Nat → Bool} {held : Bool} {fuel : Nat} {t e : TypeId} {n : Nat} {cs : List Value} {ls : List (List UInt8)} {p : List MemPlace}
    (ht : P.underlying t = some (.array n e)) (he : P.underlying e = some .string) (hce : P.cellsOf e = 1) (hct : P.cellsOf t = n)
    (h : DataW.trod enc P w base sp held fuel t cs = some (strData ls, p)) : cs = ls.map fun l => Value.string ⟨l.toArray⟩ := by
  obtain ⟨xs, m, _, hx, hl, hxl, hf⟩ := DataW.trod_array ht h
  have hxs : xs.map (·.1) = ls.map fun l => (DataW.lit (.string l) : DataW H) := by
    have := congrArg Prod.fst hx
    simpa [strData] using this.symm
  have hzl : ls.length = n := by
    have := congrArg List.length hxs
    simp at this
    omega
  rw [hct] at hl
  apply List.ext_getElem?
  intro i
  by_cases hi : i < n
  · have hh := hf i hi
    rw [hce, Nat.mul_one] at hh
    rw [List.getElem?_eq_getElem (by omega)] at hh
    obtain ⟨s, hc, hb, _⟩ := DataW.trod_string he hh
    have h1 : cs[i]? = some (.string s) := by
      have := congrArg (·[0]?) hc
      simpa [List.getElem?_take, List.getElem?_drop] using this
    have h2 : (xs.map (·.1))[i]? = some (DataW.lit (.string s.data.toList) : DataW H) := by
      rw [List.getElem?_map, List.getElem?_eq_getElem (by omega), hb]
      rfl
    rw [hxs] at h2
    simp only [List.getElem?_map, Option.map_eq_some_iff, DataW.lit.injEq, Lit.string.injEq] at h2
    obtain ⟨l', hz', hl'⟩ := h2
    subst hl'
    simp [h1, hz']
  · rw [List.getElem?_eq_none (by omega), List.getElem?_eq_none (by simp; omega)]

section
variable {P : Program} {W : World} {name : String} {g : Nat} {t e : TypeId} {n : Nat}
theorem of_laidP {k : IntKind} {zs : List Int} (hg : P.globalNamed name = some g) (hty : (P.globals[g]?).map (·.type) = some t) (ht : P.underlying t = some (.array n e)) (he : P.underlying e = some (.int k)) (hce : P.cellsOf e = 1) (hct : P.cellsOf t = n) :
    ∀ {laid : List (String × DataW Unit)} {ps : List MemPlace}, (name, Lib.tabData k zs) ∈ laid → DataW.LaidVars P W laid ps → Holds k g zs W := by
  intro laid
  induction laid with
  | nil => intro ps h; cases h
  | cons x xs ih =>
    intro ps hm hl
    obtain ⟨g', t', cs, fuel, p, q, hg', ht', hvar, hd, hr, _⟩ := hl
    rcases List.mem_cons.1 hm with e1 | e1
    · subst e1
      obtain rfl := Option.some.inj (hg.symm.trans hg')
      obtain rfl := Option.some.inj (hty.symm.trans ht')
      have hc := Lib.cells_of_tab ht he hce hct hd
      simp only [World.var?, hg, Option.bind_some] at hvar
      split at hvar
      · rename_i c t fr hh
        obtain rfl := Option.some.inj hvar
        refine ⟨t, fr, ?_⟩
        rw [hh]
        congr 2
        rw [← Array.toArray_toList (xs := c), hc]
      · cases hvar
    · exact ih e1 hr
theorem of_laidS {ls : List (List UInt8)} (hg : P.globalNamed name = some g) (hty : (P.globals[g]?).map (·.type) = some t) (ht : P.underlying t = some (.array n e)) (he : P.underlying e = some .string) (hce : P.cellsOf e = 1) (hct : P.cellsOf t = n) :
    ∀ {laid : List (String × DataW Unit)} {ps : List MemPlace}, (name, strData ls) ∈ laid → DataW.LaidVars P W laid ps → HoldsS g ls W := by
  intro laid
  induction laid with
  | nil => intro ps h; cases h
  | cons x xs ih =>
    intro ps hm hl
    obtain ⟨g', t', cs, fuel, p, q, hg', ht', hvar, hd, hr, _⟩ := hl
    rcases List.mem_cons.1 hm with e1 | e1
    · subst e1
      obtain rfl := Option.some.inj (hg.symm.trans hg')
      obtain rfl := Option.some.inj (hty.symm.trans ht')
      have hc := cells_of_strs ht he hce hct hd
      simp only [World.var?, hg, Option.bind_some] at hvar
      split at hvar
      · rename_i c t fr hh
        obtain rfl := Option.some.inj hvar
        refine ⟨t, fr, ?_⟩
        rw [hh]
        congr 2
        rw [← Array.toArray_toList (xs := c), hc]
      · cases hvar
    · exact ih e1 hr
end

/-- The powers of ten. -/
def TP (w : World) : Prop := Holds .u64 2 Lib.pow10Tab w
def nmP : String := ((Rows.fnFetchRow.laid.map (·.1)).getD 2 "")
theorem gP : Tryz.prog.globalNamed nmP = some 2 := by kernel_rfl
theorem yP : (Tryz.prog.globals[2]?).map (·.type) = some 136 := by kernel_rfl
theorem nP : Tryz.prog.cellsOf 136 = 20 := by kernel_rfl
theorem eP : Tryz.prog.cellsOf 126 = 1 := by kernel_rfl
set_option maxRecDepth 100000 in
theorem lP : (Rows.laid_internal_strconv_uint64pow10 : DataW Unit) = Lib.tabData .u64 Lib.pow10Tab := rfl
theorem tp_of {W : World} {laid : List (String × DataW Unit)} {ps : List MemPlace} (hm : (nmP, Rows.laid_internal_strconv_uint64pow10) ∈ laid) (h : DataW.LaidVars Tryz.prog W laid ps) : TP W :=
  of_laidP gP yP Tryz.underlying136 Tryz.underlying126 eP nP (lP ▸ hm) h
theorem tp_is {w : World} (h : TP w) : Lib.TabIs Tryz.prog w nmP .u64 Lib.pow10Tab := by
  obtain ⟨t, fr, h⟩ := h
  unfold Lib.TabIs World.var?
  rw [gP]
  simp only [Option.bind_some, h]
theorem eS : Tryz.prog.cellsOf 9 = 1 := by kernel_rfl
/-- The names of the flags. -/
def fls : List (List UInt8) := [[92, 83, 101, 101, 110], [92, 65, 110, 115, 119, 101, 114, 101, 100], [92, 70, 108, 97, 103, 103, 101, 100], [92, 68, 101, 108, 101, 116, 101, 100], [92, 68, 114, 97, 102, 116]]
def TF (w : World) : Prop := HoldsS 0 fls w
def nmF : String := ((Rows.fnFetchRow.laid.map (·.1)).getD 4 "")
theorem gF : Tryz.prog.globalNamed nmF = some 0 := by kernel_rfl
theorem yF : (Tryz.prog.globals[0]?).map (·.type) = some 105 := by kernel_rfl
theorem nF : Tryz.prog.cellsOf 105 = 5 := by kernel_rfl
theorem lF : (Rows.laid_loop_example_g00268_impl_flagNames : DataW Unit) = strData fls := rfl
theorem tf_of {W : World} {laid : List (String × DataW Unit)} {ps : List MemPlace} (hm : (nmF, Rows.laid_loop_example_g00268_impl_flagNames) ∈ laid) (h : DataW.LaidVars Tryz.prog W laid ps) : TF W :=
  of_laidS gF yF Tryz.underlying105 Tryz.underlying9 eS nF (lF ▸ hm) h
end Go.Proofs.YtbokolpjdaamiaaGreatDoor.tb

namespace Go.Proofs.YtbokolpjdaamiaaGreatDoor.qu
set_option linter.unusedVariables false

/-- The end of a line stands here. -/
def crlf (l : List UInt8) : Bool := l.head? == some 13 && l.tail.head? == some 10
/-- The byte ahead of this is the last one of its line. -/
def lastb (r : List UInt8) : Bool := r.isEmpty || crlf r
def hx (n : Nat) : UInt8 := tb.digs.getD n 0
def plain (c : UInt8) (la : Bool) : Bool := (decide (33 ≤ c.toNat) && decide (c.toNat ≤ 126) && c != 61) || (c == 32 && !la)
def form (c : UInt8) (la : Bool) : List UInt8 := if plain c la then [c] else [61, hx (c.toNat / 16), hx (c.toNat % 16)]
def lim (la : Bool) : Nat := if la then 76 else 75
/-- The quoted text of bytes, behind w characters of a line; of an end of line the second byte is passed by. -/
def qtS : Bool → Nat → List UInt8 → List UInt8
  | _, _, [] => []
  | true, _, _ :: r => qtS false 0 r
  | false, w, c :: r => if crlf (c :: r) then 13 :: 10 :: qtS true 0 r
    else if lim (lastb r) < w + (form c (lastb r)).length then 61 :: 13 :: 10 :: (form c (lastb r) ++ qtS false (form c (lastb r)).length r)
    else form c (lastb r) ++ qtS false (w + (form c (lastb r)).length) r
def qt (w : Nat) (l : List UInt8) : List UInt8 := qtS false w l

theorem qt_nil (w : Nat) : qt w [] = [] := by rw [qt, qtS]
theorem qt_crlf (w : Nat) (r : List UInt8) : qt w (13 :: 10 :: r) = 13 :: 10 :: qt 0 r := by
  rw [qt, qtS, if_pos (by simp [crlf]), qtS, qt]
theorem qt_soft {w : Nat} {c : UInt8} {r : List UInt8} (h : crlf (c :: r) = false) (h2 : lim (lastb r) < w + (form c (lastb r)).length) : qt w (c :: r) = 61 :: 13 :: 10 :: (form c (lastb r) ++ qt (form c (lastb r)).length r) := by
  rw [qt, qtS, if_neg (by rw [h]; decide), if_pos h2, qt]
theorem qt_on {w : Nat} {c : UInt8} {r : List UInt8} (h : crlf (c :: r) = false) (h2 : ¬ lim (lastb r) < w + (form c (lastb r)).length) : qt w (c :: r) = form c (lastb r) ++ qt (w + (form c (lastb r)).length) r := by
  rw [qt, qtS, if_neg (by rw [h]; decide), if_neg h2, qt]
theorem form_len (c : UInt8) (la : Bool) : 1 ≤ (form c la).length ∧ (form c la).length ≤ 3 := by
  unfold form
  split <;> simp
theorem crlf_iff {l : List UInt8} : crlf l = true ↔ ∃ r, l = 13 :: 10 :: r := by
  match l with
  | [] => simp [crlf]
  | [a] => simp [crlf]
  | a :: b :: r => simp [crlf]
theorem crlf_at (l : List UInt8) (i : Nat) : crlf (l.drop i) = (l.getD i 0 == 13 && l.getD (i + 1) 0 == 10) := by
  by_cases h : i < l.length
  · rw [b6.drop_cons h]
    by_cases h2 : i + 1 < l.length
    · rw [b6.drop_cons h2]
      simp [crlf]
    · rw [List.drop_eq_nil_of_le (i := i + 1) (by omega)]
      have e : l.getD (i + 1) 0 = 0 := by rw [List.getD_eq_getElem?_getD, List.getElem?_eq_none (by omega)]; rfl
      rw [e]
      simp [crlf]
  · rw [List.drop_eq_nil_of_le (by omega)]
    have e : l.getD i 0 = 0 := by rw [List.getD_eq_getElem?_getD, List.getElem?_eq_none (by omega)]; rfl
    rw [e]
    simp [crlf]
theorem last_at (l : List UInt8) (i : Nat) : lastb (l.drop i) = (decide (l.length ≤ i) || (l.getD i 0 == 13 && l.getD (i + 1) 0 == 10)) := by
  unfold lastb
  rw [crlf_at]
  congr 1
  by_cases h : l.length ≤ i
  · rw [List.drop_eq_nil_of_le h]
    simp [h]
  · rw [b6.drop_cons (by omega)]
    simp [h]
theorem at_crlf {l : List UInt8} {i w : Nat} (h : crlf (l.drop i) = true) : qt w (l.drop i) = [13, 10] ++ qt 0 (l.drop (i + 2)) := by
  obtain ⟨r, hr⟩ := crlf_iff.1 h
  have e : l.drop (i + 2) = r := by rw [← List.drop_drop, hr]; rfl
  rw [hr, qt_crlf, e]
  rfl
theorem at_soft {l : List UInt8} {i w : Nat} {la : Bool} {f : List UInt8} (hi : i < l.length) (h : crlf (l.drop i) = false) (hla : la = lastb (l.drop (i + 1))) (hf : f = form (l.getD i 0) la) (h2 : lim la < w + f.length) : qt w (l.drop i) = ([61, 13, 10] ++ f) ++ qt f.length (l.drop (i + 1)) := by
  subst hla hf
  rw [b6.drop_cons hi] at h ⊢
  rw [qt_soft h h2]
  simp
theorem at_on {l : List UInt8} {i w : Nat} {la : Bool} {f : List UInt8} (hi : i < l.length) (h : crlf (l.drop i) = false) (hla : la = lastb (l.drop (i + 1))) (hf : f = form (l.getD i 0) la) (h2 : ¬ lim la < w + f.length) : qt w (l.drop i) = f ++ qt (w + f.length) (l.drop (i + 1)) := by
  subst hla hf
  rw [b6.drop_cons hi] at h ⊢
  rw [qt_on h h2]
theorem grow {q p : List UInt8} {l : List UInt8} {i j w w' : Nat} (h : q ++ qt w (l.drop i) = qt 0 l) (e : qt w (l.drop i) = p ++ qt w' (l.drop j)) : (q ++ p) ++ qt w' (l.drop j) = qt 0 l := by
  rw [List.append_assoc, ← e, h]
theorem qt_len_n : ∀ (n : Nat) (w : Nat) (l : List UInt8), l.length ≤ n → (qt w l).length ≤ 6 * l.length := by
  intro n
  induction n with
  | zero =>
    intro w l h
    obtain rfl : l = [] := List.eq_nil_of_length_eq_zero (by omega)
    rw [qt_nil]
    simp
  | succ n ih =>
    intro w l h
    match l, h with
    | [], _ => rw [qt_nil]; simp
    | c :: r, h =>
      have hr : r.length ≤ n := by simp at h; omega
      by_cases hc : crlf (c :: r) = true
      · obtain ⟨r', hr'⟩ := crlf_iff.1 hc
        obtain ⟨rfl, rfl⟩ := List.cons.inj hr'
        rw [qt_crlf]
        have := ih 0 r' (by simp at hr; omega)
        simp
        omega
      · have hcf : crlf (c :: r) = false := by simpa using hc
        have hf := form_len c (lastb r)
        by_cases h2 : lim (lastb r) < w + (form c (lastb r)).length
        · rw [qt_soft hcf h2]
          have := ih (form c (lastb r)).length r hr
          simp
          omega
        · rw [qt_on hcf h2]
          have := ih (w + (form c (lastb r)).length) r hr
          simp
          omega
theorem qt_len (w : Nat) (l : List UInt8) : (qt w l).length ≤ 6 * l.length := qt_len_n l.length w l (Nat.le_refl _)
end Go.Proofs.YtbokolpjdaamiaaGreatDoor.qu
