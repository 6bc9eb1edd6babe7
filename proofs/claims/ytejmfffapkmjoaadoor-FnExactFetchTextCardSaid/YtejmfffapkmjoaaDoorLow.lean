/-
  Letters of either size: both functions that write a text in small letters.
-/
import Derived.Test.YtejmfffapkmjoaaDoorOmk
import Derived.Test.YtejmfffapkmjoaaDoorRows
import Derived.WalkKit
import Derived.WalkLawsBesides
import Derived.Lib.ConvBytes
import Derived.Below
namespace Go.Proofs.YtejmfffapkmjoaaDoor.lo
open Go.RowKit
set_option linter.unusedVariables false

/-- A great letter's small one. -/
def low (c : UInt8) : UInt8 := if 65 ≤ c.toNat ∧ c.toNat ≤ 90 then UInt8.ofNat (c.toNat + 32) else c
def lower (l : List UInt8) : List UInt8 := l.map low
theorem lower_len (l : List UInt8) : (lower l).length = l.length := List.length_map _
/-- The first so many letters written in small ones. -/
def upTo (l : List UInt8) (k : Nat) : List UInt8 := lower (l.take k) ++ l.drop k
theorem upTo_len (l : List UInt8) (k : Nat) : (upTo l k).length = l.length := by
  rw [upTo, List.length_append, lower_len, List.length_take, List.length_drop]; omega
theorem upTo_zero (l : List UInt8) : upTo l 0 = l := by simp [upTo, lower]
theorem upTo_all (l : List UInt8) (k : Nat) (h : l.length ≤ k) : upTo l k = lower l := by
  rw [upTo, List.take_of_length_le h, List.drop_eq_nil_of_le h, List.append_nil]
theorem upTo_at (l : List UInt8) (k : Nat) (h : k < l.length) : (upTo l k).getD k 0 = l.getD k 0 := by
  have hk : (lower (l.take k)).length = k := by rw [lower_len, List.length_take]; omega
  simp only [upTo, List.getD_eq_getElem?_getD]
  rw [List.getElem?_append_right (by omega), hk, Nat.sub_self, List.getElem?_drop, Nat.add_zero]
theorem upTo_step (l : List UInt8) (k : Nat) (h : k < l.length) : upTo l (k + 1) = (upTo l k).set k (low (l.getD k 0)) := by
  have hk : (lower (l.take k)).length = k := by rw [lower_len, List.length_take]; omega
  have e : l.getD k 0 = l[k] := by simp [List.getD_eq_getElem?_getD, h]
  unfold upTo
  rw [List.set_append_right _ _ (by omega), hk, Nat.sub_self, List.drop_eq_getElem_cons h, List.set_cons_zero, List.take_succ_eq_append_getElem h, e]
  unfold lower
  rw [List.map_append, List.append_assoc]
  rfl
theorem upTo_same (l : List UInt8) (k : Nat) (h : k < l.length) (hc : low (l.getD k 0) = l.getD k 0) : upTo l (k + 1) = upTo l k := by
  rw [upTo_step l k h, hc, ← upTo_at l k h]
  have hl : k < (upTo l k).length := by rw [upTo_len]; exact h
  rw [List.getD_eq_getElem?_getD, List.getElem?_eq_getElem hl, Option.getD_some, List.set_getElem_self]

theorem ownC_set {w : World} {base g cap n : Nat} {l : List UInt8} (h : ow.OwnC w base (.slice (some ⟨g, 0, none⟩) n cap) l) (j : Nat) (c : UInt8) (hj : j < l.length) :
    ow.OwnC (w.setCell ⟨g, j, none⟩ (.int .u8 (c.toNat : Int))) base (.slice (some ⟨g, 0, none⟩) n cap) (l.set j c) := by
  obtain ⟨g', cap', hv, h1, h2, h3, h4, h5, h6⟩ := h
  simp only [Value.slice.injEq, Option.some.injEq, Addr.mk.injEq, and_true] at hv
  obtain ⟨rfl, rfl, rfl⟩ := hv
  have hne : ∀ i, i ≠ j → (⟨g, j, none⟩ : Addr) ≠ ⟨g, i, none⟩ := fun i hi e => hi (by simpa using e.symm)
  refine ⟨g, cap, by rw [List.length_set], h1, by simpa [World.setCell] using h2, by rw [List.length_set]; exact h3, h4, fun i hi => ?_, fun i hi => ?_⟩
  · have hf : (w.setCell ⟨g, j, none⟩ (.int .u8 (c.toNat : Int))).frozen? ⟨g, i, none⟩ = w.frozen? ⟨g, i, none⟩ := World.frozen?_setCells g [.int .u8 (c.toNat : Int)] j w ⟨g, i, none⟩
    refine ⟨?_, hf.trans (h5 i hi).2⟩
    by_cases e : i = j
    · subst e
      obtain ⟨u, hu⟩ := Option.isSome_iff_exists.1 (h5 i hi).1
      rw [World.cell?_setCell_same _ _ _ hu]
      rfl
    · rw [World.cell?_setCell_other _ _ _ _ (hne i e)]
      exact (h5 i hi).1
  · rw [List.length_set] at hi
    by_cases e : i = j
    · subst e
      rw [World.cell?_setCell_same _ _ _ (h6 i hi)]
      simp [List.getD_eq_getElem?_getD, hi]
    · rw [World.cell?_setCell_other _ _ _ _ (hne i e), h6 i hi]
      rw [List.getD_eq_getElem?_getD, List.getD_eq_getElem?_getD, List.getElem?_set_ne (by omega)]
theorem conv_part {P : Program} {w : World} {src dst e : TypeId} {g cap : Nat} (l : List UInt8) (hs : P.underlying src = some (.slice e)) (he : P.underlying e = some (.int .u8)) (hd : P.underlying dst = some .string)
    (hc : ∀ j, j < l.length → w.cell? ⟨g, j, none⟩ = some (.int .u8 ((l.getD j 0).toNat : Int))) : (convert src dst (.slice (some ⟨g, 0, none⟩) l.length cap)).run P w = .ok (.string ⟨l.toArray⟩) w := by
  refine run_convert_bytes_back w src dst e ⟨g, 0, none⟩ cap l hs he hd (fun j hj => ?_)
  rw [show ((⟨g, 0, none⟩ : Addr).add j) = ⟨g, j, none⟩ from by simp [Addr.add]; omega, hc j hj]
  simp [List.getD_eq_getElem?_getD, hj]
theorem low_great {c : UInt8} (h1 : 65 ≤ (c.toNat : Int)) (h2 : (c.toNat : Int) ≤ 90) : ((low c).toNat : Int) = (c.toNat : Int) + 32 := by
  unfold low
  rw [if_pos (by omega), UInt8.toNat_ofNat']
  omega
theorem low_other {c : UInt8} (h : ¬ (65 ≤ (c.toNat : Int) ∧ (c.toNat : Int) ≤ 90)) : low c = c := by
  unfold low
  rw [if_neg (by omega)]

/-- Bytes made of a text, of which the first so many letters are small. -/
def Mid (w wr : World) (s : ByteArray) (cap k : Nat) : Prop := ow.OwnC wr w.heap.size (.slice (some ⟨w.heap.size, 0, none⟩) s.size cap) (upTo s.data.toList k) ∧ Below w.heap.size w wr
theorem mid_start (w : World) (s : ByteArray) (hs : s.size ≤ maxLen) : Mid w (Lib.bytesWorld w 5 s) s (grownCap w s.size 0 5) 0 := by
  refine ⟨?_, ow.below_conv w _ s⟩
  rw [upTo_zero]
  exact ow.ownC_conv w _ s hs
section
variable {w wr : World} {s : ByteArray} {cap k : Nat}
theorem Mid.cell (h : Mid w wr s cap k) (hk : k < s.size) : wr.cell? ⟨w.heap.size, k, none⟩ = some (.int .u8 (((s[k]'hk).toNat : Nat) : Int)) := by
  obtain ⟨g, cap', hv, h1, h2, h3, h4, h5, h6⟩ := h.1
  simp only [Value.slice.injEq, Option.some.injEq, Addr.mk.injEq, and_true] at hv
  obtain ⟨rfl, hl, rfl⟩ := hv
  have hk' : k < s.data.toList.length := by rw [← Lib.size_eq]; exact hk
  rw [h6 k (by rw [upTo_len]; exact hk'), upTo_at _ _ hk']
  rw [List.getD_eq_getElem?_getD, List.getElem?_eq_getElem hk']
  rfl
theorem Mid.free (h : Mid w wr s cap k) (hk : k < s.size) : wr.frozen? ⟨w.heap.size, k, none⟩ = false := by
  obtain ⟨g, cap', hv, h1, h2, h3, h4, h5, h6⟩ := h.1
  simp only [Value.slice.injEq, Option.some.injEq, Addr.mk.injEq, and_true] at hv
  obtain ⟨rfl, hl, rfl⟩ := hv
  exact (h5 k (by rw [← hl] at h3; omega)).2
theorem getD_at (hk : k < s.size) : s.data.toList.getD k 0 = s[k] := by
  have hk' : k < s.data.toList.length := by rw [← Lib.size_eq]; exact hk
  rw [List.getD_eq_getElem?_getD, List.getElem?_eq_getElem hk']
  rfl
theorem Mid.great (h : Mid w wr s cap k) (hk : k < s.size) (h1 : 65 ≤ ((s[k]'hk).toNat : Int)) (h2 : ((s[k]'hk).toNat : Int) ≤ 90) : Mid w (wr.setCell ⟨w.heap.size, k, none⟩ (.int .u8 (((s[k]'hk).toNat : Int) + 32))) s cap (k + 1) := by
  have hk' : k < s.data.toList.length := by rw [← Lib.size_eq]; exact hk
  refine ⟨?_, h.2.setCell (p := ⟨w.heap.size, k, none⟩) (Nat.le_refl _) _⟩
  rw [upTo_step _ _ hk', getD_at hk, ← low_great h1 h2]
  exact ownC_set h.1 k _ (by rw [upTo_len]; exact hk')
theorem Mid.other (h : Mid w wr s cap k) (hk : k < s.size) (hn : ¬ (65 ≤ ((s[k]'hk).toNat : Int) ∧ ((s[k]'hk).toNat : Int) ≤ 90)) : Mid w wr s cap (k + 1) := by
  have hk' : k < s.data.toList.length := by rw [← Lib.size_eq]; exact hk
  refine ⟨?_, h.2⟩
  rw [upTo_same _ _ hk' (by rw [getD_at hk]; exact low_other hn)]
  exact h.1
theorem Mid.text (h : Mid w wr s cap k) (hk : s.size ≤ k) : (convert 57 9 (.slice (some ⟨w.heap.size, 0, none⟩) s.size cap)).run Tryd.prog wr = .ok (.string ⟨(lower s.data.toList).toArray⟩) wr := by
  obtain ⟨g, cap', hv, h1, h2, h3, h4, h5, h6⟩ := h.1
  simp only [Value.slice.injEq, Option.some.injEq, Addr.mk.injEq, and_true] at hv
  obtain ⟨rfl, hl, rfl⟩ := hv
  rw [upTo_all _ _ (by rw [← Lib.size_eq]; exact hk)] at hl h6
  rw [hl]
  exact conv_part (lower s.data.toList) Tryd.underlying57 Tryd.underlying5 Tryd.underlying9 h6
end
theorem u8_add {c : Int} (h1 : 65 ≤ c) (h2 : c ≤ 90) : IntKind.u8.wrap (c + 32) = c + 32 := by
  have h256 : (2 : Int) ^ IntKind.u8.bits = 256 := rfl
  unfold IntKind.wrap
  simp only [h256, show IntKind.u8.signed = false from rfl, Bool.false_and, Bool.false_eq_true, if_false]
  omega

end Go.Proofs.YtejmfffapkmjoaaDoor.lo
