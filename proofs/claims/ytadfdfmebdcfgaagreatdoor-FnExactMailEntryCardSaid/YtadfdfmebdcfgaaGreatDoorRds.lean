/-
  The specification's parting of a text at each blank: the words, and the cells of five of them.
-/
import Derived.Test.YtadfdfmebdcfgaaGreatDoorRdn
import Derived.Test.YtadfdfmebdcfgaaGreatDoorCtl
namespace Go.Proofs.YtadfdfmebdcfgaaGreatDoor.rd
open Go.RowKit
open dt
set_option linter.unusedVariables false
theorem cut_wds : ∀ (l acc : List UInt8), hd.cutGo acc l = wds acc l
  | [], acc => rfl
  | b :: l, acc => by
    rw [hd.cutGo, wds]
    by_cases h : b = 32
    · rw [if_pos h, if_pos (by rw [h]; rfl), cut_wds l []]
    · rw [if_neg h, if_neg (fun e : b.toNat = 32 => h (UInt8.toNat_inj.1 e)), cut_wds l _]
/-- The parts of a text lie where a slice leads to, in memory that the call made. -/
def PartsAt (V : List (List UInt8)) (v : Value) (w : World) (base : Nat) : Prop := w.ownsRow base 9 1 v V.length (V.map hd.tv)
theorem cut_words (s : ByteArray) (w : World) (hs : s.size ≤ 1048576) : Calls Tryz.prog 80 #[.string s, .int .u8 32] w fun e w' => ∃ v, e = .returned v ∧ PartsAt (wds [] s.data.toList) v w' w.heap.size ∧ Below w.heap.size w w' := by
  have := hd.cut_any s w hs
  rw [cut_wds] at this
  exact this
theorem parts_form {V : List (List UInt8)} {v : Value} {w : World} {base : Nat} (h : PartsAt V v w base) (hne : V ≠ []) : ∃ g cap, v = .slice (some ⟨g, 0, none⟩) V.length cap ∧ base ≤ g ∧ g < w.heap.size ∧ ∀ j (hj : j < V.length), w.cell? ⟨g, j, none⟩ = some (.string ⟨(V[j]'hj).toArray⟩) := by
  rcases h.2 with ⟨rfl, h0⟩ | ⟨g, cap, cur, rfl, hb, hc, hdd⟩
  · exact absurd (List.eq_nil_of_length_eq_zero (by have := h.1; simp at this; omega)) hne
  · refine ⟨g, cap, rfl, hb, (Array.getElem?_eq_some_iff.1 hc).1, fun j hj => ?_⟩
    rw [h.cellAt j (by omega)]
    simp [hj, hd.tv]
end Go.Proofs.YtadfdfmebdcfgaaGreatDoor.rd
