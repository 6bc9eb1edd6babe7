/-
  Rows of texts: whether a text is among them, of the program's library and of the specification; their comparison by the law's own function.
-/
import Derived.Test.YtejmfffapkmjoaaDoorOwn
import Derived.Test.YtejmfffapkmjoaaDoorRows
import Derived.WalkKit
import Derived.WalkLawsBesides
import Derived.BigRegion
import Derived.WideShapes
import Derived.Deep.QuietTactic
import Derived.BigQuiet
import Derived.Lib.Strings
namespace Go.Proofs.YtejmfffapkmjoaaDoor.ky
open Go.RowKit
set_option linter.unusedVariables false

def nt : ByteArray := ⟨#[]⟩
/-- A slice of texts. -/
def TextsAt (w : World) (v : Value) (ks : List ByteArray) : Prop :=
  ∃ a cap, v = .slice a ks.length cap ∧ (ks = [] ∨ ∃ b off, a = some ⟨b, off, none⟩ ∧ ∀ j, j < ks.length → w.cell? ⟨b, off + j, none⟩ = some (.string (ks.getD j nt)))
theorem texts_below {w w' : World} {v : Value} {ks : List ByteArray} (h : TextsAt w v ks) (hb : Below w.heap.size w w') : TextsAt w' v ks := by
  obtain ⟨a, cap, rfl, h⟩ := h
  refine ⟨a, cap, rfl, ?_⟩
  rcases h with h | ⟨b, off, rfl, h⟩
  · exact .inl h
  · exact .inr ⟨b, off, rfl, fun j hj => (hb.cell (p := ⟨b, off + j, none⟩) (World.block_lt_of_cell? w _ (h j hj))).trans (h j hj)⟩
/-- A row of texts that a call made. -/
def OwnT (w : World) (base : Nat) (v : Value) (ks : List ByteArray) : Prop := w.ownsRow base 9 1 v ks.length (ks.map Value.string)
theorem own_texts {w : World} {base : Nat} {v : Value} {ks : List ByteArray} (h : OwnT w base v ks) : TextsAt w v ks := by
  rcases h.2 with ⟨rfl, h0⟩ | ⟨g, cap, cur, rfl, _⟩
  · obtain rfl := List.eq_nil_of_length_eq_zero h0
    exact ⟨none, 0, rfl, .inl rfl⟩
  · refine ⟨_, cap, rfl, .inr ⟨g, 0, rfl, fun j hj => ?_⟩⟩
    rw [Nat.zero_add, h.cellAt j (by omega)]
    simp [List.getD_eq_getElem?_getD, hj]
theorem ne_list {a b : ByteArray} (h : a ≠ b) : (a.toList == b.toList) = false := beq_eq_false_iff_ne.2 fun e => h (WideShapes.bytes_inj (by rw [← Lib.toList_data, ← Lib.toList_data]; exact e))
theorem get_in {ks : List ByteArray} {j : Nat} (h : j < ks.length) : ks.getD j nt ∈ ks := by rw [List.getD_eq_getElem?_getD, List.getElem?_eq_getElem h]; exact List.getElem_mem h
theorem not_in {ks : List ByteArray} {s : ByteArray} (h : ∀ j, j < ks.length → ks.getD j nt ≠ s) : s ∉ ks := by
  intro hm
  obtain ⟨j, hj, e⟩ := List.mem_iff_getElem.1 hm
  apply h j hj
  rw [List.getD_eq_getElem?_getD, List.getElem?_eq_getElem hj]
  exact e
/-- Whether a text is among some. -/
def has (ks : List ByteArray) (s : ByteArray) : Bool := decide (s.data ∈ ks.map fun k => k.data)
theorem has_of {ks : List ByteArray} {s : ByteArray} (h : has ks s = true) : s ∈ ks := by
  obtain ⟨x, hx, e⟩ := List.mem_map.1 (of_decide_eq_true h)
  exact ByteArray.ext e ▸ hx
theorem has_yes {ks : List ByteArray} {s : ByteArray} (h : s ∈ ks) : has ks s = true := decide_eq_true (List.mem_map.2 ⟨s, h, rfl⟩)
theorem has_no {ks : List ByteArray} {s : ByteArray} (h : s ∉ ks) : has ks s = false := by
  cases e : has ks s
  · rfl
  · exact absurd (has_of e) h

set_option maxHeartbeats 1000000 in
set_option maxRecDepth 100000 in
theorem eqTexts_any (v u : Value) (ks : List ByteArray) (w : World) (h1 : TextsAt w v ks) (h2 : TextsAt w u ks) (hn : ks.length ≤ 1048576) :
    Calls Tryd.prog 10 #[v, u] w fun e w' => e = .returned (.bool true) ∧ Below w.heap.size w w' := by
  obtain ⟨a, cap, rfl, h1⟩ := h1
  obtain ⟨c, cap2, rfl, h2⟩ := h2
  obtain ⟨n, hn'⟩ : ∃ n, n = ks.length := ⟨_, rfl⟩
  have HN : Hid (n = ks.length) := hn'
  have H1 : Hid (ks = [] ∨ ∃ b off, a = some ⟨b, off, none⟩ ∧ ∀ j, j < ks.length → w.cell? ⟨b, off + j, none⟩ = some (.string (ks.getD j nt))) := h1
  have H2 : Hid (ks = [] ∨ ∃ b off, c = some ⟨b, off, none⟩ ∧ ∀ j, j < ks.length → w.cell? ⟨b, off + j, none⟩ = some (.string (ks.getD j nt))) := h2
  rw [← hn'] at hn ⊢
  clear h1 h2 hn'
  have hnn : ((n : Int) != (n : Int)) = false := by simp
  go_enter Tryd.func10, Tryd.ntmps10
  go_wp2
  go_loopw [5] (fun i wr => ∃ k : Nat, k ≤ n ∧ i = .int .i64 k ∧ Below w.heap.size w wr) (fun i _ => n - (intOf i).toNat)
  case atStart => exact ⟨0, Nat.zero_le _, rfl, Below.refl _ _⟩
  case round =>
    obtain ⟨k, hk, rfl, hbw⟩ := hrel
    by_cases hlt : k < n
    · have hka : k < ks.length := by rw [← HN.out]; exact hlt
      rcases H1.out with e | ⟨b, off, rfl, hcells⟩
      · rw [e] at hka; simp at hka
      rcases H2.out with e | ⟨b2, off2, rfl, hcells2⟩
      · rw [e] at hka; simp at hka
      have v0 := hcells k hka
      have u0 := hcells2 k hka
      have c0 := (hbw.cell (p := ⟨b, off + k, none⟩) (World.block_lt_of_cell? w _ v0)).trans v0
      have d0 := (hbw.cell (p := ⟨b2, off2 + k, none⟩) (World.block_lt_of_cell? w _ u0)).trans u0
      clear hcells hka hcells2 v0 u0
      generalize ks.getD k nt = x at c0 d0
      have hxx : (x.toList == x.toList) = true := by simp
      have hlt' : (k : Int) < (n : Int) := by omega
      have hk0 : (0 : Int) ≤ (k : Int) := by omega
      go_wp2
      go_quiet (fail)
      have b3 : Below w.heap.size w (wr.drewN nq) := ⟨hbw.os, hbw.tape, hbw.output, hbw.size, hbw.block⟩
      clear c0 d0
      go_wp2
      go_roundw
      case rel => exact ⟨k + 1, by omega, by go_num, b3⟩
      case measure => simp [intOf]; omega
    · go_wp2
      go_ret
      exact ⟨rfl, hbw⟩
end Go.Proofs.YtejmfffapkmjoaaDoor.ky
