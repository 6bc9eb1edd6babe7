/-
  Commands that fall into pieces: plain facts, and the law's own helpers.
-/
import Derived.Test.YtakdpicjkbfpiaaDoorTkb
import Derived.Test.YtakdpicjkbfpiaaDoorTkd
import Derived.Test.YtakdpicjkbfpiaaDoorArg
namespace Go.Proofs.YtakdpicjkbfpiaaDoor.tk
open Go.RowKit
open ky (OwnT TextsAt own_texts texts_below)
set_option linter.unusedVariables false

def fl (L : List ByteArray) : List (List UInt8) := L.map fun s => s.data.toList
theorem lt_ln {s : ByteArray} (h : Lt 64 s) : Ln s.data.toList := ⟨by rw [← Lib.size_eq]; have := h.1; omega, h.2⟩
theorem cat_app : ∀ (a b : List (List UInt8)), cat (a ++ b) = cat a ++ cat b
  | [], b => rfl
  | l :: a, b => by
    rw [List.cons_append, cat, cat, cat_app a b]
    simp
theorem fl_take {L : List ByteArray} {k : Nat} (h : k < L.length) : fl (L.take (k + 1)) = fl (L.take k) ++ [(L.getD k ky.nt).data.toList] := by
  unfold fl
  rw [List.take_succ_eq_append_getElem h, List.map_append]
  simp [List.getD_eq_getElem?_getD, h]
theorem cat_next {L : List ByteArray} {k : Nat} {A s : ByteArray} (h : k < L.length) (hs : s = L.getD k ky.nt) (hA : A.data.toList = cat (fl (L.take k))) : (A ++ (s ++ ⟨#[13, 10]⟩)).data.toList = cat (fl (L.take (k + 1))) := by
  rw [fl_take h, cat_app, ← hA, ← hs]
  simp [cat]
theorem part2 {A B : ByteArray} {L : List ByteArray} {k : Nat} (hk : k ≤ L.length) (h : B.data.toList ++ A.data.toList = cat (fl (L.drop k))) (hL : ∀ s ∈ L, Lt 64 s) :
    (Lib.index B.data.toList [13, 10] = -1 ∧ B.size ≤ 121 ∧ (A.size = 0 → B.size = 0 ∧ k = L.length)) ∨ ∃ s r : ByteArray, k < L.length ∧ Lt 64 s ∧ B.data.toList = s.data.toList ++ 13 :: 10 :: r.data.toList ∧ r.data.toList ++ A.data.toList = cat (fl (L.drop (k + 1))) ∧ L.take (k + 1) = L.take k ++ [s] := by
  rcases part h (fun l hl => by
    obtain ⟨s, hs, rfl⟩ := List.mem_map.1 hl
    exact lt_ln (hL s (List.mem_of_mem_drop hs))) with ⟨h1, h2, h3⟩ | ⟨l, ls', B', e1, e2, e3⟩
  · refine .inl ⟨h1, by rw [Lib.size_eq]; exact h2, fun e => ?_⟩
    have e0 : A.data.toList = [] := List.eq_nil_of_length_eq_zero (by rw [← Lib.size_eq]; exact e)
    obtain ⟨q1, q2⟩ := h3 e0
    refine ⟨by rw [Lib.size_eq, q1]; rfl, ?_⟩
    have : (fl (L.drop k)).length = 0 := by rw [q2]; rfl
    simp [fl] at this
    omega
  · have hk2 : k < L.length := by
      by_cases hk3 : k < L.length
      · exact hk3
      · rw [List.drop_eq_nil_of_le (by omega)] at e1
        cases e1
    refine .inr ⟨L[k], ⟨B'.toArray⟩, hk2, hL _ (List.getElem_mem hk2), ?_, ?_, ?_⟩
    · rw [List.drop_eq_getElem_cons hk2] at e1
      injection e1 with e4 e5
      rw [e2, ← e4]
    · rw [List.drop_eq_getElem_cons hk2] at e1
      injection e1 with e4 e5
      rw [show (⟨B'.toArray⟩ : ByteArray).data.toList = B' from rfl, e3, ← e5]
      rfl
    · rw [List.take_succ_eq_append_getElem hk2]

set_option maxHeartbeats 1000000 in
set_option maxRecDepth 100000 in
theorem sameTexts_any (v u : Value) (ks : List ByteArray) (w : World) (h1 : TextsAt w v ks) (h2 : TextsAt w u ks) (hn : ks.length ≤ 1048576) :
    Calls Tryd.prog 15 #[v, u] w fun e w' => e = .returned (.bool true) ∧ Below w.heap.size w w' := by
  obtain ⟨a, cap, rfl, h1⟩ := h1
  obtain ⟨c, cap2, rfl, h2⟩ := h2
  obtain ⟨n, hn'⟩ : ∃ n, n = ks.length := ⟨_, rfl⟩
  have HN : Hid (n = ks.length) := hn'
  have H1 : Hid (ks = [] ∨ ∃ b off, a = some ⟨b, off, none⟩ ∧ ∀ j, j < ks.length → w.cell? ⟨b, off + j, none⟩ = some (.string (ks.getD j ky.nt))) := h1
  have H2 : Hid (ks = [] ∨ ∃ b off, c = some ⟨b, off, none⟩ ∧ ∀ j, j < ks.length → w.cell? ⟨b, off + j, none⟩ = some (.string (ks.getD j ky.nt))) := h2
  rw [← hn'] at hn ⊢
  clear h1 h2 hn'
  have hnn : ((n : Int) != (n : Int)) = false := by simp
  go_enter Tryd.func15, Tryd.ntmps15
  go_wp2
  go_loopw [5] (fun i wr => ∃ k : Nat, k ≤ n ∧ i = .int .i64 k ∧ Below w.heap.size w wr) (fun i _ => n - (intOf i).toNat)
  case atStart => exact ⟨0, Nat.zero_le _, rfl, Below.refl _ _⟩
  case round =>
    obtain ⟨k, hk, rfl, hbw⟩ := hrel
    by_cases hlt : k < n
    · have hka : k < ks.length := by rw [← HN.out]; exact hlt
      rcases H1.out with e | ⟨b, off, rfl, hcells⟩
      · rw [e] at hka; simp at hka
      rcases H2.out with e | ⟨b2, off2, rfl, hcells2⟩
      · rw [e] at hka; simp at hka
      have v0 := hcells k hka
      have u0 := hcells2 k hka
      have c0 := (hbw.cell (p := ⟨b, off + k, none⟩) (World.block_lt_of_cell? w _ v0)).trans v0
      have d0 := (hbw.cell (p := ⟨b2, off2 + k, none⟩) (World.block_lt_of_cell? w _ u0)).trans u0
      clear hcells hka hcells2 v0 u0
      generalize ks.getD k ky.nt = x at c0 d0
      have hxx : (x.toList == x.toList) = true := by simp
      have hlt' : (k : Int) < (n : Int) := by omega
      have hk0 : (0 : Int) ≤ (k : Int) := by omega
      go_wp2
      go_quiet (fail)
      have b3 : Below w.heap.size w (wr.drewN nq) := ⟨hbw.os, hbw.tape, hbw.output, hbw.size, hbw.block⟩
      clear c0 d0
      go_wp2
      go_roundw
      case rel => exact ⟨k + 1, by omega, by go_num, b3⟩
      case measure => simp [intOf]; omega
    · go_wp2
      go_ret
      exact ⟨rfl, hbw⟩
/-- How long a text is. -/
def strLen : Value → Nat
  | .string t => t.size
  | _ => 0
theorem ext_cut {A B : ByteArray} {m : Nat} (h : m ≤ A.size) : (B ++ A.extract 0 m).data.toList ++ (A.extract m A.size).data.toList = B.data.toList ++ A.data.toList := by
  have e1 : (A.extract 0 m).data.toList = A.data.toList.take m := by
    rw [ByteArray.data_extract, Array.toList_extract, List.extract_eq_drop_take', List.drop_zero]
  have e2 : (A.extract m A.size).data.toList = A.data.toList.drop m := by
    rw [ByteArray.data_extract, Array.toList_extract, List.extract_eq_drop_take', List.take_of_length_le (by simp)]
  rw [ByteArray.data_append, Array.toList_append, e1, e2, List.append_assoc, List.take_append_drop]
theorem empty_of {C : ByteArray} (h : C.size = 0) : C.toList.isEmpty = true ∧ (C.toList == []) = true ∧ (C.toList != []) = false := by
  have e : C.toList = [] := by rw [Lib.toList_data]; exact List.eq_nil_of_length_eq_zero (by rw [← Lib.size_eq]; exact h)
  rw [e]
  exact ⟨rfl, rfl, rfl⟩
theorem some_of {C : ByteArray} (h : ¬ C.size = 0) : C.toList.isEmpty = false ∧ (C.toList == []) = false ∧ (C.toList != []) = true := by
  have e : C.toList ≠ [] := by
    intro e
    rw [Lib.toList_data] at e
    exact h (by rw [Lib.size_eq, e]; rfl)
  match C.toList, e with
  | [], e => exact absurd rfl e
  | a :: b, _ => exact ⟨rfl, rfl, rfl⟩
end Go.Proofs.YtakdpicjkbfpiaaDoor.tk
