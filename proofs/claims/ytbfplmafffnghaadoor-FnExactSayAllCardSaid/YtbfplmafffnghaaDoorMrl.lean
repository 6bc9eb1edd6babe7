/-
  Rows of texts, and of entries, marked by the law's own functions, and held against the marks.
-/
import Derived.Test.YtbfplmafffnghaaDoorMrt
import Derived.Test.YtbfplmafffnghaaDoorKya
import Derived.Test.YtbfplmafffnghaaDoorGrw
namespace Go.Proofs.YtbfplmafffnghaaDoor.mk
open Go.RowKit
open ky gr
set_option linter.unusedVariables false

/-- So many marks, from a number on. -/
def marks (k : Int) (n : Nat) : List ByteArray := (List.range n).map fun (i : Nat) => mt (k + (i : Int))
theorem marks_len (k : Int) (n : Nat) : (marks k n).length = n := by simp [marks]
theorem marks_get {k : Int} {n j : Nat} (h : j < n) : (marks k n).getD j nt = mt (k + (j : Int)) := by simp [marks, List.getD_eq_getElem?_getD, h]
theorem grown_set (w : World) (g j : Nat) (u : Value) : w.grownBy (w.setCell ⟨g, j, none⟩ u) (some g) :=
  ⟨rfl, rfl, rfl, by simp [World.setCell], fun i hi hr => heap_setCell_other w ⟨g, j, none⟩ i u (fun e => hr (by rw [e]))⟩
theorem grown_row {w w' : World} {r : Option Nat} (h : w.grownBy w' none) : w.grownBy w' r := ⟨h.os, h.tape, h.output, h.size, fun i hi _ => h.block i hi (by simp)⟩
def Upto (k : Int) (j : Nat) (xs : List Value) : Prop := ∀ i, i < j → xs[i]? = some (.string (mt (k + (i : Int))))
theorem upto_step {k : Int} {j : Nat} {xs : List Value} (h : Upto k j xs) (hl : j < xs.length) : Upto k (j + 1) (xs.set j (.string (mt (k + (j : Int))))) := by
  intro i hi
  by_cases e : i = j
  · subst e; rw [List.getElem?_set_self hl]
  · rw [List.getElem?_set_ne (by omega)]; exact h i (by omega)
theorem upto_all {k : Int} {n : Nat} {xs : List Value} (h : Upto k n xs) (hl : xs.length = n) : xs = (marks k n).map Value.string := by
  refine List.ext_getElem? fun i => ?_
  by_cases hi : i < n
  · rw [h i hi]; simp [marks, hi]
  · rw [List.getElem?_eq_none (by omega), List.getElem?_eq_none (by simp [marks]; omega)]

set_option maxHeartbeats 1000000 in
set_option maxRecDepth 100000 in
theorem markTexts_any (v : Value) (base : Nat) (ks : List ByteArray) (k : Int) (w : World) (h : OwnT w base v ks) (hn : ks.length ≤ 1048576) (h0 : 0 < k) (h1 : k ≤ 10000000) :
    Calls Tryd.prog 9 #[v, .int .i64 k] w fun e w' => e = .returned (.int .i64 (k + (ks.length : Int))) ∧ OwnT w' base v (marks k ks.length) ∧ w.grownBy w' v.ownBlock := by
  unfold OwnT at h
  have hxl := h.1
  have HO : Hid (w.ownsRow base 9 1 v ks.length (ks.map Value.string)) := h
  obtain ⟨n, hn'⟩ : ∃ n, n = ks.length := ⟨_, rfl⟩
  rcases h.2 with ⟨rfl, hz⟩ | ⟨g, cap, cur, rfl, _⟩
  · have HZ : Hid (ks.length = 0) := hz
    have HM : Hid (OwnT w base (.slice none 0 0) (marks k ks.length)) := by
      show w.ownsRow _ _ _ _ _ _
      rw [marks_len, hz]
      exact World.ownsRow_nil _ _ _ _
    rw [hz]
    clear h hz hn hn' hxl
    go_enter Tryd.func9, Tryd.ntmps9
    go_wp2
    go_loop [1, 5] (fun z i => z = .int .i64 k ∧ i = .int .i64 0) (fun _ _ => 0)
    case atStart => exact ⟨rfl, rfl⟩
    case round =>
      obtain ⟨rfl, rfl⟩ := hrel
      go_wp2
      go_ret
      refine ⟨by simp, ?_, ow.grown_refl _ _⟩
      have := HM.out
      rwa [HZ.out] at this
  have HN : Hid (n = ks.length) := hn'
  generalize hxs : ks.map Value.string = xs0 at HO hxl
  rw [← hn'] at hn HO hxl ⊢
  clear h hxs hn'
  go_enter Tryd.func9, Tryd.ntmps9
  go_wp2
  go_loopw [1, 5] (fun z i wr => ∃ (j : Nat) (xs : List Value), j ≤ n ∧ z = .int .i64 (k + (j : Int)) ∧ i = .int .i64 j ∧ xs.length = n ∧ Upto k j xs ∧ wr.ownsRow base 9 1 (.slice (some ⟨g, 0, none⟩) n cap) n xs ∧ w.grownBy wr (some g)) (fun _ i _ => n - (intOf i).toNat)
  case atStart => exact ⟨0, xs0, Nat.zero_le _, by simp, rfl, by omega, fun i hi => absurd hi (Nat.not_lt_zero _), HO.out, ow.grown_refl _ _⟩
  case round =>
    obtain ⟨j, xs, hj, rfl, rfl, hxl, hu, hown, hgr⟩ := hrel
    have HU : Hid (Upto k j xs) := hu
    have HL : Hid (xs.length = n) := hxl
    have HG : Hid (w.grownBy wr (some g)) := hgr
    clear hu hxl hgr
    by_cases hlt : j < n
    · have hlt' : (j : Int) < (n : Int) := by omega
      have hj0 : (0 : Int) ≤ (j : Int) := by omega
      go_wp2_with fail
      refine (mark_any (k + (j : Int)) wr (by omega) (by omega)).mono ?_
      rintro e w2 ⟨rfl, hb2⟩
      have hown2 := ow.own_below hown hb2
      have HG2 : Hid (w.grownBy w2 (some g)) := ow.grown_trans HG.out (ow.grown_below hb2)
      have HO2 : Hid (w2.ownsRow base 9 1 (.slice (some ⟨g, 0, none⟩) n cap) n xs) := hown2
      have q0 := hown2.cellAt j (by omega)
      rw [List.getElem?_eq_getElem (by rw [HL.out]; omega)] at q0
      have f0 := hown2.frozenAt j
      clear hown2 hown HG hb2
      generalize xs[j]'(by rw [HL.out]; omega) = u0 at q0
      go_wp2
      go_roundw
      case rel => exact ⟨j + 1, xs.set j (.string (mt (k + (j : Int)))), by omega, by go_num, by go_num, by rw [List.length_set]; exact HL.out, upto_step HU.out (by rw [HL.out]; omega), (HO2.out.stored _ _).1, ow.grown_trans HG2.out (grown_set _ _ _ _)⟩
      case measure => simp [intOf]; omega
    · obtain rfl : j = n := by omega
      have HX : Hid (xs = (marks k j).map Value.string) := upto_all HU.out HL.out
      go_wp2
      go_ret
      refine ⟨rfl, ?_, HG.out⟩
      unfold OwnT
      rw [marks_len, ← HX.out]
      exact hown

set_option maxHeartbeats 1000000 in
set_option maxRecDepth 100000 in
theorem heldTexts_any (v : Value) (n : Nat) (k : Int) (w : World) (h : TextsAt w v (marks k n)) (hn : n ≤ 1048576) (h0 : 0 < k) (h1 : k ≤ 10000000) :
    Calls Tryd.prog 10 #[v, .int .i64 k] w fun e w' => e = .returned (.int .i64 (k + (n : Int))) ∧ Below w.heap.size w w' := by
  obtain ⟨a, cap, rfl, h1'⟩ := h
  have H1 : Hid (marks k n = [] ∨ ∃ b off, a = some ⟨b, off, none⟩ ∧ ∀ j, j < (marks k n).length → w.cell? ⟨b, off + j, none⟩ = some (.string ((marks k n).getD j nt))) := h1'
  rw [marks_len]
  clear h1'
  go_enter Tryd.func10, Tryd.ntmps10
  go_wp2
  go_loopw [1, 5] (fun z i wr => ∃ j : Nat, j ≤ n ∧ z = .int .i64 (k + (j : Int)) ∧ i = .int .i64 j ∧ Below w.heap.size w wr) (fun _ i _ => n - (intOf i).toNat)
  case atStart => exact ⟨0, Nat.zero_le _, by simp, rfl, Below.refl _ _⟩
  case round =>
    obtain ⟨j, hj, rfl, rfl, hbw⟩ := hrel
    by_cases hlt : j < n
    · have hka : j < (marks k n).length := by rw [marks_len]; exact hlt
      rcases H1.out with e | ⟨b, off, rfl, hcells⟩
      · rw [e] at hka; simp at hka
      have v0 := hcells j hka
      rw [marks_get hlt] at v0
      have c0 := (hbw.cell (p := ⟨b, off + j, none⟩) (World.block_lt_of_cell? w _ v0)).trans v0
      clear hcells hka v0
      have HM : Hid (∀ w, Calls Tryd.prog 15 #[.int .i64 (k + (j : Int))] w fun e w' => e = .returned (.string (mt (k + (j : Int)))) ∧ Below w.heap.size w w') := fun w => mark_any _ w (by omega) (by omega)
      generalize mt (k + (j : Int)) = x at c0 HM
      have hxx : (x.toList == x.toList) = true := by simp
      have hlt' : (j : Int) < (n : Int) := by omega
      have hk0 : (0 : Int) ≤ (j : Int) := by omega
      go_wp2_with fail
      have ne := ext_some wr
      have c0 := fun y : Ext wr => gw_cell y c0
      refine region_lit (by kernel_rfl) (by kernel_rfl) ?_
      repeat (go_big_quiet_step ((go_at_call 15; exact grow_of (HM.out _))))
      refine wpQuiet_nil ?_
      rintro W' ⟨y, rfl⟩
      have b3 := hbw.trans ((gw_below y).mono hbw.size)
      generalize gw y = W' at b3 ⊢
      clear c0 hbw HM
      go_wp2
      go_roundw
      case rel => exact ⟨j + 1, by omega, by go_num, by go_num, b3⟩
      case measure => simp [intOf]; omega
    · obtain rfl : j = n := by omega
      go_wp2
      go_ret
      exact ⟨rfl, hbw⟩
end Go.Proofs.YtbfplmafffnghaaDoor.mk
