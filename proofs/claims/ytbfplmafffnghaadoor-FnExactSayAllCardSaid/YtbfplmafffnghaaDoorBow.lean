/-
  The laws' own copies of mails, texts, boxes and lists of boxes: their rows are their own memory.
-/
import Derived.Test.YtbfplmafffnghaaDoorBxb
import Derived.Test.YtbfplmafffnghaaDoorMuo
namespace Go.Proofs.YtbfplmafffnghaaDoor.st
open Go.ChangeShapes Go.WideShapes Go.ChangeAt Go.RowKit Go.Deep Go.Joins
set_option linter.unusedVariables false
end Go.Proofs.YtbfplmafffnghaaDoor.st
namespace Go.Proofs.YtbfplmafffnghaaDoor.tx
open Go.ChangeShapes Go.WideShapes Go.ChangeAt Go.RowKit Go.Deep Go.Joins
open ky
set_option linter.unusedVariables false
set_option maxHeartbeats 4000000 in
set_option maxRecDepth 100000 in
theorem toTexts_own (N : Nat) (v : Value) (ks : List ByteArray) (w : World) (h : TextsIn w N v ks) (hN : N ≤ w.heap.size) (hn : ks.length ≤ 1048576) :
    Calls Tryd.prog 6 #[v] w fun e w' => e = .returned (.slice (some ⟨w.heap.size, 0, none⟩) ks.length ks.length) ∧ TextsIn w' w'.heap.size (.slice (some ⟨w.heap.size, 0, none⟩) ks.length ks.length) ks ∧ Below w.heap.size w w' ∧ ∃ xs, w'.ownsRow w.heap.size 9 1 (.slice (some ⟨w.heap.size, 0, none⟩) ks.length ks.length) ks.length xs := by
  obtain ⟨a, cap, rfl, h⟩ := h
  obtain ⟨i0, hi, hz0, hz1, hz2⟩ := info_parts infoT
  obtain ⟨n, hn'⟩ : ∃ n, n = ks.length := ⟨_, rfl⟩
  have HN : Hid (n = ks.length) := hn'
  have HH : Hid (ks = [] ∨ ∃ b off, a = some ⟨b, off, none⟩ ∧ b < N ∧ ∀ j, j < ks.length → w.cell? ⟨b, off + j, none⟩ = some (.string (ks.getD j nt))) := h
  rw [← hn'] at hn ⊢
  clear h hn'
  go_enter Tryd.func6, Tryd.ntmps6
  go_wp2_with (at_make; refine wpList_make_full _ rfl _ _ 22 rfl w.heap.size 9 i0 _ 1 Tryd.underlying22 hi hz0 hz1 _ _ _ _ n rfl rfl rfl rfl (by rw [hz2]; omega) (by unfold maxLen; omega) (Nat.le_refl _) ?_; intro w1 hown1 hg1)
  have hb1 : Below w.heap.size w w1 := (Below.refl _ _).grown hg1 (Nat.le_refl _) (fun k hk => by cases hk)
  clear hg1
  go_loopw [4] (fun i wr => ∃ (k : Nat) (xs : List Value), k ≤ n ∧ i = .int .i64 k ∧ xs.length = n ∧ Lay ks k xs ∧ wr.ownsRow w.heap.size 9 1 (.slice (some ⟨w.heap.size, 0, none⟩) n n) n xs ∧ Below w.heap.size w wr) (fun i _ => n - (intOf i).toNat)
  case atStart => exact ⟨0, _, Nat.zero_le _, rfl, by have := hown1.1; omega, fun j hj => absurd hj (Nat.not_lt_zero _), hown1, hb1⟩
  case round =>
    clear hown1 hb1
    obtain ⟨k, xs, hk, rfl, hxl, hm, hown, hbw⟩ := hrel
    have HM : Hid (Lay ks k xs) := hm
    have HL : Hid (xs.length = n) := hxl
    clear hm hxl
    by_cases hlt : k < n
    · have hka : k < ks.length := by rw [← HN.out]; exact hlt
      rcases HH.out with e | ⟨b, off, rfl, hbN, hcells⟩
      · rw [e] at hka; simp at hka
      have c0 := (hbw.cell (p := ⟨b, off + k, none⟩) (Nat.lt_of_lt_of_le hbN hN)).trans (hcells k hka)
      clear hcells hka
      generalize hx : ks.getD k nt = x at c0
      have HX : Hid (ks.getD k nt = x) := hx
      clear hx
      have HO : Hid (wr.ownsRow w.heap.size 9 1 (.slice (some ⟨w.heap.size, 0, none⟩) n n) n xs) := hown
      have q0 := hown.cellAt k (by omega)
      rw [List.getElem?_eq_getElem (by rw [HL.out]; omega)] at q0
      have f0 := hown.frozenAt k
      clear hown
      generalize xs[k]'(by rw [HL.out]; omega) = u0 at q0
      have hlt' : (k : Int) < (n : Int) := by omega
      go_wp2
      go_roundw
      case rel => exact ⟨k + 1, xs.set k (.string x), by omega, by go_num, by rw [List.length_set]; exact HL.out, lay_step HM.out (by rw [HL.out]; omega) HX.out, (HO.out.stored _ _).1, hbw.setCell (Nat.le_refl _) _⟩
      case measure => simp [intOf]; omega
    · have hgl : w.heap.size < wr.heap.size := by
        rcases hown.2 with ⟨hv, _⟩ | ⟨g', cap', cur, hv, _, hb', _⟩
        · cases hv
        · cases hv
          exact (Array.getElem?_eq_some_iff.1 hb').1
      have HQ : Hid (TextsIn wr wr.heap.size (.slice (some ⟨w.heap.size, 0, none⟩) n n) ks) := texts_lay HN.out hown (fun j hj => HM.out j (by omega)) hgl
      have HOX : Hid (∃ xs, wr.ownsRow w.heap.size 9 1 (.slice (some ⟨w.heap.size, 0, none⟩) n n) n xs) := ⟨xs, hown⟩
      go_wp2
      go_ret
      exact ⟨rfl, HQ.out, hbw, HOX.out⟩
end Go.Proofs.YtbfplmafffnghaaDoor.tx
namespace Go.Proofs.YtbfplmafffnghaaDoor.bx
open Go.ChangeShapes Go.WideShapes Go.ChangeAt Go.RowKit Go.Deep Go.Joins
open st gr
set_option linter.unusedVariables false
end Go.Proofs.YtbfplmafffnghaaDoor.bx
