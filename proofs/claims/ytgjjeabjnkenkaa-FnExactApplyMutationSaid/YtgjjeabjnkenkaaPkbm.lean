/-
  Marks of a mutation's items, whatever number they begin with.
  Lists of boxes of one's own behind marks that are written elsewhere.
-/
import Derived.Test.YtgjjeabjnkenkaaPkbl

namespace Go.Proofs.Ytgjjeabjnkenkaa.sa
open Go.ChangeShapes Go.WideShapes Go.ChangeAt Go.RowKit Go.Deep Go.Joins
open st gr bx mx bl wi ml
set_option linter.unusedVariables false
set_option maxHeartbeats 2000000 in
set_option maxRecDepth 100000 in
theorem markItems_some (base n g cap : Nat) (xs0 : List Value) (k : Int) (w : World) (h : w.ownsRow base 75 2 (.slice (some ⟨g, 0, none⟩) n cap) n xs0) (hn : n ≤ 1048576) (h0 : 0 < k) (h1 : k ≤ 100000000000000000) :
    Calls Try.prog 44 #[.slice (some ⟨g, 0, none⟩) n cap, .int .i64 k] w fun e w' => e = .returned (.int .i64 (k + 2 * (n : Int))) ∧ (∃ xs, w'.ownsRow base 75 2 (.slice (some ⟨g, 0, none⟩) n cap) n xs) ∧ w.grownBy w' (some g) := by
  have hxl := h.1
  have HO : Hid (w.ownsRow base 75 2 (.slice (some ⟨g, 0, none⟩) n cap) n xs0) := h
  clear h
  go_enter Try.func44, Try.ntmps44
  go_wp2
  go_loopw [1, 5] (fun z i wr => ∃ (j : Nat) (xs : List Value), j ≤ n ∧ z = .int .i64 (k + 2 * (j : Int)) ∧ i = .int .i64 j ∧ xs.length = n * 2 ∧ wr.ownsRow base 75 2 (.slice (some ⟨g, 0, none⟩) n cap) n xs ∧ w.grownBy wr (some g)) (fun _ i _ => n - (intOf i).toNat)
  case atStart => exact ⟨0, xs0, Nat.zero_le _, by simp, rfl, hxl, HO.out, ow.grown_refl _ _⟩
  case round =>
    clear HO
    obtain ⟨j, xs, hj, rfl, rfl, hxl2, hown, hgr⟩ := hrel
    have HL : Hid (xs.length = n * 2) := hxl2
    have HG : Hid (w.grownBy wr (some g)) := hgr
    clear hxl2 hgr
    by_cases hlt : j < n
    · have hlt' : (j : Int) < (n : Int) := by omega
      have hj0 : (0 : Int) ≤ (j : Int) := by omega
      generalize hK : k + 2 * (j : Int) = K
      have hK0 : 0 < K := by omega
      have hK1 : K ≤ 200000000000000000 := by omega
      have HKN : Hid (k + 2 * ((j + 1 : Nat) : Int) = K + 1 + 1) := (show _ = _ by omega)
      clear hK
      go_wp2_with fail
      refine (mark_some K _ (by omega) (by omega)).mono ?_
      rintro e w0 ⟨⟨s1, rfl⟩, hb⟩
      have o1 := ow.own_below hown hb
      have HG0 : Hid (w.grownBy w0 (some g)) := ow.grown_trans HG.out (ow.grown_below hb)
      have q0 := o1.cellAt (j * 2) (by omega)
      rw [List.getElem?_eq_getElem (by rw [HL.out]; omega)] at q0
      have f0 := o1.frozenAt (j * 2)
      have HX : Hid ((w0.setCell ⟨g, j * 2, none⟩ (.string s1)).ownsRow base 75 2 (.slice (some ⟨g, 0, none⟩) n cap) n (xs.set (j * 2) (.string s1)) ∧ w.grownBy (w0.setCell ⟨g, j * 2, none⟩ (.string s1)) (some g)) := ⟨(o1.stored _ _).1, ow.grown_trans HG0.out (mk.grown_set _ _ _ _)⟩
      clear o1 hown HG hb HG0
      generalize xs[j * 2]'(by rw [HL.out]; omega) = u0 at q0
      go_wp2_with fail
      clear q0 f0
      generalize hX : World.setCell _ _ _ = X at HX ⊢
      clear hX
      refine (mark_some (K + 1) _ (by omega) (by omega)).mono ?_
      rintro e w1 ⟨⟨s2, rfl⟩, hb⟩
      have o1 := ow.own_below HX.out.1 hb
      have HG1 : Hid (w.grownBy w1 (some g)) := ow.grown_trans HX.out.2 (ow.grown_below hb)
      have q1 := o1.cellAt (j * 2 + 1) (by omega)
      rw [List.getElem?_eq_getElem (by rw [List.length_set, HL.out]; omega)] at q1
      have f1 := o1.frozenAt (j * 2 + 1)
      have HY : Hid ((w1.setCell ⟨g, j * 2 + 1, none⟩ (.string s2)).ownsRow base 75 2 (.slice (some ⟨g, 0, none⟩) n cap) n ((xs.set (j * 2) (.string s1)).set (j * 2 + 1) (.string s2)) ∧ w.grownBy (w1.setCell ⟨g, j * 2 + 1, none⟩ (.string s2)) (some g)) := ⟨(o1.stored _ _).1, ow.grown_trans HG1.out (mk.grown_set _ _ _ _)⟩
      clear o1 HX hb HG1
      generalize (xs.set (j * 2) (.string s1))[j * 2 + 1]'(by rw [List.length_set, HL.out]; omega) = u1 at q1
      go_wp2
      go_roundw
      case rel => exact ⟨j + 1, _, by omega, by rw [HKN.out], by go_num, by rw [List.length_set, List.length_set]; exact HL.out, HY.out.1, HY.out.2⟩
      case measure => simp [intOf]; omega
    · obtain rfl : j = n := by omega
      have HX : Hid (∃ xs, wr.ownsRow base 75 2 (.slice (some ⟨g, 0, none⟩) j cap) j xs) := ⟨xs, hown⟩
      go_wp2
      go_ret
      exact ⟨rfl, HX.out, HG.out⟩
set_option maxHeartbeats 2000000 in
set_option maxRecDepth 100000 in
theorem markMut_some (base n g cap : Nat) (xs0 : List Value) (k : Int) (w : World) (c0 c1 c2 c3 c4 : Value) (h : w.ownsRow base 75 2 (.slice (some ⟨g, 0, none⟩) n cap) n xs0) (hn : n ≤ 1048576) (h0 : 0 < k) (h1 : k ≤ 100000000000000000) :
    Calls Try.prog 16 #[.agg #[c0, c1, c2, c3, c4, .slice (some ⟨g, 0, none⟩) n cap], .int .i64 k] w fun e w' => e = .returned (.int .i64 (k + 2 * (n : Int))) ∧ w.grownBy w' (some g) := by
  have hbw : Below w.heap.size w (w.alloc (.cells #[c0, c1, c2, c3, c4, .slice (some ⟨g, 0, none⟩) n cap] 34)) := (Below.refl _ _).alloc (Nat.le_refl _) _
  have HO : Hid ((w.alloc (.cells #[c0, c1, c2, c3, c4, .slice (some ⟨g, 0, none⟩) n cap] 34)).ownsRow base 75 2 (.slice (some ⟨g, 0, none⟩) n cap) n xs0) := ow.own_below h hbw
  have HG : Hid (w.grownBy (w.alloc (.cells #[c0, c1, c2, c3, c4, .slice (some ⟨g, 0, none⟩) n cap] 34)) (some g)) := World.grownBy_alloc _ _ _
  clear h
  go_enter Try.func16, Try.ntmps16
  go_wp2_with fail
  generalize w.alloc _ = w0 at HO HG ⊢
  refine (markItems_some base n g cap xs0 k w0 HO.out hn h0 h1).mono ?_
  rintro e w1 ⟨rfl, _, hg1⟩
  have HE : Hid (w.grownBy w1 (some g)) := ow.grown_trans HG.out hg1
  clear hg1 HO HG
  go_wp2
  go_ret
  exact ⟨rfl, HE.out⟩
end Go.Proofs.Ytgjjeabjnkenkaa.sa

namespace Go.Proofs.Ytgjjeabjnkenkaa.sa
open Go.RowKit
open st gr bx mx bl wi ml mk
set_option linter.unusedVariables false

theorem own_mk {A B b : Nat} {w w' : World} {e s n : Nat} {v : Value} {xs : List Value} (h : w.ownsRow b e s v n xs) (hm : Mk A B w w') (hB : B ≤ b) : w'.ownsRow b e s v n xs := by
  rcases h.2 with ⟨rfl, hz⟩ | ⟨g, cap, cur, rfl, hb, hh, r⟩
  · exact ⟨h.1, .inl ⟨rfl, hz⟩⟩
  · exact mu.own_block h (hm.block g (Array.getElem?_eq_some_iff.1 hh).1 (.inr (Nat.le_trans hB hb)))
theorem ownL_mk {A B b : Nat} {w w' : World} {v : Value} {xs : List Bx} {vs : Nat → Value × Value} (h : OwnL w b v xs vs) (hm : Mk A B w w') (hB : B ≤ b) : OwnL w' b v xs vs :=
  ⟨own_mk h.1 hm hB, fun j hj => ⟨own_mk (h.2.1 j hj).1 hm hB, own_mk (h.2.1 j hj).2 hm hB⟩, h.2.2⟩
theorem own_one {b g : Nat} {w w' : World} {e s n : Nat} {v : Value} {xs : List Value} (h : w.ownsRow b e s v n xs) (hg : w.grownBy w' (some g)) (hl : g < b) : w'.ownsRow b e s v n xs := by
  rcases h.2 with ⟨rfl, hz⟩ | ⟨k, cap, cur, rfl, hb, hh, r⟩
  · exact ⟨h.1, .inl ⟨rfl, hz⟩⟩
  · exact mu.own_block h (hg.block k (Array.getElem?_eq_some_iff.1 hh).1 (fun e => by cases e; omega))
theorem ownL_one {b g : Nat} {w w' : World} {v : Value} {xs : List Bx} {vs : Nat → Value × Value} (h : OwnL w b v xs vs) (hg : w.grownBy w' (some g)) (hl : g < b) : OwnL w' b v xs vs :=
  ⟨own_one h.1 hg hl, fun j hj => ⟨own_one (h.2.1 j hj).1 hg hl, own_one (h.2.1 j hj).2 hg hl⟩, h.2.2⟩
theorem own_at {b g n m c e s : Nat} {w : World} {xs : List Value} (h : w.ownsRow b e s (.slice (some ⟨g, 0, none⟩) m c) n xs) : b ≤ g ∧ g < w.heap.size := by
  rcases h.2 with ⟨hz, _⟩ | ⟨k, cap, cur, hk, hb, hh, r⟩
  · cases hz
  · cases hk
    exact ⟨hb, (Array.getElem?_eq_some_iff.1 hh).1⟩
end Go.Proofs.Ytgjjeabjnkenkaa.sa
