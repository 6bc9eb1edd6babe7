/-
  Rows of items, marked by the law's own functions, and held against the marks.
-/
import Derived.Test.YtgjjeabjnkenkaaMrt
import Derived.Test.YtgjjeabjnkenkaaItb
namespace Go.Proofs.Ytgjjeabjnkenkaa.mi
open Go.RowKit
open gr mk
set_option linter.unusedVariables false

/-- So many marks, from a number on. -/
def marks (k : Int) (n : Nat) : List Value := (List.range n).map fun (i : Nat) => Value.string (mt (k + (i : Int)))
theorem marks_len (k : Int) (n : Nat) : (marks k n).length = n := by simp [marks]
theorem marks_get {k : Int} {n j : Nat} (h : j < n) : (marks k n)[j]? = some (.string (mt (k + (j : Int)))) := by simp [marks, h]
theorem grown_set (w : World) (g j : Nat) (u : Value) : w.grownBy (w.setCell ⟨g, j, none⟩ u) (some g) :=
  ⟨rfl, rfl, rfl, by simp [World.setCell], fun i hi hr => heap_setCell_other w ⟨g, j, none⟩ i u (fun e => hr (by rw [e]))⟩
def Upto (k : Int) (j : Nat) (xs : List Value) : Prop := ∀ i, i < j → xs[i]? = some (.string (mt (k + (i : Int))))
theorem upto_step {k : Int} {j : Nat} {xs : List Value} (h : Upto k j xs) (hl : j < xs.length) : Upto k (j + 1) (xs.set j (.string (mt (k + (j : Int))))) := by
  intro i hi
  by_cases e : i = j
  · subst e; rw [List.getElem?_set_self hl]
  · rw [List.getElem?_set_ne (by omega)]; exact h i (by omega)
theorem upto_all {k : Int} {n : Nat} {xs : List Value} (h : Upto k n xs) (hl : xs.length = n) : xs = marks k n := by
  refine List.ext_getElem? fun i => ?_
  by_cases hi : i < n
  · rw [h i hi, marks_get hi]
  · rw [List.getElem?_eq_none (by omega), List.getElem?_eq_none (by rw [marks_len]; omega)]

set_option maxHeartbeats 2000000 in
set_option maxRecDepth 100000 in
theorem markItems_any (v : Value) (base n : Nat) (xs0 : List Value) (k : Int) (w : World) (h : w.ownsRow base 75 2 v n xs0) (hn : n ≤ 1048576) (h0 : 0 < k) (h1 : k ≤ 10000000) :
    Calls Try.prog 44 #[v, .int .i64 k] w fun e w' => e = .returned (.int .i64 (k + 2 * (n : Int))) ∧ w'.ownsRow base 75 2 v n (marks k (n * 2)) ∧ w.grownBy w' v.ownBlock := by
  have hxl := h.1
  have HO : Hid (w.ownsRow base 75 2 v n xs0) := h
  rcases h.2 with ⟨rfl, hz⟩ | ⟨g, cap, cur, rfl, _⟩
  · subst hz
    clear h hn hxl HO
    go_enter Try.func44, Try.ntmps44
    go_wp2
    go_loop [1, 5] (fun z i => z = .int .i64 k ∧ i = .int .i64 0) (fun _ _ => 0)
    case atStart => exact ⟨rfl, rfl⟩
    case round =>
      obtain ⟨rfl, rfl⟩ := hrel
      go_wp2
      go_ret
      exact ⟨by simp, World.ownsRow_nil _ _ _ _, ow.grown_refl _ _⟩
  clear h
  go_enter Try.func44, Try.ntmps44
  go_wp2
  go_loopw [1, 5] (fun z i wr => ∃ (j : Nat) (xs : List Value), j ≤ n ∧ z = .int .i64 (k + 2 * (j : Int)) ∧ i = .int .i64 j ∧ xs.length = n * 2 ∧ Upto k (j * 2) xs ∧ wr.ownsRow base 75 2 (.slice (some ⟨g, 0, none⟩) n cap) n xs ∧ w.grownBy wr (some g)) (fun _ i _ => n - (intOf i).toNat)
  case atStart => exact ⟨0, xs0, Nat.zero_le _, by simp, rfl, hxl, fun i hi => absurd hi (by omega), HO.out, ow.grown_refl _ _⟩
  case round =>
    clear HO
    obtain ⟨j, xs, hj, rfl, rfl, hxl2, hu, hown, hgr⟩ := hrel
    have HU : Hid (Upto k (j * 2) xs) := hu
    have HL : Hid (xs.length = n * 2) := hxl2
    have HG : Hid (w.grownBy wr (some g)) := hgr
    clear hu hxl2 hgr
    by_cases hlt : j < n
    · have hlt' : (j : Int) < (n : Int) := by omega
      have hj0 : (0 : Int) ≤ (j : Int) := by omega
      generalize hK : k + 2 * (j : Int) = K
      have hK0 : 0 < K := by omega
      have hK1 : K ≤ 20000000 := by omega
      have HK : Hid (k + ((j * 2 : Nat) : Int) = K) := (show _ = _ by omega)
      have HK1 : Hid (k + ((j * 2 + 1 : Nat) : Int) = K + 1) := (show _ = _ by omega)
      have HKN : Hid (k + 2 * ((j + 1 : Nat) : Int) = K + 1 + 1) := (show _ = _ by omega)
      clear hK
      go_wp2_with fail
      refine (mark_any K _ (by omega) (by omega)).mono ?_
      rintro e w0 ⟨rfl, hb⟩
      have o1 := ow.own_below hown hb
      have HG0 : Hid (w.grownBy w0 (some g)) := ow.grown_trans HG.out (ow.grown_below hb)
      have q0 := o1.cellAt (j * 2) (by omega)
      rw [List.getElem?_eq_getElem (by rw [HL.out]; omega)] at q0
      have f0 := o1.frozenAt (j * 2)
      have HX : Hid ((w0.setCell ⟨g, j * 2, none⟩ (.string (mt K))).ownsRow base 75 2 (.slice (some ⟨g, 0, none⟩) n cap) n (xs.set (j * 2) (.string (mt K))) ∧ w.grownBy (w0.setCell ⟨g, j * 2, none⟩ (.string (mt K))) (some g)) := ⟨(o1.stored _ _).1, ow.grown_trans HG0.out (grown_set _ _ _ _)⟩
      clear o1 hown HG hb HG0
      generalize xs[j * 2]'(by rw [HL.out]; omega) = u0 at q0
      go_wp2_with fail
      clear q0 f0
      generalize hX : World.setCell _ _ _ = X at HX ⊢
      clear hX
      have HU1 : Hid (Upto k (j * 2 + 1) (xs.set (j * 2) (.string (mt K)))) := (show Upto _ _ _ by rw [← HK.out]; exact upto_step HU.out (by rw [HL.out]; omega))
      refine (mark_any (K + 1) _ (by omega) (by omega)).mono ?_
      rintro e w1 ⟨rfl, hb⟩
      have o1 := ow.own_below HX.out.1 hb
      have HG1 : Hid (w.grownBy w1 (some g)) := ow.grown_trans HX.out.2 (ow.grown_below hb)
      have q1 := o1.cellAt (j * 2 + 1) (by omega)
      rw [List.getElem?_eq_getElem (by rw [List.length_set, HL.out]; omega)] at q1
      have f1 := o1.frozenAt (j * 2 + 1)
      have HY : Hid ((w1.setCell ⟨g, j * 2 + 1, none⟩ (.string (mt (K + 1)))).ownsRow base 75 2 (.slice (some ⟨g, 0, none⟩) n cap) n ((xs.set (j * 2) (.string (mt K))).set (j * 2 + 1) (.string (mt (K + 1)))) ∧ w.grownBy (w1.setCell ⟨g, j * 2 + 1, none⟩ (.string (mt (K + 1)))) (some g)) := ⟨(o1.stored _ _).1, ow.grown_trans HG1.out (grown_set _ _ _ _)⟩
      clear o1 HX hb HG1
      generalize (xs.set (j * 2) (.string (mt K)))[j * 2 + 1]'(by rw [List.length_set, HL.out]; omega) = u1 at q1
      go_wp2
      go_roundw
      case rel => exact ⟨j + 1, _, by omega, by rw [HKN.out], by go_num, by rw [List.length_set, List.length_set]; exact HL.out, by rw [show (j + 1) * 2 = j * 2 + 1 + 1 from by omega, ← HK1.out]; exact upto_step HU1.out (by rw [List.length_set, HL.out]; omega), HY.out.1, HY.out.2⟩
      case measure => simp [intOf]; omega
    · obtain rfl : j = n := by omega
      have HX : Hid (xs = marks k (j * 2)) := upto_all HU.out HL.out
      go_wp2
      go_ret
      refine ⟨rfl, ?_, HG.out⟩
      rw [← HX.out]
      exact hown

set_option maxHeartbeats 2000000 in
set_option maxRecDepth 100000 in
theorem heldItems_any (v : Value) (base n : Nat) (k : Int) (w : World) (h : w.ownsRow base 75 2 v n (marks k (n * 2))) (hn : n ≤ 1048576) (h0 : 0 < k) (h1 : k ≤ 10000000) :
    Calls Try.prog 57 #[v, .int .i64 k] w fun e w' => e = .returned (.int .i64 (k + 2 * (n : Int))) ∧ Below w.heap.size w w' := by
  rcases h.2 with ⟨rfl, hz⟩ | ⟨g, cap, cur, rfl, _⟩
  · subst hz
    clear h hn
    go_enter Try.func57, Try.ntmps57
    go_wp2
    go_loop [1, 5] (fun z i => z = .int .i64 k ∧ i = .int .i64 0) (fun _ _ => 0)
    case atStart => exact ⟨rfl, rfl⟩
    case round =>
      obtain ⟨rfl, rfl⟩ := hrel
      go_wp2
      go_ret
      exact ⟨by simp, Below.refl _ _⟩
  have HC : Hid (∀ i, i < n * 2 → w.cell? ⟨g, i, none⟩ = some (.string (mt (k + (i : Int))))) := fun i hi => by rw [h.cellAt i (by omega), marks_get hi]
  clear h
  go_enter Try.func57, Try.ntmps57
  go_wp2
  go_loopw [1, 5] (fun z i wr => ∃ j : Nat, j ≤ n ∧ z = .int .i64 (k + 2 * (j : Int)) ∧ i = .int .i64 j ∧ Below w.heap.size w wr) (fun _ i _ => n - (intOf i).toNat)
  case atStart => exact ⟨0, Nat.zero_le _, by simp, rfl, Below.refl _ _⟩
  case round =>
    obtain ⟨j, hj, rfl, rfl, hbw⟩ := hrel
    by_cases hlt : j < n
    · have v0 := HC.out (j * 2) (by omega)
      have v1 := HC.out (j * 2 + 1) (by omega)
      rw [show k + ((j * 2 : Nat) : Int) = k + 2 * (j : Int) from by omega] at v0
      rw [show k + ((j * 2 + 1 : Nat) : Int) = k + 2 * (j : Int) + 1 from by omega] at v1
      have c0 := (hbw.cell (p := ⟨g, j * 2, none⟩) (World.block_lt_of_cell? w _ v0)).trans v0
      have c1 := (hbw.cell (p := ⟨g, j * 2 + 1, none⟩) (World.block_lt_of_cell? w _ v1)).trans v1
      clear v0 v1
      have HM : Hid (∀ w, Calls Try.prog 41 #[.int .i64 (k + 2 * (j : Int))] w fun e w' => e = .returned (.string (mt (k + 2 * (j : Int)))) ∧ Below w.heap.size w w') := fun w => mark_any _ w (by omega) (by omega)
      have HM1 : Hid (∀ w, Calls Try.prog 41 #[.int .i64 (k + 2 * (j : Int) + 1)] w fun e w' => e = .returned (.string (mt (k + 2 * (j : Int) + 1))) ∧ Below w.heap.size w w') := fun w => mark_any _ w (by omega) (by omega)
      have HC1 : Hid (wr.cell? ⟨g, j * 2 + 1, none⟩ = some (.string (mt (k + 2 * (j : Int) + 1)))) := c1
      clear c1
      have hK0 : 0 < k + 2 * (j : Int) := by omega
      have hK1 : k + 2 * (j : Int) ≤ 20000000 := by omega
      have HKN : Hid (k + 2 * ((j + 1 : Nat) : Int) = k + 2 * (j : Int) + 1 + 1) := (show _ = _ by omega)
      generalize k + 2 * (j : Int) = K at *
      generalize mt K = x at c0 HM
      generalize mt (K + 1) = y at HC1 HM1
      have hxx : (x.toList == x.toList) = true := by simp
      have hyy : (y.toList == y.toList) = true := by simp
      have hlt' : (j : Int) < (n : Int) := by omega
      have hk0 : (0 : Int) ≤ (j : Int) := by omega
      go_wp2_with fail
      have ne := ext_some wr
      have c0 := fun y : Ext wr => gw_cell y c0
      refine region_lit (by kernel_rfl) (by kernel_rfl) ?_
      repeat (go_big_quiet_step ((go_at_call 41; exact grow_of (HM.out _))))
      refine wpQuiet_nil ?_
      rintro W' ⟨y0, rfl⟩
      have b3 := hbw.trans ((gw_below y0).mono hbw.size)
      have c1 := gw_cell y0 HC1.out
      generalize gw y0 = W' at b3 c1 ⊢
      clear c0 hbw HM HC1
      go_wp2_with fail
      have ne := ext_some W'
      have c1 := fun y : Ext W' => gw_cell y c1
      refine region_lit (by kernel_rfl) (by kernel_rfl) ?_
      repeat (go_big_quiet_step ((go_at_call 41; exact grow_of (HM1.out _))))
      refine wpQuiet_nil ?_
      rintro W'' ⟨y1, rfl⟩
      have b4 := b3.trans ((gw_below y1).mono b3.size)
      generalize gw y1 = W'' at b4 ⊢
      clear c1 b3 HM1
      go_wp2
      go_roundw
      case rel => exact ⟨j + 1, by omega, by rw [HKN.out], by go_num, b4⟩
      case measure => simp [intOf]; omega
    · obtain rfl : j = n := by omega
      go_wp2
      go_ret
      exact ⟨rfl, hbw⟩
set_option maxHeartbeats 2000000 in
set_option maxRecDepth 100000 in
theorem markMut_any (x : Array Value) (v : Value) (base n : Nat) (xs0 : List Value) (k : Int) (w : World) (c0 c1 c2 c3 c4 : Value) (hx : x = #[c0, c1, c2, c3, c4, v]) (h : w.ownsRow base 75 2 v n xs0) (hn : n ≤ 1048576) (h0 : 0 < k) (h1 : k ≤ 10000000) :
    Calls Try.prog 16 #[.agg x, .int .i64 k] w fun e w' => e = .returned (.int .i64 (k + 2 * (n : Int))) ∧ w'.ownsRow base 75 2 v n (marks k (n * 2)) ∧ w.grownBy w' v.ownBlock := by
  subst hx
  have hbw : Below w.heap.size w (w.alloc (.cells #[c0, c1, c2, c3, c4, v] 34)) := (Below.refl _ _).alloc (Nat.le_refl _) _
  have HO : Hid ((w.alloc (.cells #[c0, c1, c2, c3, c4, v] 34)).ownsRow base 75 2 v n xs0) := ow.own_below h hbw
  have HG : Hid (w.grownBy (w.alloc (.cells #[c0, c1, c2, c3, c4, v] 34)) v.ownBlock) := World.grownBy_alloc _ _ _
  obtain ⟨a, nn, c, rfl⟩ : ∃ a n c, v = .slice a n c := by
    rcases h.2 with ⟨rfl, _⟩ | ⟨g, cap, cur, rfl, _⟩
    · exact ⟨_, _, _, rfl⟩
    · exact ⟨_, _, _, rfl⟩
  clear h
  go_enter Try.func16, Try.ntmps16
  go_wp2_with fail
  generalize w.alloc _ = w0 at HO HG ⊢
  refine (markItems_any _ base n xs0 k w0 HO.out hn h0 h1).mono ?_
  rintro e w1 ⟨rfl, ho1, hg1⟩
  have HE : Hid (w1.ownsRow base 75 2 (.slice a nn c) n (marks k (n * 2)) ∧ w.grownBy w1 (Value.slice a nn c).ownBlock) := ⟨ho1, ow.grown_trans HG.out hg1⟩
  clear ho1 hg1 HO HG
  go_wp2
  go_ret
  exact ⟨rfl, HE.out.1, HE.out.2⟩
set_option maxHeartbeats 2000000 in
set_option maxRecDepth 100000 in
theorem heldMut_any (x : Array Value) (v : Value) (base n : Nat) (k : Int) (w : World) (c0 c1 c2 c3 c4 : Value) (hx : x = #[c0, c1, c2, c3, c4, v]) (h : w.ownsRow base 75 2 v n (marks k (n * 2))) (hn : n ≤ 1048576) (h0 : 0 < k) (h1 : k ≤ 10000000) :
    Calls Try.prog 28 #[.agg x, .int .i64 k] w fun e w' => e = .returned (.int .i64 (k + 2 * (n : Int))) ∧ Below w.heap.size w w' := by
  subst hx
  have hbw : Below w.heap.size w (w.alloc (.cells #[c0, c1, c2, c3, c4, v] 34)) := (Below.refl _ _).alloc (Nat.le_refl _) _
  have HO : Hid ((w.alloc (.cells #[c0, c1, c2, c3, c4, v] 34)).ownsRow base 75 2 v n (marks k (n * 2))) := ow.own_below h hbw
  obtain ⟨a, nn, c, rfl⟩ : ∃ a n c, v = .slice a n c := by
    rcases h.2 with ⟨rfl, _⟩ | ⟨g, cap, cur, rfl, _⟩
    · exact ⟨_, _, _, rfl⟩
    · exact ⟨_, _, _, rfl⟩
  clear h
  go_enter Try.func28, Try.ntmps28
  go_wp2_with fail
  generalize w.alloc _ = w0 at HO hbw ⊢
  refine (heldItems_any _ base n k w0 HO.out hn h0 h1).mono ?_
  rintro e w1 ⟨rfl, hb1⟩
  have b2 := hbw.trans (hb1.mono hbw.size)
  clear HO hb1 hbw
  have hkk : (0 : Int) ≤ k + 2 * (n : Int) := by omega
  go_wp2
  go_ret
  exact ⟨rfl, b2⟩
end Go.Proofs.Ytgjjeabjnkenkaa.mi
