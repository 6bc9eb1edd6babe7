/-
  A list of boxes, held against its marks by the law's own function.
  Rows of items, marked by the law's own functions, and held against the marks.
  The law of ApplyMutation: what its answer's boxes come to.
  A call of ApplyMutation with two copied arguments: what each operation of its region brings.
-/
import Derived.Test.YtgjjeabjnkenkaaPkbk
import Derived.Test.YtgjjeabjnkenkaaPkab
import Derived.Test.YtgjjeabjnkenkaaPkai
import Derived.Test.YtgjjeabjnkenkaaPkaj

namespace Go.Proofs.Ytgjjeabjnkenkaa.ml
open Go.RowKit
open gr mk st bx mm mx bl
open ky (TextsAt OwnT own_texts)
set_option linter.unusedVariables false

theorem mb_below {w w' : World} {base : Nat} {L : Value} {xs : List Bx} {us : Nat → Value × Value} {cs : List Value} (h : MB w base L xs us xs.length cs) (hb : Below w.heap.size w w') : MB w' base L xs us xs.length cs :=
  ⟨ow.own_below h.1 hb, h.2.1, h.2.2.1, fun i hi => ⟨ow.own_below (h.2.2.2.1 i hi).1 hb, ow.own_below (h.2.2.2.1 i hi).2 hb⟩, fun i h1 h2 => absurd h1 (by omega)⟩

set_option maxHeartbeats 4000000 in
set_option maxRecDepth 100000 in
theorem heldBoxS_any (L : Value) (base : Nat) (xs : List Bx) (us : Nat → Value × Value) (cs : List Value) (w : World) (h : MB w base L xs us xs.length cs) (hf : Few xs) :
    Calls Try.prog 17 #[L, .int .i64 1] w fun e w' => e = .returned (.int .i64 (kAt xs xs.length)) ∧ Below w.heap.size w w' := by
  have HF : Hid (Few xs) := hf
  have HMB : Hid (MB w base L xs us xs.length cs) := h
  obtain ⟨n, hn⟩ : ∃ n, n = xs.length := ⟨_, rfl⟩
  have HN : Hid (n = xs.length) := hn
  have hl : n ≤ 10 := by rw [hn]; exact hf.1
  obtain ⟨La, Lc, rfl, hLa⟩ : ∃ a c, L = .slice a n c ∧ (n = 0 ∨ ∃ g, a = some ⟨g, 0, none⟩) := by
    rcases h.1.2 with ⟨rfl, hz⟩ | ⟨g, cap, cur, rfl, _⟩
    · exact ⟨none, 0, by rw [hn, hz], .inl (by rw [hn, hz])⟩
    · exact ⟨_, _, by rw [hn], .inr ⟨g, rfl⟩⟩
  clear h hf hn
  go_enter Try.func17, Try.ntmps17
  go_wp2
  go_loopw [1, 5] (fun z i wr => ∃ (j : Nat), j ≤ n ∧ z = .int .i64 (kAt xs j) ∧ i = .int .i64 j ∧ Below w.heap.size w wr) (fun _ i _ => n - (intOf i).toNat)
  case atStart => exact ⟨0, Nat.zero_le _, rfl, rfl, Below.refl _ _⟩
  case round =>
    obtain ⟨j, hj, rfl, rfl, hbw⟩ := hrel
    by_cases hlt : j < n
    · have hjx : j < xs.length := by rw [← HN.out]; exact hlt
      obtain ⟨g, rfl⟩ : ∃ g, La = some ⟨g, 0, none⟩ := by
        rcases hLa with h | h
        · omega
        · exact h
      have hlt' : (j : Int) < (n : Int) := by omega
      have hj0 : (0 : Int) ≤ (j : Int) := by omega
      have hki := kAt_in HF.out (j := j) (by omega)
      have hfe := HF.out.2 j hjx
      have HKN : Hid (kAt xs (j + 1) = kAt xs j + 1 + 1 + 1 + 3 * ((xs.getD j noB).ms.length : Int) + ((xs.getD j noB).ks.length : Int)) := by
        show kAt xs j + 3 + _ + _ = _
        omega
      have hmb := mb_below HMB.out hbw
      obtain ⟨hown, hkp, hcm, hrm, _⟩ := hmb
      rw [← HN.out] at hown
      have c0 := (hown.cellAt (j * 5) (by omega)).trans (hcm j hjx).1
      have c1 := (hown.cellAt (j * 5 + 1) (by omega)).trans (hcm j hjx).2.1
      have c2 := (hown.cellAt (j * 5 + 2) (by omega)).trans (hcm j hjx).2.2
      have c3 := (hown.cellAt (j * 5 + 3) (by omega)).trans (hkp j hjx).1
      have c4 := (hown.cellAt (j * 5 + 4) (by omega)).trans (hkp j hjx).2
      have hr := hrm j hjx
      unfold RowMk at hr
      rw [show kAt xs j + 3 = kAt xs j + 1 + 1 + 1 by omega] at hr
      rw [show kAt xs j + 2 = kAt xs j + 1 + 1 by omega] at c2
      have HR : Hid (wr.ownsRow base 92 3 (us j).1 (xs.getD j noB).ms.length (marksM (kAt xs j + 1 + 1 + 1) (xs.getD j noB).ms.length) ∧ wr.ownsRow base 9 1 (us j).2 (xs.getD j noB).ks.length ((marks (kAt xs j + 1 + 1 + 1 + 3 * ((xs.getD j noB).ms.length : Int)) (xs.getD j noB).ks.length).map Value.string)) := hr
      clear hr hown hkp hcm hrm
      generalize kAt xs j = K at hki HKN HR c0 c1 c2 ⊢
      generalize (xs.getD j noB).ms.length = m1 at hfe HKN HR
      generalize (xs.getD j noB).ks.length = m2 at hfe HKN HR
      have HM : Hid (∀ w, Calls Try.prog 41 #[.int .i64 K] w fun e w' => e = .returned (.string (mt K)) ∧ Below w.heap.size w w') := fun w => mark_any _ w (by omega) (by omega)
      generalize mt K = x at c0 HM
      have HC : Hid (wr.cell? ⟨g, j * 5 + 1, none⟩ = some (.int .i64 (K + 1)) ∧ wr.cell? ⟨g, j * 5 + 2, none⟩ = some (.int .i64 (K + 1 + 1)) ∧ wr.cell? ⟨g, j * 5 + 3, none⟩ = some (us j).1 ∧ wr.cell? ⟨g, j * 5 + 4, none⟩ = some (us j).2) := ⟨c1, c2, c3, c4⟩
      have HC0 : Hid (wr.cell? ⟨g, j * 5, none⟩ = some (.string x)) := c0
      clear c0 c1 c2 c3 c4
      have hxx : (x.toList == x.toList) = true := by simp
      have n1 : ((K + 1 : Int) != K + 1) = false := by simp
      have n2 : ((K + 1 + 1 : Int) != K + 1 + 1) = false := by simp
      go_wp2_with fail
      have ne := ext_some wr
      have c0 := fun y : Ext wr => gw_cell y HC0.out
      refine region_lit (by kernel_rfl) (by kernel_rfl) ?_
      repeat (go_big_quiet_step ((go_at_call 41; exact grow_of (HM.out _))))
      refine wpQuiet_nil ?_
      rintro W1 ⟨y0, rfl⟩
      have hb1 := gw_below y0
      generalize gw y0 = W1 at hb1 ⊢
      have c1 := (hb1.cell (p := ⟨g, j * 5 + 1, none⟩) (World.block_lt_of_cell? wr _ HC.out.1)).trans HC.out.1
      have c2 := (hb1.cell (p := ⟨g, j * 5 + 2, none⟩) (World.block_lt_of_cell? wr _ HC.out.2.1)).trans HC.out.2.1
      have c3 := (hb1.cell (p := ⟨g, j * 5 + 3, none⟩) (World.block_lt_of_cell? wr _ HC.out.2.2.1)).trans HC.out.2.2.1
      have HC4 : Hid (W1.cell? ⟨g, j * 5 + 4, none⟩ = some (us j).2) := (hb1.cell (p := ⟨g, j * 5 + 4, none⟩) (World.block_lt_of_cell? wr _ HC.out.2.2.2)).trans HC.out.2.2.2
      have HR1 : Hid (W1.ownsRow base 92 3 (us j).1 m1 (marksM (K + 1 + 1 + 1) m1) ∧ W1.ownsRow base 9 1 (us j).2 m2 ((marks (K + 1 + 1 + 1 + 3 * (m1 : Int)) m2).map Value.string)) := ⟨ow.own_below HR.out.1 hb1, ow.own_below HR.out.2 hb1⟩
      have HB1 : Hid (Below w.heap.size w W1) := hbw.trans (hb1.mono hbw.size)
      clear c0 HC0 HC HR hbw hb1 HM
      go_wp2_with fail
      clear c1 c2 c3
      refine (heldM_any (us j).1 base m1 (K + 1 + 1 + 1) W1 HR1.out.1 (by omega) (by omega) (by omega)).mono ?_
      rintro e w2 ⟨rfl, hb2⟩
      have c4 := (hb2.cell (p := ⟨g, j * 5 + 4, none⟩) (World.block_lt_of_cell? W1 _ HC4.out)).trans HC4.out
      have HT2 : Hid (TextsAt w2 (us j).2 (marks (K + 1 + 1 + 1 + 3 * (m1 : Int)) m2)) := own_texts (base := base) (by unfold OwnT; rw [marks_len]; exact ow.own_below HR1.out.2 hb2)
      have HB2 : Hid (Below w.heap.size w w2) := HB1.out.trans (hb2.mono HB1.out.size)
      clear HR1 HC4 HB1 hb2
      have hmI : (m1 : Int) ≤ 1000 := by omega
      have hmI0 : (0 : Int) ≤ (m1 : Int) := by omega
      have hkI : (m2 : Int) ≤ 1000 := by omega
      have hkI0 : (0 : Int) ≤ (m2 : Int) := by omega
      go_wp2_with fail
      clear c4
      refine (heldTexts_any (us j).2 m2 (K + 1 + 1 + 1 + 3 * (m1 : Int)) w2 HT2.out (by omega) (by omega) (by omega)).mono ?_
      rintro e w3 ⟨rfl, hb3⟩
      have HB3 : Hid (Below w.heap.size w w3) := HB2.out.trans (hb3.mono HB2.out.size)
      clear HT2 HB2 hb3
      go_wp2
      go_roundw
      case rel => exact ⟨j + 1, by omega, by rw [HKN.out], by go_num, HB3.out⟩
      case measure => simp [intOf]; omega
    · obtain rfl : j = n := by omega
      have HE : Hid (kAt xs j = kAt xs xs.length) := congrArg (kAt xs) HN.out
      go_wp2
      go_ret
      refine ⟨?_, hbw⟩
      show Ending.returned (.int .i64 (kAt xs j)) = .returned (.int .i64 (kAt xs xs.length))
      rw [HE.out]
end Go.Proofs.Ytgjjeabjnkenkaa.ml

namespace Go.Proofs.Ytgjjeabjnkenkaa.mi
open Go.RowKit
open gr mk
set_option linter.unusedVariables false

/-- So many marks, from a number on. -/
def marks (k : Int) (n : Nat) : List Value := (List.range n).map fun (i : Nat) => Value.string (mt (k + (i : Int)))
theorem marks_len (k : Int) (n : Nat) : (marks k n).length = n := by simp [marks]
theorem marks_get {k : Int} {n j : Nat} (h : j < n) : (marks k n)[j]? = some (.string (mt (k + (j : Int)))) := by simp [marks, h]
theorem grown_set (w : World) (g j : Nat) (u : Value) : w.grownBy (w.setCell ⟨g, j, none⟩ u) (some g) :=
  ⟨rfl, rfl, rfl, by simp [World.setCell], fun i hi hr => heap_setCell_other w ⟨g, j, none⟩ i u (fun e => hr (by rw [e]))⟩
def Upto (k : Int) (j : Nat) (xs : List Value) : Prop := ∀ i, i < j → xs[i]? = some (.string (mt (k + (i : Int))))
theorem upto_step {k : Int} {j : Nat} {xs : List Value} (h : Upto k j xs) (hl : j < xs.length) : Upto k (j + 1) (xs.set j (.string (mt (k + (j : Int))))) := by
  intro i hi
  by_cases e : i = j
  · subst e; rw [List.getElem?_set_self hl]
  · rw [List.getElem?_set_ne (by omega)]; exact h i (by omega)
theorem upto_all {k : Int} {n : Nat} {xs : List Value} (h : Upto k n xs) (hl : xs.length = n) : xs = marks k n := by
  refine List.ext_getElem? fun i => ?_
  by_cases hi : i < n
  · rw [h i hi, marks_get hi]
  · rw [List.getElem?_eq_none (by omega), List.getElem?_eq_none (by rw [marks_len]; omega)]

set_option maxHeartbeats 2000000 in
set_option maxRecDepth 100000 in
theorem markItems_any (v : Value) (base n : Nat) (xs0 : List Value) (k : Int) (w : World) (h : w.ownsRow base 75 2 v n xs0) (hn : n ≤ 1048576) (h0 : 0 < k) (h1 : k ≤ 10000000) :
    Calls Try.prog 44 #[v, .int .i64 k] w fun e w' => e = .returned (.int .i64 (k + 2 * (n : Int))) ∧ w'.ownsRow base 75 2 v n (marks k (n * 2)) ∧ w.grownBy w' v.ownBlock := by
  have hxl := h.1
  have HO : Hid (w.ownsRow base 75 2 v n xs0) := h
  rcases h.2 with ⟨rfl, hz⟩ | ⟨g, cap, cur, rfl, _⟩
  · subst hz
    clear h hn hxl HO
    go_enter Try.func44, Try.ntmps44
    go_wp2
    go_loop [1, 5] (fun z i => z = .int .i64 k ∧ i = .int .i64 0) (fun _ _ => 0)
    case atStart => exact ⟨rfl, rfl⟩
    case round =>
      obtain ⟨rfl, rfl⟩ := hrel
      go_wp2
      go_ret
      exact ⟨by simp, World.ownsRow_nil _ _ _ _, ow.grown_refl _ _⟩
  clear h
  go_enter Try.func44, Try.ntmps44
  go_wp2
  go_loopw [1, 5] (fun z i wr => ∃ (j : Nat) (xs : List Value), j ≤ n ∧ z = .int .i64 (k + 2 * (j : Int)) ∧ i = .int .i64 j ∧ xs.length = n * 2 ∧ Upto k (j * 2) xs ∧ wr.ownsRow base 75 2 (.slice (some ⟨g, 0, none⟩) n cap) n xs ∧ w.grownBy wr (some g)) (fun _ i _ => n - (intOf i).toNat)
  case atStart => exact ⟨0, xs0, Nat.zero_le _, by simp, rfl, hxl, fun i hi => absurd hi (by omega), HO.out, ow.grown_refl _ _⟩
  case round =>
    clear HO
    obtain ⟨j, xs, hj, rfl, rfl, hxl2, hu, hown, hgr⟩ := hrel
    have HU : Hid (Upto k (j * 2) xs) := hu
    have HL : Hid (xs.length = n * 2) := hxl2
    have HG : Hid (w.grownBy wr (some g)) := hgr
    clear hu hxl2 hgr
    by_cases hlt : j < n
    · have hlt' : (j : Int) < (n : Int) := by omega
      have hj0 : (0 : Int) ≤ (j : Int) := by omega
      generalize hK : k + 2 * (j : Int) = K
      have hK0 : 0 < K := by omega
      have hK1 : K ≤ 20000000 := by omega
      have HK : Hid (k + ((j * 2 : Nat) : Int) = K) := (show _ = _ by omega)
      have HK1 : Hid (k + ((j * 2 + 1 : Nat) : Int) = K + 1) := (show _ = _ by omega)
      have HKN : Hid (k + 2 * ((j + 1 : Nat) : Int) = K + 1 + 1) := (show _ = _ by omega)
      clear hK
      go_wp2_with fail
      refine (mark_any K _ (by omega) (by omega)).mono ?_
      rintro e w0 ⟨rfl, hb⟩
      have o1 := ow.own_below hown hb
      have HG0 : Hid (w.grownBy w0 (some g)) := ow.grown_trans HG.out (ow.grown_below hb)
      have q0 := o1.cellAt (j * 2) (by omega)
      rw [List.getElem?_eq_getElem (by rw [HL.out]; omega)] at q0
      have f0 := o1.frozenAt (j * 2)
      have HX : Hid ((w0.setCell ⟨g, j * 2, none⟩ (.string (mt K))).ownsRow base 75 2 (.slice (some ⟨g, 0, none⟩) n cap) n (xs.set (j * 2) (.string (mt K))) ∧ w.grownBy (w0.setCell ⟨g, j * 2, none⟩ (.string (mt K))) (some g)) := ⟨(o1.stored _ _).1, ow.grown_trans HG0.out (grown_set _ _ _ _)⟩
      clear o1 hown HG hb HG0
      generalize xs[j * 2]'(by rw [HL.out]; omega) = u0 at q0
      go_wp2_with fail
      clear q0 f0
      generalize hX : World.setCell _ _ _ = X at HX ⊢
      clear hX
      have HU1 : Hid (Upto k (j * 2 + 1) (xs.set (j * 2) (.string (mt K)))) := (show Upto _ _ _ by rw [← HK.out]; exact upto_step HU.out (by rw [HL.out]; omega))
      refine (mark_any (K + 1) _ (by omega) (by omega)).mono ?_
      rintro e w1 ⟨rfl, hb⟩
      have o1 := ow.own_below HX.out.1 hb
      have HG1 : Hid (w.grownBy w1 (some g)) := ow.grown_trans HX.out.2 (ow.grown_below hb)
      have q1 := o1.cellAt (j * 2 + 1) (by omega)
      rw [List.getElem?_eq_getElem (by rw [List.length_set, HL.out]; omega)] at q1
      have f1 := o1.frozenAt (j * 2 + 1)
      have HY : Hid ((w1.setCell ⟨g, j * 2 + 1, none⟩ (.string (mt (K + 1)))).ownsRow base 75 2 (.slice (some ⟨g, 0, none⟩) n cap) n ((xs.set (j * 2) (.string (mt K))).set (j * 2 + 1) (.string (mt (K + 1)))) ∧ w.grownBy (w1.setCell ⟨g, j * 2 + 1, none⟩ (.string (mt (K + 1)))) (some g)) := ⟨(o1.stored _ _).1, ow.grown_trans HG1.out (grown_set _ _ _ _)⟩
      clear o1 HX hb HG1
      generalize (xs.set (j * 2) (.string (mt K)))[j * 2 + 1]'(by rw [List.length_set, HL.out]; omega) = u1 at q1
      go_wp2
      go_roundw
      case rel => exact ⟨j + 1, _, by omega, by rw [HKN.out], by go_num, by rw [List.length_set, List.length_set]; exact HL.out, by rw [show (j + 1) * 2 = j * 2 + 1 + 1 from by omega, ← HK1.out]; exact upto_step HU1.out (by rw [List.length_set, HL.out]; omega), HY.out.1, HY.out.2⟩
      case measure => simp [intOf]; omega
    · obtain rfl : j = n := by omega
      have HX : Hid (xs = marks k (j * 2)) := upto_all HU.out HL.out
      go_wp2
      go_ret
      refine ⟨rfl, ?_, HG.out⟩
      rw [← HX.out]
      exact hown

set_option maxHeartbeats 2000000 in
set_option maxRecDepth 100000 in
theorem heldItems_any (v : Value) (base n : Nat) (k : Int) (w : World) (h : w.ownsRow base 75 2 v n (marks k (n * 2))) (hn : n ≤ 1048576) (h0 : 0 < k) (h1 : k ≤ 10000000) :
    Calls Try.prog 57 #[v, .int .i64 k] w fun e w' => e = .returned (.int .i64 (k + 2 * (n : Int))) ∧ Below w.heap.size w w' := by
  rcases h.2 with ⟨rfl, hz⟩ | ⟨g, cap, cur, rfl, _⟩
  · subst hz
    clear h hn
    go_enter Try.func57, Try.ntmps57
    go_wp2
    go_loop [1, 5] (fun z i => z = .int .i64 k ∧ i = .int .i64 0) (fun _ _ => 0)
    case atStart => exact ⟨rfl, rfl⟩
    case round =>
      obtain ⟨rfl, rfl⟩ := hrel
      go_wp2
      go_ret
      exact ⟨by simp, Below.refl _ _⟩
  have HC : Hid (∀ i, i < n * 2 → w.cell? ⟨g, i, none⟩ = some (.string (mt (k + (i : Int))))) := fun i hi => by rw [h.cellAt i (by omega), marks_get hi]
  clear h
  go_enter Try.func57, Try.ntmps57
  go_wp2
  go_loopw [1, 5] (fun z i wr => ∃ j : Nat, j ≤ n ∧ z = .int .i64 (k + 2 * (j : Int)) ∧ i = .int .i64 j ∧ Below w.heap.size w wr) (fun _ i _ => n - (intOf i).toNat)
  case atStart => exact ⟨0, Nat.zero_le _, by simp, rfl, Below.refl _ _⟩
  case round =>
    obtain ⟨j, hj, rfl, rfl, hbw⟩ := hrel
    by_cases hlt : j < n
    · have v0 := HC.out (j * 2) (by omega)
      have v1 := HC.out (j * 2 + 1) (by omega)
      rw [show k + ((j * 2 : Nat) : Int) = k + 2 * (j : Int) from by omega] at v0
      rw [show k + ((j * 2 + 1 : Nat) : Int) = k + 2 * (j : Int) + 1 from by omega] at v1
      have c0 := (hbw.cell (p := ⟨g, j * 2, none⟩) (World.block_lt_of_cell? w _ v0)).trans v0
      have c1 := (hbw.cell (p := ⟨g, j * 2 + 1, none⟩) (World.block_lt_of_cell? w _ v1)).trans v1
      clear v0 v1
      have HM : Hid (∀ w, Calls Try.prog 41 #[.int .i64 (k + 2 * (j : Int))] w fun e w' => e = .returned (.string (mt (k + 2 * (j : Int)))) ∧ Below w.heap.size w w') := fun w => mark_any _ w (by omega) (by omega)
      have HM1 : Hid (∀ w, Calls Try.prog 41 #[.int .i64 (k + 2 * (j : Int) + 1)] w fun e w' => e = .returned (.string (mt (k + 2 * (j : Int) + 1))) ∧ Below w.heap.size w w') := fun w => mark_any _ w (by omega) (by omega)
      have HC1 : Hid (wr.cell? ⟨g, j * 2 + 1, none⟩ = some (.string (mt (k + 2 * (j : Int) + 1)))) := c1
      clear c1
      have hK0 : 0 < k + 2 * (j : Int) := by omega
      have hK1 : k + 2 * (j : Int) ≤ 20000000 := by omega
      have HKN : Hid (k + 2 * ((j + 1 : Nat) : Int) = k + 2 * (j : Int) + 1 + 1) := (show _ = _ by omega)
      generalize k + 2 * (j : Int) = K at *
      generalize mt K = x at c0 HM
      generalize mt (K + 1) = y at HC1 HM1
      have hxx : (x.toList == x.toList) = true := by simp
      have hyy : (y.toList == y.toList) = true := by simp
      have hlt' : (j : Int) < (n : Int) := by omega
      have hk0 : (0 : Int) ≤ (j : Int) := by omega
      go_wp2_with fail
      have ne := ext_some wr
      have c0 := fun y : Ext wr => gw_cell y c0
      refine region_lit (by kernel_rfl) (by kernel_rfl) ?_
      repeat (go_big_quiet_step ((go_at_call 41; exact grow_of (HM.out _))))
      refine wpQuiet_nil ?_
      rintro W' ⟨y0, rfl⟩
      have b3 := hbw.trans ((gw_below y0).mono hbw.size)
      have c1 := gw_cell y0 HC1.out
      generalize gw y0 = W' at b3 c1 ⊢
      clear c0 hbw HM HC1
      go_wp2_with fail
      have ne := ext_some W'
      have c1 := fun y : Ext W' => gw_cell y c1
      refine region_lit (by kernel_rfl) (by kernel_rfl) ?_
      repeat (go_big_quiet_step ((go_at_call 41; exact grow_of (HM1.out _))))
      refine wpQuiet_nil ?_
      rintro W'' ⟨y1, rfl⟩
      have b4 := b3.trans ((gw_below y1).mono b3.size)
      generalize gw y1 = W'' at b4 ⊢
      clear c1 b3 HM1
      go_wp2
      go_roundw
      case rel => exact ⟨j + 1, by omega, by rw [HKN.out], by go_num, b4⟩
      case measure => simp [intOf]; omega
    · obtain rfl : j = n := by omega
      go_wp2
      go_ret
      exact ⟨rfl, hbw⟩
set_option maxHeartbeats 2000000 in
set_option maxRecDepth 100000 in
theorem markMut_any (x : Array Value) (v : Value) (base n : Nat) (xs0 : List Value) (k : Int) (w : World) (c0 c1 c2 c3 c4 : Value) (hx : x = #[c0, c1, c2, c3, c4, v]) (h : w.ownsRow base 75 2 v n xs0) (hn : n ≤ 1048576) (h0 : 0 < k) (h1 : k ≤ 10000000) :
    Calls Try.prog 16 #[.agg x, .int .i64 k] w fun e w' => e = .returned (.int .i64 (k + 2 * (n : Int))) ∧ w'.ownsRow base 75 2 v n (marks k (n * 2)) ∧ w.grownBy w' v.ownBlock := by
  subst hx
  have hbw : Below w.heap.size w (w.alloc (.cells #[c0, c1, c2, c3, c4, v] 34)) := (Below.refl _ _).alloc (Nat.le_refl _) _
  have HO : Hid ((w.alloc (.cells #[c0, c1, c2, c3, c4, v] 34)).ownsRow base 75 2 v n xs0) := ow.own_below h hbw
  have HG : Hid (w.grownBy (w.alloc (.cells #[c0, c1, c2, c3, c4, v] 34)) v.ownBlock) := World.grownBy_alloc _ _ _
  obtain ⟨a, nn, c, rfl⟩ : ∃ a n c, v = .slice a n c := by
    rcases h.2 with ⟨rfl, _⟩ | ⟨g, cap, cur, rfl, _⟩
    · exact ⟨_, _, _, rfl⟩
    · exact ⟨_, _, _, rfl⟩
  clear h
  go_enter Try.func16, Try.ntmps16
  go_wp2_with fail
  generalize w.alloc _ = w0 at HO HG ⊢
  refine (markItems_any _ base n xs0 k w0 HO.out hn h0 h1).mono ?_
  rintro e w1 ⟨rfl, ho1, hg1⟩
  have HE : Hid (w1.ownsRow base 75 2 (.slice a nn c) n (marks k (n * 2)) ∧ w.grownBy w1 (Value.slice a nn c).ownBlock) := ⟨ho1, ow.grown_trans HG.out hg1⟩
  clear ho1 hg1 HO HG
  go_wp2
  go_ret
  exact ⟨rfl, HE.out.1, HE.out.2⟩
set_option maxHeartbeats 2000000 in
set_option maxRecDepth 100000 in
theorem heldMut_any (x : Array Value) (v : Value) (base n : Nat) (k : Int) (w : World) (c0 c1 c2 c3 c4 : Value) (hx : x = #[c0, c1, c2, c3, c4, v]) (h : w.ownsRow base 75 2 v n (marks k (n * 2))) (hn : n ≤ 1048576) (h0 : 0 < k) (h1 : k ≤ 10000000) :
    Calls Try.prog 28 #[.agg x, .int .i64 k] w fun e w' => e = .returned (.int .i64 (k + 2 * (n : Int))) ∧ Below w.heap.size w w' := by
  subst hx
  have hbw : Below w.heap.size w (w.alloc (.cells #[c0, c1, c2, c3, c4, v] 34)) := (Below.refl _ _).alloc (Nat.le_refl _) _
  have HO : Hid ((w.alloc (.cells #[c0, c1, c2, c3, c4, v] 34)).ownsRow base 75 2 v n (marks k (n * 2))) := ow.own_below h hbw
  obtain ⟨a, nn, c, rfl⟩ : ∃ a n c, v = .slice a n c := by
    rcases h.2 with ⟨rfl, _⟩ | ⟨g, cap, cur, rfl, _⟩
    · exact ⟨_, _, _, rfl⟩
    · exact ⟨_, _, _, rfl⟩
  clear h
  go_enter Try.func28, Try.ntmps28
  go_wp2_with fail
  generalize w.alloc _ = w0 at HO hbw ⊢
  refine (heldItems_any _ base n k w0 HO.out hn h0 h1).mono ?_
  rintro e w1 ⟨rfl, hb1⟩
  have b2 := hbw.trans (hb1.mono hbw.size)
  clear HO hb1 hbw
  have hkk : (0 : Int) ≤ k + 2 * (n : Int) := by omega
  go_wp2
  go_ret
  exact ⟨rfl, b2⟩
end Go.Proofs.Ytgjjeabjnkenkaa.mi

namespace Go.Proofs.Ytgjjeabjnkenkaa.sa
open Go.ChangeShapes Go.WideShapes Go.ChangeAt Go.RowKit Go.Deep Go.Joins
open st gr bx mx bl wi ml
set_option linter.unusedVariables false

theorem add_few : ∀ (ps : List it.Pr) (b y : Bx), b.ms.length ≤ 30 → b.ks.length ≤ 60 → add b ps = (y, 0) → y.ms.length ≤ 30 ∧ y.ks.length ≤ 60
  | [], b, y, hm, hk, e => by
    have : b = y := congrArg Prod.fst e
    rw [← this]; exact ⟨hm, hk⟩
  | i :: r, b, y, hm, hk, e => by
    rw [add] at e
    split at e
    · exact absurd (congrArg Prod.snd e) (by simp)
    split at e
    · exact absurd (congrArg Prod.snd e) (by simp)
    split at e
    · exact absurd (congrArg Prod.snd e) (by simp)
    · rename_i h1 h2 h3
      refine add_few r (addI b i) y ?_ ?_ e
      · show (b.ms ++ [_]).length ≤ 30
        simp
        omega
      · show (b.ks ++ [_]).length ≤ 60
        simp
        omega
theorem rk_few {b : Bx} {m : mu.Mu} {y : Bx} (b1 : b.ms.length ≤ 30) (b2 : b.ks.length ≤ 60) (h : Rk b m y 0) : y.ms.length ≤ 30 ∧ y.ks.length ≤ 60 := by
  rcases h with ⟨_, h⟩ | ⟨k3, h⟩ | ⟨_, _, h⟩
  · exact add_few m.ps b y b1 b2 h
  · rcases h with ⟨i, hi, hu, rfl, _⟩ | ⟨_, _, e⟩
    · exact ⟨by show (setF _ _ _).length ≤ 30; rw [setF_len]; exact b1, b2⟩
    · exact absurd e (by decide)
  · subst h
    exact ⟨Nat.le_trans (List.length_filter_le _ _) b1, b2⟩
theorem sok_few {xs : List Bx} (h : sok xs = true) : Few xs := ⟨by have := (sok_of h).1; omega, fun j hj => by have := sok_box h hj; omega⟩
theorem am_few {xs ys : List Bx} {m : mu.Mu} {c : Int} (hso : sok xs = true) (h : Am xs m ys c) : Few ys := by
  have hl := (sok_of hso).1
  have hF := sok_few hso
  rcases h with ⟨_, h⟩ | ⟨_, _, rfl, _⟩ | ⟨_, k, hk, _, y, hR, hc⟩
  · rcases h with ⟨_, rfl, _⟩ | ⟨_, _, rfl, _⟩ | ⟨_, h4, rfl, _⟩
    · exact hF
    · exact hF
    · refine ⟨by simp; omega, fun j hj => ?_⟩
      by_cases e : j = xs.length
      · subst e
        rw [getD_last]
        exact ⟨Nat.zero_le _, Nat.zero_le _⟩
      · have hj' : j < xs.length := by simp at hj; omega
        rw [getD_app hj']
        exact hF.2 j hj'
  · exact hF
  · rcases hc with ⟨rfl, rfl⟩ | ⟨_, rfl⟩
    · refine ⟨by rw [List.length_set]; exact hF.1, fun j hj => ?_⟩
      rw [List.length_set] at hj
      rw [bl.getD_set hk]
      split
      · have hb := sok_box hso hk
        have := rk_few hb.1 hb.2.1 hR
        omega
      · exact hF.2 j hj
    · exact hF
theorem ap_few {xs ys : List Bx} {m : mu.Mu} {c : Int} (hs : bx.Smalls xs) (hm : mu.Small m) (h : Ap xs m ys c) : Few ys ∧ bx.Smalls ys := by
  rcases h with ⟨_, rfl, _⟩ | ⟨_, _, rfl, _⟩ | ⟨_, h2, h3⟩
  · exact ⟨⟨Nat.zero_le _, fun j hj => absurd hj (Nat.not_lt_zero _)⟩, ⟨Nat.zero_le _, fun j hj => absurd hj (Nat.not_lt_zero _)⟩⟩
  · exact ⟨⟨Nat.zero_le _, fun j hj => absurd hj (Nat.not_lt_zero _)⟩, ⟨Nat.zero_le _, fun j hj => absurd hj (Nat.not_lt_zero _)⟩⟩
  · exact ⟨am_few h2.1 h3, am_small hs hm h2.1 h2.2 h3⟩
end Go.Proofs.Ytgjjeabjnkenkaa.sa

namespace Go.Proofs.Ytgjjeabjnkenkaa.sa
open Go.ChangeShapes Go.WideShapes Go.ChangeAt Go.RowKit Go.Deep Go.Joins
open st gr bx mx bl wi ml
set_option linter.unusedVariables false

def F8 (base : Nat) (L0 AG : Value) (xs : List Bx) (x : mu.Mu) : Nat → Value → World → Prop
  | 0, v, _ => v = L0
  | 1, v, X => ∃ B gp, v = .slice (some ⟨B, 0, none⟩) xs.length xs.length ∧ BoxesAt X v xs gp ∧ Fines xs gp ∧ sm.Caps v xs gp
  | 2, v, _ => v = AG
  | 3, v, X => ∃ g, v = mu.MV x (.slice (some ⟨g, 0, none⟩) x.ps.length x.ps.length) ∧ it.AttrsAt X (.slice (some ⟨g, 0, none⟩) x.ps.length x.ps.length) x.ps
  | 4, v, X => ∃ La Ln Lc c ys us, v = .tuple #[.slice La Ln Lc, .int .i64 c] ∧ Ap xs x ys c ∧ OwnL X base (.slice La Ln Lc) ys us
  | 5, v, X => ∃ La Ln Lc c ys us, v = .tuple #[.slice La Ln Lc, .int .i64 c] ∧ Ap xs x ys c ∧ OwnL X base (.slice La Ln Lc) ys us
  | 6, v, X => ∃ La Ln Lc c ys us, v = .slice La Ln Lc ∧ Ap xs x ys c ∧ OwnL X base (.slice La Ln Lc) ys us
  | 7, v, X => ∃ ys c, v = .int .i64 c ∧ Ap xs x ys c
  | 8, v, X => ∃ La Ln Lc c ys us, v = .slice La Ln Lc ∧ Ap xs x ys c ∧ OwnL X base (.slice La Ln Lc) ys us
  | 9, v, X => ∃ ys c, v = .int .i64 c ∧ Ap xs x ys c
  | _, _, _ => True
theorem F8.keep {base : Nat} {L0 AG : Value} {xs : List Bx} {m : mu.Mu} {x x' : World} (hb : Below x.heap.size x x') : ∀ (j : Nat) (v : Value), F8 base L0 AG xs m j v x → F8 base L0 AG xs m j v x'
  | 0, v, h => h
  | 1, v, ⟨B, gp, e, h, hf, hc⟩ => ⟨B, gp, e, boxes_below h hb, hf, hc⟩
  | 2, v, h => h
  | 3, v, ⟨g, e, h⟩ => ⟨g, e, it.at_below h hb⟩
  | 4, v, ⟨a, b, c, d, ys, us, e, h, ho⟩ => ⟨a, b, c, d, ys, us, e, h, ownL_below ho hb⟩
  | 5, v, ⟨a, b, c, d, ys, us, e, h, ho⟩ => ⟨a, b, c, d, ys, us, e, h, ownL_below ho hb⟩
  | 6, v, ⟨a, b, c, d, ys, us, e, h, ho⟩ => ⟨a, b, c, d, ys, us, e, h, ownL_below ho hb⟩
  | 7, v, h => h
  | 8, v, ⟨a, b, c, d, ys, us, e, h, ho⟩ => ⟨a, b, c, d, ys, us, e, h, ownL_below ho hb⟩
  | 9, v, h => h
  | n + 10, v, h => trivial
def J8 (W : World) (F : Nat → Value → World → Prop) (D : Nat → Prop) (f : Nat → Value) (x : World) : Prop := Below W.heap.size W x ∧ ∀ j, D j → F j (f j) x
theorem J8.grow {W : World} {base : Nat} {L0 AG : Value} {xs : List Bx} {m : mu.Mu} {D : Nat → Prop} {f : Nat → Value} {x x' : World} {i : Nat} (h : J8 W (F8 base L0 AG xs m) D f x) (y : Value) (hb : Below x.heap.size x x') (hi : F8 base L0 AG xs m i y x') : J8 W (F8 base L0 AG xs m) (fun j => j = i ∨ D j) (rs.upd f i y) x' := by
  refine ⟨h.1.trans (hb.mono h.1.size), fun j hj => ?_⟩
  by_cases e : j = i
  · subst e
    rw [rs.upd_same]
    exact hi
  · rw [rs.upd_other f i y e]
    exact F8.keep hb j _ (h.2 j (hj.resolve_left e))
theorem J8.pure {W : World} {base : Nat} {L0 AG : Value} {xs : List Bx} {m : mu.Mu} {D : Nat → Prop} {f : Nat → Value} {x : World} {i : Nat} (h : J8 W (F8 base L0 AG xs m) D f x) (y : Value) (hi : F8 base L0 AG xs m i y x) : J8 W (F8 base L0 AG xs m) (fun j => j = i ∨ D j) (rs.upd f i y) x := h.grow y (Below.refl _ _) hi
end Go.Proofs.Ytgjjeabjnkenkaa.sa
