/-
  The program's SetText.
-/
import Derived.Test.YtofpnabfecimhaaDoorStb
namespace Go.Proofs.YtofpnabfecimhaaDoor.rg
open Go.RowKit
open gr bl
set_option linter.unusedVariables false

/-- Texts laid so far. -/
def LayT (ps : List Pr) (k : Nat) (xs : List Value) : Prop := ∀ j, j < k → xs[j]? = some (.string ⟨(rt (ps.getD j no)).toArray⟩)
theorem layT_step {ps : List Pr} {k : Nat} {xs : List Value} (h : LayT ps k xs) (hl : k < xs.length) {r : Pr} (hr : ps.getD k no = r) : LayT ps (k + 1) (xs.set k (.string ⟨(rt r).toArray⟩)) := by
  intro j hj
  by_cases e : j = k
  · subst e
    rw [hr, List.getElem?_set_self hl]
  · rw [List.getElem?_set_ne (by omega)]
    exact h j (by omega)
theorem lens_rt (ps : List Pr) : ∀ k, k ≤ ps.length → EndsTo ps k → lens ((ps.take k).map rt) ≤ 21 * k
  | 0, _, _ => by simp [lens]
  | k + 1, hk, he => by
    have ih := lens_rt ps k (by omega) (fun j hj => he j (by omega))
    obtain ⟨e0, e1⟩ := he k (by omega)
    have hr := rt_len e0 e1
    have e : ps.getD k no = ps[k]'(by omega) := by simp [List.getD_eq_getElem?_getD, show k < ps.length by omega]
    rw [e] at hr
    have hap : ∀ (a b : List (List UInt8)), lens (a ++ b) = lens a + lens b := fun a b => by
      induction a with
      | nil => simp [lens]
      | cons x a ih => simp [lens] at ih ⊢; omega
    have h1 : lens [rt (ps[k]'(by omega))] = (rt (ps[k]'(by omega))).length := Nat.add_zero _
    rw [List.take_succ_eq_append_getElem (by omega), List.map_append, List.map_singleton, hap, h1]
    omega
set_option maxHeartbeats 4000000 in
set_option maxRecDepth 100000 in
theorem implST (v : Value) (ps : List Pr) (w : World) (h : RgAt w v ps) (hl : ps.length ≤ 1048576) (hT : tb.TP w) :
    Calls Tryd.prog 13 #[v] w fun e w' => e = .returned (.tuple #[.string (SR ps).1, .int .i64 (SR ps).2]) ∧ Below w.heap.size w w' := by
  have HA : Hid (RgAt w v ps) := h
  have HTP : Hid (tb.TP w) := hT
  obtain ⟨a, cap, rfl, h⟩ := h
  obtain ⟨m, hm⟩ : ∃ m, m = ps.length := ⟨_, rfl⟩
  have HM : Hid (m = ps.length) := hm
  have HL : Hid (ps.length ≤ 1048576) := hl
  have HH : Hid (ps = [] ∨ ∃ b off, a = some ⟨b, off, none⟩ ∧ ∀ j, j < ps.length → w.cell? ⟨b, off + j * 2, none⟩ = some (.int .i64 (ps.getD j no).1) ∧ w.cell? ⟨b, off + j * 2 + 1, none⟩ = some (.int .i64 (ps.getD j no).2)) := h
  rw [← hm] at hl HA ⊢
  clear hm h hT
  by_cases g0 : 4096 < m
  · have g0' : (4096 : Int) < (m : Int) := by omega
    rw [show SR ps = (⟨#[]⟩, 2) from by unfold SR; rw [if_pos (by rw [← HM.out]; exact g0)]]
    go_enter Tryd.func13, Tryd.ntmps13
    go_wp2
    go_ret2
    exact ⟨rfl, Below.refl _ _⟩
  have g0' : (m : Int) ≤ 4096 := by omega
  have hlt : ¬ 4096 < ps.length := by rw [← HM.out]; exact g0
  by_cases g1 : setB ps = false
  · rw [show SR ps = (⟨#[]⟩, 1) from by unfold SR; rw [if_neg hlt, if_pos g1]]
    clear hlt
    go_enter Tryd.func13, Tryd.ntmps13
    go_wp2_with fail
    refine (implSet_any _ ps w HA.out HL.out).mono ?_
    rintro e w1 ⟨rfl, b1⟩
    rw [g1]
    clear HA
    go_wp2
    go_ret2
    exact ⟨rfl, b1⟩
  have g1 : setB ps = true := by simpa using g1
  have HG : Hid (SetIs ps) := setB_of g1
  have hm50 : m ≤ 50 := by have := HG.out.2.1; have := HM.out; omega
  have hm1 : 1 ≤ m := by have := HG.out.1; have := HM.out; omega
  rw [show SR ps = (⟨(txl ps ps.length).toArray⟩, 0) from by unfold SR; rw [if_neg hlt, if_neg (by rw [g1]; simp)]]
  clear hlt
  obtain ⟨i0, hi, hz0, hz1, hz2⟩ := info_parts sp.infoStr
  go_enter Tryd.func13, Tryd.ntmps13
  go_wp2_with fail
  refine (implSet_any _ ps w HA.out HL.out).mono ?_
  rintro e w1 ⟨rfl, b1⟩
  rw [g1]
  clear HA g1
  have HT1 : Hid (tb.TP w1) := tb.keep' HTP.out b1
  have hw1 := b1.size
  go_wp2_with (at_make; refine wpList_make_full _ rfl _ _ 41 rfl w1.heap.size 9 i0 _ 1 Tryd.underlying41 hi hz0 hz1 _ _ _ _ m rfl rfl rfl rfl (by rw [hz2]; omega) (by unfold maxLen; omega) (Nat.le_refl _) ?_; intro w2 hown2 hg2)
  have hb2 : Below w1.heap.size w1 w2 := (Below.refl _ _).grown hg2 (Nat.le_refl _) (fun k hk => by cases hk)
  clear hg2
  go_loopw [18] (fun i wr => ∃ (k : Nat) (xs : List Value), k ≤ m ∧ i = .int .i64 k ∧ xs.length = m ∧ LayT ps k xs ∧ wr.ownsRow w1.heap.size 9 1 (.slice (some ⟨w1.heap.size, 0, none⟩) m m) m xs ∧ Below w1.heap.size w1 wr) (fun i _ => m - (intOf i).toNat)
  case atStart => exact ⟨0, _, Nat.zero_le _, rfl, by have := hown2.1; omega, fun j hj => absurd hj (Nat.not_lt_zero _), hown2, hb2⟩
  case round =>
    clear hown2 hb2
    obtain ⟨k, xs, hk, rfl, hxl, hm2, hown, hbw⟩ := hrel
    have HLT : Hid (LayT ps k xs) := hm2
    have HXL : Hid (xs.length = m) := hxl
    clear hm2 hxl
    by_cases hlk : k < m
    · have hka : k < ps.length := by rw [← HM.out]; exact hlk
      rcases HH.out with e | ⟨b, off, rfl, hcells⟩
      · rw [e] at hka; simp at hka
      obtain ⟨v0, v1⟩ := hcells k hka
      have hblt : b < w.heap.size := World.block_lt_of_cell? w _ v0
      obtain ⟨e0, e1⟩ := HG.out.2.2 k hka
      have HX0 : Hid (∀ x0 x1, (ps.getD k no).1 = x0 → (ps.getD k no).2 = x1 → ps.getD k no = (x0, x1)) := fun x0 x1 e0 e1 => by rw [← e0, ← e1]
      clear hcells hka
      generalize hx0 : (ps.getD k no).1 = x0 at v0 e0
      generalize hx1 : (ps.getD k no).2 = x1 at v1 e1
      have HX : Hid (ps.getD k no = (x0, x1)) := HX0.out _ _ hx0 hx1
      clear hx0 hx1 HX0
      have bw := b1.trans (hbw.mono hw1)
      have c0 := (bw.cell (p := ⟨b, off + k * 2, none⟩) hblt).trans v0
      have c1 := (bw.cell (p := ⟨b, off + k * 2 + 1, none⟩) hblt).trans v1
      have hlk' : (k : Int) < (m : Int) := by omega
      have b4 := new_below wr 38 #[.int .i64 x0, .int .i64 x1]
      have HTX : Hid (∀ W, tb.TP W → Calls Tryd.prog 28 #[.agg #[.int .i64 x0, .int .i64 x1]] W fun e w' => e = .returned (.string ⟨(rt (x0, x1)).toArray⟩) ∧ Below W.heap.size W w') := fun W hW => text_any x0 x1 e0 e1 W hW
      have HT4 : Hid (tb.TP (wr.alloc (.cells #[.int .i64 x0, .int .i64 x1] 38))) := tb.keep' (tb.keep' HT1.out hbw) b4
      have own4 := ow.own_below hown b4
      have b5 := hbw.trans (b4.mono hbw.size)
      clear v0 v1 e0 e1 bw
      go_wp2_with fail
      generalize wr.alloc _ = w4 at b4 HT4 own4 b5 ⊢
      refine (HTX.out _ HT4.out).mono ?_
      rintro e w6 ⟨rfl, b6⟩
      have own6 := ow.own_below own4 b6
      have b7 := b5.trans (b6.mono b5.size)
      clear b6 b5 own4 HT4 HTX hown hbw b4 c0 c1
      have HO : Hid (w6.ownsRow w1.heap.size 9 1 (.slice (some ⟨w1.heap.size, 0, none⟩) m m) m xs) := own6
      have q0 := own6.cellAt k (by omega)
      rw [List.getElem?_eq_getElem (by rw [HXL.out]; omega)] at q0
      have f0 := own6.frozenAt k
      clear own6
      generalize xs[k]'(by rw [HXL.out]; omega) = u0 at q0
      have HLS : Hid (LayT ps (k + 1) (xs.set k (.string ⟨(rt (x0, x1)).toArray⟩))) := layT_step HLT.out (by rw [HXL.out]; omega) HX.out
      generalize (⟨(rt (x0, x1)).toArray⟩ : ByteArray) = Y at HLS ⊢
      go_wp2
      go_roundw
      case rel => exact ⟨k + 1, xs.set k (.string Y), by omega, by go_num, by rw [List.length_set]; exact HXL.out, HLS.out, (HO.out.stored _ _).1, b7.setCell (Nat.le_refl _) _⟩
      case measure => simp [intOf]; omega
    · have hkm : k = m := by omega
      subst hkm
      have hV : ((ps.take ps.length).map rt).length = k := by rw [List.length_map, List.length_take, HM.out]; omega
      have hlen : ((ps.take ps.length).map rt).length + lens ((ps.take ps.length).map rt) ≤ 1048576 := by
        have := lens_rt ps ps.length (Nat.le_refl _) HG.out.2.2
        have := HM.out
        omega
      have hsz : w1.heap.size < wr.heap.size := by
        have q0 := hown.cellAt 0 (by omega)
        rw [List.getElem?_eq_getElem (by rw [HXL.out]; omega)] at q0
        exact World.block_lt_of_cell? wr _ q0
      have hj := join_any (.slice (some ⟨w1.heap.size, 0, none⟩) k k) ((ps.take ps.length).map rt) 44 wr (.inr ⟨w1.heap.size, k, by rw [hV], by rw [hV]; exact Nat.le_refl _, hsz, fun j hj => by
        rw [hV] at hj
        rw [hown.cellAt j (by omega), HLT.out j hj]
        have hjp : j < ps.length := by rw [← HM.out]; exact hj
        simp [List.getD_eq_getElem?_getD, hjp]⟩) hlen
      have HJ : Hid (Calls Tryd.prog 16 #[.slice (some ⟨w1.heap.size, 0, none⟩) k k, .string ⟨#[44]⟩] wr fun e w' => e = .returned (.string ⟨(txl ps ps.length).toArray⟩) ∧ Below wr.heap.size wr w') := hj
      clear hj hlen hV hown HLT
      generalize hY : (⟨(txl ps ps.length).toArray⟩ : ByteArray) = Y at HJ
      have HY : Hid ((⟨(txl ps ps.length).toArray⟩ : ByteArray) = Y) := hY
      clear hY
      go_wp2_with fail
      refine HJ.out.mono ?_
      rintro e w5 ⟨rfl, hb5⟩
      have b5 := (b1.trans (hbw.mono hw1)).trans (hb5.mono (b1.trans (hbw.mono hw1)).size)
      clear HJ hb5
      go_wp2
      go_ret2
      exact ⟨by rw [HY.out]; rfl, b5⟩
end Go.Proofs.YtofpnabfecimhaaDoor.rg
