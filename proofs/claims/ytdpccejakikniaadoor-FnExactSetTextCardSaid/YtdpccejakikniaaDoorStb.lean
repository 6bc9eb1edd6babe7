/-
  Both SetText functions.
-/
import Derived.Test.YtdpccejakikniaaDoorSta
namespace Go.Proofs.YtdpccejakikniaaDoor.rg
open Go.RowKit
open gr bl
set_option linter.unusedVariables false

/-- What SetText answers. -/
def SR (ps : List Pr) : ByteArray × Int := if 4096 < ps.length then (⟨#[]⟩, 2) else if setB ps = false then (⟨#[]⟩, 1) else (⟨(txl ps ps.length).toArray⟩, 0)

set_option maxRecDepth 100000 in
theorem name_any (n : Int) (h : End n) (w : World) : Calls Tryd.prog 30 #[.int .i64 n] w fun e w' => e = .returned (.string ⟨(nm1 n).toArray⟩) ∧ Below w.heap.size w w' := by
  by_cases h0 : n = 0
  · subst h0
    go_enter Tryd.func30, Tryd.ntmps30
    go_wp2
    go_ret
    exact ⟨rfl, Below.refl _ _⟩
  · have hb : (n == 0) = false := by simpa using h0
    obtain ⟨m, rfl⟩ : ∃ m : Nat, n = m := ⟨n.toNat, by have := h.1; omega⟩
    have HE : Hid (nm1 (m : Int) = Lib.decDigits m) := by unfold nm1; rw [if_neg h0]; rfl
    have HC : Hid (Calls Tryd.prog 47 #[.int .i64 (m : Int)] w fun e w' => e = .returned (.string ⟨(Lib.decDigits m).toArray⟩) ∧ Below w.heap.size w w') := dx.digs_any m (by have := h.2; omega) w
    clear h h0
    rw [HE.out]
    go_enter Tryd.func30, Tryd.ntmps30
    go_wp2_with fail
    refine HC.out.mono ?_
    rintro e w1 ⟨rfl, b1⟩
    go_wp2
    go_ret
    exact ⟨rfl, b1⟩
def TxIs (ps : List Pr) (k : Nat) (z : Value) : Prop := z = .string ⟨(txl ps k).toArray⟩
set_option maxHeartbeats 4000000 in
set_option maxRecDepth 100000 in
theorem specST (v : Value) (ps : List Pr) (w : World) (h : RgAt w v ps) (hl : ps.length ≤ 1048576) :
    Calls Tryd.prog 12 #[v] w fun e w' => e = .returned (.tuple #[.string (SR ps).1, .int .i64 (SR ps).2]) ∧ Below w.heap.size w w' := by
  have HA : Hid (RgAt w v ps) := h
  obtain ⟨a, cap, rfl, h⟩ := h
  obtain ⟨m, hm⟩ : ∃ m, m = ps.length := ⟨_, rfl⟩
  have HM : Hid (m = ps.length) := hm
  have HL : Hid (ps.length ≤ 1048576) := hl
  have HH : Hid (ps = [] ∨ ∃ b off, a = some ⟨b, off, none⟩ ∧ ∀ j, j < ps.length → w.cell? ⟨b, off + j * 2, none⟩ = some (.int .i64 (ps.getD j no).1) ∧ w.cell? ⟨b, off + j * 2 + 1, none⟩ = some (.int .i64 (ps.getD j no).2)) := h
  rw [← hm] at hl HA ⊢
  clear hm h
  by_cases g0 : 4096 < m
  · have g0' : (4096 : Int) < (m : Int) := by omega
    rw [show SR ps = (⟨#[]⟩, 2) from by unfold SR; rw [if_pos (by rw [← HM.out]; exact g0)]]
    go_enter Tryd.func12, Tryd.ntmps12
    go_wp2
    go_ret2
    exact ⟨rfl, Below.refl _ _⟩
  have g0' : (m : Int) ≤ 4096 := by omega
  have hlt : ¬ 4096 < ps.length := by rw [← HM.out]; exact g0
  by_cases g1 : setB ps = false
  · rw [show SR ps = (⟨#[]⟩, 1) from by unfold SR; rw [if_neg hlt, if_pos g1]]
    clear hlt
    go_enter Tryd.func12, Tryd.ntmps12
    go_wp2_with fail
    refine (specSet_any _ ps w HA.out HL.out).mono ?_
    rintro e w1 ⟨rfl, hw1⟩
    have b1 : Below w.heap.size w w1 := by rw [hw1]; exact Below.refl _ _
    rw [g1]
    clear HA hw1
    go_wp2
    go_ret2
    exact ⟨rfl, b1⟩
  have g1 : setB ps = true := by simpa using g1
  have HG : Hid (SetIs ps) := setB_of g1
  have hm50 : m ≤ 50 := by have := HG.out.2.1; have := HM.out; omega
  rw [show SR ps = (⟨(txl ps ps.length).toArray⟩, 0) from by unfold SR; rw [if_neg hlt, if_neg (by rw [g1]; simp)]]
  clear hlt
  go_enter Tryd.func12, Tryd.ntmps12
  go_wp2_with fail
  refine (specSet_any _ ps w HA.out HL.out).mono ?_
  rintro e w ⟨rfl, rfl⟩
  rw [g1]
  clear HA g1
  go_wp2
  go_loopw [4, 5] (fun z i wr => ∃ k : Nat, k ≤ m ∧ TxIs ps k z ∧ i = .int .i64 k ∧ Below w.heap.size w wr) (fun _ i _ => m - (intOf i).toNat)
  case atStart => exact ⟨0, Nat.zero_le _, rfl, rfl, Below.refl _ _⟩
  case round =>
    obtain ⟨k, hk, hz, rfl, hbw⟩ := hrel
    obtain rfl : _ = _ := hz
    by_cases hlk : k < m
    · have hka : k < ps.length := by rw [← HM.out]; exact hlk
      have HKA : Hid (k < ps.length) := hka
      rcases HH.out with e | ⟨b, off, rfl, hcells⟩
      · rw [e] at hka; simp at hka
      obtain ⟨v0, v1⟩ := hcells k hka
      have hblt : b < w.heap.size := World.block_lt_of_cell? w _ v0
      obtain ⟨e0, e1⟩ := HG.out.2.2 k hka
      have hts : (txl ps k).length ≤ 1100 := by have := txl_len ps k (by omega) (fun j hj => HG.out.2.2 j (by omega)); omega
      have HF : Hid (k = 0 → txl ps (k + 1) = rt (ps.getD k no)) := fun y => by subst y; exact txl_first ps hka
      have HMo : Hid (0 < k → txl ps (k + 1) = txl ps k ++ (44 :: rt (ps.getD k no))) := fun y => txl_more ps k y hka
      have HTA : Hid ((0 < k ∨ k = 0) ∧ (k = 0 → txl ps k = [])) := ⟨by omega, fun y => by subst y; rfl⟩
      have HX0 : Hid (∀ x0 x1, (ps.getD k no).1 = x0 → (ps.getD k no).2 = x1 → ps.getD k no = (x0, x1)) := fun x0 x1 e0 e1 => by rw [← e0, ← e1]
      clear hcells hka
      generalize hx0 : (ps.getD k no).1 = x0 at v0 e0
      generalize hx1 : (ps.getD k no).2 = x1 at v1 e1
      have HX := HX0.out _ _ hx0 hx1
      rw [HX] at HF HMo
      clear hx0 hx1 HX0 HX
      have c0 := (hbw.cell (p := ⟨b, off + k * 2, none⟩) hblt).trans v0
      have c1 := (hbw.cell (p := ⟨b, off + k * 2 + 1, none⟩) hblt).trans v1
      have HV : Hid (w.cell? ⟨b, off + k * 2, none⟩ = some (.int .i64 x0) ∧ w.cell? ⟨b, off + k * 2 + 1, none⟩ = some (.int .i64 x1)) := ⟨v0, v1⟩
      obtain ⟨T, hT⟩ : ∃ T : ByteArray, T = ⟨(txl ps k).toArray⟩ := ⟨_, rfl⟩
      have hTs : T.size ≤ 1100 := by rw [Lib.size_eq, hT]; exact hts
      -- the text behind this range
      obtain ⟨A, hA⟩ : ∃ A : ByteArray, A = ⟨(nm1 x0).toArray⟩ := ⟨_, rfl⟩
      obtain ⟨B, hB⟩ : ∃ B : ByteArray, B = ⟨(nm1 x1).toArray⟩ := ⟨_, rfl⟩
      have hAs : A.size ≤ 10 := by rw [Lib.size_eq, hA]; exact nm1_len e0
      have hBs : B.size ≤ 10 := by rw [Lib.size_eq, hB]; exact nm1_len e1
      have HCA : Hid (∀ W, Calls Tryd.prog 30 #[.int .i64 x0] W fun e w' => e = .returned (.string A) ∧ Below W.heap.size W w') := fun W => by rw [hA]; exact name_any x0 e0 W
      have HCB : Hid (∀ W, Calls Tryd.prog 30 #[.int .i64 x1] W fun e w' => e = .returned (.string B) ∧ Below W.heap.size W w') := fun W => by rw [hB]; exact name_any x1 e1 W
      have HS : Hid (∀ T0 : ByteArray, ((k = 0 ∧ T0 = T) ∨ (0 < k ∧ T0 = T ++ ⟨#[44]⟩)) → (x1 = x0 → (⟨(txl ps (k + 1)).toArray⟩ : ByteArray) = T0 ++ A) ∧ (x1 ≠ x0 → (⟨(txl ps (k + 1)).toArray⟩ : ByteArray) = T0 ++ A ++ (⟨#[58]⟩ ++ B))) := by
        intro T0 hT0
        have e44 : (⟨#[44]⟩ : ByteArray) = ⟨([44] : List UInt8).toArray⟩ := rfl
        have e58 : (⟨#[58]⟩ : ByteArray) = ⟨([58] : List UInt8).toArray⟩ := rfl
        have key : (⟨(txl ps (k + 1)).toArray⟩ : ByteArray) = T0 ++ ⟨(rt (x0, x1)).toArray⟩ := by
          rcases hT0 with ⟨h0, rfl⟩ | ⟨h0, rfl⟩
          · rw [HF.out h0, hT, mk_app, HTA.out.2 h0]; rfl
          · rw [HMo.out h0, hT, e44, mk_app, mk_app]; simp
        refine ⟨fun e => ?_, fun e => ?_⟩
        · rw [key, hA]; unfold rt; rw [if_pos e.symm]
        · rw [key, hA, hB, e58, mk_app, ByteArray.append_assoc, mk_app]; unfold rt; rw [if_neg (fun y => e y.symm)]; simp
      rw [← hT]
      clear hT hA hB HF HMo hts e0 e1 v0 v1
      have hlk' : (k : Int) < (m : Int) := by omega
      have hk0 : (0 : Int) ≤ (k : Int) := by omega
      by_cases hk1 : k = 0
      · subst hk1
        have HV : Hid (w.cell? ⟨b, off, none⟩ = some (.int .i64 x0) ∧ w.cell? ⟨b, off + 1, none⟩ = some (.int .i64 x1)) := by have := HV.out; simp only [Nat.zero_mul, Nat.add_zero] at this; exact this
        simp only [Nat.zero_mul, Nat.add_zero] at c0 c1
        by_cases heq : x1 = x0
        · have HZ : Hid ((⟨(txl ps (0 + 1)).toArray⟩ : ByteArray) = T ++ A) := (HS.out (T) (.inl ⟨rfl, rfl⟩)).1 heq
          have hne : (x1 != x0) = false := by rw [heq]; simp
          clear HS heq
          go_wp2_with fail
          refine (HCA.out _).mono ?_
          rintro e w1 ⟨rfl, b1⟩
          have b2 := hbw.trans (b1.mono hbw.size)
          have c0 := (b2.cell (p := ⟨b, off, none⟩) hblt).trans HV.out.1
          have c1 := (b2.cell (p := ⟨b, off + 1, none⟩) hblt).trans HV.out.2
          clear b1 hbw HCA
          go_wp2_with fail
          go_quiet (fail)
          have HB2 : Hid (∀ q, Below w.heap.size w (w1.drewN q)) := fun q => below_drewN b2 q
          have HC2 : Hid (∀ q, (w1.drewN q).cell? ⟨b, off + 1, none⟩ = some (.int .i64 x1)) := fun q => c1
          go_wp2
          go_roundw
          case rel => exact ⟨0 + 1, by omega, by unfold TxIs; rw [HZ.out], by go_num, HB2.out _⟩
          case measure => simp [intOf]; omega
        · have HZ : Hid ((⟨(txl ps (0 + 1)).toArray⟩ : ByteArray) = T ++ A ++ (⟨#[58]⟩ ++ B)) := (HS.out (T) (.inl ⟨rfl, rfl⟩)).2 heq
          have hne : (x1 != x0) = true := by simpa using heq
          clear HS heq
          go_wp2_with fail
          refine (HCA.out _).mono ?_
          rintro e w1 ⟨rfl, b1⟩
          have b2 := hbw.trans (b1.mono hbw.size)
          have c0 := (b2.cell (p := ⟨b, off, none⟩) hblt).trans HV.out.1
          have c1 := (b2.cell (p := ⟨b, off + 1, none⟩) hblt).trans HV.out.2
          clear b1 hbw HCA
          go_wp2_with fail
          go_quiet (fail)
          have HB2 : Hid (∀ q, Below w.heap.size w (w1.drewN q)) := fun q => below_drewN b2 q
          have HC2 : Hid (∀ q, (w1.drewN q).cell? ⟨b, off + 1, none⟩ = some (.int .i64 x1)) := fun q => c1
          go_wp2_with fail
          refine (HCB.out _).mono ?_
          rintro e w3 ⟨rfl, b3⟩
          have b4 := (HB2.out _).trans (b3.mono (HB2.out _).size)
          clear b3 b2 HCB c0 c1
          go_wp2
          go_roundw
          case rel => exact ⟨0 + 1, by omega, by unfold TxIs; rw [HZ.out], by go_num, b4⟩
          case measure => simp [intOf]; omega
      · have HK0 : Hid (0 < k) := (show 0 < k by omega)
        have hk2 : (0 : Int) < (k : Int) := by omega
        by_cases heq : x1 = x0
        · have HZ : Hid ((⟨(txl ps (k + 1)).toArray⟩ : ByteArray) = (T ++ ⟨#[44]⟩) ++ A) := (HS.out (T ++ (⟨#[44]⟩ : ByteArray)) (.inr ⟨HK0.out, rfl⟩)).1 heq
          have hne : (x1 != x0) = false := by rw [heq]; simp
          clear HS heq
          go_wp2_with fail
          refine (HCA.out _).mono ?_
          rintro e w1 ⟨rfl, b1⟩
          have b2 := hbw.trans (b1.mono hbw.size)
          have c0 := (b2.cell (p := ⟨b, off + k * 2, none⟩) hblt).trans HV.out.1
          have c1 := (b2.cell (p := ⟨b, off + k * 2 + 1, none⟩) hblt).trans HV.out.2
          clear b1 hbw HCA
          go_wp2_with fail
          go_quiet (fail)
          have HB2 : Hid (∀ q, Below w.heap.size w (w1.drewN q)) := fun q => below_drewN b2 q
          have HC2 : Hid (∀ q, (w1.drewN q).cell? ⟨b, off + k * 2 + 1, none⟩ = some (.int .i64 x1)) := fun q => c1
          go_wp2
          go_roundw
          case rel => exact ⟨k + 1, by omega, by unfold TxIs; rw [HZ.out], by go_num, HB2.out _⟩
          case measure => simp [intOf]; omega
        · have HZ : Hid ((⟨(txl ps (k + 1)).toArray⟩ : ByteArray) = (T ++ ⟨#[44]⟩) ++ A ++ (⟨#[58]⟩ ++ B)) := (HS.out (T ++ (⟨#[44]⟩ : ByteArray)) (.inr ⟨HK0.out, rfl⟩)).2 heq
          have hne : (x1 != x0) = true := by simpa using heq
          clear HS heq
          go_wp2_with fail
          refine (HCA.out _).mono ?_
          rintro e w1 ⟨rfl, b1⟩
          have b2 := hbw.trans (b1.mono hbw.size)
          have c0 := (b2.cell (p := ⟨b, off + k * 2, none⟩) hblt).trans HV.out.1
          have c1 := (b2.cell (p := ⟨b, off + k * 2 + 1, none⟩) hblt).trans HV.out.2
          clear b1 hbw HCA
          go_wp2_with fail
          go_quiet (fail)
          have HB2 : Hid (∀ q, Below w.heap.size w (w1.drewN q)) := fun q => below_drewN b2 q
          have HC2 : Hid (∀ q, (w1.drewN q).cell? ⟨b, off + k * 2 + 1, none⟩ = some (.int .i64 x1)) := fun q => c1
          go_wp2_with fail
          refine (HCB.out _).mono ?_
          rintro e w3 ⟨rfl, b3⟩
          have b4 := (HB2.out _).trans (b3.mono (HB2.out _).size)
          clear b3 b2 HCB c0 c1
          go_wp2
          go_roundw
          case rel => exact ⟨k + 1, by omega, by unfold TxIs; rw [HZ.out], by go_num, b4⟩
          case measure => simp [intOf]; omega
    · have hkm : k = m := by omega
      subst hkm
      go_wp2
      go_ret2
      exact ⟨by rw [← HM.out]; rfl, hbw⟩
end Go.Proofs.YtdpccejakikniaaDoor.rg
