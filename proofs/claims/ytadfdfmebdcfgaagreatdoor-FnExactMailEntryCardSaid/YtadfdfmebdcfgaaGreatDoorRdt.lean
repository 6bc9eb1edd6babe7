/-
  The contract of the specification's ReadRfc822.
-/
import Derived.Test.YtadfdfmebdcfgaaGreatDoorRds
import Derived.Test.YtadfdfmebdcfgaaGreatDoorGrw
import Derived.Test.YtadfdfmebdcfgaaGreatDoorDxe
import Derived.Deep.DeepCutAuto
import Derived.Deep.RegionHeld
namespace Go.Proofs.YtadfdfmebdcfgaaGreatDoor.rd
open Go.RowKit
open dt gr
set_option linter.unusedVariables false
/-- The month that was found among the first names. -/
def monk (n : List UInt8) (k : Nat) : Int := if mon n < k then mon n else 0
theorem lies_drewS (w : World) (y m d h i s : Int) : dw.Lies (w.alloc (.cells #[.int .i64 y, .int .i64 m, .int .i64 d, .int .i64 h, .int .i64 i, .int .i64 s] 99)).drew w.heap.size y m d h i s := dw.lies_new w y m d h i s
theorem dbelS {w v : World} {B : Nat} (h : Below B w v) (n : Nat) : Below B w (v.drewN n) := ⟨h.os, h.tape, h.output, h.size, h.block⟩
theorem zp_len {z : List UInt8} (h : z.length ≠ 5) : zp z = none := by
  match z, h with
  | [], _ => rfl
  | [_], _ => rfl
  | [_, _], _ => rfl
  | [_, _, _], _ => rfl
  | [_, _, _, _], _ => rfl
  | [_, _, _, _, _], h => exact absurd rfl h
  | _ :: _ :: _ :: _ :: _ :: _ :: _, _ => rfl
theorem zp_five (z : ByteArray) (h : z.size = 5) (h0 : 0 < z.size) : zp z.data.toList = zn (z[0]'h0) (z.extract 1 3).data.toList (z.extract 3 5).data.toList := by
  rw [ext_list, ext_list, ← getD_eq z 0 h0]
  have hl : z.data.toList.length = 5 := h
  generalize z.data.toList = l at hl ⊢
  match l, hl with
  | [a, b, c, d, e], _ => rfl
theorem monk_one (n : List UInt8) : monk n 1 = 0 := by unfold monk; have := mon_bound n; split <;> omega
theorem monk_end (n : List UInt8) : monk n 13 = mon n := by unfold monk; have := mon_bound n; rw [if_pos (by omega)]
theorem monk_hit {n : List UInt8} {k : Nat} (h1 : 1 ≤ k) (h : k < 13) (e : dx.mtn k = n) : monk n (k + 1) = k := by
  have hm : mon n = k := by
    rw [← e]
    have q : dx.mtn k = td.mts[k]'h := by unfold dx.mtn; rw [List.getD_eq_getElem?_getD, List.getElem?_eq_getElem (show k < td.mts.length from h)]; rfl
    rw [q, mon_at h1 h]
  unfold monk
  rw [hm, if_pos (by omega)]
theorem monk_miss {n : List UInt8} {k : Nat} (h1 : 1 ≤ k) (h : k < 13) (e : dx.mtn k ≠ n) : monk n (k + 1) = monk n k := by
  have hm : mon n ≠ k := by
    intro q
    apply e
    unfold mon at q
    split at q
    · rename_i c
      have hl : td.mts.idxOf n < td.mts.length := by show _ < 13; omega
      have e1 := List.getElem_idxOf hl
      have e2 : td.mts.idxOf n = k := by omega
      unfold dx.mtn
      rw [List.getD_eq_getElem?_getD, ← e2, List.getElem?_eq_getElem hl, e1]
      rfl
    · omega
  unfold monk
  have := mon_bound n
  split <;> split <;> omega

set_option maxHeartbeats 8000000 in
set_option maxRecDepth 100000 in
theorem spec_822_plain (s : ByteArray) (hs : s.size ≤ 65536) (w : World) (hah : ¬ ahead s.data.toList) : Calls Tryz.prog 37 #[.string s] w fun e w' => e = .returned (coreI none (wds [] s.data.toList)) ∧ Below w.heap.size w w' := by
  have hb : (s.size : Int) ≤ 65536 := by omega
  have HCUT : Hid (∀ w, Calls Tryz.prog 80 #[.string s, .int .u8 32] w fun e w' => ∃ v, e = .returned v ∧ PartsAt (wds [] s.data.toList) v w' w.heap.size ∧ Below w.heap.size w w') := fun w => cut_words s w (by omega)
  have HAH : Hid (¬ ahead s.data.toList) := hah
  clear hah
  have hne := wds_ne [] s.data.toList
  generalize wds [] s.data.toList = V at HCUT hne ⊢
  go_enter Tryz.func37, Tryz.ntmps37
  go_upto_region 4 with fail
  go_cut [28] (fun t wx => t = .bool false ∧ wx = w)
  case first =>
    by_cases c1 : 5 < s.size
    rotate_left
    · have d1 : decide ((5 : Int) < (s.size : Int)) = false := decide_eq_false (by omega)
      go_wp2_with fail
      go_meet
      exact ⟨rfl, rfl⟩
    have d1 : decide ((5 : Int) < (s.size : Int)) = true := decide_eq_true (by omega)
    have n3 : 3 < s.size := by omega
    have n4 : 4 < s.size := by omega
    have n3' : (3 : Int) < (s.size : Int) := by omega
    have n4' : (4 : Int) < (s.size : Int) := by omega
    by_cases c2 : s[3]'n3 = 44
    rotate_left
    · have d2 : (((s[3]'n3).toNat : Int) == 44) = false := beq_eq_false_iff_ne.2 (fun e => c2 ((nat_of_beq (n := 44) (by decide)).2 e))
      clear c2
      go_wp2_with fail
      go_meet
      exact ⟨rfl, rfl⟩
    have d2 : (((s[3]'n3).toNat : Int) == 44) = true := by rw [c2]; rfl
    have c3 : s[4]'n4 ≠ 32 := fun e => HAH.out ⟨by rw [len_eq]; exact c1, by rw [getD_eq s 3 n3]; exact c2, by rw [getD_eq s 4 n4]; exact e⟩
    have d3 : (((s[4]'n4).toNat : Int) == 32) = false := beq_eq_false_iff_ne.2 (fun e => c3 ((nat_of_beq (n := 32) (by decide)).2 e))
    clear c2 c3
    go_wp2_with fail
    go_meet
    exact ⟨rfl, rfl⟩
  case rest =>
    obtain ⟨rfl, rfl⟩ := hcut
    go_at_K
    clear HAH
    go_wp2_with fail
    refine (HCUT.out _).mono ?_
    rintro e w1 ⟨v, rfl, hp, b1⟩
    clear HCUT
    obtain ⟨gb, cap, rfl, hg0, hgl, hcell⟩ := parts_form hp hne
    clear hp
    by_cases h5 : V.length = 5
    rotate_left
    · have d5 : ((V.length : Int) != 5) = true := bne_iff_ne.2 (by omega)
      have d5' : ((V.length : Int) == 5) = false := beq_eq_false_iff_ne.2 (by omega)
      have HE : Hid (coreI none V = bad) := coreI_len h5
      clear hcell
      go_wp2
      go_ret2
      exact ⟨by rw [HE.out]; rfl, b1⟩
    obtain ⟨d, mo, y, c, z, rfl⟩ : ∃ d mo y c z, V = [d, mo, y, c, z] := by
      match V, h5 with
      | [d, mo, y, c, z], _ => exact ⟨d, mo, y, c, z, rfl⟩
    obtain ⟨D, hD, q0⟩ : ∃ D : ByteArray, D.data.toList = d ∧ w1.cell? ⟨gb, 0, none⟩ = some (.string D) := ⟨⟨d.toArray⟩, by simp, hcell 0 (by simp)⟩
    obtain ⟨MO, hM, q1⟩ : ∃ D : ByteArray, D.data.toList = mo ∧ w1.cell? ⟨gb, 1, none⟩ = some (.string D) := ⟨⟨mo.toArray⟩, by simp, hcell 1 (by simp)⟩
    obtain ⟨Y, hY, q2⟩ : ∃ D : ByteArray, D.data.toList = y ∧ w1.cell? ⟨gb, 2, none⟩ = some (.string D) := ⟨⟨y.toArray⟩, by simp, hcell 2 (by simp)⟩
    obtain ⟨C, hC, q3⟩ : ∃ D : ByteArray, D.data.toList = c ∧ w1.cell? ⟨gb, 3, none⟩ = some (.string D) := ⟨⟨c.toArray⟩, by simp, hcell 3 (by simp)⟩
    obtain ⟨Z, hZ, q4⟩ : ∃ D : ByteArray, D.data.toList = z ∧ w1.cell? ⟨gb, 4, none⟩ = some (.string D) := ⟨⟨z.toArray⟩, by simp, hcell 4 (by simp)⟩
    subst hD hM hY hC hZ
    clear hcell h5 hne
    have NOF : Hid (¬ formS D.data.toList Y.data.toList C.data.toList → coreI none [D.data.toList, MO.data.toList, Y.data.toList, C.data.toList, Z.data.toList] = bad) := fun h => core_spec_no h
    by_cases g1 : D.size = 1 ∨ D.size = 2
    rotate_left
    · have e1 : dw.inB (D.size : Int) 1 2 = false := dw.in_no (by omega)
      have HE := NOF.out (fun h => g1 h.1)
      have HE' : Hid _ := HE
      clear HE NOF g1
      go_wp2_with (go_at_call 55; refine (dw.in_any _ _ _ _).mono ?_; rintro e w' ⟨rfl, rfl⟩)
      go_ret2
      exact ⟨by rw [HE'.out]; rfl, b1⟩
    have e1 : dw.inB (D.size : Int) 1 2 = true := dw.in_yes (by omega) (by omega)
    by_cases g2 : Y.size = 4
    rotate_left
    · have e2 : ((Y.size : Int) != 4) = true := bne_iff_ne.2 (by omega)
      have HE := NOF.out (fun h => g2 h.2.1)
      have HE' : Hid _ := HE
      clear HE NOF g1 g2
      go_wp2_with (go_at_call 55; refine (dw.in_any _ _ _ _).mono ?_; rintro e w' ⟨rfl, rfl⟩)
      go_ret2
      exact ⟨by rw [HE'.out]; rfl, b1⟩
    have e2 : ((Y.size : Int) != 4) = false := by rw [show (Y.size : Int) = 4 by omega]; rfl
    by_cases g3 : C.size = 8
    rotate_left
    · have e3 : ((C.size : Int) != 8) = true := bne_iff_ne.2 (by omega)
      have HE := NOF.out (fun h => g3 h.2.2.1)
      have HE' : Hid _ := HE
      clear HE NOF g1 g2 g3
      go_wp2_with (go_at_call 55; refine (dw.in_any _ _ _ _).mono ?_; rintro e w' ⟨rfl, rfl⟩)
      go_ret2
      exact ⟨by rw [HE'.out]; rfl, b1⟩
    have e3 : ((C.size : Int) != 8) = false := by rw [show (C.size : Int) = 8 by omega]; rfl
    have n2 : 2 < C.size := by omega
    have n5 : 5 < C.size := by omega
    have n2' : (2 : Int) < (C.size : Int) := by omega
    have n5' : (5 : Int) < (C.size : Int) := by omega
    by_cases g4 : C[2]'n2 = 58
    rotate_left
    · have e4 : (((C[2]'n2).toNat : Int) != 58) = true := bne_iff_ne.2 (fun e => g4 ((nat_of_beq (n := 58) (by decide)).2 e))
      have HE := NOF.out (fun h => g4 (by rw [← getD_eq C 2 n2]; exact h.2.2.2.1))
      have HE' : Hid _ := HE
      clear HE NOF g1 g2 g3 g4
      go_wp2_with (go_at_call 55; refine (dw.in_any _ _ _ _).mono ?_; rintro e w' ⟨rfl, rfl⟩)
      go_ret2
      exact ⟨by rw [HE'.out]; rfl, b1⟩
    have e4 : (((C[2]'n2).toNat : Int) != 58) = false := by rw [g4]; rfl
    by_cases g5 : C[5]'n5 = 58
    rotate_left
    · have e5 : (((C[5]'n5).toNat : Int) != 58) = true := bne_iff_ne.2 (fun e => g5 ((nat_of_beq (n := 58) (by decide)).2 e))
      have HE := NOF.out (fun h => g5 (by rw [← getD_eq C 5 n5]; exact h.2.2.2.2))
      have HE' : Hid _ := HE
      clear HE NOF g1 g2 g3 g4 g5
      go_wp2_with (go_at_call 55; refine (dw.in_any _ _ _ _).mono ?_; rintro e w' ⟨rfl, rfl⟩)
      go_ret2
      exact ⟨by rw [HE'.out]; rfl, b1⟩
    have e5 : (((C[5]'n5).toNat : Int) != 58) = false := by rw [g5]; rfl
    have hcs := core_spec (k := none) (mo := MO.data.toList) (z := Z.data.toList) (show formS D.data.toList Y.data.toList C.data.toList from ⟨g1, g2, g3, by rw [getD_eq C 2 n2]; exact g4, by rw [getD_eq C 5 n5]; exact g5⟩)
    have HCS : Hid _ := hcs
    clear hcs NOF g4 g5
    go_wp2_with (go_at_call 55; refine (dw.in_any _ _ _ _).mono ?_; rintro e wv ⟨rfl, hwv⟩; have hww := hwv.symm; clear hwv; subst hww)
    clear e1 e2 e3 e4 e5
    go_loopw [7, 8] (fun mth i wr => ∃ k : Nat, 1 ≤ k ∧ k ≤ 13 ∧ i = .int .i64 k ∧ mth = .int .i64 (monk MO.data.toList k) ∧ Below w1.heap.size w1 wr) (fun _ i _ => 13 - (intOf i).toNat)
    case atStart => exact ⟨1, Nat.le_refl _, by omega, rfl, by rw [monk_one], Below.refl _ _⟩
    case round =>
      obtain ⟨k, hk1, hk, rfl, rfl, hbw⟩ := hrel
      have p0 := (hbw.cell (p := ⟨gb, 0, none⟩) hgl).trans q0
      have p1 := (hbw.cell (p := ⟨gb, 1, none⟩) hgl).trans q1
      have p2 := (hbw.cell (p := ⟨gb, 2, none⟩) hgl).trans q2
      have p3 := (hbw.cell (p := ⟨gb, 3, none⟩) hgl).trans q3
      have p4 := (hbw.cell (p := ⟨gb, 4, none⟩) hgl).trans q4
      clear q0 q1 q2 q3 q4
      by_cases hlt : k < 13
      · have hlt' : (k : Int) ≤ 12 := by omega
        have HMN : Hid (∀ W, Calls Tryz.prog 81 #[.int .i64 (k : Int)] W fun e w' => e = .returned (.string ⟨(dx.mtn k).toArray⟩) ∧ Below W.heap.size W w') := fun W => dx.spec_mtn k hk1 hlt W
        have hnm : (⟨(dx.mtn k).toArray⟩ : ByteArray).toList = dx.mtn k := by rw [Lib.toList_data]
        have ne := ext_some wr
        have c1 := fun x : Ext wr => gw_cell x p1
        by_cases he : dx.mtn k = MO.data.toList
        · have heb : ((⟨(dx.mtn k).toArray⟩ : ByteArray).toList == MO.toList) = true := by rw [hnm, Lib.toList_data MO]; exact beq_iff_eq.2 he
          have HM : Hid (monk MO.data.toList (k + 1) = k) := monk_hit hk1 hlt he
          clear he hnm
          generalize (⟨(dx.mtn k).toArray⟩ : ByteArray) = nm at HMN heb
          go_wp2_with fail
          refine region_lit (by kernel_rfl) (by kernel_rfl) ?_
          repeat (go_big_quiet_step ((go_at_call 81; exact grow_of (HMN.out _))))
          refine wpQuiet_nil ?_
          rintro W' ⟨x, rfl⟩
          have b2 := hbw.trans ((gw_below x).mono hbw.size)
          generalize gw x = W' at b2 ⊢
          clear c1 ne HMN
          go_wp2
          go_roundw
          case rel => exact ⟨k + 1, by omega, by omega, by go_num, by rw [HM.out], b2⟩
          case measure => simp [intOf]; omega
        · have heb : ((⟨(dx.mtn k).toArray⟩ : ByteArray).toList == MO.toList) = false := by rw [hnm, Lib.toList_data MO]; exact beq_eq_false_iff_ne.2 he
          have HM : Hid (monk MO.data.toList (k + 1) = monk MO.data.toList k) := monk_miss hk1 hlt he
          clear he hnm
          generalize (⟨(dx.mtn k).toArray⟩ : ByteArray) = nm at HMN heb
          go_wp2_with fail
          refine region_lit (by kernel_rfl) (by kernel_rfl) ?_
          repeat (go_big_quiet_step ((go_at_call 81; exact grow_of (HMN.out _))))
          refine wpQuiet_nil ?_
          rintro W' ⟨x, rfl⟩
          have b2 := hbw.trans ((gw_below x).mono hbw.size)
          generalize gw x = W' at b2 ⊢
          clear c1 ne HMN
          go_wp2
          go_roundw
          case rel => exact ⟨k + 1, by omega, by omega, by go_num, by rw [HM.out], b2⟩
          case measure => simp [intOf]; omega
      · obtain rfl : k = 13 := by omega
        rw [monk_end]
        have b2 := b1.trans (hbw.mono b1.size)
        have hgl2 : gb < wr.heap.size := Nat.lt_of_lt_of_le hgl hbw.size
        clear hbw b1 hgl
        have x1 : (C.extract 0 2).data.toList = g C.data.toList 0 2 := ext_list C 0 2
        have x2 : (C.extract 3 5).data.toList = g C.data.toList 3 2 := ext_list C 3 5
        have x3 : (C.extract 6 8).data.toList = g C.data.toList 6 2 := ext_list C 6 8
        have HY : Hid (∀ w, Calls Tryz.prog 82 #[.string Y] w fun e w' => e = .returned (.int .i64 (nb Y.data.toList)) ∧ w' = w) := fun w => nb_any Y (by omega) w
        have HD : Hid (∀ w, Calls Tryz.prog 82 #[.string D] w fun e w' => e = .returned (.int .i64 (nb D.data.toList)) ∧ w' = w) := fun w => nb_any D (by omega) w
        have H1 : Hid (∀ w, Calls Tryz.prog 82 #[.string (C.extract 0 2)] w fun e w' => e = .returned (.int .i64 (nb (g C.data.toList 0 2))) ∧ w' = w) := fun w => by
          have := nb_any (C.extract 0 2) (by rw [ext_size]; omega) w
          rw [x1] at this
          exact this
        have H2 : Hid (∀ w, Calls Tryz.prog 82 #[.string (C.extract 3 5)] w fun e w' => e = .returned (.int .i64 (nb (g C.data.toList 3 2))) ∧ w' = w) := fun w => by
          have := nb_any (C.extract 3 5) (by rw [ext_size]; omega) w
          rw [x2] at this
          exact this
        have H3 : Hid (∀ w, Calls Tryz.prog 82 #[.string (C.extract 6 8)] w fun e w' => e = .returned (.int .i64 (nb (g C.data.toList 6 2))) ∧ w' = w) := fun w => by
          have := nb_any (C.extract 6 8) (by rw [ext_size]; omega) w
          rw [x3] at this
          exact this
        clear x1 x2 x3
        have hcs := HCS.out
        clear HCS
        generalize nb Y.data.toList = ny at HY hcs
        generalize nb D.data.toList = nd at HD hcs
        generalize nb (g C.data.toList 0 2) = nh at H1 hcs
        generalize nb (g C.data.toList 3 2) = ni at H2 hcs
        generalize nb (g C.data.toList 6 2) = ns at H3 hcs
        generalize mon MO.data.toList = nm at hcs ⊢
        have HCS : Hid _ := hcs
        clear hcs
        have s8 : (8 : Int) ≤ (C.size : Int) := by omega
        have s5 : (5 : Int) ≤ (C.size : Int) := by omega
        have s2 : (2 : Int) ≤ (C.size : Int) := by omega
        go_upto_region 22 with fail
        go_cut [9] (fun p wx => p = .pointer (some ⟨wr.heap.size, 0, none⟩) ∧ wx = (wr.alloc (.cells #[.int .i64 ny, .int .i64 nm, .int .i64 nd, .int .i64 nh, .int .i64 ni, .int .i64 ns] 99)).drew)
        case first =>
          have a0 : ∀ o, (wr.alloc o).cell? ⟨gb, 0, none⟩ = some (.string D) := fun o => ((dw.bel_box wr o).cell (p := ⟨gb, 0, none⟩) hgl2).trans p0
          have a2 : ∀ o, (wr.alloc o).cell? ⟨gb, 2, none⟩ = some (.string Y) := fun o => ((dw.bel_box wr o).cell (p := ⟨gb, 2, none⟩) hgl2).trans p2
          have a3 : ∀ o, (wr.alloc o).cell? ⟨gb, 3, none⟩ = some (.string C) := fun o => ((dw.bel_box wr o).cell (p := ⟨gb, 3, none⟩) hgl2).trans p3
          have hne2 : ¬ gb = wr.heap.size := by omega
          go_region_held (fun w' => w'.cell? ⟨gb, 0, none⟩ = some (.string D) ∧ w'.cell? ⟨gb, 2, none⟩ = some (.string Y) ∧ w'.cell? ⟨gb, 3, none⟩ = some (.string C)) (go_keep) (first | (go_at_call_of 82 Y; refine (HY.out _).mono ?_; rintro e w' ⟨rfl, rfl⟩) | (go_at_call_of 82 D; refine (HD.out _).mono ?_; rintro e w' ⟨rfl, rfl⟩) | (go_at_call_of 82 (C.extract 0 2); refine (H1.out _).mono ?_; rintro e w' ⟨rfl, rfl⟩) | (go_at_call_of 82 (C.extract 3 5); refine (H2.out _).mono ?_; rintro e w' ⟨rfl, rfl⟩) | (go_at_call_of 82 (C.extract 6 8); refine (H3.out _).mono ?_; rintro e w' ⟨rfl, rfl⟩))
          all_goals (try go_wp2_with fail)
          all_goals go_meet
          all_goals exact ⟨rfl, rfl⟩
        case rest =>
          obtain ⟨rfl, rfl⟩ := hcut
          go_at_K
          clear HY HD H1 H2 H3 p0 p1 p2 p3
          have L := lies_drewS wr ny nm nd nh ni ns
          have bx : Below wr.heap.size wr (wr.alloc (.cells #[.int .i64 ny, .int .i64 nm, .int .i64 nd, .int .i64 nh, .int .i64 ni, .int .i64 ns] 99)).drew := (dw.bel_box wr _).drew
          have p4' := (bx.cell (p := ⟨gb, 4, none⟩) hgl2).trans p4
          have b3 := b2.trans (bx.mono b2.size)
          generalize (wr.alloc _).drew = w2 at L p4' b3 ⊢
          clear bx b2 p4
          by_cases z1 : Z.data.toList = [71, 77, 84]
          · have d1 : (Z.toList == [71, 77, 84]) = true := by rw [Lib.toList_data]; exact beq_iff_eq.2 z1
            have c0 := L.c0
            have c1 := L.c1
            have c2 := L.c2
            have c3 := L.c3
            have c4 := L.c4
            have c5 := L.c5
            go_wp2_with fail
            refine (dw.spec_ok ny nm nd nh ni ns _).mono ?_
            rintro e w5 ⟨t, rfl, ht, b7⟩
            have L5 := L.below b7
            have b8 := b3.trans (b7.mono b3.size)
            clear c0 c1 c2 c3 c4 c5
            cases t
            · have HE : Hid _ := HCS.out.trans (coreC_no (fun k => by have := ht.2 k; cases this))
              clear ht L5 HCS
              go_wp2
              go_ret2
              exact ⟨by rw [HE.out]; rfl, b8⟩
            have K : Hid (Ok ny nm nd nh ni ns) := ht.1 rfl
            clear ht
            have c0 := L5.c0
            have c1 := L5.c1
            have c2 := L5.c2
            have c3 := L5.c3
            have c4 := L5.c4
            have c5 := L5.c5
            have HF : Hid _ := HCS.out.trans (coreC_fin (a := 0) K.out (.inl rfl) (by rw [zw, if_pos (.inl z1)]))
            clear HCS
            obtain ⟨x, cc, hx⟩ := fin_form ny nm nd nh ni ns 0
            have HX : Hid _ := HF.out.trans hx
            have HEND : Hid (∀ w, Calls Tryz.prog 86 #[.agg #[.int .i64 ny, .int .i64 nm, .int .i64 nd, .int .i64 nh, .int .i64 ni, .int .i64 ns], .int .i64 0] w fun e w' => e = .returned (.tuple #[.int .i64 x, .int .i64 cc]) ∧ Below w.heap.size w w') := fun w => by
              have := end_any ny nm nd nh ni ns 0 (by decide) (by decide) w
              rw [hx] at this
              exact this
            clear hx HF
            go_wp2_with fail
            refine (HEND.out _).mono ?_
            rintro e w7 ⟨rfl, b11⟩
            have b12 := b8.trans (b11.mono b8.size)
            clear c0 c1 c2 c3 c4 c5 HEND
            go_wp2
            go_ret2
            exact ⟨by rw [HX.out]; rfl, b12⟩
          have d1 : (Z.toList == [71, 77, 84]) = false := by rw [Lib.toList_data]; exact beq_eq_false_iff_ne.2 z1
          by_cases z2 : Z.data.toList = [85, 84]
          · have d2 : (Z.toList == [85, 84]) = true := by rw [Lib.toList_data]; exact beq_iff_eq.2 z2
            have c0 := L.c0
            have c1 := L.c1
            have c2 := L.c2
            have c3 := L.c3
            have c4 := L.c4
            have c5 := L.c5
            go_wp2_with fail
            refine (dw.spec_ok ny nm nd nh ni ns _).mono ?_
            rintro e w5 ⟨t, rfl, ht, b7⟩
            have L5 := L.below b7
            have b8 := b3.trans (b7.mono b3.size)
            clear c0 c1 c2 c3 c4 c5
            cases t
            · have HE : Hid _ := HCS.out.trans (coreC_no (fun k => by have := ht.2 k; cases this))
              clear ht L5 HCS
              go_wp2
              go_ret2
              exact ⟨by rw [HE.out]; rfl, b8⟩
            have K : Hid (Ok ny nm nd nh ni ns) := ht.1 rfl
            clear ht
            have c0 := L5.c0
            have c1 := L5.c1
            have c2 := L5.c2
            have c3 := L5.c3
            have c4 := L5.c4
            have c5 := L5.c5
            have HF : Hid _ := HCS.out.trans (coreC_fin (a := 0) K.out (.inl rfl) (by rw [zw, if_pos (.inr z2)]))
            clear HCS
            obtain ⟨x, cc, hx⟩ := fin_form ny nm nd nh ni ns 0
            have HX : Hid _ := HF.out.trans hx
            have HEND : Hid (∀ w, Calls Tryz.prog 86 #[.agg #[.int .i64 ny, .int .i64 nm, .int .i64 nd, .int .i64 nh, .int .i64 ni, .int .i64 ns], .int .i64 0] w fun e w' => e = .returned (.tuple #[.int .i64 x, .int .i64 cc]) ∧ Below w.heap.size w w') := fun w => by
              have := end_any ny nm nd nh ni ns 0 (by decide) (by decide) w
              rw [hx] at this
              exact this
            clear hx HF
            go_wp2_with fail
            refine (HEND.out _).mono ?_
            rintro e w7 ⟨rfl, b11⟩
            have b12 := b8.trans (b11.mono b8.size)
            clear c0 c1 c2 c3 c4 c5 HEND
            go_wp2
            go_ret2
            exact ⟨by rw [HX.out]; rfl, b12⟩
          have d2 : (Z.toList == [85, 84]) = false := by rw [Lib.toList_data]; exact beq_eq_false_iff_ne.2 z2
          have hzw : zw Z.data.toList = zp Z.data.toList := by rw [zw, if_neg (by rintro (h | h) <;> contradiction)]
          by_cases h5 : Z.size = 5
          rotate_left
          · have d5 : ((Z.size : Int) != 5) = true := bne_iff_ne.2 (by omega)
            have HE : Hid _ := HCS.out.trans (coreC_zone (hzw.trans (zp_len h5)))
            clear L HCS
            go_wp2
            go_ret2
            exact ⟨by rw [HE.out]; rfl, b3⟩
          have d5 : ((Z.size : Int) != 5) = false := by rw [show (Z.size : Int) = 5 by omega]; rfl
          have n0 : 0 < Z.size := by omega
          have n0' : (0 : Int) < (Z.size : Int) := by omega
          have n3' : (3 : Int) ≤ (Z.size : Int) := by omega
          have n5' : (5 : Int) ≤ (Z.size : Int) := by omega
          have HZ : Hid (∀ w, Calls Tryz.prog 83 #[.int .u8 ((Z[0]'n0).toNat : Int), .string (Z.extract 1 3), .string (Z.extract 3 5)] w fun e w' => e = .returned (zr (zp Z.data.toList)) ∧ w' = w) := fun w => by
            rw [zp_five Z h5 n0]
            exact zone_any _ _ _ (by rw [ext_size]; omega) (by rw [ext_size]; omega) w
          cases hz : zp Z.data.toList with
          | none =>
            have HE : Hid _ := HCS.out.trans (coreC_zone (hzw.trans hz))
            rw [hz] at HZ
            unfold zr at HZ
            clear L HCS
            go_wp2_with fail
            go_quiet ((go_at_call 83; exact Calls.quiet_of_same (HZ.out _)))
            go_wp2
            go_ret2
            exact ⟨by rw [HE.out]; rfl, dbelS b3 _⟩
          | some a =>
            obtain ⟨a0, a1⟩ := zp_bound hz
            rw [hz] at HZ
            unfold zr at HZ
            go_wp2_with fail
            go_quiet ((go_at_call 83; exact Calls.quiet_of_same (HZ.out _)))
            have b4 := dbelS b3 nq
            have L4 := L.below (drawn_below ⟨nq, rfl⟩)
            generalize w2.drewN nq = w3 at b4 L4 ⊢
            clear HZ p4'
            have c0 := L4.c0
            have c1 := L4.c1
            have c2 := L4.c2
            have c3 := L4.c3
            have c4 := L4.c4
            have c5 := L4.c5
            go_wp2_with fail
            refine (dw.spec_ok ny nm nd nh ni ns _).mono ?_
            rintro e w5 ⟨t, rfl, ht, b7⟩
            have L5 := L4.below b7
            have b8 := b4.trans (b7.mono b4.size)
            clear c0 c1 c2 c3 c4 c5
            cases t
            · have HE : Hid _ := HCS.out.trans (coreC_no (fun k => by have := ht.2 k; cases this))
              clear ht L5 HCS
              go_wp2
              go_ret2
              exact ⟨by rw [HE.out]; rfl, b8⟩
            have K : Hid (Ok ny nm nd nh ni ns) := ht.1 rfl
            clear ht
            have c0 := L5.c0
            have c1 := L5.c1
            have c2 := L5.c2
            have c3 := L5.c3
            have c4 := L5.c4
            have c5 := L5.c5
            have HF : Hid _ := HCS.out.trans (coreC_fin (a := a) K.out (.inl rfl) (hzw.trans hz))
            clear HCS
            obtain ⟨x, cc, hx⟩ := fin_form ny nm nd nh ni ns a
            have HX : Hid _ := HF.out.trans hx
            have HEND : Hid (∀ w, Calls Tryz.prog 86 #[.agg #[.int .i64 ny, .int .i64 nm, .int .i64 nd, .int .i64 nh, .int .i64 ni, .int .i64 ns], .int .i64 a] w fun e w' => e = .returned (.tuple #[.int .i64 x, .int .i64 cc]) ∧ Below w.heap.size w w') := fun w => by
              have := end_any ny nm nd nh ni ns a (a0) (a1) w
              rw [hx] at this
              exact this
            clear hx HF
            go_wp2_with fail
            refine (HEND.out _).mono ?_
            rintro e w7 ⟨rfl, b11⟩
            have b12 := b8.trans (b11.mono b8.size)
            clear c0 c1 c2 c3 c4 c5 HEND
            go_wp2
            go_ret2
            exact ⟨by rw [HX.out]; rfl, b12⟩
end Go.Proofs.YtadfdfmebdcfgaaGreatDoor.rd
