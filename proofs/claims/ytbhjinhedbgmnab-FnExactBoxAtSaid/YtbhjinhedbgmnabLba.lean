/-
  Both BoxAt functions answer alike at every list of boxes and every name; the boxes that were handed in are as they were, and the answer owns its memory, behind another call too; for every input.
-/
import Derived.Test.YtbhjinhedbgmnabMkb
import Derived.WalkKit
import Derived.ProofKit
import Derived.OpenShut
import Derived.ChangeOld
import Derived.Below
import Derived.Carry
import Derived.Lib.SmallJoins
import Derived.Deep.RegionHeld
namespace Go.Proofs.Ytbhjinhedbgmnab.fnExactBoxAt
open Go.ChangeShapes Go.WideShapes Go.ChangeAt Go.RowKit Go.Joins Go.Deep
set_option linter.unusedVariables false

theorem own : ownKnob Try.prog.godebug = none := by kernel_rfl
theorem laidOut : laidOutB Try.prog = true := by kernel_rfl

open bx st sm mx mm mk
theorem own_mk {A B : Nat} {w w' : World} {e s n : Nat} {v : Value} {xs : List Value} (h : w.ownsRow B e s v n xs) (hm : Mk A B w w') : w'.ownsRow B e s v n xs := by
  rcases h.2 with ⟨rfl, hz⟩ | ⟨g, cap, cur, rfl, hB, hh, r⟩
  · exact ⟨h.1, .inl ⟨rfl, hz⟩⟩
  · exact mu.own_block h (hm.block g (Array.getElem?_eq_some_iff.1 hh).1 (.inr hB))
theorem ba_len {xs : List Bx} {s : ByteArray} {y : Bx} {c : Int} (h : Ba xs s y c) (hs : bx.Smalls xs) : y.ms.length ≤ 1048576 ∧ y.ks.length ≤ 1048576 := by
  rcases h with ⟨_, rfl, _⟩ | ⟨_, _, rfl, _⟩ | ⟨_, _, _, rfl, _⟩ | ⟨_, _, k, hk, _, rfl, _⟩
  · exact ⟨Nat.zero_le _, Nat.zero_le _⟩
  · exact ⟨Nat.zero_le _, Nat.zero_le _⟩
  · exact ⟨Nat.zero_le _, Nat.zero_le _⟩
  · have := hs.2 k hk
    exact ⟨this.2.2.1.1, this.2.2.2.1⟩
theorem slice_of {w : World} {B e s n : Nat} {v : Value} {xs : List Value} (h : w.ownsRow B e s v n xs) : ∃ a n c, v = .slice a n c := by
  rcases h.2 with ⟨rfl, _⟩ | ⟨g, cap, cur, rfl, _⟩
  · exact ⟨_, _, _, rfl⟩
  · exact ⟨_, _, _, rfl⟩
theorem rows_own {w : World} {B : Nat} {v u : Value} {y : Bx} (h : OwnM w B v y.ms) (h' : OwnK w B u y.ks) : RowsAt w v u y.ms y.ks := ⟨ownM_in h (Nat.le_refl _), ownK_in h' (Nat.le_refl _)⟩

set_option maxHeartbeats 4000000 in
set_option maxRecDepth 100000 in
theorem walk (v : Value) (nm : ByteArray) (xs : List Bx) (vs : Nat → Value × Value) (w : World) (h : BoxesAt w v xs vs) (hl : xs.length ≤ maxLen) (hh : ∀ j, j < xs.length → bx.Held (xs.getD j noB)) (hnm : nm.size ≤ maxLen) :
    Calls Try.prog 3 #[v, .string nm] w fun e w' => e = .returned (.bool true) ∧ Below w.heap.size w w' := by
  have HA : Hid (BoxesAt w v xs vs) := h
  have HS : Hid (∀ j, j < xs.length → bx.Held (xs.getD j noB)) := hh
  obtain ⟨⟨a, cap, rfl, _⟩, _⟩ := h
  clear hh
  unfold maxLen at hnm
  by_cases hnz : 1048576 < nm.size
  · go_enter Try.func3, Try.ntmps3
    go_wp2
    go_ret
    exact ⟨rfl, Below.refl _ _⟩
  have hnn : nm.size ≤ 1048576 := by omega
  go_enter Try.func3, Try.ntmps3
  go_wp2_with fail
  refine (szBoxS_any _ xs vs 1048576 w HA.out (by omega) (by omega) hl HS.out).mono ?_
  rintro e w1 ⟨⟨z, rfl, hz0, hz1, hz2⟩, b1⟩
  clear HS
  by_cases hz : z < 0
  · go_wp2
    go_ret
    exact ⟨rfl, b1⟩
  have HSM : Hid (bx.Smalls xs) := hz2 (by omega)
  have HB1 : Hid (Below w.heap.size w w1) := b1
  clear hz2 b1
  go_wp2_with fail
  refine (toBoxS_own _ xs vs w1 (boxes_below HA.out HB1.out) HSM.out).mono ?_
  rintro e w2 ⟨rfl, ⟨gp, hgp, hmp, hcp⟩, hb2⟩
  have HP : Hid (BoxesAt w2 (.slice (some ⟨w1.heap.size, 0, none⟩) xs.length xs.length) xs gp ∧ Fines xs gp ∧ sm.Caps (.slice (some ⟨w1.heap.size, 0, none⟩) xs.length xs.length) xs gp) := ⟨hgp, mine_fines hmp, fun a n c e => by cases e; exact Nat.le_refl _, hcp⟩
  have HB2 : Hid (Below w.heap.size w w2) := HB1.out.trans (hb2.mono HB1.out.size)
  clear hgp hmp hcp hb2 HB1
  generalize w1.heap.size = Bp at HP ⊢
  go_wp2_with fail
  refine (spec_ba _ xs gp nm w2 HP.out.1 HSM.out HP.out.2.1 hnn HP.out.2.2).mono ?_
  rintro e w3' ⟨⟨y, c, v0, u0, rfl, hba, hm0, hk0⟩, hb3⟩
  obtain ⟨va, vn, vc, rfl⟩ := slice_of hm0
  obtain ⟨ua, un, uc, rfl⟩ := slice_of hk0
  have HBA : Hid (Ba xs nm y c) := hba
  have hb3a := bx.new_below w3' 27 #[.string y.nm, .int .i64 y.vd, .int .i64 y.nx, (.slice va vn vc), (.slice ua un uc)]
  have HW := rows_below (rows_own hm0 hk0) hb3a
  have LW := lies_new w3' 27 y (.slice va vn vc) (.slice ua un uc)
  have b3 := (HB2.out.trans (hb3.mono HB2.out.size)).trans (hb3a.mono (HB2.out.trans (hb3.mono HB2.out.size)).size)
  have HLN : Hid (y.ms.length ≤ 1048576 ∧ y.ks.length ≤ 1048576) := ba_len hba HSM.out
  clear hba hm0 hk0 hb3 hb3a HB2 HP
  unfold BV
  go_wp2_with fail
  generalize w3'.heap.size = P0 at LW ⊢
  generalize w3'.alloc _ = w3 at LW HW b3 ⊢
  have HB3 : Hid (Below w.heap.size w w3) := b3
  have HW : Hid (RowsAt w3 (.slice va vn vc) (.slice ua un uc) y.ms y.ks ∧ Lies w3 P0 27 y (.slice va vn vc) (.slice ua un uc)) := ⟨HW, LW⟩
  clear b3 LW
  refine (toBoxS_own _ xs vs w3 (boxes_below HA.out HB3.out) HSM.out).mono ?_
  rintro e w4 ⟨rfl, ⟨gx, hgx, hmx, hcx⟩, hb4⟩
  have HX : Hid (BoxesAt w4 (.slice (some ⟨w3.heap.size, 0, none⟩) xs.length xs.length) xs gx ∧ Mine w4 w3.heap.size xs gx) := ⟨hgx, hmx⟩
  have HC4 : Hid (Below w3.heap.size w3 w4) := hb4
  have HB4 : Hid (Below w.heap.size w w4) := HB3.out.trans (hb4.mono HB3.out.size)
  clear hgx hmx hcx hb4
  go_wp2_with fail
  refine (impl_ba _ xs gx nm w4 HX.out.1 HSM.out (mine_fines HX.out.2) hnn).mono ?_
  rintro e w5' ⟨⟨y', c', v1, u1, rfl, hba, hm1, hk1⟩, hb5'⟩
  obtain ⟨rfl, rfl⟩ := ba_one HBA.out hba
  obtain ⟨xa, xn, xc, rfl⟩ := slice_of hm1
  obtain ⟨ya, yn, yc, rfl⟩ := slice_of hk1
  have hb5a := bx.new_below w5' 27 #[.string y.nm, .int .i64 y.vd, .int .i64 y.nx, (.slice xa xn xc), (.slice ya yn yc)]
  have hm1 := ow.own_below hm1 hb5a
  have hk1 := ow.own_below hk1 hb5a
  have LG := lies_new w5' 27 y (.slice xa xn xc) (.slice ya yn yc)
  have hb5 := hb5'.trans (hb5a.mono hb5'.size)
  have hP1 := hb5'.size
  have hc5 := HC4.out.trans (hb5.mono HC4.out.size)
  have s0 := (HW.out.2.keep hc5).c0
  have s1 := (HW.out.2.keep hc5).c1
  have s2 := (HW.out.2.keep hc5).c2
  have s3 := (HW.out.2.keep hc5).c3
  have s4 := (HW.out.2.keep hc5).c4
  clear hb5a hb5' hba hc5
  have cc : ((c : Int) != c) = false := by simp
  unfold BV
  go_wp2_with fail
  clear s0 s1 s2 s3 s4
  generalize w5'.heap.size = P1 at LG hP1 ⊢
  generalize w5'.alloc _ = w5 at LG hm1 hk1 hb5 ⊢
  have HG5 : Hid (OwnM w5 w4.heap.size (.slice xa xn xc) y.ms ∧ OwnK w5 w4.heap.size (.slice ya yn yc) y.ks ∧ Lies w5 P1 27 y (.slice xa xn xc) (.slice ya yn yc) ∧ w4.heap.size ≤ P1) := ⟨hm1, hk1, LG, hP1⟩
  have HD5 : Hid (Below w4.heap.size w4 w5) := hb5
  have HC5 : Hid (Below w3.heap.size w3 w5) := HC4.out.trans (hb5.mono HC4.out.size)
  have HB5 : Hid (Below w.heap.size w w5) := HB4.out.trans (hb5.mono HB4.out.size)
  clear hm1 hk1 hb5 HB4 LG hP1
  refine (eqBox_any y (.slice xa xn xc) (.slice ya yn yc) (.slice va vn vc) (.slice ua un uc) w5 (rows_own HG5.out.1 HG5.out.2.1) (rows_below HW.out.1 HC5.out) HLN.out).mono ?_
  rintro e w6 ⟨rfl, hb6⟩
  have HE6 : Hid (Below w5.heap.size w5 w6) := hb6
  have HD6 : Hid (Below w4.heap.size w4 w6) := HD5.out.trans (hb6.mono HD5.out.size)
  have HC6 : Hid (Below w3.heap.size w3 w6) := HC5.out.trans (hb6.mono HC5.out.size)
  have HB6 : Hid (Below w.heap.size w w6) := HB5.out.trans (hb6.mono HB5.out.size)
  clear hb6 HB5 HC5 HD5
  go_wp2_with fail
  refine (toBoxS_any _ xs vs w6 (boxes_below HA.out HB6.out) HSM.out).mono ?_
  rintro e w7 ⟨rfl, ⟨gt, hgt, hct⟩, hb7⟩
  have HT : Hid (BoxesAt w7 (.slice (some ⟨w6.heap.size, 0, none⟩) xs.length xs.length) xs gt) := hgt
  have HE7 : Hid (Below w5.heap.size w5 w7) := HE6.out.trans (hb7.mono HE6.out.size)
  have HD7 : Hid (Below w4.heap.size w4 w7) := HD6.out.trans (hb7.mono HD6.out.size)
  have HC7 : Hid (Below w3.heap.size w3 w7) := HC6.out.trans (hb7.mono HC6.out.size)
  have HB7 : Hid (Below w.heap.size w w7) := HB6.out.trans (hb7.mono HB6.out.size)
  clear hb7 HB6 HC6 HD6 HE6 hgt hct
  go_wp2_with fail
  refine (eqBoxS_any _ _ xs gx gt w7 (boxes_below HX.out.1 HD7.out) HT.out HSM.out).mono ?_
  rintro e w8 ⟨rfl, hb8⟩
  have HE8 : Hid (Below w5.heap.size w5 w8) := HE7.out.trans (hb8.mono HE7.out.size)
  have HD8 : Hid (Below w4.heap.size w4 w8) := HD7.out.trans (hb8.mono HD7.out.size)
  have HC8 : Hid (Below w3.heap.size w3 w8) := HC7.out.trans (hb8.mono HC7.out.size)
  have HB8 : Hid (Below w.heap.size w w8) := HB7.out.trans (hb8.mono HB7.out.size)
  clear hb8 HB7 HC7 HD7 HE7 HT
  go_wp2_with fail
  refine (markBoxS_any w3.heap.size w4.heap.size xs gx w8 (mine_below HX.out.2 HD8.out) (mine_ahead HX.out.2) HSM.out).mono ?_
  rintro e w9 ⟨⟨z9, hz9, rfl⟩, hmk⟩
  have HG9 : Hid (OwnM w9 w4.heap.size (.slice xa xn xc) y.ms ∧ OwnK w9 w4.heap.size (.slice ya yn yc) y.ks ∧ Lies w9 P1 27 y (.slice xa xn xc) (.slice ya yn yc)) := ⟨own_mk (ow.own_below HG5.out.1 HE8.out) hmk, own_mk (ow.own_below HG5.out.2.1 HE8.out) hmk, (hmk.block P1 (HG5.out.2.2.1.keep HE8.out).lt (.inr HG5.out.2.2.2)).trans (HG5.out.2.2.1.keep HE8.out)⟩
  have hb9 : Below w3.heap.size w8 w9 := hmk.bel HC8.out.size
  have HD9 : Hid (w4.heap.size ≤ w9.heap.size) := Nat.le_trans HD8.out.size hmk.size
  have HC9 : Hid (Below w3.heap.size w3 w9) := HC8.out.trans hb9
  have HB9 : Hid (Below w.heap.size w w9) := HB8.out.trans (hb9.mono HB3.out.size)
  clear hb9 hmk HB8 HC8 HD8 HE8 HX HG5
  have hz9' : ¬ z9 < 0 := by omega
  have g0 := HG9.out.2.2.c0
  have g1 := HG9.out.2.2.c1
  have g2 := HG9.out.2.2.c2
  have g3 := HG9.out.2.2.c3
  have g4 := HG9.out.2.2.c4
  have s0 := (HW.out.2.keep HC9.out).c0
  have s1 := (HW.out.2.keep HC9.out).c1
  have s2 := (HW.out.2.keep HC9.out).c2
  have s3 := (HW.out.2.keep HC9.out).c3
  have s4 := (HW.out.2.keep HC9.out).c4
  go_wp2_with fail
  clear g0 g1 g2 g3 g4 s0 s1 s2 s3 s4
  refine (eqBox_any y (.slice xa xn xc) (.slice ya yn yc) (.slice va vn vc) (.slice ua un uc) w9 (rows_own HG9.out.1 HG9.out.2.1) (rows_below HW.out.1 HC9.out) HLN.out).mono ?_
  rintro e w10 ⟨rfl, hb10⟩
  have HG10 : Hid (OwnM w10 w4.heap.size (.slice xa xn xc) y.ms ∧ OwnK w10 w4.heap.size (.slice ya yn yc) y.ks ∧ Lies w10 P1 27 y (.slice xa xn xc) (.slice ya yn yc)) := ⟨ow.own_below HG9.out.1 hb10, ow.own_below HG9.out.2.1 hb10, HG9.out.2.2.keep hb10⟩
  have HD10 : Hid (w4.heap.size ≤ w10.heap.size) := Nat.le_trans HD9.out hb10.size
  have HC10 : Hid (Below w3.heap.size w3 w10) := HC9.out.trans (hb10.mono HC9.out.size)
  have HB10 : Hid (Below w.heap.size w w10) := HB9.out.trans (hb10.mono HB9.out.size)
  clear hb10 HB9 HC9 HD9 HG9
  have g0 := HG10.out.2.2.c0
  have g1 := HG10.out.2.2.c1
  have g2 := HG10.out.2.2.c2
  have g3 := HG10.out.2.2.c3
  have g4 := HG10.out.2.2.c4
  go_wp2_with fail
  clear g0 g1 g2 g3 g4
  refine (markBox_any y (.slice xa xn xc) (.slice ya yn yc) w4.heap.size w10 HG10.out.1 HG10.out.2.1 HLN.out HD10.out).mono ?_
  rintro e w11 ⟨rfl, hm11, hk11, hb11, hf11⟩
  have HLG : Hid (Lies w11 P1 27 y (.slice xa xn xc) (.slice ya yn yc)) := hf11 _ _ _ _ HG10.out.2.2
  clear hf11
  have HM11 : Hid (w11.ownsRow w4.heap.size 97 3 (.slice xa xn xc) y.ms.length (marksM 1 y.ms.length) ∧ w11.ownsRow w4.heap.size 9 1 (.slice ya yn yc) y.ks.length ((marks (1 + 3 * (y.ms.length : Int)) y.ks.length).map Value.string)) := ⟨hm11, hk11⟩
  have HC11 : Hid (Below w3.heap.size w3 w11) := HC10.out.trans (hb11.mono HC4.out.size)
  have HB11 : Hid (Below w.heap.size w w11) := HB10.out.trans (hb11.mono (Nat.le_trans HB3.out.size HC4.out.size))
  clear hb11 HB10 HC10 HD10 HG10 hm11 hk11
  have hmI := HLN.out.1
  have hkI := HLN.out.2
  have HMS : Hid ((y.ms.length : Int) ≤ 1048576 ∧ (y.ks.length : Int) ≤ 1048576) := (show _ ∧ _ from ⟨by omega, by omega⟩)
  clear hmI hkI
  generalize hQ : (1 + 3 * (y.ms.length : Int) + (y.ks.length : Int)) = Q
  have hQ0 : 0 < Q := by omega
  have HQ : Hid ((1 + 3 * (y.ms.length : Int) + (y.ks.length : Int)) = Q) := hQ
  have qq : ((Q : Int) != Q) = false := by simp
  have hQn : ¬ Q < 0 := by omega
  clear hQ
  have g0 := HLG.out.c0
  have g1 := HLG.out.c1
  have g2 := HLG.out.c2
  have g3 := HLG.out.c3
  have g4 := HLG.out.c4
  go_wp2_with fail
  clear g0 g1 g2 g3 g4
  refine (heldBox_any y (.slice xa xn xc) (.slice ya yn yc) w4.heap.size w11 HM11.out.1 HM11.out.2 HLN.out).mono ?_
  rintro e w12 ⟨rfl, hb12⟩
  rw [HQ.out]
  have HE12 : Hid (Below w11.heap.size w11 w12) := hb12
  have HC12 : Hid (Below w3.heap.size w3 w12) := HC11.out.trans (hb12.mono HC11.out.size)
  have HB12 : Hid (Below w.heap.size w w12) := HB11.out.trans (hb12.mono HB11.out.size)
  clear hb12 HB11 HC11
  go_wp2_with fail
  refine (toBoxS_own _ xs vs w12 (boxes_below HA.out HB12.out) HSM.out).mono ?_
  rintro e w13 ⟨rfl, ⟨gh, hgh, hmh, hch⟩, hb13⟩
  have HH : Hid (BoxesAt w13 (.slice (some ⟨w12.heap.size, 0, none⟩) xs.length xs.length) xs gh ∧ Fines xs gh) := ⟨hgh, mine_fines hmh⟩
  have HE13 : Hid (Below w11.heap.size w11 w13) := HE12.out.trans (hb13.mono HE12.out.size)
  have HC13 : Hid (Below w3.heap.size w3 w13) := HC12.out.trans (hb13.mono HC12.out.size)
  have HB13 : Hid (Below w.heap.size w w13) := HB12.out.trans (hb13.mono HB12.out.size)
  clear hb13 HB12 HC12 HE12 hgh hmh hch
  go_wp2_with fail
  refine (impl_ba _ xs gh nm w13 HH.out.1 HSM.out HH.out.2 hnn).mono ?_
  rintro e w14' ⟨⟨y2, c2, v2, u2, rfl, hba, hm2, hk2⟩, hb14'⟩
  obtain ⟨rfl, rfl⟩ := ba_one HBA.out hba
  obtain ⟨za, zn, zc, rfl⟩ := slice_of hm2
  obtain ⟨ta, tn, tc, rfl⟩ := slice_of hk2
  have hb14a := bx.new_below w14' 27 #[.string y.nm, .int .i64 y.vd, .int .i64 y.nx, (.slice za zn zc), (.slice ta tn tc)]
  have hr14 := rows_below (rows_own hm2 hk2) hb14a
  have hb14 := hb14'.trans (hb14a.mono hb14'.size)
  have hc14 := HC13.out.trans (hb14.mono HC13.out.size)
  have s0 := (HW.out.2.keep hc14).c0
  have s1 := (HW.out.2.keep hc14).c1
  have s2 := (HW.out.2.keep hc14).c2
  have s3 := (HW.out.2.keep hc14).c3
  have s4 := (HW.out.2.keep hc14).c4
  clear hb14a hb14' hc14
  unfold BV
  go_wp2_with fail
  clear s0 s1 s2 s3 s4
  generalize w14'.alloc _ = w14 at hr14 hb14 ⊢
  have HG14 : Hid (RowsAt w14 (.slice za zn zc) (.slice ta tn tc) y.ms y.ks) := hr14
  have HE14 : Hid (Below w11.heap.size w11 w14) := HE13.out.trans (hb14.mono HE13.out.size)
  have HC14 : Hid (Below w3.heap.size w3 w14) := HC13.out.trans (hb14.mono HC13.out.size)
  have HB14 : Hid (Below w.heap.size w w14) := HB13.out.trans (hb14.mono HB13.out.size)
  clear hb14 HB13 HC13 HE13 hba hm2 hk2 HH hr14
  refine (eqBox_any y (.slice za zn zc) (.slice ta tn tc) (.slice va vn vc) (.slice ua un uc) w14 HG14.out (rows_below HW.out.1 HC14.out) HLN.out).mono ?_
  rintro e w15 ⟨rfl, hb15⟩
  have HE15 : Hid (Below w11.heap.size w11 w15) := HE14.out.trans (hb15.mono HE14.out.size)
  have HB15 : Hid (Below w.heap.size w w15) := HB14.out.trans (hb15.mono HB14.out.size)
  clear hb15 HB14 HC14 HE14 HG14
  have g0 := (HLG.out.keep HE15.out).c0
  have g1 := (HLG.out.keep HE15.out).c1
  have g2 := (HLG.out.keep HE15.out).c2
  have g3 := (HLG.out.keep HE15.out).c3
  have g4 := (HLG.out.keep HE15.out).c4
  go_wp2_with fail
  clear g0 g1 g2 g3 g4
  refine (heldBox_any y (.slice xa xn xc) (.slice ya yn yc) w4.heap.size w15 (ow.own_below HM11.out.1 HE15.out) (ow.own_below HM11.out.2 HE15.out) HLN.out).mono ?_
  rintro e w16 ⟨rfl, hb16⟩
  rw [HQ.out]
  have HB16 : Hid (Below w.heap.size w w16) := HB15.out.trans (hb16.mono HB15.out.size)
  clear hb16 HB15 HE15 HM11
  go_wp2
  go_ret
  exact ⟨rfl, HB16.out⟩

set_option maxRecDepth 100000 in
theorem lifted (os : Os) (started : os.Started) (H : Type) (enc : TypeId × Value → H) :
    ReturnsInHanded {} Try.checked os 3 .any (Rows.fnExactBoxAtSpec.pre6 enc Try.prog Try.f3 Rows.fnExactBoxAtRow.domain false) (Rows.fnExactBoxAtSpec.post enc Try.prog Try.f3 false true false false) := by
  refine returnsInHanded_of_change (C := Try.checked) own started (by kernel_rfl) Try.func3
    (ChangeSpec.witness6 (enc := enc) (C := Try.checked) false ⟨#[], #[.slice none 0 0, .string ⟨#[]⟩], []⟩ 8 (by kernel_rfl) (by kernel_rfl) (by kernel_rfl) (by kernel_rfl)) ?_
  intro W base args ds gs before hval0 hW hcnd _
  have hval : ∀ (j : Nat) t v, Try.f3.params[j]? = some t → args[j]? = some v → Value.okWide Try.prog W .any base t v := hval0
  have hW' := hW
  obtain ⟨p, q, hA0, hV, rfl, hfz, hnd⟩ := hW
  have hA : DataW.TrodAll enc Try.prog W 0 (fun _ => true) true Try.f3.params.toList args.toList ds p := hA0
  rw [Try.params3] at hA hval
  obtain ⟨v0, vs0, d0, ds0, p0, q0, hargs, rfl, rfl, h0, r0⟩ := trodAll_cons hA
  obtain ⟨v1, vs1, d1, ds1, p1, q1, rfl, rfl, rfl, h1, r1⟩ := trodAll_cons r0
  obtain ⟨rfl, rfl, rfl⟩ := trodAll_nil r1
  obtain rfl : args = #[v0, v1] := by cases args; simp_all
  obtain ⟨rfl, rfl⟩ := trodVars_none hV
  have k0 := h0
  have lt0 : ∀ x ∈ p0, x.block < W.heap.size := by obtain ⟨m, hm⟩ := k0; exact DataW.trod_lt m _ _ _ hm
  have k1 := h1
  have lt1 : ∀ x ∈ p1, x.block < W.heap.size := by obtain ⟨m, hm⟩ := k1; exact DataW.trod_lt m _ _ _ hm
  obtain ⟨a0, len0, cap0, rfl⟩ := okWide_slice Try.underlying22 (hval 0 22 v0 rfl rfl)
  obtain ⟨fu, hf⟩ := h0
  have hcs : (Value.slice a0 len0 cap0).cells.toList = [Value.slice a0 len0 cap0] := by simp [Value.cells]
  rw [hcs] at hf
  obtain ⟨xs, vs, hat, hl, hh⟩ := bx.open_boxes hf
  obtain ⟨nm, rfl⟩ := okWide_string Try.underlying9 (hval 1 9 v1 rfl rfl)
  obtain ⟨fu1, h1⟩ := h1
  obtain ⟨s', e4, _, hnm⟩ := DataW.trod_string Try.underlying9 h1
  simp [Value.cells] at e4
  subst e4
  clear hA0 hval0
  refine (walk _ nm xs vs W hat hl hh hnm).mono fun e W' ⟨he, bel⟩ => ?_
  subst he
  exact ⟨_, rfl, _, _, _, [], _, [], hW', trodAll_mk1 (shut_bool Try.underlying4 _), (trodAll_cons_mk (Below.trod laidOut (by kernel_rfl) (of_decide_eq_true (by kernel_rfl)) k0 bel lt0) (trodAll_cons_mk (Below.trod laidOut (by kernel_rfl) (of_decide_eq_true (by kernel_rfl)) k1 bel lt1) trodAll_mk0)), rfl, bel.frame _, fun h => by cases h⟩

theorem over : Rows.fnExactBoxAtRow.holds Try.pinned (OpenSpec.ofChange Rows.fnExactBoxAtSpec) :=
  OpenClaim.holds_of_wide 3 Try.f3 rfl rfl rfl rfl rfl rfl rfl ⟨rfl, rfl, rfl, rfl, rfl⟩ rfl rfl rfl rfl rfl (by kernel_rfl) Try.func3 (by kernel_rfl)
    (of_decide_eq_true (by kernel_rfl)) (by unfold Func.isWrapper; first | (rw [if_pos (by decide +kernel)]; kernel_rfl) | (rw [if_neg (by decide +kernel)]; exact ⟨rfl, rfl⟩))
    (fun os started H enc _ => lifted os started H enc)

theorem proved : Rows.FnExactBoxAtSaid := over
end Go.Proofs.Ytbhjinhedbgmnab.fnExactBoxAt
namespace Go.Proofs.Ytbhjinhedbgmnab
theorem fnExactBoxAt_holds : Rows.FnExactBoxAtSaid := fnExactBoxAt.proved
#print axioms fnExactBoxAt_holds
end Go.Proofs.Ytbhjinhedbgmnab
