/-
  The walk that the card rests on.
-/
import Derived.Test.YtpbmofofigkpjaaDoorCards
import Derived.Test.YtpbmofofigkpjaaDoorTie
import Derived.Test.YtpbmofofigkpjaaDoorFol
import Derived.Test.YtpbmofofigkpjaaDoorAgc
import Derived.Test.YtpbmofofigkpjaaDoorFix
import Derived.WalkKit
import Derived.ProofKit
import Derived.OpenShut
import Derived.ShutString
import Derived.OpenVars
import Derived.ChangeOld
import Derived.Below
import Derived.Deep.DeepHandedRow
import Derived.Deep.DeepWitnessRowRef
import Derived.LaidMore
import Derived.Lib.LaidTab
namespace Go.Proofs.YtpbmofofigkpjaaDoor.fnFolds
open Go.ChangeShapes Go.WideShapes Go.ChangeAt Go.RowKit
open Go.ChangeMaps (open_string shut_string)
set_option linter.unusedVariables false

set_option maxHeartbeats 4000000 in
set_option maxRecDepth 100000 in
theorem walk (a0 : Option Addr) (len0 cap0 : Nat) (z0 : List Int) (a1 : Option Addr) (len1 cap1 : Nat) (z1 : List Int) (w : World) (w0 : ag.IsRow .u8 w a0 len0 cap0 z0) (w1 : ag.IsRow .u8 w a1 len1 cap1 z1) (m : Int) (hm : w.cell? ⟨3, 0, none⟩ = some (.int .i64 m)) (hA : tb.TA w) :
    Calls Tryd.prog 5 #[.slice a0 len0 cap0, .slice a1 len1 cap1] w fun e w' => e = .returned (.bool true) ∧ Below w.heap.size w w' := by
  obtain ⟨l, hl, hr⟩ := ag.bytes w0
  obtain ⟨l', hl', hr'⟩ := ag.bytes w1
  clear w0 w1
  by_cases hbig : 1048576 < len0
  · have hb : (1048576 : Int) < (len0 : Int) := by omega
    clear hr hA hl hm hr' hl'
    go_enter Tryd.func5, Tryd.ntmps5
    go_wp2
    go_ret
    exact ⟨rfl, Below.refl _ _⟩
  have hb : decide ((1048576 : Int) < (len0 : Int)) = false := decide_eq_false (by omega)
  by_cases hbig2 : 1048576 < len1
  · have hb2 : (1048576 : Int) < (len1 : Int) := by omega
    clear hr hA hl hm hr' hl'
    go_enter Tryd.func5, Tryd.ntmps5
    go_wp2
    go_ret
    exact ⟨rfl, Below.refl _ _⟩
  have hb2 : decide ((1048576 : Int) < (len1 : Int)) = false := decide_eq_false (by omega)
  have hgl := World.block_lt_of_cell? _ _ hm
  have HT : Hid (∀ W, Below w.heap.size w W → sr.Bytes W a0 len0 ∧ sr.Bytes W a1 len1 ∧ W.cell? ⟨3, 0, none⟩ = some (.int .i64 m) ∧ tb.TA W) := fun W hW =>
    ⟨sr.bytes_below (ag.code hl (by omega) hr) hW, sr.bytes_below (ag.code hl' (by omega) hr') hW, (hW.cell (p := ⟨3, 0, none⟩) hgl).trans hm, tb.keep' hA hW⟩
  clear hr hr' hA hm hgl hl hl'
  have ba : Below w.heap.size w (w.alloc (.cells ff.nameRow.toArray 9)) := (Below.refl _ _).alloc (Nat.le_refl _) _
  have HAT : Hid (Calls Tryd.prog 20 #[.slice a1 len1 cap1, .int .i64 0, .int .i64 3] (w.alloc (.cells ff.nameRow.toArray 9)) fun e w' => sr.Chosen 3 e ∧ ∃ q, w' = (w.alloc (.cells ff.nameRow.toArray 9)).drewN q) :=
    sr.at_any _ a1 len1 cap1 0 3 (HT.out _ ba).2.1 (by omega) (by omega) (by omega) (by omega)
  have HNC := ff.name_cells w
  obtain ⟨wa, hwa⟩ : ∃ wa, wa = w.alloc (.cells ff.nameRow.toArray 9) := ⟨_, rfl⟩
  rw [← hwa] at ba HAT HNC
  have HNC' : Hid (∀ j, j < 3 → ∃ s : ByteArray, ff.Nm s ∧ wa.cell? ⟨w.heap.size, j, none⟩ = some (.string s)) := HNC
  have HWA : Hid (wa = w.alloc (.cells ff.nameRow.toArray 9)) := hwa
  clear HNC hwa
  go_enter Tryd.func5, Tryd.ntmps5
  go_wp2_with fail
  show Calls Tryd.prog 20 _ (w.alloc (.cells ff.nameRow.toArray 9)) _
  rw [← HWA.out]
  refine HAT.out.mono ?_
  rintro e w1 ⟨⟨r, rfl, r0, r1⟩, nq, rfl⟩
  obtain ⟨k, rfl⟩ : ∃ k : Nat, r = (k : Int) := ⟨r.toNat, by omega⟩
  obtain ⟨NM, hnm, hc⟩ := HNC'.out k (by omega)
  have hc1 : (wa.drewN nq).cell? ⟨w.heap.size, k, none⟩ = some (.string NM) := hc
  have b1 : Below w.heap.size w (wa.drewN nq) := uf.bdrew ba nq
  have HNM : Hid (ff.Nm NM) := hnm
  have hnz : NM.size ≤ 40 := hnm.2.2.2
  have hk3 : (k : Int) < 3 := by omega
  generalize wa.drewN nq = wb at hc1 b1 ⊢
  clear hnm hc HAT HNC' HWA ba
  go_wp2_with fail
  refine (sr.valueOf_any _ a0 len0 cap0 (HT.out _ b1).1).mono ?_
  rintro e w2 ⟨⟨v, rfl, hv, hsafe⟩, b2⟩
  have b2' := b1.trans (b2.mono b1.size)
  have hvz := ff.short_size hv
  have HS : Hid (hd.Safe v.data.toList) := hsafe
  clear hv hsafe hc1 b1 b2
  go_wp2_with fail
  refine (hf.implFh_any NM v _ (HT.out _ b2').2.2.2 (by omega) (by omega)).mono ?_
  rintro e w3 ⟨h3, b3⟩
  obtain ⟨R, hR, rfl⟩ := ff.fh_ok h3 HNM.out.1 HS.out (by omega) (by omega)
  have b3' := b2'.trans (b3.mono b2'.size)
  have HR : Hid (R.data.toList = hd.foldL NM.data.toList v.data.toList) := hR
  have hRz := ff.size_ok hR hnz hvz
  clear h3 hR b3 b2'
  go_wp2_with fail
  refine (hf.specFh_any NM v _ (by omega) (by omega)).mono ?_
  rintro e w4 ⟨h4, b4⟩
  obtain ⟨R', hR', rfl⟩ := ff.fh_ok h4 HNM.out.1 HS.out (by omega) (by omega)
  obtain rfl : R = R' := ByteArray.ext (Array.toList_inj.1 (HR.out.trans hR'.symm))
  have b4' := b3'.trans (b4.mono b3'.size)
  clear h4 hR' b4 b3'
  go_wp2_with fail
  refine (uf.implUh_any R _ m (HT.out _ b4').2.2.1 (by omega)).mono ?_
  rintro e w5 ⟨h5, b5⟩
  obtain rfl := ff.uh_ok h5 HR.out HNM.out HS.out (by omega)
  have b5' := b4'.trans (b5.mono b4'.size)
  clear h5 b5 b4'
  have HL : Hid (ln.lret R ≤ max 78 ((ff.lw 0 0 v.data.toList : Int) + (NM.size : Int) + 2)) := ff.line_ok HR.out HNM.out HS.out (by omega)
  have HI : Hid (Calls Tryd.prog 12 #[.string R] w5 fun e w' => e = .returned (.int .i64 (ln.lret R)) ∧ Below w5.heap.size w5 w') := ln.impl_any R m w5 (by unfold maxLen; omega) (HT.out _ b5').2.2.1
  obtain ⟨lr, hlr⟩ : ∃ r, r = ln.lret R := ⟨_, rfl⟩
  rw [← hlr] at HL HI
  clear hlr HR HT HS
  go_wp2_with fail
  refine (hn.impl_any NM _ (by unfold maxLen; omega)).mono ?_
  rintro e w6 ⟨h6, hw6⟩
  obtain rfl := hf.name_true h6 HNM.out.1
  rw [hw6]
  clear h6 hw6 HNM
  have hvi : (v.size : Int) ≤ 120 := by omega
  have hni : (NM.size : Int) ≤ 40 := by omega
  go_wp2
  go_loop [14, 15, 16] (fun wd lg i => ∃ k a b : Nat, k ≤ v.size ∧ i = .int .i64 k ∧ wd = .int .i64 a ∧ lg = .int .i64 b ∧ a ≤ k ∧ b ≤ k ∧ Hid (ff.lw a b (v.data.toList.drop k) = ff.lw 0 0 v.data.toList)) (fun _ _ i => v.size - (intOf i).toNat)
  case atStart => exact ⟨0, 0, 0, Nat.zero_le _, rfl, rfl, rfl, Nat.le_refl _, Nat.le_refl _, rfl⟩
  case round =>
    obtain ⟨k, a, b, hk, rfl, rfl, rfl, ha, hbk, HG⟩ := hrel
    have ai : (a : Int) ≤ 120 := by omega
    have bi : (b : Int) ≤ 120 := by omega
    by_cases hlt : k < v.size
    case neg =>
      have hlt' : (v.size : Int) ≤ (k : Int) := by omega
      have HB : Hid (b = ff.lw 0 0 v.data.toList) := by have := HG.out; rw [ff.lw_end (by omega)] at this; exact this
      have hL2 : decide (lr ≤ max 78 ((b : Int) + (NM.size : Int) + 2)) = true := decide_eq_true (by rw [HB.out]; exact HL.out)
      clear HL HG HB
      go_wp2_with fail
      refine HI.out.mono ?_
      rintro e w7 ⟨rfl, b7⟩
      have b7' := b5'.trans (b7.mono b5'.size)
      clear HI
      go_wp2
      go_ret
      exact ⟨rfl, b7'⟩
    have hlt' : (k : Int) < (v.size : Int) := by omega
    by_cases hc : ((v[k]'hlt).toNat : Int) = 32
    · have d1 : (((v[k]'hlt).toNat : Int) == 32) = true := beq_iff_eq.2 hc
      have HG2 : Hid (ff.lw 0 b (v.data.toList.drop (k + 1)) = ff.lw 0 0 v.data.toList) := (ff.lw_blank hlt hc).symm.trans HG.out
      clear hc HG HL HI
      go_wp2
      go_round
      case rel => exact ⟨k + 1, 0, b, by omega, by go_num, rfl, by go_num, by omega, by omega, HG2⟩
      case measure => simp [intOf]; omega
    · have d1 : (((v[k]'hlt).toNat : Int) == 32) = false := beq_eq_false_iff_ne.2 hc
      have HG2 : Hid (ff.lw (a + 1) (max b (a + 1)) (v.data.toList.drop (k + 1)) = ff.lw 0 0 v.data.toList) := (ff.lw_char hlt hc).symm.trans HG.out
      clear hc HG HL HI
      go_wp2
      go_round
      case rel => exact ⟨k + 1, a + 1, max b (a + 1), by omega, by go_num, by go_num, by go_num, by omega, by omega, HG2⟩
      case measure => simp [intOf]; omega

end Go.Proofs.YtpbmofofigkpjaaDoor.fnFolds
