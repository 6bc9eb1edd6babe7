/-
  For every two codes of bytes the law FnFetch answers true: a mail's body that is fetched has just its octets, and so many as are told, where the tables of flags and of digits are as the door lays them.
-/
import Derived.Test.YtbokolpjdaamiaaGreatDoorCards
import Derived.Test.YtbokolpjdaamiaaGreatDoorTie
import Derived.Test.YtbokolpjdaamiaaGreatDoorPkbr
import Derived.Test.YtbokolpjdaamiaaGreatDoorPkax
import Derived.WalkKit
import Derived.ProofKit
import Derived.OpenShut
import Derived.ShutString
import Derived.OpenVars
import Derived.ChangeOld
import Derived.Below
import Derived.Deep.DeepHandedRow
import Derived.Deep.DeepWitnessRowRef
import Derived.LaidMore
import Derived.Lib.LaidTab

namespace Go.Proofs.YtbokolpjdaamiaaGreatDoor.fnFetch
open Go.ChangeShapes Go.WideShapes Go.ChangeAt Go.RowKit
open Go.ChangeMaps (open_string shut_string)
set_option linter.unusedVariables false

theorem own : ownKnob Tryz.prog.godebug = none := by kernel_rfl
theorem laidOut : laidOutB Tryz.prog = true := by kernel_rfl

set_option maxHeartbeats 4000000 in
set_option maxRecDepth 100000 in
theorem walk (a0 : Option Addr) (len0 cap0 : Nat) (z0 : List Int) (a1 : Option Addr) (len1 cap1 : Nat) (z1 : List Int) (w : World) (w0 : ag.IsRow .u8 w a0 len0 cap0 z0) (w1 : ag.IsRow .u8 w a1 len1 cap1 z1) (m : Int) (hm : w.cell? ⟨1, 0, none⟩ = some (.int .i64 m)) (hP : td.TP w) (hF : tb.TF w) :
    Calls Tryz.prog 3 #[.slice a0 len0 cap0, .slice a1 len1 cap1] w fun e w' => e = .returned (.bool true) ∧ Below w.heap.size w w' := by
  by_cases hbig : 1048576 < len0
  · have hb : (1048576 : Int) < (len0 : Int) := by omega
    clear w0 w1 hm hP hF
    go_enter Tryz.func3, Tryz.ntmps3
    go_wp2
    go_ret
    exact ⟨rfl, Below.refl _ _⟩
  have hb : (len0 : Int) ≤ 1048576 := by omega
  by_cases hbig1 : 1048576 < len1
  · have hb1 : (1048576 : Int) < (len1 : Int) := by omega
    clear w0 w1 hm hP hF
    go_enter Tryz.func3, Tryz.ntmps3
    go_wp2
    go_ret
    exact ⟨rfl, Below.refl _ _⟩
  have hb1 : (len1 : Int) ≤ 1048576 := by omega
  have HB : Hid (se.Bytes w a0 len0) := me.row_bytes w0 (by omega)
  have HBY : Hid (∀ W, Below w.heap.size w W → se.Bytes W a1 len1) := fun W hW => se.bytes_below (me.row_bytes w1 (by omega)) hW
  have HA0 : Hid (∀ W, Below w.heap.size w W → Calls Tryz.prog 6 #[.slice a1 len1 cap1, .int .i64 0, .int .i64 100] W fun e w' => (∃ z : Int, e = .returned (.int .i64 z) ∧ 0 ≤ z ∧ z < 100) ∧ Below W.heap.size W w') := fun W hW => fe.at_any W a1 len1 cap1 0 100 (HBY.out W hW) (by omega) (by omega) (by omega) (by omega)
  have HA1 : Hid (∀ W, Below w.heap.size w W → Calls Tryz.prog 6 #[.slice a1 len1 cap1, .int .i64 1, .int .i64 32] W fun e w' => (∃ z : Int, e = .returned (.int .i64 z) ∧ 0 ≤ z ∧ z < 32) ∧ Below W.heap.size W w') := fun W hW => fe.at_any W a1 len1 cap1 1 32 (HBY.out W hW) (by omega) (by omega) (by omega) (by omega)
  have HA2 : Hid (∀ W, Below w.heap.size w W → Calls Tryz.prog 6 #[.slice a1 len1 cap1, .int .i64 2, .int .i64 100] W fun e w' => (∃ z : Int, e = .returned (.int .i64 z) ∧ 0 ≤ z ∧ z < 100) ∧ Below W.heap.size W w') := fun W hW => fe.at_any W a1 len1 cap1 2 100 (HBY.out W hW) (by omega) (by omega) (by omega) (by omega)
  have hgl := World.block_lt_of_cell? _ _ hm
  have HM : Hid (∀ W, Below w.heap.size w W → W.cell? ⟨1, 0, none⟩ = some (.int .i64 m) ∧ tb.TP W ∧ tb.TF W) := fun W hW => ⟨(hW.cell (p := ⟨1, 0, none⟩) hgl).trans hm, tb.keep' hP hW, tb.keepS hF hW⟩
  clear w0 w1 hm hgl hP hF HBY
  go_enter Tryz.func3, Tryz.ntmps3
  go_wp2_with fail
  refine (se.entryOf_any _ a0 len0 cap0 HB.out).mono ?_
  rintro e x1 ⟨⟨i, t, l, a, c, d, rfl, hi, ht, hl, ha, hc, d0, d1⟩, b1⟩
  obtain ⟨s, hsm, hre, hsz, hmail⟩ := fe.drawn hi ht hl ha hc d0 d1
  have HSM : Hid (en.Small ⟨i, t, l, a, d, c⟩) := hsm
  have HRE : Hid (∀ r, rn.ReRet ⟨i, t, l, a, d, c⟩ me.news r → r = .returned (.tuple #[.string s, .int .i64 0])) := hre
  have HML : Hid (∃ fs b, ml.IsMail s.data.toList fs b) := hmail
  clear hi ht hl ha hc d0 d1 HB hsm hre hmail
  unfold se.EV6
  go_wp2_with fail
  refine (rn.specRE_any ⟨i, t, l, a, d, c⟩ me.news x1 HSM.out (by decide)).mono ?_
  rintro e x2 ⟨h2, hb2⟩
  obtain rfl := HRE.out _ h2
  have b2 := b1.trans (hb2.mono b1.size)
  clear h2 hb2 b1 HSM HRE
  go_wp2_with fail
  refine (HA0.out x2 b2).mono ?_
  rintro e x3 ⟨⟨z0, rfl, p0, p1⟩, hb3⟩
  have b3 := b2.trans (hb3.mono b2.size)
  clear hb3 b2
  go_wp2_with fail
  refine (HA1.out x3 b3).mono ?_
  rintro e x4 ⟨⟨z1, rfl, p2, p3⟩, hb4⟩
  have b4 := b3.trans (hb4.mono b3.size)
  clear hb4 b3
  have k0 := fq.cell3 x4 #[.int .i64 (1 + z0), .int .i64 z1, .string s] 30 0 _ rfl
  have k1 := fq.cell3 x4 #[.int .i64 (1 + z0), .int .i64 z1, .string s] 30 1 _ rfl
  have k2 := fq.cell3 x4 #[.int .i64 (1 + z0), .int .i64 z1, .string s] 30 2 _ rfl
  have b5 : Below w.heap.size w (x4.alloc (.cells #[.int .i64 (1 + z0), .int .i64 z1, .string s] 30)) := b4.alloc b4.size _
  obtain ⟨x, b, fs, hD⟩ := fe.dr_ex (u := 1 + z0) (f := z1) (s := s) ⟨by omega, by omega⟩ ⟨by omega, by omega⟩ hsz HML.out
  have HD : Hid (fe.Dr x (1 + z0) z1 s b fs) := hD
  clear hD HML
  go_wp2_with fail
  generalize x4.alloc _ = x5 at k0 k1 k2 b5 ⊢
  generalize hg : x4.heap.size = g at k0 k1 k2 ⊢
  have HK : Hid (∀ W, Below x5.heap.size x5 W → W.cell? ⟨g, 0, none⟩ = some (.int .i64 (1 + z0)) ∧ W.cell? ⟨g, 1, none⟩ = some (.int .i64 z1) ∧ W.cell? ⟨g, 2, none⟩ = some (.string s)) := fun W hW => ⟨fq.kq hW k0, fq.kq hW k1, fq.kq hW k2⟩
  have HB5 : Hid (Below w.heap.size w x5) := b5
  clear k0 k1 k2 b4 hg
  refine (HA2.out x5 b5).mono ?_
  rintro e x6 ⟨⟨z2, rfl, p4, p5⟩, hb6⟩
  have HQ : Hid (1 ≤ 1 + z2 ∧ 1 + z2 ≤ 100) := (show _ ∧ _ from ⟨by omega, by omega⟩)
  have HX6 : Hid (Below x5.heap.size x5 x6) := hb6
  obtain ⟨k0, k1, k2⟩ := HK.out x6 hb6
  clear hb6 b5 HA0 HA1 HA2
  have HF : Hid (∀ W v ks wu, Below x5.heap.size x5 W → tx.Smalls ks → ky.TextsAt W v ks → Calls Tryz.prog 7 #[.agg #[.int .i64 (1 + z0), .int .i64 z1, .string s], .int .i64 (1 + z2), v, .bool wu] W fun e w' => fq.FtRet x (1 + z0) z1 s (1 + z2) ks wu e ∧ Below W.heap.size W w') := fun W v ks wu hW h1 h2 => fq.fetch_impl x (1 + z0) z1 s (1 + z2) ks wu HD.out.of W v h1 h2 m (HM.out W (HB5.out.trans (hW.mono HB5.out.size))).1 (HM.out W (HB5.out.trans (hW.mono HB5.out.size))).2.1 (HM.out W (HB5.out.trans (hW.mono HB5.out.size))).2.2
  have HFS : Hid (∀ W v ks wu, tx.Smalls ks → ky.TextsAt W v ks → Calls Tryz.prog 8 #[.agg #[.int .i64 (1 + z0), .int .i64 z1, .string s], .int .i64 (1 + z2), v, .bool wu] W fun e w' => fq.FtRet x (1 + z0) z1 s (1 + z2) ks wu e ∧ Below W.heap.size W w') := fun W v ks wu h1 h2 => fq.fetch_spec x (1 + z0) z1 s (1 + z2) ks wu HD.out.of W v h1 h2
  clear HM
  have q6 := fe.texts1 x6 fe.wP
  have n6 : Below x5.heap.size x5 (x6.alloc (.cells #[.string fe.wP] 9)) := HX6.out.alloc HX6.out.size _
  rw [show fe.wP = ⟨#[98, 111, 100, 121, 46, 112, 101, 101, 107, 91, 93]⟩ from rfl] at q6 n6
  have HT6 : Hid (ky.TextsAt (x6.alloc (.cells #[.string ⟨#[98, 111, 100, 121, 46, 112, 101, 101, 107, 91, 93]⟩] 9)) (.slice (some ⟨x6.heap.size, 0, none⟩) 1 1) [fe.wP]) := q6
  have HN6 : Hid (Below x5.heap.size x5 (x6.alloc (.cells #[.string ⟨#[98, 111, 100, 121, 46, 112, 101, 101, 107, 91, 93]⟩] 9))) := n6
  clear q6 n6
  go_wp2_with fail
  refine (HF.out _ _ _ false HN6.out fe.smallP HT6.out).mono ?_
  rintro e x7 ⟨h7, hb7⟩
  have HX7 : Hid (Below x5.heap.size x5 x7) := HN6.out.trans (hb7.mono HN6.out.size)
  obtain ⟨A, sn, cc, rfl⟩ := fq.ft_ex h7
  obtain ⟨rfl, rfl, P, hP2, hP3, hA⟩ := fe.one HD.out HQ.out h7
  obtain ⟨hA1, hA2, hA3⟩ := fe.cuts hA
  have HAC : Hid (A.size = P.size + s.size + 3 ∧ A.extract (P.size + s.size) (P.size + s.size + 3) = ⟨#[41, 13, 10]⟩ ∧ A.extract P.size (P.size + s.size) = s ∧ 2 ≤ P.size ∧ P.size ≤ 100 ∧ s.size ≤ 4000) := ⟨hA1, hA2, hA3, hP2, hP3, hsz⟩
  clear h7 hb7 hA hA1 hA2 hA3 hP2 hP3 HT6 HN6 k0 k1 k2
  obtain ⟨k0, k1, k2⟩ := HK.out x7 HX7.out
  have HT7 : Hid (ky.TextsAt (x7.alloc (.cells #[.string ⟨#[70, 76, 65, 71, 83]⟩, .string ⟨#[66, 79, 68, 89, 91, 84, 69, 88, 84, 93]⟩, .string ⟨#[82, 70, 67, 56, 50, 50, 46, 83, 73, 90, 69]⟩] 9)) (.slice (some ⟨x7.heap.size, 0, none⟩) 3 3) [fe.wF, fe.wT, fe.wS]) := fe.texts3 x7 fe.wF fe.wT fe.wS
  have HN7 : Hid (Below x5.heap.size x5 (x7.alloc (.cells #[.string ⟨#[70, 76, 65, 71, 83]⟩, .string ⟨#[66, 79, 68, 89, 91, 84, 69, 88, 84, 93]⟩, .string ⟨#[82, 70, 67, 56, 50, 50, 46, 83, 73, 90, 69]⟩] 9))) := HX7.out.alloc HX7.out.size _
  go_wp2_with fail
  refine (HF.out _ _ _ true HN7.out fe.smallK HT7.out).mono ?_
  rintro e x8 ⟨h8, hb8⟩
  have HX8 : Hid (Below x5.heap.size x5 x8) := HN7.out.trans (hb8.mono HN7.out.size)
  obtain ⟨A2, sn2, c2, rfl⟩ := fq.ft_ex h8
  obtain ⟨rfl, rfl⟩ := fe.two HD.out HQ.out h8
  have H8 : Hid (fq.FtRet x (1 + z0) z1 s (1 + z2) [fe.wF, fe.wT, fe.wS] true (.returned (.tuple #[.string A2, .bool true, .int .i64 0]))) := h8
  clear h8 hb8 HT7 HN7 k0 k1 k2
  obtain ⟨k0, k1, k2⟩ := HK.out x8 HX8.out
  have HT8 : Hid (ky.TextsAt (x8.alloc (.cells #[.string ⟨#[70, 76, 65, 71, 83]⟩, .string ⟨#[66, 79, 68, 89, 91, 84, 69, 88, 84, 93]⟩, .string ⟨#[82, 70, 67, 56, 50, 50, 46, 83, 73, 90, 69]⟩] 9)) (.slice (some ⟨x8.heap.size, 0, none⟩) 3 3) [fe.wF, fe.wT, fe.wS]) := fe.texts3 x8 fe.wF fe.wT fe.wS
  have HN8 : Hid (Below x5.heap.size x5 (x8.alloc (.cells #[.string ⟨#[70, 76, 65, 71, 83]⟩, .string ⟨#[66, 79, 68, 89, 91, 84, 69, 88, 84, 93]⟩, .string ⟨#[82, 70, 67, 56, 50, 50, 46, 83, 73, 90, 69]⟩] 9))) := HX8.out.alloc HX8.out.size _
  go_wp2_with fail
  refine (HFS.out _ _ _ true fe.smallK HT8.out).mono ?_
  rintro e x9 ⟨h9, hb9⟩
  have HX9 : Hid (Below x5.heap.size x5 x9) := HN8.out.trans (hb9.mono HN8.out.size)
  obtain ⟨A3, sn3, c3, rfl⟩ := fq.ft_ex h9
  obtain ⟨rfl, rfl, rfl⟩ := fq.ft_same H8.out h9
  clear h9 hb9 HT8 HN8 k0 k1 k2 H8 HFS
  have hy : (A2.toList != A2.toList) = false := by simp
  have hss : (s.toList != s.toList) = false := by simp
  obtain ⟨hA1, hA2, hA3, hP2, hP3, hs4⟩ := HAC.out
  have hs1 : ∀ wx : World, (Instr.slice 9 (.string A) (some (.int .i64 ((A.size : Int) - 3))) none none).run Tryz.prog wx = .ok (.string ⟨#[41, 13, 10]⟩) wx := fun wx => by
    rw [run_slice_string_l (P := Tryz.prog) (w := wx) 9 A Tryz.underlying9 .i64 _ (by omega) (by omega)]
    rw [show ((A.size : Int) - 3).toNat = P.size + s.size by omega, hA1, hA2]
  have hs2 : ∀ wx : World, (Instr.slice 9 (.string A) (some (.int .i64 ((A.size : Int) - 3 - (s.size : Int)))) (some (.int .i64 ((A.size : Int) - 3))) none).run Tryz.prog wx = .ok (.string s) wx := fun wx => by
    rw [run_slice_string_if wx 9 A .i64 .i64 _ _ Tryz.underlying9, if_pos ⟨by omega, by omega⟩, if_pos ⟨by omega, by omega⟩]
    rw [show ((A.size : Int) - 3 - (s.size : Int)).toNat = P.size by omega, show ((A.size : Int) - 3).toNat = P.size + s.size by omega, hA3]
  have hd4 : decide ((A.size : Int) < (s.size : Int) + 4) = false := decide_eq_false (by omega)
  have hq4 : ¬ (A.size : Int) < (s.size : Int) + 4 := by omega
  have hAb : (A.size : Int) ≤ 5000 := by omega
  have hAc : 3 ≤ (A.size : Int) := by omega
  have hAd : (s.size : Int) ≤ 4000 := by omega
  obtain ⟨k0, k1, k2⟩ := HK.out x9 HX9.out
  have HT9 : Hid (ky.TextsAt (x9.alloc (.cells #[.string ⟨#[110, 111, 110, 101]⟩] 9)) (.slice (some ⟨x9.heap.size, 0, none⟩) 1 1) [fe.wN]) := fe.texts1 x9 fe.wN
  have HN9 : Hid (Below x5.heap.size x5 (x9.alloc (.cells #[.string ⟨#[110, 111, 110, 101]⟩] 9))) := HX9.out.alloc HX9.out.size _
  clear hA1 hA2 hA3 hP2 hP3 hs4 HAC
  go_wp2_with fail
  refine (HF.out _ _ _ false HN9.out fe.smallN HT9.out).mono ?_
  rintro e y1 ⟨h10, hb10⟩
  have HX10 : Hid (Below w.heap.size w y1) := (HB5.out.trans (HN9.out.mono HB5.out.size)).trans (hb10.mono ((HB5.out.trans (HN9.out.mono HB5.out.size)).size))
  obtain ⟨A4, sn4, c4, rfl⟩ := fq.ft_ex h10
  obtain rfl := fe.three HD.out HQ.out h10
  clear h10 hb10 HT9 HN9 k0 k1 k2 HF hs1 hs2
  go_wp2
  go_ret
  exact ⟨rfl, HX10.out⟩

set_option maxRecDepth 100000 in
theorem contract (H : Type) (enc : TypeId × Value → H) (W : World) (base : Nat) (args : Array Value) (ds gs : List (DataW H)) (before : List MemPlace)
    (hval : ∀ (j : Nat) t v, Tryz.f3.params[j]? = some t → args[j]? = some v → Value.okWide Tryz.prog W .any base t v)
    (hW : DataW.Whole enc Tryz.prog Tryz.f3.params.toList Rows.fnFetchSpec.vars false W args.toList ds gs before) (hL : laidMetH Tryz.prog Rows.fnFetchRow.laid W) (hsh : W.ShapedOpen Tryz.prog) :
    Calls Tryz.prog 3 args W fun e W' => ∃ v, e = .returned v ∧ Rows.fnFetchSpec.post enc Tryz.prog Tryz.f3 false true false false W args v W' := by
  have hW' := hW
  obtain ⟨p, q, hA0, hV, rfl, hfz, hnd⟩ := hW
  have hA : DataW.TrodAll enc Tryz.prog W 0 (fun _ => true) true Tryz.f3.params.toList args.toList ds p := hA0
  rw [Tryz.params3] at hA hval
  obtain ⟨v0, vs0, d0, ds0, p0, q0, hargs0, rfl, rfl, h0, tl0⟩ := trodAll_cons hA
  obtain ⟨v1, vs1, d1, ds1, p1, q1, hargs1, rfl, rfl, h1, tl1⟩ := trodAll_cons tl0
  obtain ⟨hnil, rfl, rfl⟩ := trodAll_nil tl1
  obtain rfl : args = #[v0, v1] := by cases args; simp_all
  obtain ⟨a0, len0, cap0, rfl⟩ := okWide_slice Tryz.underlying22 (hval 0 22 v0 rfl rfl)
  have k0 := h0
  have lt0 : ∀ x ∈ p0, x.block < W.heap.size := by obtain ⟨m, hm⟩ := k0; exact DataW.trod_lt m _ _ _ hm
  obtain ⟨z0, w0⟩ : ∃ zs, ag.IsRow .u8 W a0 len0 cap0 zs := by
    obtain ⟨fuel, hf⟩ := h0
    rcases open_ints Tryz.underlying22 Tryz.underlying5 (by kernel_rfl) hf with ⟨hcs, _⟩ | ⟨x, l, c, zs, hcs, _, hl, hm, hz, _, hcell, hwz⟩
    · simp [Value.cells] at hcs
      obtain ⟨rfl, rfl, rfl⟩ := hcs
      exact ⟨[], .inl ⟨rfl, rfl, rfl, rfl⟩⟩
    · simp [Value.cells] at hcs
      obtain ⟨rfl, rfl, rfl⟩ := hcs
      exact ⟨zs, .inr ⟨_, rfl, hl, hm, by simpa using hz, hcell, hwz⟩⟩
  obtain ⟨a1, len1, cap1, rfl⟩ := okWide_slice Tryz.underlying22 (hval 1 22 v1 rfl rfl)
  have k1 := h1
  have lt1 : ∀ x ∈ p1, x.block < W.heap.size := by obtain ⟨m, hm⟩ := k1; exact DataW.trod_lt m _ _ _ hm
  obtain ⟨z1, w1⟩ : ∃ zs, ag.IsRow .u8 W a1 len1 cap1 zs := by
    obtain ⟨fuel, hf⟩ := h1
    rcases open_ints Tryz.underlying22 Tryz.underlying5 (by kernel_rfl) hf with ⟨hcs, _⟩ | ⟨x, l, c, zs, hcs, _, hl, hm, hz, _, hcell, hwz⟩
    · simp [Value.cells] at hcs
      obtain ⟨rfl, rfl, rfl⟩ := hcs
      exact ⟨[], .inl ⟨rfl, rfl, rfl, rfl⟩⟩
    · simp [Value.cells] at hcs
      obtain ⟨rfl, rfl, rfl⟩ := hcs
      exact ⟨zs, .inr ⟨_, rfl, hl, hm, by simpa using hz, hcell, hwz⟩⟩
  clear hA0
  simp only [List.append_nil] at hW'
  have hLL : laidMet Tryz.prog Rows.fnFetchRow.laid W := hL
  obtain ⟨ps, hLV, _⟩ := hLL
  obtain ⟨g, t, cs, fuel, d, pp, rfl, _, _, _, _, _⟩ := trodVars_one hV
  obtain ⟨m, hm⟩ := Tryz.laysM219.s1_3 W hsh
  refine (walk a0 len0 cap0 z0 a1 len1 cap1 z1 W w0 w1 m hm (td.tp_of (List.mem_of_getElem? (i := 2) (by kernel_rfl)) hLV) (tb.tf_of (List.mem_of_getElem? (i := 4) (by kernel_rfl)) hLV)).mono fun e W' ⟨he, bel⟩ => ?_
  subst he
  exact ⟨_, rfl, _, _, _, [], _, _, hW', trodAll_cons_mk (shut_bool Tryz.underlying4 _) trodAll_mk0, (trodAll_cons_mk (Below.trod laidOut (by kernel_rfl) (of_decide_eq_true (by kernel_rfl)) k0 bel lt0) (trodAll_cons_mk (Below.trod laidOut (by kernel_rfl) (of_decide_eq_true (by kernel_rfl)) k1 bel lt1) trodAll_mk0)), Below.trodVars laidOut bel (by kernel_rfl) hV, bel.frame _, fun h => by cases h⟩
def putF (o : Obj) : Obj := match o with
  | .cells _ t frozen => .cells (Go.Pinned.utf8FirstZ.map fun (n : Nat) => Value.int .u8 (n : Int)).toArray t frozen
  | o => o
set_option maxRecDepth 100000 in
theorem laid_met (os : Os) : laidMet Tryz.prog Rows.fnFetchRow.laid (({ World.doorLaid Tryz.prog 39 os with heap := (World.doorLaid Tryz.prog 39 os).heap.modify 5 putF } : World).forCall (fun _ _ => 0) ⟨#[], #[Value.slice none 0 0, Value.slice none 0 0], []⟩).memory :=
  laidMet_of_run' 8 (by kernel_rfl) (by kernel_rfl)
theorem reads (os : Os) {H : Type} (enc : TypeId × Value → H) : ∃ places, DataW.whole enc Tryz.prog (({ World.doorLaid Tryz.prog 39 os with heap := (World.doorLaid Tryz.prog 39 os).heap.modify 5 putF } : World).forCall (fun _ _ => 0) ⟨#[], #[Value.slice none 0 0, Value.slice none 0 0], []⟩).memory Tryz.f3.params.toList Rows.fnFetchSpec.vars false #[Value.slice none 0 0, Value.slice none 0 0].toList 8 = some ([.nil, .nil], [Rows.laid_loop_example_g00268_impl_flagNames], places) :=
  ⟨MemPlace.row ⟨0, 0, none⟩ 5, by kernel_rfl⟩

set_option maxRecDepth 100000 in
theorem lifted (os : Os) (started : os.Started) (H : Type) (enc : TypeId × Value → H) (F : Stop.Interp) :
    ReturnsInHanded {} Tryz.checked os 3 .any ((OpenSpec.ofChange Rows.fnFetchSpec).preRow enc Tryz.prog Tryz.f3 Rows.fnFetchRow.domain false Rows.fnFetchRow.laid) (((OpenSpec.ofChange Rows.fnFetchSpec).at F).post enc Tryz.prog Tryz.f3 false true false false) := by
  obtain ⟨places, hx⟩ := reads os enc
  refine returnsInHanded_of_row (C := Tryz.checked) (s := OpenSpec.ofChange Rows.fnFetchSpec) own started (by kernel_rfl) Tryz.func3
    (witness_row_atRef (enc := enc) (C := Tryz.checked) false ({ World.doorLaid Tryz.prog 39 os with heap := (World.doorLaid Tryz.prog 39 os).heap.modify 5 putF } : World) #[Value.slice none 0 0, Value.slice none 0 0] rfl (by kernel_rfl) (by kernel_rfl) (by kernel_rfl)
      (OpenSpec.preRow_of_cond 8 hx (by kernel_rfl) (fun k hk => by cases hk) (by kernel_rfl) (laid_met os))) ?_
  intro W base args ds gs before hval hW _ _ _ hL hsh _
  exact contract H enc W base args ds gs before hval hW hL hsh

theorem said : Rows.FnFetchSaid :=
  OpenClaim.holds_of_cond 3 Tryz.f3 rfl rfl rfl rfl rfl rfl rfl ⟨rfl, rfl, rfl, rfl, rfl⟩ rfl rfl rfl rfl rfl (by kernel_rfl) Tryz.func3 (by kernel_rfl)
    (of_decide_eq_true (by kernel_rfl)) (by unfold Func.isWrapper; first | (rw [if_pos (by decide +kernel)]; kernel_rfl) | (rw [if_neg (by decide +kernel)]; exact ⟨rfl, rfl⟩))
    (fun os started H enc _ F => by rw [OpenClaim.pre_eq_preRow]; exact lifted os started H enc F)

theorem plain (f : FuncId) (fn : Func) (hf : Tryz.pinned.checked.prog.funcNamed Rows.fnFetchRow.func = some f) (hfn : Tryz.pinned.checked.prog.funcs[f]? = some fn) :
    false = Tryz.pinned.checked.prog.looks [] ∧ ∀ (j : Nat) t, fn.params[j]? = some t → Tryz.pinned.checked.prog.wantsStandIn t = false := by
  obtain rfl : f = 3 := Option.some.inj ((show Tryz.prog.funcNamed Rows.fnFetchRow.func = some 3 by kernel_rfl).symm.trans hf) |>.symm
  obtain rfl : fn = Tryz.f3 := (Option.some.inj (Tryz.func3.symm.trans hfn)).symm
  refine ⟨by kernel_rfl, fun j t ht => ?_⟩
  rw [Tryz.params3] at ht
  obtain rfl : t = 22 := by simpa using Array.mem_of_getElem? ht
  exact (show Tryz.prog.wantsStandIn 22 = false by kernel_rfl)

theorem card : Rows.FnFetchCardSaid :=
  Claim7.holds_tied_plain_at .later [] _ _ _ _ said (fun _ h => by cases h) (by kernel_rfl) (fun _ h => by cases h) fnFetch_row_tie rfl ⟨rfl, rfl⟩ (by kernel_rfl) rfl plain (by kernel_rfl)
end Go.Proofs.YtbokolpjdaamiaaGreatDoor.fnFetch
namespace Go.Proofs.YtbokolpjdaamiaaGreatDoor
theorem fnFetch_card : Rows.FnFetchCardSaid := fnFetch.card
#print axioms fnFetch_card
end Go.Proofs.YtbokolpjdaamiaaGreatDoor
