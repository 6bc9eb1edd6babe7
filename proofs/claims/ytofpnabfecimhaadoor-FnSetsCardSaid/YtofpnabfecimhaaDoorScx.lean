/-
  A set is read back from its text, and has a number just if a range of it does, told from either end; for every input.
-/
import Derived.Test.YtofpnabfecimhaaDoorCards
import Derived.Test.YtofpnabfecimhaaDoorTie
import Derived.Test.YtofpnabfecimhaaDoorSsa
import Derived.Test.YtofpnabfecimhaaDoorLai
import Derived.Test.YtofpnabfecimhaaDoorArg
import Derived.WalkKit
import Derived.ProofKit
import Derived.OpenShut
import Derived.ShutString
import Derived.OpenVars
import Derived.ChangeOld
import Derived.Below
import Derived.Deep.DeepHandedRow
import Derived.Deep.DeepWitnessRowRef
import Derived.LaidMore
import Derived.Lib.LaidTab
import Derived.Stop.LaidTwo
namespace Go.Proofs.YtofpnabfecimhaaDoor.fnSets
open Go.ChangeShapes Go.WideShapes Go.ChangeAt Go.RowKit
open Go.ChangeMaps (open_string shut_string)
set_option linter.unusedVariables false

theorem own : ownKnob Tryd.prog.godebug = none := by kernel_rfl
theorem laidOut : laidOutB Tryd.prog = true := by kernel_rfl

set_option maxHeartbeats 4000000 in
set_option maxRecDepth 100000 in
theorem walk (a0 : Option Addr) (len0 cap0 : Nat) (z0 : List Int) (a1 : Option Addr) (len1 cap1 : Nat) (z1 : List Int) (w : World) (w0 : ag.IsRow .u8 w a0 len0 cap0 z0) (w1 : ag.IsRow .u8 w a1 len1 cap1 z1) (m : Int) (hm : w.cell? ⟨1, 0, none⟩ = some (.int .i64 m)) (hP : tb.TP w) (hE : nu.Sents w) :
    Calls Tryd.prog 4 #[.slice a0 len0 cap0, .slice a1 len1 cap1] w fun e w' => e = .returned (.bool true) ∧ Below w.heap.size w w' := by
  have HM : Hid (w.cell? ⟨1, 0, none⟩ = some (.int .i64 m)) := hm
  have HP : Hid (tb.TP w) := hP
  have HE : Hid (nu.Sents w) := hE
  have HW0 : Hid (ag.IsRow .u8 w a0 len0 cap0 z0) := w0
  have HW1 : Hid (ag.IsRow .u8 w a1 len1 cap1 z1) := w1
  clear hm hP hE w0 w1
  by_cases hlen : 1048576 < len0
  · have hlen' : (1048576 : Int) < (len0 : Int) := by omega
    go_enter Tryd.func4, Tryd.ntmps4
    go_wp2
    go_ret
    exact ⟨rfl, Below.refl _ _⟩
  have hlen' : decide ((1048576 : Int) < (len0 : Int)) = false := decide_eq_false (by omega)
  by_cases hlen1 : 1048576 < len1
  · have hlen1' : decide ((1048576 : Int) < (len1 : Int)) = true := decide_eq_true (by omega)
    go_enter Tryd.func4, Tryd.ntmps4
    go_wp2
    go_ret
    exact ⟨rfl, Below.refl _ _⟩
  have hlen1' : decide ((1048576 : Int) < (len1 : Int)) = false := decide_eq_false (by omega)
  obtain ⟨r, hr⟩ := se.first_some (show se.Bytes w a0 len0 from ag.row_bytes HW0.out (by omega))
  have HFI : Hid (se.First w a0 len0 r) := hr
  obtain ⟨ps, hset, htx⟩ := nu.nine_of (se.drawn_mem r)
  have HSET : Hid (rg.SetIs ps) := hset
  obtain ⟨hrl, hrc, hts⟩ := nu.set_back hset (se.drawn r) htx
  have HDR : Hid (∀ W, Below w.heap.size w W → Calls Tryd.prog 10 #[.slice a0 len0 cap0] W fun e w' => e = .returned (.string (se.drawn r)) ∧ Below W.heap.size W w') := fun W hW => se.setTextOf_det W a0 len0 cap0 r (by omega) (se.first_below HFI.out hW)
  obtain ⟨T2, hT2⟩ : ∃ T : ByteArray, T = ⟨(rg.txl ps ps.length).toArray⟩ := ⟨_, rfl⟩
  have hT2l : T2.data.toList = rg.txl ps ps.length := by rw [hT2]
  obtain ⟨hrl2, hrc2, hts2⟩ := nu.set_back hset T2 hT2l
  have hI : ∀ (T : ByteArray), T.size ≤ 65536 → nu.RL T = ps → nu.RC T = 0 → ∀ W, Below w.heap.size w W → Calls Tryd.prog 9 #[.string T] W fun e w' => (∃ v, e = .returned (.tuple #[v, .int .i64 0]) ∧ nu.OwnP w' W.heap.size v ps) ∧ Below W.heap.size W w' := fun T hT h1 h2 W hW => by
    have := nu.implRS T (by omega) W m ((hW.cell (p := ⟨1, 0, none⟩) (World.block_lt_of_cell? w _ HM.out)).trans HM.out) (nu.sents_keep HE.out hW) (tb.keep' HP.out hW)
    unfold nu.RsRet at this
    rw [h1, h2] at this
    exact this
  have HI1 : Hid (∀ W, Below w.heap.size w W → Calls Tryd.prog 9 #[.string (se.drawn r)] W fun e w' => (∃ v, e = .returned (.tuple #[v, .int .i64 0]) ∧ nu.OwnP w' W.heap.size v ps) ∧ Below W.heap.size W w') := hI _ hts hrl hrc
  have HI2 : Hid (∀ W, Below w.heap.size w W → Calls Tryd.prog 9 #[.string T2] W fun e w' => (∃ v, e = .returned (.tuple #[v, .int .i64 0]) ∧ nu.OwnP w' W.heap.size v ps) ∧ Below W.heap.size W w') := hI _ hts2 hrl2 hrc2
  have HSP : Hid (∀ W, Calls Tryd.prog 11 #[.string (se.drawn r)] W fun e w' => (∃ v, e = .returned (.tuple #[v, .int .i64 0]) ∧ nu.OwnP w' W.heap.size v ps) ∧ Below W.heap.size W w') := fun W => by
    have := nu.specRS (se.drawn r) (by omega) W
    unfold nu.RsRet at this
    rw [hrl, hrc] at this
    exact this.mono fun e w' ⟨⟨h1, _⟩, h2⟩ => ⟨h1, h2⟩
  have HST : Hid (∀ v W, rg.RgAt W v ps → Below w.heap.size w W → Calls Tryd.prog 13 #[v] W fun e w' => e = .returned (.tuple #[.string T2, .int .i64 0]) ∧ Below W.heap.size W w') := fun v W h1 hW => by
    have := rg.implST v ps W h1 (by have := hset.2.1; omega) (tb.keep' HP.out hW)
    rw [nu.sr_at hset, ← hT2] at this
    exact this
  have hpl : ps.length ≤ 50 := hset.2.1
  clear hset htx hrl hrc hts hT2 hT2l hrl2 hrc2 hts2 hI HM HP HE HFI hr
  generalize se.drawn r = T at HDR HI1 HSP
  go_enter Tryd.func4, Tryd.ntmps4
  go_wp2_with fail
  refine (HDR.out w (Below.refl _ _)).mono ?_
  rintro e x1 ⟨rfl, k1⟩
  go_wp2_with fail
  refine (HI1.out x1 k1).mono ?_
  rintro e x2 ⟨⟨v2, rfl, own2⟩, hb2⟩
  have k2 := k1.trans (hb2.mono k1.size)
  obtain ⟨a2, c2, rfl⟩ := nu.own_slice own2
  have HR2 : Hid (rg.RgAt x2 (.slice a2 ps.length c2) ps) := nu.own_at own2
  clear own2 hb2 k1 HI1
  go_wp2_with fail
  refine (HDR.out x2 k2).mono ?_
  rintro e x3 ⟨rfl, hb3⟩
  have k3 := k2.trans (hb3.mono k2.size)
  have HR3 : Hid (rg.RgAt x3 (.slice a2 ps.length c2) ps) := rg.at_below HR2.out hb3
  clear hb3 k2 HR2 HDR
  go_wp2_with fail
  refine (HSP.out x3).mono ?_
  rintro e x4 ⟨⟨v4, rfl, own4⟩, hb4⟩
  have k4 := k3.trans (hb4.mono k3.size)
  obtain ⟨a4, c4, rfl⟩ := nu.own_slice own4
  have HR4 : Hid (rg.RgAt x4 (.slice a2 ps.length c2) ps ∧ rg.RgAt x4 (.slice a4 ps.length c4) ps) := ⟨rg.at_below HR3.out hb4, nu.own_at own4⟩
  clear own4 hb4 k3 HR3 HSP
  go_wp2_with fail
  refine (nu.same_any _ _ ps x4 HR4.out.1 HR4.out.2 HSET.out).mono ?_
  rintro e x5 ⟨rfl, hb5⟩
  have k5 := k4.trans (hb5.mono k4.size)
  have HR5 : Hid (rg.RgAt x5 (.slice a2 ps.length c2) ps) := rg.at_below HR4.out.1 hb5
  clear hb5 k4 HR4
  go_wp2_with fail
  refine (HST.out _ x5 HR5.out k5).mono ?_
  rintro e x6 ⟨rfl, hb6⟩
  have k6 := k5.trans (hb6.mono k5.size)
  have HR6 : Hid (rg.RgAt x6 (.slice a2 ps.length c2) ps) := rg.at_below HR5.out hb6
  clear hb6 k5 HR5 HST
  go_wp2_with fail
  refine (HI2.out x6 k6).mono ?_
  rintro e x7 ⟨⟨v7, rfl, own7⟩, hb7⟩
  have k7 := k6.trans (hb7.mono k6.size)
  obtain ⟨a7, c7, rfl⟩ := nu.own_slice own7
  have HR7 : Hid (rg.RgAt x7 (.slice a2 ps.length c2) ps ∧ rg.RgAt x7 (.slice a7 ps.length c7) ps) := ⟨rg.at_below HR6.out hb7, nu.own_at own7⟩
  clear own7 hb7 k6 HR6 HI2
  go_wp2_with fail
  refine (nu.same_any _ _ ps x7 HR7.out.2 HR7.out.1 HSET.out).mono ?_
  rintro e x8 ⟨rfl, hb8⟩
  have k8 := k7.trans (hb8.mono k7.size)
  have HR8 : Hid (rg.RgAt x8 (.slice a2 ps.length c2) ps) := rg.at_below HR7.out.1 hb8
  clear hb8 k7 HR7
  have HBY : Hid (ag.Bytes w a1 len1) := ag.row_bytes HW1.out (by omega)
  go_wp2_with fail
  refine (ag.at_any x8 a1 len1 cap1 0 9 (ag.bytes_below HBY.out k8) (by omega) (by omega) (by omega) (by omega)).mono ?_
  rintro e x9 ⟨⟨z, rfl, hz0, hz1⟩, hb9⟩
  have k9 := k8.trans (hb9.mono k8.size)
  have HR9 : Hid (rg.RgAt x9 (.slice a2 ps.length c2) ps) := rg.at_below HR8.out hb9
  clear hb9 k8 HR8
  go_wp2_with fail
  refine (ag.at_any x9 a1 len1 cap1 1 9 (ag.bytes_below HBY.out k9) (by omega) (by omega) (by omega) (by omega)).mono ?_
  rintro e y0 ⟨⟨top, rfl, ht0, ht1⟩, hb0⟩
  have q0 := k9.trans (hb0.mono k9.size)
  have HQ0 : Hid (rg.RgAt y0 (.slice a2 ps.length c2) ps) := rg.at_below HR9.out hb0
  clear hb0 k9 HR9 HBY HW0 HW1
  obtain ⟨n, hn⟩ : ∃ n : Int, n = 1 + z := ⟨_, rfl⟩
  have HSH : Hid (∀ W, rg.RgAt W (.slice a2 ps.length c2) ps → Calls Tryd.prog 14 #[.slice a2 ps.length c2, .int .i64 n, .int .i64 top] W fun e w' => e = .returned (.tuple #[.bool (rg.hasB ps n top), .int .i64 0]) ∧ Below W.heap.size W w') := fun W h1 => by
    have := rg.implSH _ ps n top W h1 (by omega)
    rw [nu.sh_at HSET.out ⟨by omega, by omega⟩ ⟨by omega, by omega⟩] at this
    exact this
  rw [← hn]
  clear hn hz0 hz1
  go_wp2_with fail
  refine (HSH.out y0 HQ0.out).mono ?_
  rintro e y1 ⟨rfl, hb1⟩
  have q1 := q0.trans (hb1.mono q0.size)
  have hat := rg.at_below HQ0.out hb1
  clear hb1 q0 HQ0 HSH
  obtain ⟨ax, cx, hv, hcl⟩ := hat
  cases hv
  have HCL : Hid (ps = [] ∨ ∃ b off, a2 = some ⟨b, off, none⟩ ∧ ∀ j, j < ps.length → y1.cell? ⟨b, off + j * 2, none⟩ = some (.int .i64 (ps.getD j rg.no).1) ∧ y1.cell? ⟨b, off + j * 2 + 1, none⟩ = some (.int .i64 (ps.getD j rg.no).2)) := hcl
  clear hcl
  obtain ⟨mm, hmm⟩ : ∃ mm, mm = ps.length := ⟨_, rfl⟩
  have HMM : Hid (mm = ps.length) := hmm
  rw [← hmm] at hpl ⊢
  clear hmm
  generalize hHB : rg.hasB ps n top = HB
  have HHB : Hid (rg.hasB ps n top = HB) := hHB
  clear hHB
  go_wp2
  go_loopw [17, 18] (fun d i wr => ∃ k : Nat, k ≤ mm ∧ i = .int .i64 k ∧ nu.Due ps n top k d ∧ wr = y1) (fun _ i _ => mm - (intOf i).toNat)
  case atStart => exact ⟨0, Nat.zero_le _, rfl, nu.due_start ps n top, rfl⟩
  case round =>
    obtain ⟨k, hk, rfl, hdue, hwr⟩ := hrel
    have hwr := hwr.symm
    subst hwr
    obtain ⟨D, rfl, hD⟩ := hdue
    have HD : Hid (D = true ↔ ∃ j, j < k ∧ rg.Hit (ps.getD j rg.no) n top) := hD
    clear hD
    by_cases hlt : k < mm
    · have hka : k < ps.length := by rw [← HMM.out]; exact hlt
      rcases HCL.out with e | ⟨b, off, rfl, hcells⟩
      · rw [e] at hka; simp at hka
      obtain ⟨d0, d1⟩ := hcells k hka
      have HX0 : Hid (∀ x0 x1, (ps.getD k rg.no).1 = x0 → (ps.getD k rg.no).2 = x1 → ps.getD k rg.no = (x0, x1)) := fun x0 x1 e0 e1 => by rw [← e0, ← e1]
      clear hcells hka
      generalize hx0 : (ps.getD k rg.no).1 = x0 at d0
      generalize hx1 : (ps.getD k rg.no).2 = x1 at d1
      have HX : Hid (ps.getD k rg.no = (x0, x1)) := HX0.out _ _ hx0 hx1
      clear hx0 hx1 HX0
      have hlt' : (k : Int) < (mm : Int) := by omega
      by_cases e0 : x0 = 0
      · by_cases e1 : x1 = 0
        · subst e0 e1
          cases D
          · go_wp2
            all_goals (go_roundw; (case rel => exact ⟨k + 1, by omega, by go_num, nu.due_step HD.out HX.out (by simp [rg.Hit, rg.end1]; try omega), by trivial⟩); (case measure => simp [intOf]; omega))
          · go_wp2
            all_goals (go_roundw; (case rel => exact ⟨k + 1, by omega, by go_num, nu.due_step HD.out HX.out (by simp), by trivial⟩); (case measure => simp [intOf]; omega))
        · subst e0
          have E1 : Hid (¬ x1 = 0) := e1
          have b1 : (x1 == 0) = false := by simpa using e1
          clear e1
          cases D
          · go_wp2
            all_goals (go_roundw; (case rel => exact ⟨k + 1, by omega, by go_num, nu.due_step HD.out HX.out (by simp [rg.Hit, rg.end1, E1.out]; try omega), by trivial⟩); (case measure => simp [intOf]; omega))
          · go_wp2
            all_goals (go_roundw; (case rel => exact ⟨k + 1, by omega, by go_num, nu.due_step HD.out HX.out (by simp), by trivial⟩); (case measure => simp [intOf]; omega))
      · have E0 : Hid (¬ x0 = 0) := e0
        have b0 : (x0 == 0) = false := by simpa using e0
        clear e0
        by_cases e1 : x1 = 0
        · subst e1
          cases D
          · go_wp2
            all_goals (go_roundw; (case rel => exact ⟨k + 1, by omega, by go_num, nu.due_step HD.out HX.out (by simp [rg.Hit, rg.end1, E0.out]; try omega), by trivial⟩); (case measure => simp [intOf]; omega))
          · go_wp2
            all_goals (go_roundw; (case rel => exact ⟨k + 1, by omega, by go_num, nu.due_step HD.out HX.out (by simp), by trivial⟩); (case measure => simp [intOf]; omega))
        · have E1 : Hid (¬ x1 = 0) := e1
          have b1 : (x1 == 0) = false := by simpa using e1
          clear e1
          cases D
          · go_wp2
            all_goals (go_roundw; (case rel => exact ⟨k + 1, by omega, by go_num, nu.due_step HD.out HX.out (by simp [rg.Hit, rg.end1, E0.out, E1.out]; try omega), by trivial⟩); (case measure => simp [intOf]; omega))
          · go_wp2
            all_goals (go_roundw; (case rel => exact ⟨k + 1, by omega, by go_num, nu.due_step HD.out HX.out (by simp), by trivial⟩); (case measure => simp [intOf]; omega))
    · have hkm : k = ps.length := by have := HMM.out; omega
      have he : (HB == D) = true := by
        rw [← HHB.out]
        have h2 := HD.out
        rw [hkm] at h2
        rw [← nu.due_end h2]
        simp
      clear hkm HD HHB
      go_wp2
      go_ret
      exact ⟨rfl, q1⟩

set_option maxRecDepth 100000 in
theorem gC : Tryd.prog.globalNamed ((Rows.fnSetsRow.laid.map (·.1)).getD 4 "") = some 4 := by kernel_rfl
theorem gW : Tryd.prog.globalNamed ((Rows.fnSetsRow.laid.map (·.1)).getD 3 "") = some 5 := by kernel_rfl
theorem sents_of (W : World) (hL : laidMet Tryd.prog Rows.fnSetsRow.laid W) : nu.Sents W := by
  obtain ⟨ps, hLV, _⟩ := hL
  have m0 : (((Rows.fnSetsRow.laid.map (·.1)).getD 4 ""), Rows.laid_strconv_ErrSyntax) ∈ Rows.fnSetsRow.laid := List.mem_of_getElem? (i := 4) (by kernel_rfl)
  have m1 : (((Rows.fnSetsRow.laid.map (·.1)).getD 3 ""), Rows.laid_strconv_ErrRange) ∈ Rows.fnSetsRow.laid := List.mem_of_getElem? (i := 3) (by kernel_rfl)
  obtain ⟨t0, p0, h0⟩ := nu.iface_laid gC (by kernel_rfl) Tryd.underlying62 m0 hLV
  obtain ⟨t1, p1, h1⟩ := nu.iface_laid gW (by kernel_rfl) Tryd.underlying62 m1 hLV
  exact ⟨_, _, h0, h1, .inr ⟨_, _, rfl⟩, .inr ⟨_, _, rfl⟩⟩

set_option maxRecDepth 100000 in
theorem contract (H : Type) (enc : TypeId × Value → H) (W : World) (base : Nat) (args : Array Value) (ds gs : List (DataW H)) (before : List MemPlace)
    (hval : ∀ (j : Nat) t v, Tryd.f4.params[j]? = some t → args[j]? = some v → Value.okWide Tryd.prog W .any base t v)
    (hW : DataW.Whole enc Tryd.prog Tryd.f4.params.toList Rows.fnSetsSpec.vars false W args.toList ds gs before) (hL : laidMetH Tryd.prog Rows.fnSetsRow.laid W) (hsh : W.ShapedOpen Tryd.prog) :
    Calls Tryd.prog 4 args W fun e W' => ∃ v, e = .returned v ∧ Rows.fnSetsSpec.post enc Tryd.prog Tryd.f4 false true false false W args v W' := by
  have hW' := hW
  obtain ⟨p, q, hA0, hV, rfl, hfz, hnd⟩ := hW
  have hA : DataW.TrodAll enc Tryd.prog W 0 (fun _ => true) true Tryd.f4.params.toList args.toList ds p := hA0
  rw [Tryd.params4] at hA hval
  obtain ⟨v0, vs0, d0, ds0, p0, q0, hargs0, rfl, rfl, h0, r0⟩ := trodAll_cons hA
  obtain ⟨v1, vs1, d1, ds1, p1, q1, hargs1, rfl, rfl, h1, r1⟩ := trodAll_cons r0
  obtain ⟨hnil, rfl, rfl⟩ := trodAll_nil r1
  obtain rfl : args = #[v0, v1] := by cases args; simp_all
  obtain ⟨a0, len0, cap0, rfl⟩ := okWide_slice Tryd.underlying22 (hval 0 22 v0 rfl rfl)
  have k0 := h0
  have lt0 : ∀ x ∈ p0, x.block < W.heap.size := by obtain ⟨m, hm⟩ := k0; exact DataW.trod_lt m _ _ _ hm
  obtain ⟨z0, w0⟩ : ∃ zs, ag.IsRow .u8 W a0 len0 cap0 zs := by
    obtain ⟨fuel, hf⟩ := h0
    rcases open_ints Tryd.underlying22 Tryd.underlying5 (by kernel_rfl) hf with ⟨hcs, _⟩ | ⟨x, l, c, zs, hcs, _, hl, hm, hz, _, hcell, hwz⟩
    · simp [Value.cells] at hcs
      obtain ⟨rfl, rfl, rfl⟩ := hcs
      exact ⟨[], .inl ⟨rfl, rfl, rfl, rfl⟩⟩
    · simp [Value.cells] at hcs
      obtain ⟨rfl, rfl, rfl⟩ := hcs
      exact ⟨zs, .inr ⟨_, rfl, hl, hm, by simpa using hz, hcell, hwz⟩⟩
  obtain ⟨a1, len1, cap1, rfl⟩ := okWide_slice Tryd.underlying22 (hval 1 22 v1 rfl rfl)
  have k1 := h1
  have lt1 : ∀ x ∈ p1, x.block < W.heap.size := by obtain ⟨m, hm⟩ := k1; exact DataW.trod_lt m _ _ _ hm
  obtain ⟨z1, w1⟩ : ∃ zs, ag.IsRow .u8 W a1 len1 cap1 zs := by
    obtain ⟨fuel, hf⟩ := h1
    rcases open_ints Tryd.underlying22 Tryd.underlying5 (by kernel_rfl) hf with ⟨hcs, _⟩ | ⟨x, l, c, zs, hcs, _, hl, hm, hz, _, hcell, hwz⟩
    · simp [Value.cells] at hcs
      obtain ⟨rfl, rfl, rfl⟩ := hcs
      exact ⟨[], .inl ⟨rfl, rfl, rfl, rfl⟩⟩
    · simp [Value.cells] at hcs
      obtain ⟨rfl, rfl, rfl⟩ := hcs
      exact ⟨zs, .inr ⟨_, rfl, hl, hm, by simpa using hz, hcell, hwz⟩⟩
  clear hA0
  simp only [List.append_nil] at hW'
  have hLL : laidMet Tryd.prog Rows.fnSetsRow.laid W := hL
  have hE := sents_of W hLL
  obtain ⟨ps, hLV, _⟩ := hLL
  obtain ⟨rfl, rfl⟩ := trodVars_none hV
  obtain ⟨m, hm⟩ := Tryd.laysM219.s1_3 W hsh
  refine (walk a0 len0 cap0 z0 a1 len1 cap1 z1 W w0 w1 m hm (tb.tp_of (List.mem_of_getElem? (i := 2) (by kernel_rfl)) hLV) hE).mono fun e W' ⟨he, bel⟩ => ?_
  subst he
  exact ⟨_, rfl, _, _, _, [], _, [], hW', trodAll_cons_mk (shut_bool Tryd.underlying4 _) trodAll_mk0, (trodAll_cons_mk (Below.trod laidOut (by kernel_rfl) (of_decide_eq_true (by kernel_rfl)) k0 bel lt0) (trodAll_cons_mk (Below.trod laidOut (by kernel_rfl) (of_decide_eq_true (by kernel_rfl)) k1 bel lt1) trodAll_mk0)), rfl, bel.frame _, fun h => by cases h⟩
set_option maxRecDepth 100000 in
theorem laid_met (os : Os) : laidMet Tryd.prog Rows.fnSetsRow.laid ((World.doorLaid Tryd.prog 77 os).forCall (fun _ _ => 0) ⟨#[], #[Value.slice none 0 0, Value.slice none 0 0], []⟩).memory :=
  laidMet_of_run' 8 (by kernel_rfl) (by kernel_rfl)
theorem reads (os : Os) {H : Type} (enc : TypeId × Value → H) : (DataW.whole enc Tryd.prog ((World.doorLaid Tryd.prog 77 os).forCall (fun _ _ => 0) ⟨#[], #[Value.slice none 0 0, Value.slice none 0 0], []⟩).memory Tryd.f4.params.toList Rows.fnSetsSpec.vars false #[Value.slice none 0 0, Value.slice none 0 0].toList 8).isSome = true := by kernel_rfl

set_option maxRecDepth 100000 in
theorem lifted (os : Os) (started : os.Started) (H : Type) (enc : TypeId × Value → H) (F : Stop.Interp) :
    ReturnsInHanded {} Tryd.checked os 4 .any ((OpenSpec.ofChange Rows.fnSetsSpec).preRow enc Tryd.prog Tryd.f4 Rows.fnSetsRow.domain false Rows.fnSetsRow.laid) (((OpenSpec.ofChange Rows.fnSetsSpec).at F).post enc Tryd.prog Tryd.f4 false true false false) := by
  obtain ⟨x, hx⟩ := Option.isSome_iff_exists.1 (reads os enc)
  refine returnsInHanded_of_row (C := Tryd.checked) (s := OpenSpec.ofChange Rows.fnSetsSpec) own started (by kernel_rfl) Tryd.func4
    (witness_row_atRef (enc := enc) (C := Tryd.checked) false (World.doorLaid Tryd.prog 77 os) #[Value.slice none 0 0, Value.slice none 0 0] rfl (by kernel_rfl) (by kernel_rfl) (by kernel_rfl)
      (OpenSpec.preRow_of_cond 8 hx (by kernel_rfl) (fun k hk => by cases hk) (by kernel_rfl) (laid_met os))) ?_
  intro W base args ds gs before hval hW _ _ _ hL hsh _
  exact contract H enc W base args ds gs before hval hW hL hsh

theorem said : Rows.FnSetsSaid :=
  OpenClaim.holds_of_cond 4 Tryd.f4 rfl rfl rfl rfl rfl rfl rfl ⟨rfl, rfl, rfl, rfl, rfl⟩ rfl rfl rfl rfl rfl (by kernel_rfl) Tryd.func4 (by kernel_rfl)
    (of_decide_eq_true (by kernel_rfl)) (by unfold Func.isWrapper; first | (rw [if_pos (by decide +kernel)]; kernel_rfl) | (rw [if_neg (by decide +kernel)]; exact ⟨rfl, rfl⟩))
    (fun os started H enc _ F => by rw [OpenClaim.pre_eq_preRow]; exact lifted os started H enc F)

theorem plain (f : FuncId) (fn : Func) (hf : Tryd.pinned.checked.prog.funcNamed Rows.fnSetsRow.func = some f) (hfn : Tryd.pinned.checked.prog.funcs[f]? = some fn) :
    true = Tryd.pinned.checked.prog.looks [] ∧ ∀ (j : Nat) t, fn.params[j]? = some t → Tryd.pinned.checked.prog.wantsStandIn t = false := by
  obtain rfl : f = 4 := Option.some.inj ((show Tryd.prog.funcNamed Rows.fnSetsRow.func = some 4 by kernel_rfl).symm.trans hf) |>.symm
  obtain rfl : fn = Tryd.f4 := (Option.some.inj (Tryd.func4.symm.trans hfn)).symm
  refine ⟨by kernel_rfl, fun j t ht => ?_⟩
  rw [Tryd.params4] at ht
  obtain rfl : t = 22 := by simpa using Array.mem_of_getElem? ht
  exact (show Tryd.prog.wantsStandIn 22 = false by kernel_rfl)

theorem card : Rows.FnSetsCardSaid :=
  Claim7.holds_tied_plain_at .later [] _ _ _ _ said (fun _ h => by cases h) (by kernel_rfl) (fun _ h => by cases h) fnSets_row_tie rfl ⟨rfl, rfl⟩ (by kernel_rfl) rfl plain (by kernel_rfl)
end Go.Proofs.YtofpnabfecimhaaDoor.fnSets
namespace Go.Proofs.YtofpnabfecimhaaDoor
theorem fnSets_card : Rows.FnSetsCardSaid := fnSets.card
#print axioms fnSets_card
end Go.Proofs.YtofpnabfecimhaaDoor
