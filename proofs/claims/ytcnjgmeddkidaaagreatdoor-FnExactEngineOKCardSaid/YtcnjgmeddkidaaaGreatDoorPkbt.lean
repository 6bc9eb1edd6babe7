/-
  The program's replayed.
-/
import Derived.Test.YtcnjgmeddkidaaaGreatDoorPkbs

namespace Go.Proofs.YtcnjgmeddkidaaaGreatDoor.rp
open Go.RowKit
open st gr bx mx bl wi ml sa lg
set_option linter.unusedVariables false

set_option maxHeartbeats 4000000 in
set_option maxRecDepth 100000 in
theorem replayed_any (v : Value) (ts : List ByteArray) (w : World) (h : ky.TextsAt w v ts) (hl : ts.length ≤ 1048576) (hs : ∀ x ∈ ts, x.size ≤ 20000) :
    Calls Tryz.prog 21 #[v] w fun e w' => (∃ L ys us b, e = .returned (.tuple #[L, .bool b]) ∧ Rp ts [] (ys, b) ∧ OwnL w' w.heap.size L ys us ∧ bx.Smalls ys ∧ sok ys = true) ∧ Below w.heap.size w w' := by
  obtain ⟨n, hn⟩ : ∃ n, n = ts.length := ⟨_, rfl⟩
  have HN : Hid (n = ts.length) := hn
  obtain ⟨a, cap, rfl, hc⟩ := h
  have HC : Hid (ts = [] ∨ ∃ b off, a = some ⟨b, off, none⟩ ∧ ∀ j, j < ts.length → w.cell? ⟨b, off + j, none⟩ = some (.string (ts.getD j ky.nt))) := hc
  have HS : Hid (∀ x ∈ ts, x.size ≤ 20000) := hs
  rw [← hn] at hl ⊢
  clear hn hc hs
  go_enter Tryz.func21, Tryz.ntmps21
  go_wp2_with fail
  go_loopw [4, 11] (fun L i wr => ∃ (k : Nat) (xs : List Bx) (us : Nat → Value × Value), k ≤ n ∧ i = .int .i64 k ∧ OwnL wr w.heap.size L xs us ∧ bx.Smalls xs ∧ sok xs = true ∧ Below w.heap.size w wr ∧ Hid (Go ts k xs)) (fun _ i _ => n - (intOf i).toNat)
  case atStart => exact ⟨0, [], fun _ => (.slice none 0 0, .slice none 0 0), Nat.zero_le _, rfl, ownL_nil _ _ _, smalls_nil, sok_nil, Below.refl _ _, go_start ts⟩
  case round =>
    obtain ⟨k, xs, us, hk, rfl, hO, hsm, hso, hbw, HG⟩ := hrel
    obtain ⟨La, Ln, Lc, rfl⟩ := slice_fine (own_fine hO.1)
    have hBs := hbw.size
    have HO : Hid (OwnL wr w.heap.size (.slice La Ln Lc) xs us) := hO
    have HX : Hid (bx.Smalls xs ∧ sok xs = true) := ⟨hsm, hso⟩
    clear hO hsm hso
    by_cases hlt : k < n
    · have hlt' : (k : Int) < (n : Int) := by omega
      have hk0 : (0 : Int) ≤ (k : Int) := by omega
      have HKL : Hid (k < ts.length) := by rw [← HN.out]; exact hlt
      obtain ⟨t, ht⟩ : ∃ t, ts.getD k ky.nt = t := ⟨_, rfl⟩
      have hts : t.size ≤ 20000 := by
        rw [← ht, List.getD_eq_getElem?_getD, List.getElem?_eq_getElem HKL.out]
        exact HS.out _ (List.getElem_mem _)
      rcases HC.out with e | ⟨b, off, rfl, hcells⟩
      · have := HKL.out; rw [e] at this; simp at this
      have c0 : wr.cell? ⟨b, off + k, none⟩ = some (.string t) := by
        have := hcells k HKL.out
        rw [ht] at this
        exact (hbw.cell (p := ⟨b, off + k, none⟩) (World.block_lt_of_cell? w _ this)).trans this
      have HT : Hid (ts.getD k ky.nt = t) := ht
      clear hcells ht
      have hcv := Lib.run_convert_string_bytes (P := Tryz.prog) wr 9 81 5 t Tryz.underlying9 Tryz.underlying81 Tryz.underlying5
      have hlc := ow.lies_conv wr 5 t
      have hbc := ow.below_conv wr 5 t
      generalize grownCap wr t.size 0 5 = gc at hcv hlc
      generalize Lib.bytesWorld wr 5 t = W1 at hcv hlc hbc
      have HRM : Hid (Calls Tryz.prog 42 #[.slice (some ⟨wr.heap.size, 0, none⟩) t.size gc] W1 fun e w' => rm.RmRet t.data.toList W1.heap.size e w' ∧ Below W1.heap.size W1 w') := (show Calls _ _ _ _ _ from rm.impl_rm _ t.data.toList W1 (ow.reads_lies hlc) (by rw [← Lib.size_eq]; omega))
      clear hlc
      go_wp2_with fail
      refine HRM.out.mono ?_
      rintro e w2 ⟨⟨u, rfl, hru⟩, hb2⟩
      have hb12 := hbc.trans (hb2.mono hbc.size)
      have HO2 : Hid (OwnL w2 w.heap.size (.slice La Ln Lc) xs us) := ownL_below HO.out hb12
      have hbw2 := hbw.trans (hb12.mono hBs)
      have hBs2 := hbw2.size
      have HBW2 : Hid (Below w.heap.size w w2) := hbw2
      clear HRM c0 hcv hbc hb2 hb12 HO hbw hbw2
      cases hr : rm.rok t with
      | false =>
        obtain ⟨e1, e2⟩ := rm_no hts hr
        rw [e1] at hru
        have HR : Hid (Rp ts [] ([], false)) := go_bad HG.out HKL.out HT.out hr
        obtain ⟨ua, uc, rfl, _⟩ := rm.rows_at hru
        rw [e1, e2]
        unfold mu.MV rm.noM
        clear hr e1 e2 hru HG
        have HE : Hid (Below w.heap.size w (w2.alloc (.cells #[.int .i64 0, .int .i64 0, .int .i64 0, .int .i64 0, .string ⟨#[]⟩, .slice ua 0 uc] 68))) := HBW2.out.alloc hBs2 _
        go_wp2
        go_ret2
        exact ⟨⟨_, [], fun _ => (.slice none 0 0, .slice none 0 0), false, rfl, HR.out, ownL_nil _ _ _, smalls_nil, sok_nil⟩, HE.out⟩
      | true =>
        obtain ⟨e1, e2⟩ := rm_yes hts hr
        rw [e1] at hru
        have HR : Hid (rm.rok t = true) := hr
        have HIT : Hid (rm.Rows2 w2 W1.heap.size u (mt t).ps) := hru
        have hsm := mt_small t
        have hmo := mt_ok hr
        rw [e1, e2]
        obtain ⟨ua, uc, rfl, _⟩ := rm.rows_at hru
        generalize hM : mt t = M at HIT hsm hmo ⊢
        have HM : Hid (mt t = M) := hM
        clear hr e1 e2 hru hM
        have hb3 := mu.new_below w2 68 #[.int .i64 M.k, .int .i64 M.u, .int .i64 M.m, .int .i64 M.f, .string M.b, .slice ua M.ps.length uc]
        have L3 := mu.lies_new w2 68 M (.slice ua M.ps.length uc)
        have HMU : Hid (Calls Tryz.prog 43 #[.slice La Ln Lc, mu.MV M (.slice ua M.ps.length uc)] (w2.alloc (.cells #[.int .i64 M.k, .int .i64 M.u, .int .i64 M.m, .int .i64 M.f, .string M.b, .slice ua M.ps.length uc] 68)) fun e w' => (∃ L' ys us' c, e = .returned (.tuple #[L', .int .i64 c]) ∧ Am xs M ys c ∧ OwnL w' w.heap.size L' ys us') ∧ Below w.heap.size (w2.alloc (.cells #[.int .i64 M.k, .int .i64 M.u, .int .i64 M.m, .int .i64 M.f, .string M.b, .slice ua M.ps.length uc] 68)) w') := (show Calls _ _ _ _ _ from mutated_any _ w.heap.size xs us M _ _ (ownL_below HO2.out hb3) (Nat.le_trans hBs2 hb3.size) HX.out.1 (by_keep (items_by HIT.out) hb3) hsm HX.out.2 hmo)
        have HBW3 : Hid (Below w.heap.size w (w2.alloc (.cells #[.int .i64 M.k, .int .i64 M.u, .int .i64 M.m, .int .i64 M.f, .string M.b, .slice ua M.ps.length uc] 68))) := HBW2.out.alloc hBs2 _
        have q0 := L3.c0
        have q1 := L3.c1
        have q2 := L3.c2
        have q3 := L3.c3
        have q4 := L3.c4
        have q5 := L3.c5
        have HMS : Hid (mu.Small M ∧ mu.mok M = true) := ⟨hsm, hmo⟩
        clear hb3 L3 HO2 HIT hsm hmo
        unfold mu.MV at HMU ⊢
        go_wp2_with fail
        generalize hP : w2.heap.size = P at q0 q1 q2 q3 q4 q5 hBs2 ⊢
        clear hP
        generalize w2.alloc _ = w3 at HMU HBW3 q0 q1 q2 q3 q4 q5 ⊢
        refine HMU.out.mono ?_
        rintro e w4 ⟨⟨L', ys, us', c, rfl, hA, hO'⟩, hb4⟩
        obtain ⟨La', Ln', Lc', rfl⟩ := slice_fine (own_fine hO'.1)
        have HO4 : Hid (OwnL w4 w.heap.size (.slice La' Ln' Lc') ys us') := hO'
        have HB4 : Hid (Below w.heap.size w w4) := HBW3.out.trans hb4
        have HA : Hid (Am xs (mt t) ys c) := by rw [HM.out]; exact hA
        have HYS : Hid (bx.Smalls ys) := am_small HX.out.1 HMS.out.1 HX.out.2 HMS.out.2 hA
        clear HMU HBW3 q0 q1 q2 q3 q4 q5 hO' hb4 hA
        by_cases hc0 : c = 0
        · subst hc0
          have HG2 : Hid (Go ts (k + 1) ys) := go_next HG.out HKL.out HT.out HR.out HA.out
          have HSY : Hid (sok ys = true) := am_ok HX.out.2 (by rw [HM.out]; exact HMS.out.2 : mu.mok (mt t) = true) HA.out
          clear HG HA
          go_wp2
          go_roundw
          case rel => exact ⟨k + 1, ys, us', by omega, by go_num, HO4.out, HYS.out, HSY.out, HB4.out, HG2⟩
          case measure => simp [intOf]; omega
        · have hc1 : (c != 0) = true := by rw [bne_iff_ne]; exact hc0
          have HRR : Hid (Rp ts [] ([], false)) := go_code HG.out HKL.out HT.out HR.out HA.out hc0
          clear HG HA hc0
          go_wp2
          go_ret2
          exact ⟨⟨_, [], fun _ => (.slice none 0 0, .slice none 0 0), false, rfl, HRR.out, ownL_nil _ _ _, smalls_nil, sok_nil⟩, HB4.out⟩
    · have hlt' : (n : Int) ≤ (k : Int) := by omega
      have HR : Hid (Rp ts [] (xs, true)) := go_end HG.out (by rw [← HN.out]; omega)
      have HB : Hid (Below w.heap.size w wr) := hbw
      clear HG hbw
      go_wp2
      go_ret2
      exact ⟨⟨_, xs, us, true, rfl, HR.out, HO.out, HX.out.1, HX.out.2⟩, HB.out⟩
end Go.Proofs.YtcnjgmeddkidaaaGreatDoor.rp
