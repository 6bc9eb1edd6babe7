/-
  The records of a log's data: the program's.
  The records of a log's data: the specification's.
  Both LogRecords functions.
-/
import Derived.Test.YtcnjgmeddkidaaaGreatDoorPkbj
import Derived.Test.YtcnjgmeddkidaaaGreatDoorPkaa
import Derived.Laws.AppendOwn
import Derived.Deep.RegionHeld

namespace Go.Proofs.YtcnjgmeddkidaaaGreatDoor.lg
open Go.RowKit
open er
open ky (OwnT TextsAt own_texts texts_below)
set_option linter.unusedVariables false

theorem infoT : (Tryz.prog.info? 9).map (fun i => (i.zero, i.size, i.bytes)) = some (some (.string ⟨#[]⟩), 1, 16) := by kernel_rfl
/-- Why the records of a log end, as an error. -/
def fault (c b : Addr) (p code : Nat) : Value := if code = 0 then .nilIface else FV p (errv c b code)

set_option maxHeartbeats 2000000 in
set_option maxRecDepth 100000 in
theorem recordsOf_any (t : ByteArray) (w : World) (c b : Addr) (ca cb : Array Value) (ta tb : TypeId) (ht : t.size ≤ 1048576) (hE : Errs w c b ca cb ta tb) :
    Calls Tryz.prog 40 #[.string t] w fun e w' => (∃ v, e = .returned (.tuple #[v, .int .i64 (recs t).2.1, fault c b (recs t).2.1 (recs t).2.2]) ∧ OwnT w' w.heap.size v (recs t).1) ∧ Below w.heap.size w w' := by
  obtain ⟨i0, hi, hz0, hz1, hz2⟩ := info_parts infoT
  have HE : Hid (Errs w c b ca cb ta tb) := hE
  clear hE
  obtain ⟨RR, hRR⟩ : ∃ R, recs t = R := ⟨_, rfl⟩
  have HRR : Hid (scan t (t.size + 1) 0 [] = RR) := hRR
  rw [hRR]
  clear hRR
  go_enter Tryz.func40, Tryz.ntmps40
  go_wp2
  go_loopw [5, 6] (fun v i wr => ∃ (p f : Nat) (acc : List ByteArray), p ≤ t.size ∧ i = .int .i64 p ∧ scan t f p acc = RR ∧ t.size - p < f ∧ acc.length ≤ p ∧ OwnT wr w.heap.size v acc ∧ Below w.heap.size w wr) (fun _ i _ => t.size - (intOf i).toNat)
  case atStart => exact ⟨0, t.size + 1, [], Nat.zero_le _, rfl, HRR.out, by omega, Nat.le_refl _, World.ownsRow_nil _ _ _ _, Below.refl _ _⟩
  case round =>
    obtain ⟨p, f, acc, hp, rfl, hsc, hf, hal, hown, hbw⟩ := hrel
    have HSC : Hid (scan t f p acc = RR) := hsc
    clear hsc HRR
    by_cases hlt : p < t.size
    · have hlt' : (p : Int) < (t.size : Int) := by omega
      have hNX := next_eq (Nat.le_of_lt hlt)
      have HFR : Hid (∀ W, Below w.heap.size w W → Calls Tryz.prog 59 #[.string (t.extract p t.size)] W fun e w' => e = .returned (.tuple #[.string (next t p).2, errv c b (next t p).1]) ∧ Below W.heap.size W w') := by
        intro W hW
        have h1 := firstRecord_any (t.extract p t.size) W c b ca cb ta tb (by rw [size_ex (by omega) (Nat.le_refl _)]; omega) (HE.out.keep hW)
        rw [hNX] at h1
        exact h1
      clear hNX
      by_cases hc0 : (next t p).1 = 0
      · obtain ⟨g, hg, hsg⟩ := scan_step (acc := acc) hlt hf hc0
        have hok := next_ok hc0
        have HS2 : Hid (scan t g (p + 7 + (next t p).2.size) (acc ++ [(next t p).2]) = RR) := hsg.symm.trans HSC.out
        rw [hc0] at HFR
        clear hsg HSC
        obtain ⟨x, hx⟩ : ∃ x, (next t p).2 = x := ⟨_, rfl⟩
        rw [hx] at HFR HS2 hok hg
        clear hx hc0
        unfold errv at HFR
        simp only [if_pos] at HFR
        go_wp2_with fail
        refine (HFR.out wr hbw).mono ?_
        rintro e w2 ⟨rfl, k2⟩
        have own2 := ow.own_below hown k2
        have b2 := hbw.trans (k2.mono hbw.size)
        clear hown hbw k2 HFR
        go_wp2_with fail
        refine (clone_any x w2 (by omega)).mono ?_
        rintro e w3 ⟨rfl, k3⟩
        have own3 : OwnT w3 w.heap.size _ acc := ow.own_below own2 k3
        have b3 := b2.trans (k3.mono b2.size)
        have hBs := b3.size
        clear own2 b2 k3
        go_wp2_with (at_builtin; refine wpList_append_own _ rfl _ _ 46 rfl w.heap.size 9 i0 (.string ⟨#[]⟩) 1 16 Tryz.underlying46 hi hz0 hz1 hz2 rfl (by decide) _ _ _ rfl (own3.alloc _) ⟨w3.heap.size, 0, none⟩ 1 1 [.string x] rfl rfl (ow.cells_new _ [.string x] _) (by intro u hu; simp at hu; subst hu; rfl) (by unfold maxLen; omega) (by omega) (by simp; omega) ?_; intro v' w4 hown4 hgrow4 hnil4)
        have hb4 := Below.grown (b3.alloc hBs _) hgrow4 (by simp; omega) (ow.own_lt own3)
        have HA : Hid (Below w.heap.size w w4 ∧ OwnT w4 w.heap.size v' (acc ++ [x])) := by
          refine ⟨hb4, ?_⟩
          unfold OwnT
          rw [List.length_append, List.map_append]
          exact hown4
        clear hb4 hown4 hgrow4 hnil4 own3 b3
        go_wp2
        go_roundw
        case rel => exact ⟨p + 7 + x.size, g, acc ++ [x], by omega, by go_num, HS2.out, hg, by rw [List.length_append]; simp only [List.length_singleton]; omega, HA.out.2, HA.out.1⟩
        case measure => simp [intOf]; omega
      · have hst := scan_stop (acc := acc) hlt hf hc0
        have hR : RR = (acc, p, (next t p).1) := HSC.out.symm.trans hst
        have hnn := next_none hc0
        rw [hnn] at HFR
        have hcd := next_code t p
        obtain ⟨q, hq⟩ : ∃ q, (next t p).1 = q := ⟨_, rfl⟩
        rw [hq] at HFR hcd hc0 hR
        clear HSC hst hq hnn
        subst hR
        obtain ⟨E, hE2⟩ : ∃ E : Addr, errv c b q = EV E := by
          unfold errv
          rw [if_neg hc0]
          split
          · exact ⟨_, rfl⟩
          · exact ⟨_, rfl⟩
        have HF : Hid (fault c b p q = .iface 106 (.agg #[.int .i64 p, .iface 166 (.pointer (some E))])) := by
          show fault c b p q = _
          unfold fault
          rw [if_neg hc0, hE2]
          rfl
        rw [hE2] at HFR
        unfold EV nt at HFR
        clear hE2 hcd
        go_wp2_with fail
        refine (HFR.out wr hbw).mono ?_
        rintro e w2 ⟨rfl, k2⟩
        have own2 : OwnT w2 w.heap.size _ acc := ow.own_below hown k2
        have b2 := hbw.trans (k2.mono hbw.size)
        clear hown hbw k2 HFR
        go_wp2
        go_ret3
        rw [HF.out]
        exact ⟨⟨_, rfl, own2⟩, b2⟩
    · have hR : RR = (acc, p, 0) := HSC.out.symm.trans (scan_end (by omega))
      subst hR
      have HF : Hid (fault c b p 0 = .nilIface) := rfl
      go_wp2
      go_ret3
      rw [HF.out]
      exact ⟨⟨_, rfl, hown⟩, hbw⟩
end Go.Proofs.YtcnjgmeddkidaaaGreatDoor.lg

namespace Go.Proofs.YtcnjgmeddkidaaaGreatDoor.lg
open Go.RowKit
open er
open ky (OwnT TextsAt own_texts texts_below)
set_option linter.unusedVariables false

theorem wrap_id (z : Int) (h0 : 0 ≤ z) (h1 : z ≤ 4294967296) : IntKind.i64.wrap z = z := by
  simp only [IntKind.wrap, IntKind.bits, IntKind.signed]
  simp
  omega

set_option maxHeartbeats 4000000 in
set_option maxRecDepth 100000 in
theorem l08Records_any (t : ByteArray) (w : World) (ht : t.size ≤ 1048576) :
    Calls Tryz.prog 30 #[.string t] w fun e w' => (∃ v, e = .returned (.tuple #[v, .int .i64 (recs t).2.1, .int .i64 (recs t).2.2]) ∧ OwnT w' w.heap.size v (recs t).1) ∧ Below w.heap.size w w' := by
  obtain ⟨i0, hi, hz0, hz1, hz2⟩ := info_parts infoT
  have hoe := ow.own_empty w 9
  have hbe := new_below w 9 #[]
  obtain ⟨RR, hRR⟩ : ∃ R, recs t = R := ⟨_, rfl⟩
  have HRR : Hid (scan t (t.size + 1) 0 [] = RR) := hRR
  rw [hRR]
  clear hRR
  go_enter Tryz.func30, Tryz.ntmps30
  go_wp2
  go_loopw [5, 6] (fun v i wr => ∃ (p f : Nat) (acc : List ByteArray), p ≤ t.size ∧ i = .int .i64 p ∧ scan t f p acc = RR ∧ t.size - p < f ∧ acc.length ≤ p ∧ OwnT wr w.heap.size v acc ∧ Below w.heap.size w wr) (fun _ i _ => t.size - (intOf i).toNat)
  case atStart => exact ⟨0, t.size + 1, [], Nat.zero_le _, rfl, HRR.out, by omega, Nat.le_refl _, hoe, hbe⟩
  case round =>
    clear hoe hbe
    obtain ⟨p, f, acc, hp, rfl, hsc, hf, hal, hown, hbw⟩ := hrel
    have HSC : Hid (scan t f p acc = RR) := hsc
    clear hsc HRR
    by_cases hlt : p < t.size
    case neg =>
      have hR : RR = (acc, p, 0) := HSC.out.symm.trans (scan_end (by omega))
      subst hR
      go_wp2
      go_ret3
      exact ⟨⟨_, rfl, hown⟩, hbw⟩
    have hlt' : (p : Int) < (t.size : Int) := by omega
    have hnx : next t p = if t.size < p + 7 then (18, nt) else if numB (t.extract p (p + 3)) = 0 ∨ 20000 < numB (t.extract p (p + 3)) then (8, nt) else if t.size < p + 7 + numB (t.extract p (p + 3)) then (18, nt) else
      if fr (t.extract (p + 7) (p + 7 + numB (t.extract p (p + 3)))) ≠ t.extract p (p + 7 + numB (t.extract p (p + 3))) then (8, nt) else (0, t.extract (p + 7) (p + 7 + numB (t.extract p (p + 3)))) := rfl
    by_cases h1 : t.size < p + 7
    · rw [if_pos h1] at hnx
      have hR : RR = (acc, p, 18) := by
        have h := scan_stop (acc := acc) hlt hf (by rw [hnx]; decide)
        rw [hnx] at h
        exact HSC.out.symm.trans h
      subst hR
      clear hnx
      go_wp2
      go_ret3
      exact ⟨⟨_, rfl, hown⟩, hbw⟩
    rw [if_neg h1] at hnx
    have hs1 := ow.slice_str (P := Tryz.prog) 9 t .i64 .i64 p (p + 3) Tryz.underlying9 (p : Int) ((p : Int) + 3) rfl (by omega) (by omega) (by omega)
    have hL3 : (t.extract p (p + 3)).size = 3 := by rw [size_ex (by omega) (by omega)]; omega
    have HF0 := fun W => l08Number_any (t.extract p (p + 3)) W (by omega)
    have hnum := num_lt (t.extract p (p + 3)).data.toList
    have hlen3 : (t.extract p (p + 3)).data.toList.length = 3 := hL3
    rw [hlen3] at hnum
    have hnlt : numB (t.extract p (p + 3)) < 16777216 := hnum
    have HI0 := fun W => spec_in (numB (t.extract p (p + 3))) 1 20000 W
    obtain ⟨n, hn⟩ : ∃ n, numB (t.extract p (p + 3)) = n := ⟨_, rfl⟩
    rw [hn] at HF0 HI0 hnlt hnx
    have HF : Hid _ := HF0
    clear HF0 hnum hlen3 hL3 hn
    by_cases h2 : n = 0 ∨ 20000 < n
    · rw [if_pos h2] at hnx
      have hR : RR = (acc, p, 8) := by
        have h := scan_stop (acc := acc) hlt hf (by rw [hnx]; decide)
        rw [hnx] at h
        exact HSC.out.symm.trans h
      subst hR
      rw [decide_eq_false (show ¬ (1 ≤ (n : Int) ∧ (n : Int) ≤ 20000) from by omega)] at HI0
      have HI : Hid _ := HI0
      clear hnx HI0
      go_wp2_with fail
      refine (HF.out wr).mono ?_
      rintro e w2 ⟨rfl, rfl⟩
      go_wp2_with fail
      refine (HI.out w2).mono ?_
      rintro e w3 ⟨rfl, rfl⟩
      go_wp2
      go_ret3
      exact ⟨⟨_, rfl, hown⟩, hbw⟩
    rw [if_neg h2] at hnx
    rw [decide_eq_true (show 1 ≤ (n : Int) ∧ (n : Int) ≤ 20000 from by omega)] at HI0
    have HI : Hid _ := HI0
    clear HI0
    by_cases h3 : t.size < p + 7 + n
    · rw [if_pos h3] at hnx
      have hR : RR = (acc, p, 18) := by
        have h := scan_stop (acc := acc) hlt hf (by rw [hnx]; decide)
        rw [hnx] at h
        exact HSC.out.symm.trans h
      subst hR
      clear hnx
      go_wp2_with fail
      refine (HF.out wr).mono ?_
      rintro e w2 ⟨rfl, rfl⟩
      go_wp2_with fail
      refine (HI.out w2).mono ?_
      rintro e w3 ⟨rfl, rfl⟩
      go_wp2
      go_ret3
      exact ⟨⟨_, rfl, hown⟩, hbw⟩
    rw [if_neg h3] at hnx
    have hs2 := ow.slice_str (P := Tryz.prog) 9 t .i64 .i64 (p + 7) (p + 7 + n) Tryz.underlying9 ((p : Int) + 7) ((p : Int) + 7 + n) (by omega) (by omega) (by omega) (by omega)
    have hs3 := ow.slice_str (P := Tryz.prog) 9 t .i64 .i64 p (p + 7 + n) Tryz.underlying9 (p : Int) ((p : Int) + 7 + n) rfl (by omega) (by omega) (by omega)
    have hX : (t.extract (p + 7) (p + 7 + n)).size = n := by rw [size_ex (by omega) (by omega)]; omega
    have HR0 := fun W => l08Frame_any (t.extract (p + 7) (p + 7 + n)) W (by omega)
    obtain ⟨F, hF⟩ : ∃ F, fr (t.extract (p + 7) (p + 7 + n)) = F := ⟨_, rfl⟩
    rw [hF] at HR0 hnx
    clear hF
    by_cases h4 : F ≠ t.extract p (p + 7 + n)
    · rw [if_pos h4] at hnx
      have hR : RR = (acc, p, 8) := by
        have h := scan_stop (acc := acc) hlt hf (by rw [hnx]; decide)
        rw [hnx] at h
        exact HSC.out.symm.trans h
      subst hR
      have hne : (F.toList == (t.extract p (p + 7 + n)).toList) = false := beq_eq_false_iff_ne.2 fun e => h4 (WideShapes.bytes_inj (by rw [← Lib.toList_data, ← Lib.toList_data]; exact e))
      clear hnx h4 HSC hX
      go_wp2_with fail
      refine (HF.out wr).mono ?_
      rintro e w2 ⟨rfl, rfl⟩
      go_wp2_with fail
      refine (HI.out w2).mono ?_
      rintro e w3 ⟨rfl, rfl⟩
      go_wp2_with fail
      have HR : Hid (∀ W, Below w3.heap.size w3 W → Calls Tryz.prog 50 #[.string (t.extract (p + 7) (p + 7 + n))] W fun e w' => e = .returned (.string F) ∧ Below w3.heap.size w3 w') := fun W hW => (HR0 W).mono fun e w' ⟨a, b⟩ => ⟨a, hW.trans (b.mono hW.size)⟩
      have HO3 : Hid (OwnT w3 w.heap.size _ acc) := hown
      have HB3 : Hid (Below w.heap.size w w3) := hbw
      have hdd : Below w3.heap.size w3 w3.drew := (Below.refl _ _).drew
      have hw1 := wrap_id ((p : Int) + 7) (by omega) (by omega)
      have hw2 := wrap_id ((p : Int) + 7 + n) (by omega) (by omega)
      clear HR0 hown hbw
      go_region_held (fun w' => Below w3.heap.size w3 w') (first | assumption | exact (Below.refl _ _).drew) (first | (go_at_call 50; refine (HR.out _ (by assumption)).mono ?_; rintro e w4 ⟨rfl, hb4⟩))
      go_wp2
      go_ret3
      exact ⟨⟨_, rfl, ow.own_below HO3.out (by assumption)⟩, HB3.out.trans (Below.mono (by assumption) HB3.out.size)⟩
    · have h5 : F = t.extract p (p + 7 + n) := Classical.not_not.1 h4
      rw [if_neg h4] at hnx
      obtain ⟨g, hg, hsg⟩ := scan_step (acc := acc) hlt hf (by rw [hnx])
      rw [hnx] at hsg hg
      simp only [hX] at hsg hg
      have HS2 : Hid (scan t g (p + 7 + n) (acc ++ [t.extract (p + 7) (p + 7 + n)]) = RR) := hsg.symm.trans HSC.out
      have heq : (F.toList == (t.extract p (p + 7 + n)).toList) = true := by rw [h5]; exact beq_self_eq_true _
      clear hnx h4 h5 HSC hX hsg
      go_wp2_with fail
      refine (HF.out wr).mono ?_
      rintro e w2 ⟨rfl, rfl⟩
      go_wp2_with fail
      refine (HI.out w2).mono ?_
      rintro e w3 ⟨rfl, rfl⟩
      go_wp2_with fail
      have HR : Hid (∀ W, Below w3.heap.size w3 W → Calls Tryz.prog 50 #[.string (t.extract (p + 7) (p + 7 + n))] W fun e w' => e = .returned (.string F) ∧ Below w3.heap.size w3 w') := fun W hW => (HR0 W).mono fun e w' ⟨a, b⟩ => ⟨a, hW.trans (b.mono hW.size)⟩
      have HO3 : Hid (OwnT w3 w.heap.size _ acc) := hown
      have HB3 : Hid (Below w.heap.size w w3) := hbw
      have hdd : Below w3.heap.size w3 w3.drew := (Below.refl _ _).drew
      have hw1 := wrap_id ((p : Int) + 7) (by omega) (by omega)
      have hw2 := wrap_id ((p : Int) + 7 + n) (by omega) (by omega)
      clear HR0 hown hbw
      go_region_held (fun w' => Below w3.heap.size w3 w') (first | assumption | exact (Below.refl _ _).drew) (first | (go_at_call 50; refine (HR.out _ (by assumption)).mono ?_; rintro e w4 ⟨rfl, hb4⟩))
      have own3 : OwnT w4 w.heap.size _ acc := ow.own_below HO3.out hb4
      have b3 := HB3.out.trans (hb4.mono HB3.out.size)
      have hBs := b3.size
      generalize hxx : t.extract (p + 7) (p + 7 + n) = x at HS2 hs2 ⊢
      have hx2 : Hid (t.extract (p + 7) (p + 7 + n) = x) := hxx
      clear HO3 HB3 hb4 hdd HR hxx
      go_wp2_with (at_builtin; refine wpList_append_own _ rfl _ _ 46 rfl w.heap.size 9 i0 (.string ⟨#[]⟩) 1 16 Tryz.underlying46 hi hz0 hz1 hz2 rfl (by decide) _ _ _ rfl (own3.alloc _) ⟨w4.heap.size, 0, none⟩ 1 1 [.string x] rfl rfl (ow.cells_new _ [.string x] _) (by intro u hu; simp at hu; subst hu; rfl) (by unfold maxLen; omega) (by omega) (by simp; omega) ?_; intro v' w5 hown4 hgrow4 hnil4)
      have hb5 := Below.grown (b3.alloc hBs _) hgrow4 (by simp; omega) (ow.own_lt own3)
      have HA : Hid (Below w.heap.size w w5 ∧ OwnT w5 w.heap.size v' (acc ++ [x])) := by
        refine ⟨hb5, ?_⟩
        unfold OwnT
        rw [List.length_append, List.map_append]
        exact hown4
      clear hb5 hown4 hgrow4 hnil4 own3 b3
      go_wp2
      go_roundw
      case rel => exact ⟨p + 7 + n, g, acc ++ [x], by omega, by go_num, HS2.out, hg, by rw [List.length_append]; simp only [List.length_singleton]; omega, HA.out.2, HA.out.1⟩
      case measure => simp [intOf]; omega
end Go.Proofs.YtcnjgmeddkidaaaGreatDoor.lg

namespace Go.Proofs.YtcnjgmeddkidaaaGreatDoor.lg
open Go.RowKit
open er
open ky (OwnT TextsAt own_texts texts_below)
set_option linter.unusedVariables false

set_option maxHeartbeats 1000000 in
set_option maxRecDepth 100000 in
theorem codeOfLog_any (p code : Nat) (w : World) (c b : Addr) (ca cb : Array Value) (ta tb : TypeId) (hE : Errs w c b ca cb ta tb) (hcd : code = 0 ∨ code = 18 ∨ code = 8) :
    Calls Tryz.prog 41 #[fault c b p code] w fun e w' => e = .returned (.int .i64 code) ∧ Below w.heap.size w w' := by
  have HE : Hid (Errs w c b ca cb ta tb) := hE
  have hc := hE.hc
  clear hE
  unfold EV at hc
  rcases hcd with rfl | rfl | rfl
  · show Calls Tryz.prog 41 #[.nilIface] w fun e w' => e = .returned (.int .i64 ((0 : Nat) : Int)) ∧ Below w.heap.size w w'
    go_enter Tryz.func41, Tryz.ntmps41
    go_wp2_with fail
    refine (is_nil c w).mono ?_
    rintro e w2 ⟨rfl, k2⟩
    have hw2 := (HE.out.keep k2).hw
    unfold EV at hw2
    go_wp2_with fail
    refine (is_nil b w2).mono ?_
    rintro e w3 ⟨rfl, k3⟩
    go_wp2
    go_ret
    exact ⟨rfl, k2.trans (k3.mono k2.size)⟩
  · show Calls Tryz.prog 41 #[FV p (EV c)] w fun e w' => e = .returned (.int .i64 ((18 : Nat) : Int)) ∧ Below w.heap.size w w'
    have H1 : Hid _ := is_same p c w
    unfold FV EV at H1 ⊢
    go_enter Tryz.func41, Tryz.ntmps41
    go_wp2_with fail
    refine Calls.mono H1.out ?_
    rintro e w2 ⟨rfl, k2⟩
    go_wp2
    go_ret
    exact ⟨rfl, k2⟩
  · show Calls Tryz.prog 41 #[FV p (EV b)] w fun e w' => e = .returned (.int .i64 ((8 : Nat) : Int)) ∧ Below w.heap.size w w'
    have H1 : Hid _ := is_other p b c cb ca tb ta w (Ne.symm HE.out.hne) HE.out.hb HE.out.ha
    have H2 : Hid _ := fun W => is_same p b W
    unfold FV EV at H1 H2 ⊢
    go_enter Tryz.func41, Tryz.ntmps41
    go_wp2_with fail
    refine Calls.mono H1.out ?_
    rintro e w2 ⟨rfl, k2⟩
    have hw2 := (HE.out.keep k2).hw
    unfold EV at hw2
    go_wp2_with fail
    refine (H2.out w2).mono ?_
    rintro e w3 ⟨rfl, k3⟩
    go_wp2
    go_ret
    exact ⟨rfl, k2.trans (k3.mono k2.size)⟩

/-- What LogRecords answers: the records, how many bytes these are, what is behind. -/
def recR (r : Int) (d : ByteArray) (s : Int) : List ByteArray × Nat × Nat := if ok r d.size s = true then recs d else ([], 0, 1)
theorem recR_len (r : Int) (d : ByteArray) (s : Int) : (recR r d s).1.length ≤ d.size := by
  unfold recR
  split
  · exact (recs_le d).2.1
  · exact Nat.zero_le _

set_option maxHeartbeats 1000000 in
set_option maxRecDepth 100000 in
theorem impl_recs (r : Int) (d : ByteArray) (s : Int) (w : World) (c b : Addr) (ca cb : Array Value) (ta tb : TypeId) (hr : In r) (hd : d.size ≤ 1048576) (hs : In s) (hE : Errs w c b ca cb ta tb) :
    Calls Tryz.prog 20 #[LV r d s] w fun e w' => (∃ v, e = .returned (.tuple #[v, .int .i64 (recR r d s).2.1, .int .i64 (recR r d s).2.2]) ∧ OwnT w' w.heap.size v (recR r d s).1) ∧ Below w.heap.size w w' := by
  have A1 := b3_new w 28 (.int .i64 r) (.string d) (.int .i64 s)
  have b1 := new_below w 28 #[.int .i64 r, .string d, .int .i64 s]
  have HO := fun W => impl_ok r d s W hr (Nat.le_trans hd (by unfold maxLen; omega)) hs
  have HE : Hid (Errs w c b ca cb ta tb) := hE
  clear hE hr hs
  unfold recR LV
  by_cases ho : ok r d.size s = true
  · rw [if_pos ho]
    rw [ho] at HO
    have HO' : Hid _ := HO
    have hcd := (recs_le d).2.2
    have HR : Hid (∀ W, Errs W c b ca cb ta tb → Calls Tryz.prog 40 #[.string d] W fun e w' => (∃ v, e = .returned (.tuple #[v, .int .i64 (recs d).2.1, fault c b (recs d).2.1 (recs d).2.2]) ∧ OwnT w' W.heap.size v (recs d).1) ∧ Below W.heap.size W w') := fun W hW => recordsOf_any d W c b ca cb ta tb hd hW
    have HC : Hid (∀ W, Errs W c b ca cb ta tb → Calls Tryz.prog 41 #[fault c b (recs d).2.1 (recs d).2.2] W fun e w' => e = .returned (.int .i64 (recs d).2.2) ∧ Below W.heap.size W w') := fun W hW => codeOfLog_any (recs d).2.1 (recs d).2.2 W c b ca cb ta tb hW hcd
    clear HO ho hcd
    obtain ⟨⟨L, P, Q⟩, hRR⟩ : ∃ R, recs d = R := ⟨_, rfl⟩
    rw [hRR] at HR HC ⊢
    clear hRR
    simp only at HR HC ⊢
    generalize fault c b P Q = FF at HR HC
    go_enter Tryz.func20, Tryz.ntmps20
    go_wp2_with fail
    generalize w.alloc _ = w1 at A1 b1 ⊢
    refine (HO'.out w1).mono ?_
    rintro e w2 ⟨rfl, k2⟩
    have A2 := A1.keep k2
    have b2 := b1.trans (k2.mono b1.size)
    clear A1 k2 b1
    have a1 := A2.c1
    go_wp2_with fail
    refine (HR.out w2 (HE.out.keep b2)).mono ?_
    rintro e w3 ⟨⟨v, rfl, own3⟩, k3⟩
    have b3 := b2.trans (k3.mono b2.size)
    have hB2 := b2.size
    clear k3 A2 a1 HR
    go_wp2_with fail
    refine (HC.out w3 (HE.out.keep b3)).mono ?_
    rintro e w4 ⟨rfl, k4⟩
    go_wp2
    go_ret3
    exact ⟨⟨_, rfl, ow.own_base (ow.own_below own3 k4) hB2⟩, b3.trans (k4.mono b3.size)⟩
  · have ho' : ok r d.size s = false := by simpa using ho
    rw [if_neg ho]
    rw [ho'] at HO
    have HO' : Hid _ := HO
    clear HO ho ho'
    go_enter Tryz.func20, Tryz.ntmps20
    go_wp2_with fail
    generalize w.alloc _ = w1 at A1 b1 ⊢
    refine (HO'.out w1).mono ?_
    rintro e w2 ⟨rfl, k2⟩
    have b2 := b1.trans (k2.mono b1.size)
    go_wp2
    go_ret3
    exact ⟨⟨_, rfl, World.ownsRow_nil _ _ _ _⟩, b2⟩

end Go.Proofs.YtcnjgmeddkidaaaGreatDoor.lg
