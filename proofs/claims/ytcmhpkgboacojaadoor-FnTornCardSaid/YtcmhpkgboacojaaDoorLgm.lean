/-
  The records of a log's data: the program's.
-/
import Derived.Test.YtcmhpkgboacojaaDoorLgk
import Derived.Test.YtcmhpkgboacojaaDoorKya
import Derived.Laws.AppendOwn
namespace Go.Proofs.YtcmhpkgboacojaaDoor.lg
open Go.RowKit
open er
open ky (OwnT TextsAt own_texts texts_below)
set_option linter.unusedVariables false

theorem infoT : (Tryd.prog.info? 9).map (fun i => (i.zero, i.size, i.bytes)) = some (some (.string ⟨#[]⟩), 1, 16) := by kernel_rfl
/-- Why the records of a log end, as an error. -/
def fault (c b : Addr) (p code : Nat) : Value := if code = 0 then .nilIface else FV p (errv c b code)

set_option maxHeartbeats 2000000 in
set_option maxRecDepth 100000 in
theorem recordsOf_any (t : ByteArray) (w : World) (c b : Addr) (ca cb : Array Value) (ta tb : TypeId) (ht : t.size ≤ 1048576) (hE : Errs w c b ca cb ta tb) :
    Calls Tryd.prog 29 #[.string t] w fun e w' => (∃ v, e = .returned (.tuple #[v, .int .i64 (recs t).2.1, fault c b (recs t).2.1 (recs t).2.2]) ∧ OwnT w' w.heap.size v (recs t).1) ∧ Below w.heap.size w w' := by
  obtain ⟨i0, hi, hz0, hz1, hz2⟩ := info_parts infoT
  have HE : Hid (Errs w c b ca cb ta tb) := hE
  clear hE
  obtain ⟨RR, hRR⟩ : ∃ R, recs t = R := ⟨_, rfl⟩
  have HRR : Hid (scan t (t.size + 1) 0 [] = RR) := hRR
  rw [hRR]
  clear hRR
  go_enter Tryd.func29, Tryd.ntmps29
  go_wp2
  go_loopw [5, 6] (fun v i wr => ∃ (p f : Nat) (acc : List ByteArray), p ≤ t.size ∧ i = .int .i64 p ∧ scan t f p acc = RR ∧ t.size - p < f ∧ acc.length ≤ p ∧ OwnT wr w.heap.size v acc ∧ Below w.heap.size w wr) (fun _ i _ => t.size - (intOf i).toNat)
  case atStart => exact ⟨0, t.size + 1, [], Nat.zero_le _, rfl, HRR.out, by omega, Nat.le_refl _, World.ownsRow_nil _ _ _ _, Below.refl _ _⟩
  case round =>
    obtain ⟨p, f, acc, hp, rfl, hsc, hf, hal, hown, hbw⟩ := hrel
    have HSC : Hid (scan t f p acc = RR) := hsc
    clear hsc HRR
    by_cases hlt : p < t.size
    · have hlt' : (p : Int) < (t.size : Int) := by omega
      have hNX := next_eq (Nat.le_of_lt hlt)
      have HFR : Hid (∀ W, Below w.heap.size w W → Calls Tryd.prog 44 #[.string (t.extract p t.size)] W fun e w' => e = .returned (.tuple #[.string (next t p).2, errv c b (next t p).1]) ∧ Below W.heap.size W w') := by
        intro W hW
        have h1 := firstRecord_any (t.extract p t.size) W c b ca cb ta tb (by rw [size_ex (by omega) (Nat.le_refl _)]; omega) (HE.out.keep hW)
        rw [hNX] at h1
        exact h1
      clear hNX
      by_cases hc0 : (next t p).1 = 0
      · obtain ⟨g, hg, hsg⟩ := scan_step (acc := acc) hlt hf hc0
        have hok := next_ok hc0
        have HS2 : Hid (scan t g (p + 7 + (next t p).2.size) (acc ++ [(next t p).2]) = RR) := hsg.symm.trans HSC.out
        rw [hc0] at HFR
        clear hsg HSC
        obtain ⟨x, hx⟩ : ∃ x, (next t p).2 = x := ⟨_, rfl⟩
        rw [hx] at HFR HS2 hok hg
        clear hx hc0
        unfold errv at HFR
        simp only [if_pos] at HFR
        go_wp2_with fail
        refine (HFR.out wr hbw).mono ?_
        rintro e w2 ⟨rfl, k2⟩
        have own2 := ow.own_below hown k2
        have b2 := hbw.trans (k2.mono hbw.size)
        clear hown hbw k2 HFR
        go_wp2_with fail
        refine (clone_any x w2 (by omega)).mono ?_
        rintro e w3 ⟨rfl, k3⟩
        have own3 : OwnT w3 w.heap.size _ acc := ow.own_below own2 k3
        have b3 := b2.trans (k3.mono b2.size)
        have hBs := b3.size
        clear own2 b2 k3
        go_wp2_with (at_builtin; refine wpList_append_own _ rfl _ _ 25 rfl w.heap.size 9 i0 (.string ⟨#[]⟩) 1 16 Tryd.underlying25 hi hz0 hz1 hz2 rfl (by decide) _ _ _ rfl (own3.alloc _) ⟨w3.heap.size, 0, none⟩ 1 1 [.string x] rfl rfl (ow.cells_new _ [.string x] _) (by intro u hu; simp at hu; subst hu; rfl) (by unfold maxLen; omega) (by omega) (by simp; omega) ?_; intro v' w4 hown4 hgrow4 hnil4)
        have hb4 := Below.grown (b3.alloc hBs _) hgrow4 (by simp; omega) (ow.own_lt own3)
        have HA : Hid (Below w.heap.size w w4 ∧ OwnT w4 w.heap.size v' (acc ++ [x])) := by
          refine ⟨hb4, ?_⟩
          unfold OwnT
          rw [List.length_append, List.map_append]
          exact hown4
        clear hb4 hown4 hgrow4 hnil4 own3 b3
        go_wp2
        go_roundw
        case rel => exact ⟨p + 7 + x.size, g, acc ++ [x], by omega, by go_num, HS2.out, hg, by rw [List.length_append]; simp only [List.length_singleton]; omega, HA.out.2, HA.out.1⟩
        case measure => simp [intOf]; omega
      · have hst := scan_stop (acc := acc) hlt hf hc0
        have hR : RR = (acc, p, (next t p).1) := HSC.out.symm.trans hst
        have hnn := next_none hc0
        rw [hnn] at HFR
        have hcd := next_code t p
        obtain ⟨q, hq⟩ : ∃ q, (next t p).1 = q := ⟨_, rfl⟩
        rw [hq] at HFR hcd hc0 hR
        clear HSC hst hq hnn
        subst hR
        obtain ⟨E, hE2⟩ : ∃ E : Addr, errv c b q = EV E := by
          unfold errv
          rw [if_neg hc0]
          split
          · exact ⟨_, rfl⟩
          · exact ⟨_, rfl⟩
        have HF : Hid (fault c b p q = .iface 65 (.agg #[.int .i64 p, .iface 96 (.pointer (some E))])) := by
          show fault c b p q = _
          unfold fault
          rw [if_neg hc0, hE2]
          rfl
        rw [hE2] at HFR
        unfold EV nt at HFR
        clear hE2 hcd
        go_wp2_with fail
        refine (HFR.out wr hbw).mono ?_
        rintro e w2 ⟨rfl, k2⟩
        have own2 : OwnT w2 w.heap.size _ acc := ow.own_below hown k2
        have b2 := hbw.trans (k2.mono hbw.size)
        clear hown hbw k2 HFR
        go_wp2
        go_ret3
        rw [HF.out]
        exact ⟨⟨_, rfl, own2⟩, b2⟩
    · have hR : RR = (acc, p, 0) := HSC.out.symm.trans (scan_end (by omega))
      subst hR
      have HF : Hid (fault c b p 0 = .nilIface) := rfl
      go_wp2
      go_ret3
      rw [HF.out]
      exact ⟨⟨_, rfl, hown⟩, hbw⟩
end Go.Proofs.YtcmhpkgboacojaaDoor.lg
