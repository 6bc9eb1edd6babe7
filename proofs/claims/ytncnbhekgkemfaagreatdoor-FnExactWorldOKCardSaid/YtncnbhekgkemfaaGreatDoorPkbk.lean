/-
  The records of a log's data: the specification's.
  Both LogRecords functions.
  The number that bytes say: both functions; a cutter that takes pieces off the front of a text.
-/
import Derived.Test.YtncnbhekgkemfaaGreatDoorPkbj
import Derived.Deep.RegionHeld
import Derived.Test.YtncnbhekgkemfaaGreatDoorPkaa
import Derived.Test.YtncnbhekgkemfaaGreatDoorRows
import Derived.WalkKit
import Derived.WalkLawsBesides
import Derived.Below
import Derived.Laws.BitsAllLaws
import Derived.BigQuiet
import Derived.Deep.QuietTactic
import Derived.BigRegion
import Derived.WideShapes
import Derived.Lib.Strings

namespace Go.Proofs.YtncnbhekgkemfaaGreatDoor.lg
open Go.RowKit
open er
open ky (OwnT TextsAt own_texts texts_below)
set_option linter.unusedVariables false

theorem wrap_id (z : Int) (h0 : 0 ≤ z) (h1 : z ≤ 4294967296) : IntKind.i64.wrap z = z := by
  simp only [IntKind.wrap, IntKind.bits, IntKind.signed]
  simp
  omega

set_option maxHeartbeats 4000000 in
set_option maxRecDepth 100000 in
theorem l08Records_any (t : ByteArray) (w : World) (ht : t.size ≤ 1048576) :
    Calls Tryz.prog 26 #[.string t] w fun e w' => (∃ v, e = .returned (.tuple #[v, .int .i64 (recs t).2.1, .int .i64 (recs t).2.2]) ∧ OwnT w' w.heap.size v (recs t).1) ∧ Below w.heap.size w w' := by
  obtain ⟨i0, hi, hz0, hz1, hz2⟩ := info_parts infoT
  have hoe := ow.own_empty w 9
  have hbe := new_below w 9 #[]
  obtain ⟨RR, hRR⟩ : ∃ R, recs t = R := ⟨_, rfl⟩
  have HRR : Hid (scan t (t.size + 1) 0 [] = RR) := hRR
  rw [hRR]
  clear hRR
  go_enter Tryz.func26, Tryz.ntmps26
  go_wp2
  go_loopw [5, 6] (fun v i wr => ∃ (p f : Nat) (acc : List ByteArray), p ≤ t.size ∧ i = .int .i64 p ∧ scan t f p acc = RR ∧ t.size - p < f ∧ acc.length ≤ p ∧ OwnT wr w.heap.size v acc ∧ Below w.heap.size w wr) (fun _ i _ => t.size - (intOf i).toNat)
  case atStart => exact ⟨0, t.size + 1, [], Nat.zero_le _, rfl, HRR.out, by omega, Nat.le_refl _, hoe, hbe⟩
  case round =>
    clear hoe hbe
    obtain ⟨p, f, acc, hp, rfl, hsc, hf, hal, hown, hbw⟩ := hrel
    have HSC : Hid (scan t f p acc = RR) := hsc
    clear hsc HRR
    by_cases hlt : p < t.size
    case neg =>
      have hR : RR = (acc, p, 0) := HSC.out.symm.trans (scan_end (by omega))
      subst hR
      go_wp2
      go_ret3
      exact ⟨⟨_, rfl, hown⟩, hbw⟩
    have hlt' : (p : Int) < (t.size : Int) := by omega
    have hnx : next t p = if t.size < p + 7 then (18, nt) else if numB (t.extract p (p + 3)) = 0 ∨ 20000 < numB (t.extract p (p + 3)) then (8, nt) else if t.size < p + 7 + numB (t.extract p (p + 3)) then (18, nt) else
      if fr (t.extract (p + 7) (p + 7 + numB (t.extract p (p + 3)))) ≠ t.extract p (p + 7 + numB (t.extract p (p + 3))) then (8, nt) else (0, t.extract (p + 7) (p + 7 + numB (t.extract p (p + 3)))) := rfl
    by_cases h1 : t.size < p + 7
    · rw [if_pos h1] at hnx
      have hR : RR = (acc, p, 18) := by
        have h := scan_stop (acc := acc) hlt hf (by rw [hnx]; decide)
        rw [hnx] at h
        exact HSC.out.symm.trans h
      subst hR
      clear hnx
      go_wp2
      go_ret3
      exact ⟨⟨_, rfl, hown⟩, hbw⟩
    rw [if_neg h1] at hnx
    have hs1 := ow.slice_str (P := Tryz.prog) 9 t .i64 .i64 p (p + 3) Tryz.underlying9 (p : Int) ((p : Int) + 3) rfl (by omega) (by omega) (by omega)
    have hL3 : (t.extract p (p + 3)).size = 3 := by rw [size_ex (by omega) (by omega)]; omega
    have HF0 := fun W => l08Number_any (t.extract p (p + 3)) W (by omega)
    have hnum := num_lt (t.extract p (p + 3)).data.toList
    have hlen3 : (t.extract p (p + 3)).data.toList.length = 3 := hL3
    rw [hlen3] at hnum
    have hnlt : numB (t.extract p (p + 3)) < 16777216 := hnum
    have HI0 := fun W => spec_in (numB (t.extract p (p + 3))) 1 20000 W
    obtain ⟨n, hn⟩ : ∃ n, numB (t.extract p (p + 3)) = n := ⟨_, rfl⟩
    rw [hn] at HF0 HI0 hnlt hnx
    have HF : Hid _ := HF0
    clear HF0 hnum hlen3 hL3 hn
    by_cases h2 : n = 0 ∨ 20000 < n
    · rw [if_pos h2] at hnx
      have hR : RR = (acc, p, 8) := by
        have h := scan_stop (acc := acc) hlt hf (by rw [hnx]; decide)
        rw [hnx] at h
        exact HSC.out.symm.trans h
      subst hR
      rw [decide_eq_false (show ¬ (1 ≤ (n : Int) ∧ (n : Int) ≤ 20000) from by omega)] at HI0
      have HI : Hid _ := HI0
      clear hnx HI0
      go_wp2_with fail
      refine (HF.out wr).mono ?_
      rintro e w2 ⟨rfl, rfl⟩
      go_wp2_with fail
      refine (HI.out w2).mono ?_
      rintro e w3 ⟨rfl, rfl⟩
      go_wp2
      go_ret3
      exact ⟨⟨_, rfl, hown⟩, hbw⟩
    rw [if_neg h2] at hnx
    rw [decide_eq_true (show 1 ≤ (n : Int) ∧ (n : Int) ≤ 20000 from by omega)] at HI0
    have HI : Hid _ := HI0
    clear HI0
    by_cases h3 : t.size < p + 7 + n
    · rw [if_pos h3] at hnx
      have hR : RR = (acc, p, 18) := by
        have h := scan_stop (acc := acc) hlt hf (by rw [hnx]; decide)
        rw [hnx] at h
        exact HSC.out.symm.trans h
      subst hR
      clear hnx
      go_wp2_with fail
      refine (HF.out wr).mono ?_
      rintro e w2 ⟨rfl, rfl⟩
      go_wp2_with fail
      refine (HI.out w2).mono ?_
      rintro e w3 ⟨rfl, rfl⟩
      go_wp2
      go_ret3
      exact ⟨⟨_, rfl, hown⟩, hbw⟩
    rw [if_neg h3] at hnx
    have hs2 := ow.slice_str (P := Tryz.prog) 9 t .i64 .i64 (p + 7) (p + 7 + n) Tryz.underlying9 ((p : Int) + 7) ((p : Int) + 7 + n) (by omega) (by omega) (by omega) (by omega)
    have hs3 := ow.slice_str (P := Tryz.prog) 9 t .i64 .i64 p (p + 7 + n) Tryz.underlying9 (p : Int) ((p : Int) + 7 + n) rfl (by omega) (by omega) (by omega)
    have hX : (t.extract (p + 7) (p + 7 + n)).size = n := by rw [size_ex (by omega) (by omega)]; omega
    have HR0 := fun W => l08Frame_any (t.extract (p + 7) (p + 7 + n)) W (by omega)
    obtain ⟨F, hF⟩ : ∃ F, fr (t.extract (p + 7) (p + 7 + n)) = F := ⟨_, rfl⟩
    rw [hF] at HR0 hnx
    clear hF
    by_cases h4 : F ≠ t.extract p (p + 7 + n)
    · rw [if_pos h4] at hnx
      have hR : RR = (acc, p, 8) := by
        have h := scan_stop (acc := acc) hlt hf (by rw [hnx]; decide)
        rw [hnx] at h
        exact HSC.out.symm.trans h
      subst hR
      have hne : (F.toList == (t.extract p (p + 7 + n)).toList) = false := beq_eq_false_iff_ne.2 fun e => h4 (WideShapes.bytes_inj (by rw [← Lib.toList_data, ← Lib.toList_data]; exact e))
      clear hnx h4 HSC hX
      go_wp2_with fail
      refine (HF.out wr).mono ?_
      rintro e w2 ⟨rfl, rfl⟩
      go_wp2_with fail
      refine (HI.out w2).mono ?_
      rintro e w3 ⟨rfl, rfl⟩
      go_wp2_with fail
      have HR : Hid (∀ W, Below w3.heap.size w3 W → Calls Tryz.prog 51 #[.string (t.extract (p + 7) (p + 7 + n))] W fun e w' => e = .returned (.string F) ∧ Below w3.heap.size w3 w') := fun W hW => (HR0 W).mono fun e w' ⟨a, b⟩ => ⟨a, hW.trans (b.mono hW.size)⟩
      have HO3 : Hid (OwnT w3 w.heap.size _ acc) := hown
      have HB3 : Hid (Below w.heap.size w w3) := hbw
      have hdd : Below w3.heap.size w3 w3.drew := (Below.refl _ _).drew
      have hw1 := wrap_id ((p : Int) + 7) (by omega) (by omega)
      have hw2 := wrap_id ((p : Int) + 7 + n) (by omega) (by omega)
      clear HR0 hown hbw
      go_region_held (fun w' => Below w3.heap.size w3 w') (first | assumption | exact (Below.refl _ _).drew) (first | (go_at_call 51; refine (HR.out _ (by assumption)).mono ?_; rintro e w4 ⟨rfl, hb4⟩))
      go_wp2
      go_ret3
      exact ⟨⟨_, rfl, ow.own_below HO3.out (by assumption)⟩, HB3.out.trans (Below.mono (by assumption) HB3.out.size)⟩
    · have h5 : F = t.extract p (p + 7 + n) := Classical.not_not.1 h4
      rw [if_neg h4] at hnx
      obtain ⟨g, hg, hsg⟩ := scan_step (acc := acc) hlt hf (by rw [hnx])
      rw [hnx] at hsg hg
      simp only [hX] at hsg hg
      have HS2 : Hid (scan t g (p + 7 + n) (acc ++ [t.extract (p + 7) (p + 7 + n)]) = RR) := hsg.symm.trans HSC.out
      have heq : (F.toList == (t.extract p (p + 7 + n)).toList) = true := by rw [h5]; exact beq_self_eq_true _
      clear hnx h4 h5 HSC hX hsg
      go_wp2_with fail
      refine (HF.out wr).mono ?_
      rintro e w2 ⟨rfl, rfl⟩
      go_wp2_with fail
      refine (HI.out w2).mono ?_
      rintro e w3 ⟨rfl, rfl⟩
      go_wp2_with fail
      have HR : Hid (∀ W, Below w3.heap.size w3 W → Calls Tryz.prog 51 #[.string (t.extract (p + 7) (p + 7 + n))] W fun e w' => e = .returned (.string F) ∧ Below w3.heap.size w3 w') := fun W hW => (HR0 W).mono fun e w' ⟨a, b⟩ => ⟨a, hW.trans (b.mono hW.size)⟩
      have HO3 : Hid (OwnT w3 w.heap.size _ acc) := hown
      have HB3 : Hid (Below w.heap.size w w3) := hbw
      have hdd : Below w3.heap.size w3 w3.drew := (Below.refl _ _).drew
      have hw1 := wrap_id ((p : Int) + 7) (by omega) (by omega)
      have hw2 := wrap_id ((p : Int) + 7 + n) (by omega) (by omega)
      clear HR0 hown hbw
      go_region_held (fun w' => Below w3.heap.size w3 w') (first | assumption | exact (Below.refl _ _).drew) (first | (go_at_call 51; refine (HR.out _ (by assumption)).mono ?_; rintro e w4 ⟨rfl, hb4⟩))
      have own3 : OwnT w4 w.heap.size _ acc := ow.own_below HO3.out hb4
      have b3 := HB3.out.trans (hb4.mono HB3.out.size)
      have hBs := b3.size
      generalize hxx : t.extract (p + 7) (p + 7 + n) = x at HS2 hs2 ⊢
      have hx2 : Hid (t.extract (p + 7) (p + 7 + n) = x) := hxx
      clear HO3 HB3 hb4 hdd HR hxx
      go_wp2_with (at_builtin; refine wpList_append_own _ rfl _ _ 68 rfl w.heap.size 9 i0 (.string ⟨#[]⟩) 1 16 Tryz.underlying68 hi hz0 hz1 hz2 rfl (by decide) _ _ _ rfl (own3.alloc _) ⟨w4.heap.size, 0, none⟩ 1 1 [.string x] rfl rfl (ow.cells_new _ [.string x] _) (by intro u hu; simp at hu; subst hu; rfl) (by unfold maxLen; omega) (by omega) (by simp; omega) ?_; intro v' w5 hown4 hgrow4 hnil4)
      have hb5 := Below.grown (b3.alloc hBs _) hgrow4 (by simp; omega) (ow.own_lt own3)
      have HA : Hid (Below w.heap.size w w5 ∧ OwnT w5 w.heap.size v' (acc ++ [x])) := by
        refine ⟨hb5, ?_⟩
        unfold OwnT
        rw [List.length_append, List.map_append]
        exact hown4
      clear hb5 hown4 hgrow4 hnil4 own3 b3
      go_wp2
      go_roundw
      case rel => exact ⟨p + 7 + n, g, acc ++ [x], by omega, by go_num, HS2.out, hg, by rw [List.length_append]; simp only [List.length_singleton]; omega, HA.out.2, HA.out.1⟩
      case measure => simp [intOf]; omega
end Go.Proofs.YtncnbhekgkemfaaGreatDoor.lg

namespace Go.Proofs.YtncnbhekgkemfaaGreatDoor.lg
open Go.RowKit
open er
open ky (OwnT TextsAt own_texts texts_below)
set_option linter.unusedVariables false

set_option maxHeartbeats 1000000 in
set_option maxRecDepth 100000 in
theorem codeOfLog_any (p code : Nat) (w : World) (c b : Addr) (ca cb : Array Value) (ta tb : TypeId) (hE : Errs w c b ca cb ta tb) (hcd : code = 0 ∨ code = 18 ∨ code = 8) :
    Calls Tryz.prog 65 #[fault c b p code] w fun e w' => e = .returned (.int .i64 code) ∧ Below w.heap.size w w' := by
  have HE : Hid (Errs w c b ca cb ta tb) := hE
  have hc := hE.hc
  clear hE
  unfold EV at hc
  rcases hcd with rfl | rfl | rfl
  · show Calls Tryz.prog 65 #[.nilIface] w fun e w' => e = .returned (.int .i64 ((0 : Nat) : Int)) ∧ Below w.heap.size w w'
    go_enter Tryz.func65, Tryz.ntmps65
    go_wp2_with fail
    refine (is_nil c w).mono ?_
    rintro e w2 ⟨rfl, k2⟩
    have hw2 := (HE.out.keep k2).hw
    unfold EV at hw2
    go_wp2_with fail
    refine (is_nil b w2).mono ?_
    rintro e w3 ⟨rfl, k3⟩
    go_wp2
    go_ret
    exact ⟨rfl, k2.trans (k3.mono k2.size)⟩
  · show Calls Tryz.prog 65 #[FV p (EV c)] w fun e w' => e = .returned (.int .i64 ((18 : Nat) : Int)) ∧ Below w.heap.size w w'
    have H1 : Hid _ := is_same p c w
    unfold FV EV at H1 ⊢
    go_enter Tryz.func65, Tryz.ntmps65
    go_wp2_with fail
    refine Calls.mono H1.out ?_
    rintro e w2 ⟨rfl, k2⟩
    go_wp2
    go_ret
    exact ⟨rfl, k2⟩
  · show Calls Tryz.prog 65 #[FV p (EV b)] w fun e w' => e = .returned (.int .i64 ((8 : Nat) : Int)) ∧ Below w.heap.size w w'
    have H1 : Hid _ := is_other p b c cb ca tb ta w (Ne.symm HE.out.hne) HE.out.hb HE.out.ha
    have H2 : Hid _ := fun W => is_same p b W
    unfold FV EV at H1 H2 ⊢
    go_enter Tryz.func65, Tryz.ntmps65
    go_wp2_with fail
    refine Calls.mono H1.out ?_
    rintro e w2 ⟨rfl, k2⟩
    have hw2 := (HE.out.keep k2).hw
    unfold EV at hw2
    go_wp2_with fail
    refine (H2.out w2).mono ?_
    rintro e w3 ⟨rfl, k3⟩
    go_wp2
    go_ret
    exact ⟨rfl, k2.trans (k3.mono k2.size)⟩

/-- What LogRecords answers: the records, how many bytes these are, what is behind. -/
def recR (r : Int) (d : ByteArray) (s : Int) : List ByteArray × Nat × Nat := if ok r d.size s = true then recs d else ([], 0, 1)
theorem recR_len (r : Int) (d : ByteArray) (s : Int) : (recR r d s).1.length ≤ d.size := by
  unfold recR
  split
  · exact (recs_le d).2.1
  · exact Nat.zero_le _

set_option maxHeartbeats 1000000 in
set_option maxRecDepth 100000 in
theorem impl_recs (r : Int) (d : ByteArray) (s : Int) (w : World) (c b : Addr) (ca cb : Array Value) (ta tb : TypeId) (hr : In r) (hd : d.size ≤ 1048576) (hs : In s) (hE : Errs w c b ca cb ta tb) :
    Calls Tryz.prog 39 #[LV r d s] w fun e w' => (∃ v, e = .returned (.tuple #[v, .int .i64 (recR r d s).2.1, .int .i64 (recR r d s).2.2]) ∧ OwnT w' w.heap.size v (recR r d s).1) ∧ Below w.heap.size w w' := by
  have A1 := b3_new w 32 (.int .i64 r) (.string d) (.int .i64 s)
  have b1 := new_below w 32 #[.int .i64 r, .string d, .int .i64 s]
  have HO := fun W => impl_ok r d s W hr (Nat.le_trans hd (by unfold maxLen; omega)) hs
  have HE : Hid (Errs w c b ca cb ta tb) := hE
  clear hE hr hs
  unfold recR LV
  by_cases ho : ok r d.size s = true
  · rw [if_pos ho]
    rw [ho] at HO
    have HO' : Hid _ := HO
    have hcd := (recs_le d).2.2
    have HR : Hid (∀ W, Errs W c b ca cb ta tb → Calls Tryz.prog 64 #[.string d] W fun e w' => (∃ v, e = .returned (.tuple #[v, .int .i64 (recs d).2.1, fault c b (recs d).2.1 (recs d).2.2]) ∧ OwnT w' W.heap.size v (recs d).1) ∧ Below W.heap.size W w') := fun W hW => recordsOf_any d W c b ca cb ta tb hd hW
    have HC : Hid (∀ W, Errs W c b ca cb ta tb → Calls Tryz.prog 65 #[fault c b (recs d).2.1 (recs d).2.2] W fun e w' => e = .returned (.int .i64 (recs d).2.2) ∧ Below W.heap.size W w') := fun W hW => codeOfLog_any (recs d).2.1 (recs d).2.2 W c b ca cb ta tb hW hcd
    clear HO ho hcd
    obtain ⟨⟨L, P, Q⟩, hRR⟩ : ∃ R, recs d = R := ⟨_, rfl⟩
    rw [hRR] at HR HC ⊢
    clear hRR
    simp only at HR HC ⊢
    generalize fault c b P Q = FF at HR HC
    go_enter Tryz.func39, Tryz.ntmps39
    go_wp2_with fail
    generalize w.alloc _ = w1 at A1 b1 ⊢
    refine (HO'.out w1).mono ?_
    rintro e w2 ⟨rfl, k2⟩
    have A2 := A1.keep k2
    have b2 := b1.trans (k2.mono b1.size)
    clear A1 k2 b1
    have a1 := A2.c1
    go_wp2_with fail
    refine (HR.out w2 (HE.out.keep b2)).mono ?_
    rintro e w3 ⟨⟨v, rfl, own3⟩, k3⟩
    have b3 := b2.trans (k3.mono b2.size)
    have hB2 := b2.size
    clear k3 A2 a1 HR
    go_wp2_with fail
    refine (HC.out w3 (HE.out.keep b3)).mono ?_
    rintro e w4 ⟨rfl, k4⟩
    go_wp2
    go_ret3
    exact ⟨⟨_, rfl, ow.own_base (ow.own_below own3 k4) hB2⟩, b3.trans (k4.mono b3.size)⟩
  · have ho' : ok r d.size s = false := by simpa using ho
    rw [if_neg ho]
    rw [ho'] at HO
    have HO' : Hid _ := HO
    clear HO ho ho'
    go_enter Tryz.func39, Tryz.ntmps39
    go_wp2_with fail
    generalize w.alloc _ = w1 at A1 b1 ⊢
    refine (HO'.out w1).mono ?_
    rintro e w2 ⟨rfl, k2⟩
    have b2 := b1.trans (k2.mono b1.size)
    go_wp2
    go_ret3
    exact ⟨⟨_, rfl, World.ownsRow_nil _ _ _ _⟩, b2⟩

end Go.Proofs.YtncnbhekgkemfaaGreatDoor.lg

namespace Go.Proofs.YtncnbhekgkemfaaGreatDoor.rm
open Go.RowKit
set_option linter.unusedVariables false

/-- The number that bytes say, the higher ones first. -/
def num (l : List UInt8) : Nat := l.foldl (fun n b => n * 256 + b.toNat) 0
def numB (s : ByteArray) : Nat := num s.data.toList
theorem num_step (l : List UInt8) (k : Nat) (h : k < l.length) : num (l.take (k + 1)) = num (l.take k) * 256 + (l[k]).toNat := by
  unfold num
  rw [List.take_succ_eq_append_getElem h, List.foldl_append]
  rfl
theorem num_lt : ∀ (l : List UInt8), num l < 256 ^ l.length := by
  intro l
  have h : ∀ k, k ≤ l.length → num (l.take k) < 256 ^ k := by
    intro k
    induction k with
    | zero => intro _; simp [num]
    | succ k ih =>
      intro hk
      rw [num_step l k (by omega)]
      have h1 := ih (by omega)
      have h2 := (l[k]).toNat_lt
      have h3 : 256 ^ (k + 1) = 256 ^ k * 256 := Nat.pow_succ ..
      omega
  have := h l.length (Nat.le_refl _)
  rwa [List.take_length] at this
theorem i64o (a b : Nat) (ha : a < 4294967296) (hb : b < 4294967296) : bits .or .i64 (a : Int) (b : Int) = ((a ||| b : Nat) : Int) := by
  have hx : a ||| b < 4294967296 := Nat.or_lt_two_pow (n := 32) ha hb
  show IntKind.i64.wrap ((BitVec.ofInt 64 (a : Int) ||| BitVec.ofInt 64 (b : Int)).toNat : Int) = _
  rw [BitVec.toNat_or, ofInt_u64 a (by omega), ofInt_u64 b (by omega)]
  simp only [IntKind.wrap, IntKind.bits, IntKind.signed]
  simp
  omega
theorem or_add (a : Nat) (b : UInt8) (ha : a < 16777216) : bits .or .i64 ((a : Int) * 256) (b.toNat : Int) = ((a * 256 + b.toNat : Nat) : Int) := by
  have hb := b.toNat_lt
  have h : (a * 256) ||| b.toNat = a * 256 + b.toNat := by
    have := Nat.two_pow_add_eq_or_of_lt (i := 8) (b := b.toNat) (by omega) a
    rw [Nat.mul_comm a 256]
    exact this.symm
  rw [← h, ← i64o (a * 256) b.toNat (by omega) (by omega)]
  rfl

set_option maxHeartbeats 1000000 in
set_option maxRecDepth 100000 in
theorem ofBytes_any (s : ByteArray) (w : World) (hs : s.size ≤ 3) :
    Calls Tryz.prog 110 #[.string s] w fun e w' => e = .returned (.int .i64 (numB s)) ∧ w' = w := by
  go_enter Tryz.func110, Tryz.ntmps110
  go_wp2
  go_loop [3, 7] (fun n i => ∃ k : Nat, k ≤ s.size ∧ i = .int .i64 k ∧ n = .int .i64 (num (s.data.toList.take k) : Nat)) (fun _ i => s.size - (intOf i).toNat)
  case atStart => exact ⟨0, Nat.zero_le _, rfl, rfl⟩
  case round =>
    obtain ⟨k, hk, rfl, rfl⟩ := hrel
    have hq := num_lt (s.data.toList.take k)
    have hlen : (s.data.toList.take k).length = k := by rw [List.length_take]; exact Nat.min_eq_left hk
    rw [hlen] at hq
    by_cases hlt : k < s.size
    · have hst := num_step s.data.toList k hlt
      have hq2 : num (s.data.toList.take k) < 16777216 := Nat.lt_of_lt_of_le hq (Nat.pow_le_pow_right (n := 256) (by omega) (show k ≤ 3 by omega))
      have hb' : (s[k]).toNat < 256 := (s[k]).toNat_lt
      have HO : Hid (bits .or .i64 ((num (s.data.toList.take k) : Int) * 256) ((s[k]).toNat : Int) = ((num (s.data.toList.take k) * 256 + (s[k]).toNat : Nat) : Int)) := or_add (num (s.data.toList.take k)) (s[k]) hq2
      have HS : Hid (num (s.data.toList.take (k + 1)) = num (s.data.toList.take k) * 256 + (s[k]).toNat) := hst
      clear hst
      generalize num (s.data.toList.take k) = q at *
      go_wp2
      go_round
      case rel => exact ⟨k + 1, by omega, by go_num, by rw [HS.out]; exact congrArg (Value.int .i64) HO.out⟩
      case measure => simp [intOf]; omega
    · have hkn : k = s.size := by omega
      subst hkn
      have e : s.data.toList.take s.size = s.data.toList := List.take_length
      rw [e]
      have HN : Hid (num s.data.toList = numB s) := rfl
      rw [HN.out]
      go_wp2
      go_ret
      exact ⟨rfl, rfl⟩

set_option maxHeartbeats 1000000 in
set_option maxRecDepth 100000 in
theorem l08Number_any (s : ByteArray) (w : World) (hs : s.size ≤ 3) :
    Calls Tryz.prog 50 #[.string s] w fun e w' => e = .returned (.int .i64 (numB s)) ∧ w' = w := by
  go_enter Tryz.func50, Tryz.ntmps50
  go_wp2
  go_loop [3, 4] (fun n i => ∃ k : Nat, k ≤ s.size ∧ i = .int .i64 k ∧ n = .int .i64 (num (s.data.toList.take k) : Nat)) (fun _ i => s.size - (intOf i).toNat)
  case atStart => exact ⟨0, Nat.zero_le _, rfl, rfl⟩
  case round =>
    obtain ⟨k, hk, rfl, rfl⟩ := hrel
    have hq := num_lt (s.data.toList.take k)
    have hlen : (s.data.toList.take k).length = k := by rw [List.length_take]; exact Nat.min_eq_left hk
    rw [hlen] at hq
    by_cases hlt : k < s.size
    · have hst := num_step s.data.toList k hlt
      have hq2 : num (s.data.toList.take k) < 16777216 := Nat.lt_of_lt_of_le hq (Nat.pow_le_pow_right (n := 256) (by omega) (show k ≤ 3 by omega))
      have hb := (s.data.toList[k]).toNat_lt
      have hb' : (s[k]).toNat < 256 := (s[k]).toNat_lt
      have HS : Hid (num (s.data.toList.take (k + 1)) = num (s.data.toList.take k) * 256 + (s[k]).toNat) := hst
      clear hst hb
      generalize num (s.data.toList.take k) = q at *
      go_wp2
      go_round
      case rel => exact ⟨k + 1, by omega, by go_num, by rw [HS.out]; rfl⟩
      case measure => simp [intOf]; omega
    · have hkn : k = s.size := by omega
      subst hkn
      have e : s.data.toList.take s.size = s.data.toList := List.take_length
      rw [e]
      have HN : Hid (num s.data.toList = numB s) := rfl
      rw [HN.out]
      go_wp2
      go_ret
      exact ⟨rfl, rfl⟩


/-- A cutter: what is left, and whether it was asked for more. -/
def Cut (w : World) (g : Nat) (r : ByteArray) (sh : Bool) : Prop := w.heap[g]? = some (.cells #[.string r, .bool sh] 153 (0, 0))
section
variable {w w' : World} {g : Nat} {r : ByteArray} {sh : Bool}
theorem Cut.c0 (h : Cut w g r sh) : w.cell? ⟨g, 0, none⟩ = some (.string r) := by rw [cell_of_row _ _ 0 _ _ _ h]; rfl
theorem Cut.c1 (h : Cut w g r sh) : w.cell? ⟨g, 1, none⟩ = some (.bool sh) := by rw [cell_of_row _ _ 1 _ _ _ h]; rfl
theorem Cut.f (h : Cut w g r sh) (j : Nat) : w.frozen? ⟨g, j, none⟩ = false := frozen_of_row _ _ _ _ _ h
theorem Cut.lt (h : Cut w g r sh) : g < w.heap.size := (Array.getElem?_eq_some_iff.1 h).1
theorem Cut.keep {b : Nat} (h : Cut w g r sh) (hg : w.grownBy w' (some b)) (hne : g ≠ b) : Cut w' g r sh := (hg.block g h.lt (by simp; omega)).trans h
theorem Cut.put0 (h : Cut w g r sh) (u : ByteArray) : Cut (w.setCell ⟨g, 0, none⟩ (.string u)) g u sh := heap_setCell_same _ g 0 _ _ _ h
theorem Cut.put1 (h : Cut w g r sh) (u : Bool) : Cut (w.setCell ⟨g, 1, none⟩ (.bool u)) g r u := heap_setCell_same _ g 1 _ _ _ h
end
theorem grown_cell (w : World) (b j : Nat) (u : Value) : w.grownBy (w.setCell ⟨b, j, none⟩ u) (some b) :=
  ⟨rfl, rfl, rfl, by simp, fun k _ hk => heap_setCell_other w ⟨b, j, none⟩ k u (fun e => hk (by simp [e]))⟩
/-- What is taken, what is left, whether it was too much. -/
def tk (r : ByteArray) (n : Nat) : ByteArray := if r.size < n then ⟨#[]⟩ else r.extract 0 n
def rs (r : ByteArray) (n : Nat) : ByteArray := if r.size < n then r else r.extract n r.size
def sx (r : ByteArray) (n : Nat) : Bool := decide (r.size < n)

set_option maxHeartbeats 1000000 in
set_option maxRecDepth 100000 in
theorem text_any (g : Nat) (r : ByteArray) (sh : Bool) (n : Nat) (w : World) (h : Cut w g r sh) (hr : r.size ≤ 1048576) (hn : n ≤ 1048576) :
    Calls Tryz.prog 117 #[.pointer (some ⟨g, 0, none⟩), .int .i64 n] w fun e w' => e = .returned (.string (tk r n)) ∧ Cut w' g (rs r n) (sh || sx r n) ∧ w.grownBy w' (some g) := by
  have c0 := h.c0
  have f0 := h.f 0
  have f1 := h.f 1
  have c1 := h.c1
  by_cases q : r.size < n
  · have q' : (r.size : Int) < (n : Int) := by omega
    have e1 : tk r n = ⟨#[]⟩ := if_pos q
    have e2 : rs r n = r := if_pos q
    have e3 : sx r n = true := decide_eq_true q
    have HC := h.put1 true
    have HG := grown_cell w g 1 (.bool true)
    have HE : Hid (tk r n = ⟨#[]⟩ ∧ rs r n = r ∧ sx r n = true ∧ Cut (w.setCell ⟨g, 1, none⟩ (.bool true)) g r true ∧ w.grownBy (w.setCell ⟨g, 1, none⟩ (.bool true)) (some g)) := ⟨e1, e2, e3, HC, HG⟩
    clear e1 e2 e3 HC HG h
    go_enter Tryz.func117, Tryz.ntmps117
    go_wp2
    go_ret
    obtain ⟨e1, e2, e3, hc, hg⟩ := HE.out
    exact ⟨by rw [e1]; rfl, by rw [e2, e3, Bool.or_true]; exact hc, hg⟩
  · have q' : (n : Int) ≤ (r.size : Int) := by omega
    have e1 : tk r n = r.extract 0 n := if_neg q
    have e2 : rs r n = r.extract n r.size := if_neg q
    have e3 : sx r n = false := decide_eq_false q
    have HC := h.put0 (r.extract n r.size)
    have HG := grown_cell w g 0 (.string (r.extract n r.size))
    have HE : Hid (tk r n = r.extract 0 n ∧ rs r n = r.extract n r.size ∧ sx r n = false ∧ Cut (w.setCell ⟨g, 0, none⟩ (.string (r.extract n r.size))) g (r.extract n r.size) sh ∧ w.grownBy (w.setCell ⟨g, 0, none⟩ (.string (r.extract n r.size))) (some g)) := ⟨e1, e2, e3, HC, HG⟩
    clear e1 e2 e3 HC HG h
    have hn0 : (0 : Int) ≤ (n : Int) := by omega
    go_enter Tryz.func117, Tryz.ntmps117
    go_wp2
    go_ret
    obtain ⟨e1, e2, e3, hc, hg⟩ := HE.out
    exact ⟨by rw [e1]; rfl, by rw [e2, e3, Bool.or_false]; exact hc, hg⟩

theorem tk_size (r : ByteArray) (n : Nat) : (tk r n).size ≤ n := by
  unfold tk
  split
  · exact Nat.zero_le _
  · simp; omega
set_option maxHeartbeats 1000000 in
theorem number_any (g : Nat) (r : ByteArray) (sh : Bool) (n : Nat) (w : World) (h : Cut w g r sh) (hr : r.size ≤ 1048576) (hn : n ≤ 3) :
    Calls Tryz.prog 116 #[.pointer (some ⟨g, 0, none⟩), .int .i64 n] w fun e w' => e = .returned (.int .i64 (numB (tk r n))) ∧ Cut w' g (rs r n) (sh || sx r n) ∧ w.grownBy w' (some g) := by
  have HC : Hid (Cut w g r sh) := h
  clear h
  go_enter Tryz.func116, Tryz.ntmps116
  go_wp2_with fail
  refine (text_any g r sh n w HC.out hr (by omega)).mono ?_
  rintro e w1 ⟨rfl, hc1, hg1⟩
  have HH : Hid (Cut w1 g (rs r n) (sh || sx r n) ∧ w.grownBy w1 (some g)) := ⟨hc1, hg1⟩
  clear hc1 hg1 HC
  go_wp2_with fail
  refine (ofBytes_any _ w1 (Nat.le_trans (tk_size r n) hn)).mono ?_
  rintro e w2 ⟨rfl, rfl⟩
  go_wp2
  go_ret
  exact ⟨rfl, HH.out⟩
end Go.Proofs.YtncnbhekgkemfaaGreatDoor.rm
