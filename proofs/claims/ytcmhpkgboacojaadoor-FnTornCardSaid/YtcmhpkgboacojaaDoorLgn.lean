/-
  The records of a log's data: the specification's.
-/
import Derived.Test.YtcmhpkgboacojaaDoorLgm
import Derived.Deep.RegionHeld
namespace Go.Proofs.YtcmhpkgboacojaaDoor.lg
open Go.RowKit
open er
open ky (OwnT TextsAt own_texts texts_below)
set_option linter.unusedVariables false

theorem wrap_id (z : Int) (h0 : 0 ≤ z) (h1 : z ≤ 4294967296) : IntKind.i64.wrap z = z := by
  simp only [IntKind.wrap, IntKind.bits, IntKind.signed]
  simp
  omega

set_option maxHeartbeats 4000000 in
set_option maxRecDepth 100000 in
theorem l08Records_any (t : ByteArray) (w : World) (ht : t.size ≤ 1048576) :
    Calls Tryd.prog 28 #[.string t] w fun e w' => (∃ v, e = .returned (.tuple #[v, .int .i64 (recs t).2.1, .int .i64 (recs t).2.2]) ∧ OwnT w' w.heap.size v (recs t).1) ∧ Below w.heap.size w w' := by
  obtain ⟨i0, hi, hz0, hz1, hz2⟩ := info_parts infoT
  have hoe := ow.own_empty w 9
  have hbe := new_below w 9 #[]
  obtain ⟨RR, hRR⟩ : ∃ R, recs t = R := ⟨_, rfl⟩
  have HRR : Hid (scan t (t.size + 1) 0 [] = RR) := hRR
  rw [hRR]
  clear hRR
  go_enter Tryd.func28, Tryd.ntmps28
  go_wp2
  go_loopw [5, 6] (fun v i wr => ∃ (p f : Nat) (acc : List ByteArray), p ≤ t.size ∧ i = .int .i64 p ∧ scan t f p acc = RR ∧ t.size - p < f ∧ acc.length ≤ p ∧ OwnT wr w.heap.size v acc ∧ Below w.heap.size w wr) (fun _ i _ => t.size - (intOf i).toNat)
  case atStart => exact ⟨0, t.size + 1, [], Nat.zero_le _, rfl, HRR.out, by omega, Nat.le_refl _, hoe, hbe⟩
  case round =>
    clear hoe hbe
    obtain ⟨p, f, acc, hp, rfl, hsc, hf, hal, hown, hbw⟩ := hrel
    have HSC : Hid (scan t f p acc = RR) := hsc
    clear hsc HRR
    by_cases hlt : p < t.size
    case neg =>
      have hR : RR = (acc, p, 0) := HSC.out.symm.trans (scan_end (by omega))
      subst hR
      go_wp2
      go_ret3
      exact ⟨⟨_, rfl, hown⟩, hbw⟩
    have hlt' : (p : Int) < (t.size : Int) := by omega
    have hnx : next t p = if t.size < p + 7 then (18, nt) else if numB (t.extract p (p + 3)) = 0 ∨ 20000 < numB (t.extract p (p + 3)) then (8, nt) else if t.size < p + 7 + numB (t.extract p (p + 3)) then (18, nt) else
      if fr (t.extract (p + 7) (p + 7 + numB (t.extract p (p + 3)))) ≠ t.extract p (p + 7 + numB (t.extract p (p + 3))) then (8, nt) else (0, t.extract (p + 7) (p + 7 + numB (t.extract p (p + 3)))) := rfl
    by_cases h1 : t.size < p + 7
    · rw [if_pos h1] at hnx
      have hR : RR = (acc, p, 18) := by
        have h := scan_stop (acc := acc) hlt hf (by rw [hnx]; decide)
        rw [hnx] at h
        exact HSC.out.symm.trans h
      subst hR
      clear hnx
      go_wp2
      go_ret3
      exact ⟨⟨_, rfl, hown⟩, hbw⟩
    rw [if_neg h1] at hnx
    have hs1 := ow.slice_str (P := Tryd.prog) 9 t .i64 .i64 p (p + 3) Tryd.underlying9 (p : Int) ((p : Int) + 3) rfl (by omega) (by omega) (by omega)
    have hL3 : (t.extract p (p + 3)).size = 3 := by rw [size_ex (by omega) (by omega)]; omega
    have HF0 := fun W => l08Number_any (t.extract p (p + 3)) W (by omega)
    have hnum := num_lt (t.extract p (p + 3)).data.toList
    have hlen3 : (t.extract p (p + 3)).data.toList.length = 3 := hL3
    rw [hlen3] at hnum
    have hnlt : numB (t.extract p (p + 3)) < 16777216 := hnum
    have HI0 := fun W => spec_in (numB (t.extract p (p + 3))) 1 20000 W
    obtain ⟨n, hn⟩ : ∃ n, numB (t.extract p (p + 3)) = n := ⟨_, rfl⟩
    rw [hn] at HF0 HI0 hnlt hnx
    have HF : Hid _ := HF0
    clear HF0 hnum hlen3 hL3 hn
    by_cases h2 : n = 0 ∨ 20000 < n
    · rw [if_pos h2] at hnx
      have hR : RR = (acc, p, 8) := by
        have h := scan_stop (acc := acc) hlt hf (by rw [hnx]; decide)
        rw [hnx] at h
        exact HSC.out.symm.trans h
      subst hR
      rw [decide_eq_false (show ¬ (1 ≤ (n : Int) ∧ (n : Int) ≤ 20000) from by omega)] at HI0
      have HI : Hid _ := HI0
      clear hnx HI0
      go_wp2_with fail
      refine (HF.out wr).mono ?_
      rintro e w2 ⟨rfl, rfl⟩
      go_wp2_with fail
      refine (HI.out w2).mono ?_
      rintro e w3 ⟨rfl, rfl⟩
      go_wp2
      go_ret3
      exact ⟨⟨_, rfl, hown⟩, hbw⟩
    rw [if_neg h2] at hnx
    rw [decide_eq_true (show 1 ≤ (n : Int) ∧ (n : Int) ≤ 20000 from by omega)] at HI0
    have HI : Hid _ := HI0
    clear HI0
    by_cases h3 : t.size < p + 7 + n
    · rw [if_pos h3] at hnx
      have hR : RR = (acc, p, 18) := by
        have h := scan_stop (acc := acc) hlt hf (by rw [hnx]; decide)
        rw [hnx] at h
        exact HSC.out.symm.trans h
      subst hR
      clear hnx
      go_wp2_with fail
      refine (HF.out wr).mono ?_
      rintro e w2 ⟨rfl, rfl⟩
      go_wp2_with fail
      refine (HI.out w2).mono ?_
      rintro e w3 ⟨rfl, rfl⟩
      go_wp2
      go_ret3
      exact ⟨⟨_, rfl, hown⟩, hbw⟩
    rw [if_neg h3] at hnx
    have hs2 := ow.slice_str (P := Tryd.prog) 9 t .i64 .i64 (p + 7) (p + 7 + n) Tryd.underlying9 ((p : Int) + 7) ((p : Int) + 7 + n) (by omega) (by omega) (by omega) (by omega)
    have hs3 := ow.slice_str (P := Tryd.prog) 9 t .i64 .i64 p (p + 7 + n) Tryd.underlying9 (p : Int) ((p : Int) + 7 + n) rfl (by omega) (by omega) (by omega)
    have hX : (t.extract (p + 7) (p + 7 + n)).size = n := by rw [size_ex (by omega) (by omega)]; omega
    have HR0 := fun W => l08Frame_any (t.extract (p + 7) (p + 7 + n)) W (by omega)
    obtain ⟨F, hF⟩ : ∃ F, fr (t.extract (p + 7) (p + 7 + n)) = F := ⟨_, rfl⟩
    rw [hF] at HR0 hnx
    clear hF
    by_cases h4 : F ≠ t.extract p (p + 7 + n)
    · rw [if_pos h4] at hnx
      have hR : RR = (acc, p, 8) := by
        have h := scan_stop (acc := acc) hlt hf (by rw [hnx]; decide)
        rw [hnx] at h
        exact HSC.out.symm.trans h
      subst hR
      have hne : (F.toList == (t.extract p (p + 7 + n)).toList) = false := beq_eq_false_iff_ne.2 fun e => h4 (WideShapes.bytes_inj (by rw [← Lib.toList_data, ← Lib.toList_data]; exact e))
      clear hnx h4 HSC hX
      go_wp2_with fail
      refine (HF.out wr).mono ?_
      rintro e w2 ⟨rfl, rfl⟩
      go_wp2_with fail
      refine (HI.out w2).mono ?_
      rintro e w3 ⟨rfl, rfl⟩
      go_wp2_with fail
      have HR : Hid (∀ W, Below w3.heap.size w3 W → Calls Tryd.prog 43 #[.string (t.extract (p + 7) (p + 7 + n))] W fun e w' => e = .returned (.string F) ∧ Below w3.heap.size w3 w') := fun W hW => (HR0 W).mono fun e w' ⟨a, b⟩ => ⟨a, hW.trans (b.mono hW.size)⟩
      have HO3 : Hid (OwnT w3 w.heap.size _ acc) := hown
      have HB3 : Hid (Below w.heap.size w w3) := hbw
      have hdd : Below w3.heap.size w3 w3.drew := (Below.refl _ _).drew
      have hw1 := wrap_id ((p : Int) + 7) (by omega) (by omega)
      have hw2 := wrap_id ((p : Int) + 7 + n) (by omega) (by omega)
      clear HR0 hown hbw
      go_region_held (fun w' => Below w3.heap.size w3 w') (first | assumption | exact (Below.refl _ _).drew) (first | (go_at_call 43; refine (HR.out _ (by assumption)).mono ?_; rintro e w4 ⟨rfl, hb4⟩))
      go_wp2
      go_ret3
      exact ⟨⟨_, rfl, ow.own_below HO3.out (by assumption)⟩, HB3.out.trans (Below.mono (by assumption) HB3.out.size)⟩
    · have h5 : F = t.extract p (p + 7 + n) := Classical.not_not.1 h4
      rw [if_neg h4] at hnx
      obtain ⟨g, hg, hsg⟩ := scan_step (acc := acc) hlt hf (by rw [hnx])
      rw [hnx] at hsg hg
      simp only [hX] at hsg hg
      have HS2 : Hid (scan t g (p + 7 + n) (acc ++ [t.extract (p + 7) (p + 7 + n)]) = RR) := hsg.symm.trans HSC.out
      have heq : (F.toList == (t.extract p (p + 7 + n)).toList) = true := by rw [h5]; exact beq_self_eq_true _
      clear hnx h4 h5 HSC hX hsg
      go_wp2_with fail
      refine (HF.out wr).mono ?_
      rintro e w2 ⟨rfl, rfl⟩
      go_wp2_with fail
      refine (HI.out w2).mono ?_
      rintro e w3 ⟨rfl, rfl⟩
      go_wp2_with fail
      have HR : Hid (∀ W, Below w3.heap.size w3 W → Calls Tryd.prog 43 #[.string (t.extract (p + 7) (p + 7 + n))] W fun e w' => e = .returned (.string F) ∧ Below w3.heap.size w3 w') := fun W hW => (HR0 W).mono fun e w' ⟨a, b⟩ => ⟨a, hW.trans (b.mono hW.size)⟩
      have HO3 : Hid (OwnT w3 w.heap.size _ acc) := hown
      have HB3 : Hid (Below w.heap.size w w3) := hbw
      have hdd : Below w3.heap.size w3 w3.drew := (Below.refl _ _).drew
      have hw1 := wrap_id ((p : Int) + 7) (by omega) (by omega)
      have hw2 := wrap_id ((p : Int) + 7 + n) (by omega) (by omega)
      clear HR0 hown hbw
      go_region_held (fun w' => Below w3.heap.size w3 w') (first | assumption | exact (Below.refl _ _).drew) (first | (go_at_call 43; refine (HR.out _ (by assumption)).mono ?_; rintro e w4 ⟨rfl, hb4⟩))
      have own3 : OwnT w4 w.heap.size _ acc := ow.own_below HO3.out hb4
      have b3 := HB3.out.trans (hb4.mono HB3.out.size)
      have hBs := b3.size
      generalize hxx : t.extract (p + 7) (p + 7 + n) = x at HS2 hs2 ⊢
      have hx2 : Hid (t.extract (p + 7) (p + 7 + n) = x) := hxx
      clear HO3 HB3 hb4 hdd HR hxx
      go_wp2_with (at_builtin; refine wpList_append_own _ rfl _ _ 25 rfl w.heap.size 9 i0 (.string ⟨#[]⟩) 1 16 Tryd.underlying25 hi hz0 hz1 hz2 rfl (by decide) _ _ _ rfl (own3.alloc _) ⟨w4.heap.size, 0, none⟩ 1 1 [.string x] rfl rfl (ow.cells_new _ [.string x] _) (by intro u hu; simp at hu; subst hu; rfl) (by unfold maxLen; omega) (by omega) (by simp; omega) ?_; intro v' w5 hown4 hgrow4 hnil4)
      have hb5 := Below.grown (b3.alloc hBs _) hgrow4 (by simp; omega) (ow.own_lt own3)
      have HA : Hid (Below w.heap.size w w5 ∧ OwnT w5 w.heap.size v' (acc ++ [x])) := by
        refine ⟨hb5, ?_⟩
        unfold OwnT
        rw [List.length_append, List.map_append]
        exact hown4
      clear hb5 hown4 hgrow4 hnil4 own3 b3
      go_wp2
      go_roundw
      case rel => exact ⟨p + 7 + n, g, acc ++ [x], by omega, by go_num, HS2.out, hg, by rw [List.length_append]; simp only [List.length_singleton]; omega, HA.out.2, HA.out.1⟩
      case measure => simp [intOf]; omega
end Go.Proofs.YtcmhpkgboacojaaDoor.lg
