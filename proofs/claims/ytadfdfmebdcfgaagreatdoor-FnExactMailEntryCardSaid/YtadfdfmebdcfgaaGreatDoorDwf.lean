/-
  Contracts of both CivilOf functions.
-/
import Derived.Test.YtadfdfmebdcfgaaGreatDoorDwe
namespace Go.Proofs.YtadfdfmebdcfgaaGreatDoor.dw
open Go.RowKit
open dt
set_option linter.unusedVariables false

/-- A calendar and its code, in new memory alone. -/
def cv (n : Int) : Value := if inB n 0 4102444799 then .tuple #[civ n, .int .i64 0] else .tuple #[C6 0 0 0 0 0 0, .int .i64 4]
theorem cv_in {n : Int} (h : inB n 0 4102444799 = true) : cv n = .tuple #[civ n, .int .i64 0] := by simp [cv, h]
theorem cv_out {n : Int} (h : inB n 0 4102444799 = false) : cv n = .tuple #[C6 0 0 0 0 0 0, .int .i64 4] := by simp [cv, h]
theorem cv_form (n : Int) : ∃ y m d h i s c : Int, cv n = .tuple #[C6 y m d h i s, .int .i64 c] := by
  cases e : inB n 0 4102444799
  · exact ⟨_, _, _, _, _, _, _, cv_out e⟩
  · exact ⟨_, _, _, _, _, _, _, cv_in e⟩

set_option maxHeartbeats 2000000 in
set_option maxRecDepth 100000 in
theorem impl_cv (n : Int) (w : World) : Calls Tryz.prog 90 #[.int .i64 n] w fun e w' => e = .returned (cv n) ∧ Below w.heap.size w w' := by
  cases hn : inB n 0 4102444799
  · rw [cv_out hn]
    go_enter Tryz.func90, Tryz.ntmps90
    go_wp2_with (go_at_call 35; refine (stamp_any _ _).mono ?_; rintro e w' ⟨rfl, rfl⟩)
    refine bodyPost_ret (v := .tuple #[C6 0 0 0 0 0 0, .int .i64 4]) (by simp [results, Tryz.results90, go_sem, C6]) rfl ⟨rfl, ?_⟩
    exact bel_box _ _
  · rw [cv_in hn]
    obtain ⟨h1, h2⟩ := in_iff.1 hn
    have y1 := yr_1970 h1
    have y2 := yr_2099 h1 h2
    have r1 := rs_lo h1
    have r2 := rs_hi h1
    have p1 := lp_01 (yr n)
    have u1 := yd_pos y1
    have u2 := yd_le (show yr n ≤ 2100 by omega)
    go_enter Tryz.func90, Tryz.ntmps90
    go_wp2_with (go_at_call 35; refine (stamp_any _ _).mono ?_; rintro e w' ⟨rfl, rfl⟩)
    refine (until_any (yr n) y1 (by omega) _).mono ?_
    rintro e w' ⟨rfl, rfl⟩
    go_wp2_with fail
    go_loop [7, 8] (fun k t => ∃ j : Nat, j ≤ 11 ∧ ms (yr n) j ≤ rs n ∧ k = .int .i64 (j + 1) ∧ t = .int .i64 (rs n - ms (yr n) j + 1)) (fun k _ => 12 - (intOf k).toNat)
    case atStart => exact ⟨0, by omega, r1, rfl, by simp [rs, ms]⟩
    case round =>
      obtain ⟨j, hj, hm, rfl, rfl⟩ := hrel
      have u3 := ms_pos (yr n) j
      have u4 := ms_le (y := yr n) (show j ≤ 12 by omega)
      have u5 := dm_pos (yr n) ((j : Int) + 1)
      by_cases hlt : dm (yr n) ((j : Int) + 1) < rs n - ms (yr n) j + 1
      · have hj' : j + 1 ≤ 11 := by
          rcases Nat.lt_or_ge j 11 with q | q
          · omega
          · obtain rfl : j = 11 := by omega
            have q2 := ms_12 (yr n)
            have q3 : ms (yr n) 12 = ms (yr n) 11 + dm (yr n) (((11 : Nat) : Int) + 1) := rfl
            omega
        go_wp2_with (go_at_call 143; refine (impl_dm (yr n) _ y1 y2 _).mono ?_; rintro e w' ⟨rfl, rfl⟩)
        go_round
        case rel => exact ⟨j + 1, hj', by rw [ms_succ]; omega, by go_num, by rw [ms_succ]; go_num⟩
        case measure => simp [intOf]; omega
      · have em : mo (yr n) (rs n) = j := mo_is r1 r2 hm (by rw [ms_succ]; omega)
        have HM : Hid (mo (yr n) (rs n) = j) := em
        clear em
        go_wp2_with (go_at_call 143; refine (impl_dm (yr n) _ y1 y2 _).mono ?_; rintro e w' ⟨rfl, rfl⟩)
        have e : civ n = .agg #[.int .i64 (1970 + (4 * (n / 86400) + 2) / 1461), .int .i64 ((j : Int) + 1), .int .i64 (rs n - ms (yr n) j + 1), .int .i64 (n % 86400 / 3600), .int .i64 (n % 3600 / 60), .int .i64 (n % 60)] := by
          unfold civ C6 mn dy
          rw [HM.out, show hr n = n % 86400 / 3600 by unfold hr; omega, show dt.mt n = n % 3600 / 60 by unfold dt.mt; omega]
          rfl
        refine bodyPost_ret (v := .tuple #[.agg #[.int .i64 (1970 + (4 * (n / 86400) + 2) / 1461), .int .i64 ((j : Int) + 1), .int .i64 (rs n - ms (yr n) j + 1), .int .i64 (n % 86400 / 3600), .int .i64 (n % 3600 / 60), .int .i64 (n % 60)], .int .i64 0]) (by simp [results, Tryz.results90, go_sem]) rfl ⟨by rw [e], bel_box _ _⟩

/-- The specification's calendar while it is made, behind the result's own place. -/
def wc (w : World) (z m d n : Int) : World := (w.alloc (.cells #[.int .i64 0, .int .i64 0, .int .i64 0, .int .i64 0, .int .i64 0, .int .i64 0] 99)).alloc (.cells #[.int .i64 z, .int .i64 m, .int .i64 d, .int .i64 (n / 3600 % 24), .int .i64 (n / 60 % 60), .int .i64 (n % 60)] 99)
set_option maxHeartbeats 2000000 in
set_option maxRecDepth 100000 in
theorem spec_civ (n : Int) (h1 : 0 ≤ n) (h2 : n ≤ 4102444799) (w : World) : Calls Tryz.prog 112 #[.int .i64 n] w fun e w' => e = .returned (civ n) ∧ Below w.heap.size w w' := by
  go_enter Tryz.func112, Tryz.ntmps112
  go_wp2_with fail
  go_loopw [4] (fun t wr => ∃ z : Int, 1970 ≤ z ∧ yd z ≤ n / 86400 ∧ t = .int .i64 (n / 86400 - yd z) ∧ wr = wc w z 1 0 n) (fun t _ => (intOf t).toNat)
  case atStart => exact ⟨1970, by omega, by rw [yd_first]; omega, by rw [yd_first]; simp, rfl⟩
  case round =>
    obtain ⟨z, z1, z2, rfl, rfl⟩ := hrel
    have z3 : z ≤ 2099 := by unfold yd at z2; omega
    have u3 := lp_01 z
    have hs := yd_step z
    have u1 := yd_pos z1
    unfold wc
    by_cases hlt : 365 + lp z ≤ n / 86400 - yd z
    · go_wp2_with fail
      refine (leap_any z z1 z3 _).mono ?_
      rintro e w' ⟨rfl, rfl⟩
      go_wp2_with fail
      refine (bit_any _ _).mono ?_
      rintro e w' ⟨rfl, rfl⟩
      rw [← lp_bit]
      go_wp2_with fail
      refine (leap_any z z1 z3 _).mono ?_
      rintro e w' ⟨rfl, rfl⟩
      go_wp2_with fail
      refine (bit_any _ _).mono ?_
      rintro e w' ⟨rfl, rfl⟩
      rw [← lp_bit]
      go_wp2
      go_round
      case rel => exact ⟨z + 1, by omega, by omega, by rw [hs]; go_num, rfl⟩
      case measure => simp [intOf]; omega
    · have ez : yr n = z := yr_is h1 z2 (by omega)
      subst ez
      have r1 := rs_lo h1
      have r2 := rs_hi h1
      go_wp2_with fail
      refine (leap_any (yr n) z1 z3 _).mono ?_
      rintro e w' ⟨rfl, rfl⟩
      go_wp2_with fail
      refine (bit_any _ _).mono ?_
      rintro e w' ⟨rfl, rfl⟩
      rw [← lp_bit]
      go_wp2_with fail
      go_loopw [4] (fun t wr => ∃ j : Nat, j ≤ 11 ∧ ms (yr n) j ≤ rs n ∧ t = .int .i64 (rs n - ms (yr n) j) ∧ wr = wc w (yr n) ((j : Int) + 1) 0 n) (fun t _ => (intOf t).toNat)
      case atStart => exact ⟨0, by omega, r1, by simp [rs, ms], rfl⟩
      case round =>
        obtain ⟨j, hj, hm, rfl, rfl⟩ := hrel
        have u3 := ms_pos (yr n) j
        have u4 := ms_le (y := yr n) (show j ≤ 12 by omega)
        have u5 := dm_pos (yr n) ((j : Int) + 1)
        have u6 := lp_01 (yr n)
        unfold wc
        by_cases hlt2 : dm (yr n) ((j : Int) + 1) ≤ rs n - ms (yr n) j
        · have hj' : j + 1 ≤ 11 := by
            rcases Nat.lt_or_ge j 11 with q | q
            · omega
            · obtain rfl : j = 11 := by omega
              have q2 := ms_12 (yr n)
              have q3 : ms (yr n) 12 = ms (yr n) 11 + dm (yr n) (((11 : Nat) : Int) + 1) := rfl
              omega
          go_wp2_with (go_at_call 137; refine (spec_dm (yr n) _ z1 z3 _).mono ?_; rintro e w' ⟨rfl, rfl⟩)
          go_round
          case rel => exact ⟨j + 1, hj', by rw [ms_succ]; omega, by rw [ms_succ]; go_num, rfl⟩
          case measure => simp [intOf]; omega
        · have em : mo (yr n) (rs n) = j := mo_is r1 r2 hm (by rw [ms_succ]; omega)
          have HM : Hid (mo (yr n) (rs n) = j) := em
          clear em
          go_wp2_with (go_at_call 137; refine (spec_dm (yr n) _ z1 z3 _).mono ?_; rintro e w' ⟨rfl, rfl⟩)
          have e : civ n = .agg #[.int .i64 (yr n), .int .i64 ((j : Int) + 1), .int .i64 (rs n - ms (yr n) j + 1), .int .i64 (n / 3600 % 24), .int .i64 (n / 60 % 60), .int .i64 (n % 60)] := by
            unfold civ C6 mn dy
            rw [HM.out]
            rfl
          refine bodyPost_ret (v := .agg #[.int .i64 (yr n), .int .i64 ((j : Int) + 1), .int .i64 (rs n - ms (yr n) j + 1), .int .i64 (n / 3600 % 24), .int .i64 (n / 60 % 60), .int .i64 (n % 60)]) (by simp [results, Tryz.results112, go_sem]) rfl ⟨by rw [e], ?_⟩
          exact (bel_box _ _).alloc (by simp) _

/-- Six stores into a calendar's block. -/
def put6 (w : World) (b : Nat) (y m d h i s : Int) : World :=
  (((((w.setCell ⟨b, 0, none⟩ (.int .i64 y)).setCell ⟨b, 1, none⟩ (.int .i64 m)).setCell ⟨b, 2, none⟩ (.int .i64 d)).setCell ⟨b, 3, none⟩ (.int .i64 h)).setCell ⟨b, 4, none⟩ (.int .i64 i)).setCell ⟨b, 5, none⟩ (.int .i64 s)
theorem put6_lies {w : World} {b : Nat} {y' m' d' h' i' s' y m d h i s : Int} (L : Lies w b y' m' d' h' i' s') : Lies (put6 w b y m d h i s) b y m d h i s :=
  heap_setCell_same _ b 5 _ _ _ (heap_setCell_same _ b 4 _ _ _ (heap_setCell_same _ b 3 _ _ _ (heap_setCell_same _ b 2 _ _ _ (heap_setCell_same _ b 1 _ _ _ (heap_setCell_same _ b 0 _ _ _ L)))))
theorem put6_below {B : Nat} {w0 w : World} {b : Nat} {y m d h i s : Int} (k : Below B w0 w) (hb : B ≤ b) : Below B w0 (put6 w b y m d h i s) :=
  (((((k.setCell (p := ⟨b, 0, none⟩) hb _).setCell (p := ⟨b, 1, none⟩) hb _).setCell (p := ⟨b, 2, none⟩) hb _).setCell (p := ⟨b, 3, none⟩) hb _).setCell (p := ⟨b, 4, none⟩) hb _).setCell (p := ⟨b, 5, none⟩) hb _
end Go.Proofs.YtadfdfmebdcfgaaGreatDoor.dw
