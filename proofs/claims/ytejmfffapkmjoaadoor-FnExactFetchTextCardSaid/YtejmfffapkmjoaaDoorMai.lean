/-
  The contract of the program's MailOK.
-/
import Derived.Test.YtejmfffapkmjoaaDoorMaw
namespace Go.Proofs.YtejmfffapkmjoaaDoor.ml
open Go.RowKit
set_option linter.unusedVariables false

theorem mk_list (r : ByteArray) : r = ⟨r.data.toList.toArray⟩ := by cases r; simp
theorem mk_size (l : List UInt8) : (⟨l.toArray⟩ : ByteArray).size = l.length := by rw [Lib.size_eq]
theorem isEmpty_no {l : List UInt8} (h : l ≠ []) : l.isEmpty = false := by cases l; exact absurd rfl h; rfl
theorem cut_hit {l : List UInt8} {i : Nat} (h : Lib.index l nl = i) : Lib.cut l nl = (l.take i, l.drop (i + 2), true) := by
  unfold Lib.cut
  rw [if_pos (by rw [h]; omega), h]
  rfl
theorem cut_miss {l : List UInt8} (h : Lib.index l nl = -1) : Lib.cut l nl = (l, [], false) := by
  unfold Lib.cut
  rw [if_neg (by rw [h]; decide)]
theorem drewN_add (w : World) (a b : Nat) : (w.drewN a).drewN b = w.drewN (a + b) := by simp

set_option maxHeartbeats 2000000 in
set_option maxRecDepth 100000 in
theorem impl_mok (s : ByteArray) (w : World) (m : Int) (hm : w.cell? ⟨1, 0, none⟩ = some (.int .i64 m)) (hs : s.size ≤ 1048576) :
    Calls Tryd.prog 57 #[.string s] w fun e w' => e = .returned (.bool (decide (s.size ≤ 65536) && mok 0 s.data.toList)) ∧ ∃ n, w' = w.drewN n := by
  by_cases hl : s.size ≤ 65536
  case neg =>
    have hl' : (65536 : Int) < (s.size : Int) := by omega
    rw [decide_eq_false hl, Bool.false_and]
    clear hm
    go_enter Tryd.func57, Tryd.ntmps57
    go_wp2
    go_ret
    exact ⟨rfl, 0, rfl⟩
  have hl' : (s.size : Int) ≤ 65536 := by omega
  rw [decide_eq_true hl, Bool.true_and]
  obtain ⟨R, hR⟩ : ∃ R, R = mok 0 s.data.toList := ⟨_, rfl⟩
  rw [← hR]
  have HR : Hid (R = mok 0 s.data.toList) := hR
  have HMX : Hid (∀ n, (w.drewN n).cell? ⟨1, 0, none⟩ = some (.int .i64 m)) := fun n => hm
  clear hR hm
  go_enter Tryd.func57, Tryd.ntmps57
  go_wp2
  go_loopw [0] (fun t wr => ∃ (r : ByteArray) (n : Nat), t = .string r ∧ r.size ≤ 65536 ∧ wr = w.drewN n ∧ R = mok 0 r.data.toList) (fun t _ => (match t with | .string r => r.size | _ => 0))
  case atStart => exact ⟨s, 0, rfl, hl, rfl, HR.out⟩
  case round =>
    obtain ⟨r, n, rfl, hrl, rfl, hm⟩ := hrel
    have HM : Hid (R = mok 0 r.data.toList) := hm
    clear hm
    by_cases h0 : r.data.toList = []
    · have hr0 : r = ⟨#[]⟩ := by rw [mk_list r, h0]
      subst hr0
      have HE : Hid (R = true) := (show R = true by rw [HM.out]; rfl)
      go_wp2
      go_ret
      exact ⟨by rw [HE.out]; rfl, n, rfl⟩
    have he : r.toList.isEmpty = false := by rw [Lib.toList_data]; exact isEmpty_no h0
    have hC := (Tryd.strings_Cut r ⟨#[13, 10]⟩ m (w.drewN n) (by omega) (HMX.out n))
    rw [show (⟨#[13, 10]⟩ : ByteArray).data.toList = nl from rfl] at hC
    rcases Lib.index_spec r.data.toList nl with ⟨hi, _⟩ | ⟨i, hi, hil, _⟩
    · rw [cut_miss hi] at hC
      have HE : Hid (R = false) := (show R = false by rw [HM.out]; exact mok_none _ _ hi (.inr h0))
      have HC : Hid (Calls Tryd.prog 34 #[.string r, .string ⟨#[13, 10]⟩] (w.drewN n) fun e w' => e = .returned (.tuple #[.string r, .string ⟨#[]⟩, .bool false]) ∧ ∃ q, w' = (w.drewN n).drewN q) := (show Calls _ _ _ _ _ from hC.mono fun e w' ⟨h1, h2⟩ => ⟨by rw [h1, ← mk_list], h2⟩)
      clear hC hi h0
      go_wp2_with fail
      refine HC.out.mono ?_
      rintro e w1 ⟨rfl, q, rfl⟩
      go_wp2
      go_ret
      exact ⟨by rw [HE.out]; rfl, n + q, by first | rfl | exact drewN_add _ _ _⟩
    · have hroom := Lib.index_room r.data.toList nl (by rw [hi]; omega)
      rw [hi, ← Lib.size_eq] at hroom
      have hroom' : i + 2 ≤ r.size := by have : nl.length = 2 := rfl; omega
      rw [cut_hit hi] at hC
      obtain ⟨A, hA⟩ : ∃ A : ByteArray, A = ⟨(r.data.toList.take i).toArray⟩ := ⟨_, rfl⟩
      obtain ⟨B, hB⟩ : ∃ B : ByteArray, B = ⟨(r.data.toList.drop (i + 2)).toArray⟩ := ⟨_, rfl⟩
      have hAl : A.data.toList = r.data.toList.take i := by rw [hA]
      have hBl : B.data.toList = r.data.toList.drop (i + 2) := by rw [hB]
      have hAs : A.size = i := by rw [Lib.size_eq, hAl, List.length_take, ← Lib.size_eq]; omega
      have hBs : B.size = r.size - (i + 2) := by rw [Lib.size_eq, hBl, List.length_drop, ← Lib.size_eq]
      rw [← hA, ← hB] at hC
      have hz := mok_zero hi
      rw [← hAl, ← hBl] at hz
      have hline : lineOK A.data.toList = decide (good A.data.toList = true ∧ i ≤ 998) := by
        rw [lineOK, ← Lib.size_eq, hAs]
        cases good A.data.toList <;> simp
      rw [← hline] at hz
      have HZ : Hid (R = (lineOK A.data.toList && mok 0 B.data.toList)) := (show R = _ by rw [HM.out]; exact hz)
      have HC : Hid (Calls Tryd.prog 34 #[.string r, .string ⟨#[13, 10]⟩] (w.drewN n) fun e w' => e = .returned (.tuple #[.string A, .string B, .bool true]) ∧ ∃ q, w' = (w.drewN n).drewN q) := hC
      have hAm : A.size ≤ maxLen := by unfold maxLen; omega
      clear hC hi hA hB hAl hBl hz hline h0
      cases hLO : lineOK A.data.toList with
      | false =>
        have HE : Hid (R = false) := (show R = false by rw [HZ.out, hLO]; rfl)
        have HLI : Hid (∀ W, Calls Tryd.prog 73 #[.string A] W fun e w' => e = .returned (.bool false) ∧ w' = W) := fun W => by have := line_any A W hAm; rwa [hLO] at this
        clear hLO
        go_wp2_with fail
        refine HC.out.mono ?_
        rintro e w1 ⟨rfl, q, rfl⟩
        go_wp2_with (go_at_call 73; refine (HLI.out _).mono ?_; rintro e w' ⟨rfl, rfl⟩)
        go_ret
        exact ⟨by rw [HE.out]; rfl, n + q, by first | rfl | exact drewN_add _ _ _⟩
      | true =>
        have HE : Hid (R = mok 0 B.data.toList) := (show R = _ by rw [HZ.out, hLO]; rfl)
        have HLI : Hid (∀ W, Calls Tryd.prog 73 #[.string A] W fun e w' => e = .returned (.bool true) ∧ w' = W) := fun W => by have := line_any A W hAm; rwa [hLO] at this
        clear hLO
        go_wp2_with fail
        refine HC.out.mono ?_
        rintro e w1 ⟨rfl, q, rfl⟩
        go_wp2_with (go_at_call 73; refine (HLI.out _).mono ?_; rintro e w' ⟨rfl, rfl⟩)
        go_roundw
        case rel => exact ⟨B, n + q, rfl, by omega, by first | rfl | exact drewN_add _ _ _, HE.out⟩
        case measure => simp; omega
end Go.Proofs.YtejmfffapkmjoaaDoor.ml
