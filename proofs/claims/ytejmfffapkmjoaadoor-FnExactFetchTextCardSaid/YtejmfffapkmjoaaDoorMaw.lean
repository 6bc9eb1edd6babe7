/-
  Contracts of both MailOK functions: whether a text is lines of a mail.
-/
import Derived.Test.YtejmfffapkmjoaaDoorMal
import Derived.Test.YtejmfffapkmjoaaDoorShf
import Derived.Test.YtejmfffapkmjoaaDoorRows
import Derived.Lib.Strings
import Derived.Below
import Derived.WalkKit
import Derived.WalkLawsBesides
namespace Go.Proofs.YtejmfffapkmjoaaDoor.ml
open Go.RowKit
set_option linter.unusedVariables false

theorem take_snoc (s : ByteArray) (k : Nat) (h : k < s.size) : s.data.toList.take (k + 1) = s.data.toList.take k ++ [s[k]] := by
  rw [List.take_succ_eq_append_getElem (by simpa using h)]; rfl
theorem take_all (s : ByteArray) (k : Nat) (h : s.size ≤ k) : s.data.toList.take k = s.data.toList := List.take_of_length_le (by rw [← Lib.size_eq]; exact h)
theorem drop_at (s : ByteArray) (i : Nat) (h : i < s.size) : s.data.toList.drop i = s[i] :: s.data.toList.drop (i + 1) := by
  rw [List.drop_eq_getElem_cons (by simpa using h)]
  rfl
theorem drop_end (s : ByteArray) (i : Nat) (h : s.size ≤ i) : s.data.toList.drop i = [] := List.drop_eq_nil_of_le (by rw [← Lib.size_eq]; exact h)
theorem is_byte {c : UInt8} {n : Nat} (hn : n < 256) (h : (c.toNat : Int) = n) : c = UInt8.ofNat n := by
  rw [← UInt8.toNat_inj, UInt8.toNat_ofNat']; omega
theorem bad_iff (c : UInt8) : bad c = true ↔ ((c.toNat : Int) = 0 ∨ 127 < (c.toNat : Int) ∨ (c.toNat : Int) = 13 ∨ (c.toNat : Int) = 10) := by
  unfold bad
  simp only [Bool.or_eq_true, beq_iff_eq, decide_eq_true_iff, ← UInt8.toNat_inj]
  show ((c.toNat = 0 ∨ 127 < c.toNat) ∨ c.toNat = 13) ∨ c.toNat = 10 ↔ _
  omega
theorem bad_no {c : UInt8} (h : ¬ bad c = true) : bad c = false := by simpa using h
theorem good_step {s : ByteArray} {k : Nat} (hk : k < s.size) (h : good (s.data.toList.take k) = true) (hc : bad s[k] = false) : good (s.data.toList.take (k + 1)) = true := by
  rw [take_snoc s k hk, good_iff]
  intro c hm
  rcases List.mem_append.1 hm with e | e
  · exact good_iff.1 h c e
  · rw [List.mem_singleton] at e
    rw [e]; exact hc
theorem not_good {s : ByteArray} {k : Nat} (hk : k < s.size) (hc : bad s[k] = true) : good s.data.toList = false := by
  rw [Bool.eq_false_iff]
  intro h
  have := good_iff.1 h s[k] (by show s.data[k] ∈ _; exact Array.getElem_mem_toList _)
  rw [this] at hc
  cases hc

def lineOK (l : List UInt8) : Bool := good l && decide (l.length ≤ 998)
set_option maxHeartbeats 1000000 in
theorem line_any (s : ByteArray) (w : World) (hs : s.size ≤ maxLen) :
    Calls Tryd.prog 73 #[.string s] w fun e w' => e = .returned (.bool (lineOK s.data.toList)) ∧ w' = w := by
  unfold maxLen at hs
  go_enter Tryd.func73, Tryd.ntmps73
  go_wp2
  go_loop [7] (fun i => ∃ k : Nat, k ≤ s.size ∧ i = .int .i64 k ∧ good (s.data.toList.take k) = true) (fun i => s.size - (intOf i).toNat)
  case atStart => exact ⟨0, Nat.zero_le _, rfl, rfl⟩
  case round =>
    obtain ⟨k, hk, rfl, hg⟩ := hrel
    have HG : Hid (good (s.data.toList.take k) = true) := hg
    clear hg
    by_cases hlt : k < s.size
    · by_cases hbad : bad s[k] = true
      · have HF : Hid (lineOK s.data.toList = false) := (show lineOK s.data.toList = false by rw [lineOK, not_good hlt hbad]; rfl)
        have hb := (bad_iff _).1 hbad
        clear hbad
        have HB : Hid (((s[k]'hlt).toNat : Int) = 0 ∨ 127 < ((s[k]'hlt).toNat : Int) ∨ ((s[k]'hlt).toNat : Int) = 13 ∨ ((s[k]'hlt).toNat : Int) = 10) := hb
        clear hb
        by_cases c1 : ((s[k]'hlt).toNat : Int) = 0
        · have d1 : (((s[k]'hlt).toNat : Int) == 0) = true := beq_iff_eq.2 c1
          clear c1
          go_wp2
          go_ret
          exact ⟨by rw [HF.out]; rfl, rfl⟩
        have d1 : (((s[k]'hlt).toNat : Int) == 0) = false := beq_eq_false_iff_ne.2 c1
        by_cases c2 : 127 < ((s[k]'hlt).toNat : Int)
        · have d2 : decide (127 < ((s[k]'hlt).toNat : Int)) = true := decide_eq_true c2
          go_wp2
          go_ret
          exact ⟨by rw [HF.out]; rfl, rfl⟩
        have d2 : decide (127 < ((s[k]'hlt).toNat : Int)) = false := decide_eq_false c2
        by_cases c3 : ((s[k]'hlt).toNat : Int) = 13
        · have d3 : (((s[k]'hlt).toNat : Int) == 13) = true := beq_iff_eq.2 c3
          clear c3 c1 c2
          go_wp2
          go_ret
          exact ⟨by rw [HF.out]; rfl, rfl⟩
        have d3 : (((s[k]'hlt).toNat : Int) == 13) = false := beq_eq_false_iff_ne.2 c3
        have c4 : ((s[k]'hlt).toNat : Int) = 10 := by have := HB.out; omega
        have d4 : (((s[k]'hlt).toNat : Int) == 10) = true := beq_iff_eq.2 c4
        clear c4 c3 c1 c2 HB
        go_wp2
        go_ret
        exact ⟨by rw [HF.out]; rfl, rfl⟩
      · have hg := bad_no hbad
        have hb : ¬ (((s[k]'hlt).toNat : Int) = 0 ∨ 127 < ((s[k]'hlt).toNat : Int) ∨ ((s[k]'hlt).toNat : Int) = 13 ∨ ((s[k]'hlt).toNat : Int) = 10) := fun h => hbad ((bad_iff _).2 h)
        have HN : Hid (bad (s[k]'hlt) = false) := hg
        have d1 : (((s[k]'hlt).toNat : Int) == 0) = false := beq_eq_false_iff_ne.2 (by omega)
        have d2 : decide (127 < ((s[k]'hlt).toNat : Int)) = false := decide_eq_false (by omega)
        have d3 : (((s[k]'hlt).toNat : Int) == 13) = false := beq_eq_false_iff_ne.2 (by omega)
        have d4 : (((s[k]'hlt).toNat : Int) == 10) = false := beq_eq_false_iff_ne.2 (by omega)
        clear hb hbad hg
        go_wp2
        go_round
        case rel => exact ⟨k + 1, by omega, by go_num, good_step hlt HG.out HN.out⟩
        case measure => simp [intOf]; omega
    · have hg : good s.data.toList = true := by have := HG.out; rwa [take_all s k (by omega)] at this
      have HE : Hid (lineOK s.data.toList = decide ((s.size : Int) ≤ 998)) := (show lineOK s.data.toList = decide ((s.size : Int) ≤ 998) by
        rw [lineOK, hg, Bool.true_and, ← Lib.size_eq]
        apply decide_eq_decide.2
        omega)
      clear hg
      go_wp2
      go_ret
      exact ⟨by rw [HE.out]; rfl, rfl⟩

set_option maxHeartbeats 2000000 in
theorem spec_mok (s : ByteArray) (w : World) (hs : s.size ≤ maxLen) :
    Calls Tryd.prog 44 #[.string s] w fun e w' => e = .returned (.bool (decide (s.size ≤ 65536) && mok 0 s.data.toList)) ∧ w' = w := by
  unfold maxLen at hs
  by_cases hl : s.size ≤ 65536
  case neg =>
    have hl' : (65536 : Int) < (s.size : Int) := by omega
    rw [decide_eq_false hl, Bool.false_and]
    go_enter Tryd.func44, Tryd.ntmps44
    go_wp2
    go_ret
    exact ⟨rfl, rfl⟩
  have hl' : (s.size : Int) ≤ 65536 := by omega
  rw [decide_eq_true hl, Bool.true_and]
  obtain ⟨R, hR⟩ : ∃ R, R = mok 0 s.data.toList := ⟨_, rfl⟩
  rw [← hR]
  have HR : Hid (R = mok 0 s.data.toList) := hR
  clear hR
  go_enter Tryd.func44, Tryd.ntmps44
  go_wp2
  go_loop [3, 4] (fun q i => ∃ k n : Nat, k ≤ s.size ∧ n ≤ 998 ∧ i = .int .i64 k ∧ q = .int .i64 n ∧ R = mok n (s.data.toList.drop k)) (fun _ i => s.size - (intOf i).toNat)
  case atStart => exact ⟨0, 0, Nat.zero_le _, by omega, rfl, rfl, by rw [List.drop_zero]; exact HR.out⟩
  case round =>
    obtain ⟨k, n, hk, hn, rfl, rfl, hm⟩ := hrel
    have HM : Hid (R = mok n (s.data.toList.drop k)) := hm
    clear hm
    by_cases hlt : k < s.size
    · have hdk := drop_at s k hlt
      by_cases c1 : ((s[k]'hlt).toNat : Int) = 13
      · have d1 : (((s[k]'hlt).toNat : Int) == 13) = true := beq_iff_eq.2 c1
        by_cases hlt2 : k + 1 < s.size
        · have hlt2' : (k : Int) + 1 < (s.size : Int) := by omega
          have hdk2 := drop_at s (k + 1) hlt2
          by_cases c2 : ((s[k + 1]'hlt2).toNat : Int) = 10
          · have d2 : (((s[k + 1]'hlt2).toNat : Int) == 10) = true := beq_iff_eq.2 c2
            have HE : Hid (R = mok 0 (s.data.toList.drop (k + 1 + 1))) := (show R = _ by
              rw [HM.out, hdk, hdk2, is_byte (n := 13) (by decide) c1, is_byte (n := 10) (by decide) c2]
              exact mok_end _ _)
            clear c1 c2 hdk hdk2
            go_wp2
            go_round
            case rel => exact ⟨k + 1 + 1, 0, by omega, by omega, by go_num, rfl, HE.out⟩
            case measure => simp [intOf]; omega
          · have d2 : (((s[k + 1]'hlt2).toNat : Int) == 10) = false := beq_eq_false_iff_ne.2 c2
            have HE : Hid (R = false) := (show R = _ by
              rw [HM.out, hdk]
              refine mok_bad ?_ (.inl ((bad_iff _).2 (by omega)))
              rw [hdk2]
              rintro ⟨_, h⟩
              rw [List.head?_cons, Option.some.injEq] at h
              rw [h] at c2
              exact c2 rfl)
            clear c1 c2 hdk hdk2
            go_wp2
            go_ret
            exact ⟨by rw [HE.out]; rfl, rfl⟩
        · have hlt2' : ¬ (k : Int) + 1 < (s.size : Int) := by omega
          have HE : Hid (R = false) := (show R = _ by
            rw [HM.out, hdk]
            refine mok_bad ?_ (.inl ((bad_iff _).2 (by omega)))
            rw [drop_end s (k + 1) (by omega)]
            rintro ⟨_, h⟩
            cases h)
          clear c1 hdk
          go_wp2
          go_ret
          exact ⟨by rw [HE.out]; rfl, rfl⟩
      · have d1 : (((s[k]'hlt).toNat : Int) == 13) = false := beq_eq_false_iff_ne.2 c1
        have hno : ¬ (s[k]'hlt = 13 ∧ (s.data.toList.drop (k + 1)).head? = some 10) := by
          rintro ⟨h, _⟩
          rw [h] at c1
          exact c1 rfl
        by_cases hbad : bad s[k] = true ∨ 998 < n + 1
        · have HE : Hid (R = false) := (show R = _ by rw [HM.out, hdk]; exact mok_bad hno hbad)
          clear hdk hno
          have HB : Hid (((s[k]'hlt).toNat : Int) = 0 ∨ 127 < ((s[k]'hlt).toNat : Int) ∨ ((s[k]'hlt).toNat : Int) = 13 ∨ ((s[k]'hlt).toNat : Int) = 10 ∨ 998 < (n : Int) + 1) := (show _ ∨ _ by
            rcases hbad with h | h
            · have := (bad_iff _).1 h; omega
            · omega)
          clear hbad
          by_cases c2 : ((s[k]'hlt).toNat : Int) = 10
          · have d2 : (((s[k]'hlt).toNat : Int) == 10) = true := beq_iff_eq.2 c2
            clear c1 c2
            go_wp2
            go_ret
            exact ⟨by rw [HE.out]; rfl, rfl⟩
          have d2 : (((s[k]'hlt).toNat : Int) == 10) = false := beq_eq_false_iff_ne.2 c2
          by_cases c3 : ((s[k]'hlt).toNat : Int) = 0
          · have d3 : (((s[k]'hlt).toNat : Int) == 0) = true := beq_iff_eq.2 c3
            clear c1 c2 c3
            go_wp2
            go_ret
            exact ⟨by rw [HE.out]; rfl, rfl⟩
          have d3 : (((s[k]'hlt).toNat : Int) == 0) = false := beq_eq_false_iff_ne.2 c3
          by_cases c4 : 127 < ((s[k]'hlt).toNat : Int)
          · have d4 : decide (127 < ((s[k]'hlt).toNat : Int)) = true := decide_eq_true c4
            clear c1 c2 c3
            go_wp2
            go_ret
            exact ⟨by rw [HE.out]; rfl, rfl⟩
          have d4 : decide (127 < ((s[k]'hlt).toNat : Int)) = false := decide_eq_false c4
          have c5 : 998 < (n : Int) + 1 := by have := HB.out; omega
          have d5 : decide (998 < (n : Int) + 1) = true := decide_eq_true c5
          clear c1 c2 c3 HB
          go_wp2
          go_ret
          exact ⟨by rw [HE.out]; rfl, rfl⟩
        · have hb : bad s[k] = false := bad_no (fun h => hbad (.inl h))
          have hn1 : n + 1 ≤ 998 := by omega
          have HE : Hid (R = mok (n + 1) (s.data.toList.drop (k + 1))) := (show R = _ by rw [HM.out, hdk]; exact mok_good hno hb hn1)
          have hq : ¬ (((s[k]'hlt).toNat : Int) = 0 ∨ 127 < ((s[k]'hlt).toNat : Int) ∨ ((s[k]'hlt).toNat : Int) = 13 ∨ ((s[k]'hlt).toNat : Int) = 10) := fun h => hbad (.inl ((bad_iff _).2 h))
          have d2 : (((s[k]'hlt).toNat : Int) == 10) = false := beq_eq_false_iff_ne.2 (by omega)
          have d3 : (((s[k]'hlt).toNat : Int) == 0) = false := beq_eq_false_iff_ne.2 (by omega)
          have d4 : decide (127 < ((s[k]'hlt).toNat : Int)) = false := decide_eq_false (by omega)
          have d5 : decide (998 < (n : Int) + 1) = false := decide_eq_false (by omega)
          clear hdk hno hbad hb hq c1
          go_wp2
          go_round
          case rel => exact ⟨k + 1, n + 1, by omega, hn1, by go_num, by go_num, HE.out⟩
          case measure => simp [intOf]; omega
    · have HE : Hid (R = ((n : Int) == 0)) := (show R = _ by
        rw [HM.out, drop_end s k (by omega), mok, Bool.eq_iff_iff, beq_iff_eq, beq_iff_eq]
        omega)
      go_wp2
      go_ret
      exact ⟨by rw [HE.out]; rfl, rfl⟩
end Go.Proofs.YtejmfffapkmjoaaDoor.ml
