/-
  Contracts of both MailOK functions: whether a text is lines of a mail.
  The contract of the program's MailOK.
  The contract of the program's fieldSize: how many bytes the first field of a header has.
  Plain facts on a field's value: which texts are safe there, and its words.
-/
import Derived.Test.YtbokolpjdaamiaaGreatDoorPkaa
import Derived.Test.YtbokolpjdaamiaaGreatDoorPkab
import Derived.Test.YtbokolpjdaamiaaGreatDoorRows
import Derived.Lib.Strings
import Derived.Below
import Derived.WalkKit
import Derived.WalkLawsBesides
import Derived.Lib.Fields
import Derived.Lib.FieldsLaws

namespace Go.Proofs.YtbokolpjdaamiaaGreatDoor.ml
open Go.RowKit
set_option linter.unusedVariables false

theorem take_snoc (s : ByteArray) (k : Nat) (h : k < s.size) : s.data.toList.take (k + 1) = s.data.toList.take k ++ [s[k]] := by
  rw [List.take_succ_eq_append_getElem (by simpa using h)]; rfl
theorem take_all (s : ByteArray) (k : Nat) (h : s.size ≤ k) : s.data.toList.take k = s.data.toList := List.take_of_length_le (by rw [← Lib.size_eq]; exact h)
theorem drop_at (s : ByteArray) (i : Nat) (h : i < s.size) : s.data.toList.drop i = s[i] :: s.data.toList.drop (i + 1) := by
  rw [List.drop_eq_getElem_cons (by simpa using h)]
  rfl
theorem drop_end (s : ByteArray) (i : Nat) (h : s.size ≤ i) : s.data.toList.drop i = [] := List.drop_eq_nil_of_le (by rw [← Lib.size_eq]; exact h)
theorem is_byte {c : UInt8} {n : Nat} (hn : n < 256) (h : (c.toNat : Int) = n) : c = UInt8.ofNat n := by
  rw [← UInt8.toNat_inj, UInt8.toNat_ofNat']; omega
theorem bad_iff (c : UInt8) : bad c = true ↔ ((c.toNat : Int) = 0 ∨ 127 < (c.toNat : Int) ∨ (c.toNat : Int) = 13 ∨ (c.toNat : Int) = 10) := by
  unfold bad
  simp only [Bool.or_eq_true, beq_iff_eq, decide_eq_true_iff, ← UInt8.toNat_inj]
  show ((c.toNat = 0 ∨ 127 < c.toNat) ∨ c.toNat = 13) ∨ c.toNat = 10 ↔ _
  omega
theorem bad_no {c : UInt8} (h : ¬ bad c = true) : bad c = false := by simpa using h
theorem good_step {s : ByteArray} {k : Nat} (hk : k < s.size) (h : good (s.data.toList.take k) = true) (hc : bad s[k] = false) : good (s.data.toList.take (k + 1)) = true := by
  rw [take_snoc s k hk, good_iff]
  intro c hm
  rcases List.mem_append.1 hm with e | e
  · exact good_iff.1 h c e
  · rw [List.mem_singleton] at e
    rw [e]; exact hc
theorem not_good {s : ByteArray} {k : Nat} (hk : k < s.size) (hc : bad s[k] = true) : good s.data.toList = false := by
  rw [Bool.eq_false_iff]
  intro h
  have := good_iff.1 h s[k] (by show s.data[k] ∈ _; exact Array.getElem_mem_toList _)
  rw [this] at hc
  cases hc

def lineOK (l : List UInt8) : Bool := good l && decide (l.length ≤ 998)
set_option maxHeartbeats 1000000 in
theorem line_any (s : ByteArray) (w : World) (hs : s.size ≤ maxLen) :
    Calls Tryz.prog 108 #[.string s] w fun e w' => e = .returned (.bool (lineOK s.data.toList)) ∧ w' = w := by
  unfold maxLen at hs
  go_enter Tryz.func108, Tryz.ntmps108
  go_wp2
  go_loop [7] (fun i => ∃ k : Nat, k ≤ s.size ∧ i = .int .i64 k ∧ good (s.data.toList.take k) = true) (fun i => s.size - (intOf i).toNat)
  case atStart => exact ⟨0, Nat.zero_le _, rfl, rfl⟩
  case round =>
    obtain ⟨k, hk, rfl, hg⟩ := hrel
    have HG : Hid (good (s.data.toList.take k) = true) := hg
    clear hg
    by_cases hlt : k < s.size
    · by_cases hbad : bad s[k] = true
      · have HF : Hid (lineOK s.data.toList = false) := (show lineOK s.data.toList = false by rw [lineOK, not_good hlt hbad]; rfl)
        have hb := (bad_iff _).1 hbad
        clear hbad
        have HB : Hid (((s[k]'hlt).toNat : Int) = 0 ∨ 127 < ((s[k]'hlt).toNat : Int) ∨ ((s[k]'hlt).toNat : Int) = 13 ∨ ((s[k]'hlt).toNat : Int) = 10) := hb
        clear hb
        by_cases c1 : ((s[k]'hlt).toNat : Int) = 0
        · have d1 : (((s[k]'hlt).toNat : Int) == 0) = true := beq_iff_eq.2 c1
          clear c1
          go_wp2
          go_ret
          exact ⟨by rw [HF.out]; rfl, rfl⟩
        have d1 : (((s[k]'hlt).toNat : Int) == 0) = false := beq_eq_false_iff_ne.2 c1
        by_cases c2 : 127 < ((s[k]'hlt).toNat : Int)
        · have d2 : decide (127 < ((s[k]'hlt).toNat : Int)) = true := decide_eq_true c2
          go_wp2
          go_ret
          exact ⟨by rw [HF.out]; rfl, rfl⟩
        have d2 : decide (127 < ((s[k]'hlt).toNat : Int)) = false := decide_eq_false c2
        by_cases c3 : ((s[k]'hlt).toNat : Int) = 13
        · have d3 : (((s[k]'hlt).toNat : Int) == 13) = true := beq_iff_eq.2 c3
          clear c3 c1 c2
          go_wp2
          go_ret
          exact ⟨by rw [HF.out]; rfl, rfl⟩
        have d3 : (((s[k]'hlt).toNat : Int) == 13) = false := beq_eq_false_iff_ne.2 c3
        have c4 : ((s[k]'hlt).toNat : Int) = 10 := by have := HB.out; omega
        have d4 : (((s[k]'hlt).toNat : Int) == 10) = true := beq_iff_eq.2 c4
        clear c4 c3 c1 c2 HB
        go_wp2
        go_ret
        exact ⟨by rw [HF.out]; rfl, rfl⟩
      · have hg := bad_no hbad
        have hb : ¬ (((s[k]'hlt).toNat : Int) = 0 ∨ 127 < ((s[k]'hlt).toNat : Int) ∨ ((s[k]'hlt).toNat : Int) = 13 ∨ ((s[k]'hlt).toNat : Int) = 10) := fun h => hbad ((bad_iff _).2 h)
        have HN : Hid (bad (s[k]'hlt) = false) := hg
        have d1 : (((s[k]'hlt).toNat : Int) == 0) = false := beq_eq_false_iff_ne.2 (by omega)
        have d2 : decide (127 < ((s[k]'hlt).toNat : Int)) = false := decide_eq_false (by omega)
        have d3 : (((s[k]'hlt).toNat : Int) == 13) = false := beq_eq_false_iff_ne.2 (by omega)
        have d4 : (((s[k]'hlt).toNat : Int) == 10) = false := beq_eq_false_iff_ne.2 (by omega)
        clear hb hbad hg
        go_wp2
        go_round
        case rel => exact ⟨k + 1, by omega, by go_num, good_step hlt HG.out HN.out⟩
        case measure => simp [intOf]; omega
    · have hg : good s.data.toList = true := by have := HG.out; rwa [take_all s k (by omega)] at this
      have HE : Hid (lineOK s.data.toList = decide ((s.size : Int) ≤ 998)) := (show lineOK s.data.toList = decide ((s.size : Int) ≤ 998) by
        rw [lineOK, hg, Bool.true_and, ← Lib.size_eq]
        apply decide_eq_decide.2
        omega)
      clear hg
      go_wp2
      go_ret
      exact ⟨by rw [HE.out]; rfl, rfl⟩

set_option maxHeartbeats 2000000 in
theorem spec_mok (s : ByteArray) (w : World) (hs : s.size ≤ maxLen) :
    Calls Tryz.prog 88 #[.string s] w fun e w' => e = .returned (.bool (decide (s.size ≤ 65536) && mok 0 s.data.toList)) ∧ w' = w := by
  unfold maxLen at hs
  by_cases hl : s.size ≤ 65536
  case neg =>
    have hl' : (65536 : Int) < (s.size : Int) := by omega
    rw [decide_eq_false hl, Bool.false_and]
    go_enter Tryz.func88, Tryz.ntmps88
    go_wp2
    go_ret
    exact ⟨rfl, rfl⟩
  have hl' : (s.size : Int) ≤ 65536 := by omega
  rw [decide_eq_true hl, Bool.true_and]
  obtain ⟨R, hR⟩ : ∃ R, R = mok 0 s.data.toList := ⟨_, rfl⟩
  rw [← hR]
  have HR : Hid (R = mok 0 s.data.toList) := hR
  clear hR
  go_enter Tryz.func88, Tryz.ntmps88
  go_wp2
  go_loop [3, 4] (fun q i => ∃ k n : Nat, k ≤ s.size ∧ n ≤ 998 ∧ i = .int .i64 k ∧ q = .int .i64 n ∧ R = mok n (s.data.toList.drop k)) (fun _ i => s.size - (intOf i).toNat)
  case atStart => exact ⟨0, 0, Nat.zero_le _, by omega, rfl, rfl, by rw [List.drop_zero]; exact HR.out⟩
  case round =>
    obtain ⟨k, n, hk, hn, rfl, rfl, hm⟩ := hrel
    have HM : Hid (R = mok n (s.data.toList.drop k)) := hm
    clear hm
    by_cases hlt : k < s.size
    · have hdk := drop_at s k hlt
      by_cases c1 : ((s[k]'hlt).toNat : Int) = 13
      · have d1 : (((s[k]'hlt).toNat : Int) == 13) = true := beq_iff_eq.2 c1
        by_cases hlt2 : k + 1 < s.size
        · have hlt2' : (k : Int) + 1 < (s.size : Int) := by omega
          have hdk2 := drop_at s (k + 1) hlt2
          by_cases c2 : ((s[k + 1]'hlt2).toNat : Int) = 10
          · have d2 : (((s[k + 1]'hlt2).toNat : Int) == 10) = true := beq_iff_eq.2 c2
            have HE : Hid (R = mok 0 (s.data.toList.drop (k + 1 + 1))) := (show R = _ by
              rw [HM.out, hdk, hdk2, is_byte (n := 13) (by decide) c1, is_byte (n := 10) (by decide) c2]
              exact mok_end _ _)
            clear c1 c2 hdk hdk2
            go_wp2
            go_round
            case rel => exact ⟨k + 1 + 1, 0, by omega, by omega, by go_num, rfl, HE.out⟩
            case measure => simp [intOf]; omega
          · have d2 : (((s[k + 1]'hlt2).toNat : Int) == 10) = false := beq_eq_false_iff_ne.2 c2
            have HE : Hid (R = false) := (show R = _ by
              rw [HM.out, hdk]
              refine mok_bad ?_ (.inl ((bad_iff _).2 (by omega)))
              rw [hdk2]
              rintro ⟨_, h⟩
              rw [List.head?_cons, Option.some.injEq] at h
              rw [h] at c2
              exact c2 rfl)
            clear c1 c2 hdk hdk2
            go_wp2
            go_ret
            exact ⟨by rw [HE.out]; rfl, rfl⟩
        · have hlt2' : ¬ (k : Int) + 1 < (s.size : Int) := by omega
          have HE : Hid (R = false) := (show R = _ by
            rw [HM.out, hdk]
            refine mok_bad ?_ (.inl ((bad_iff _).2 (by omega)))
            rw [drop_end s (k + 1) (by omega)]
            rintro ⟨_, h⟩
            cases h)
          clear c1 hdk
          go_wp2
          go_ret
          exact ⟨by rw [HE.out]; rfl, rfl⟩
      · have d1 : (((s[k]'hlt).toNat : Int) == 13) = false := beq_eq_false_iff_ne.2 c1
        have hno : ¬ (s[k]'hlt = 13 ∧ (s.data.toList.drop (k + 1)).head? = some 10) := by
          rintro ⟨h, _⟩
          rw [h] at c1
          exact c1 rfl
        by_cases hbad : bad s[k] = true ∨ 998 < n + 1
        · have HE : Hid (R = false) := (show R = _ by rw [HM.out, hdk]; exact mok_bad hno hbad)
          clear hdk hno
          have HB : Hid (((s[k]'hlt).toNat : Int) = 0 ∨ 127 < ((s[k]'hlt).toNat : Int) ∨ ((s[k]'hlt).toNat : Int) = 13 ∨ ((s[k]'hlt).toNat : Int) = 10 ∨ 998 < (n : Int) + 1) := (show _ ∨ _ by
            rcases hbad with h | h
            · have := (bad_iff _).1 h; omega
            · omega)
          clear hbad
          by_cases c2 : ((s[k]'hlt).toNat : Int) = 10
          · have d2 : (((s[k]'hlt).toNat : Int) == 10) = true := beq_iff_eq.2 c2
            clear c1 c2
            go_wp2
            go_ret
            exact ⟨by rw [HE.out]; rfl, rfl⟩
          have d2 : (((s[k]'hlt).toNat : Int) == 10) = false := beq_eq_false_iff_ne.2 c2
          by_cases c3 : ((s[k]'hlt).toNat : Int) = 0
          · have d3 : (((s[k]'hlt).toNat : Int) == 0) = true := beq_iff_eq.2 c3
            clear c1 c2 c3
            go_wp2
            go_ret
            exact ⟨by rw [HE.out]; rfl, rfl⟩
          have d3 : (((s[k]'hlt).toNat : Int) == 0) = false := beq_eq_false_iff_ne.2 c3
          by_cases c4 : 127 < ((s[k]'hlt).toNat : Int)
          · have d4 : decide (127 < ((s[k]'hlt).toNat : Int)) = true := decide_eq_true c4
            clear c1 c2 c3
            go_wp2
            go_ret
            exact ⟨by rw [HE.out]; rfl, rfl⟩
          have d4 : decide (127 < ((s[k]'hlt).toNat : Int)) = false := decide_eq_false c4
          have c5 : 998 < (n : Int) + 1 := by have := HB.out; omega
          have d5 : decide (998 < (n : Int) + 1) = true := decide_eq_true c5
          clear c1 c2 c3 HB
          go_wp2
          go_ret
          exact ⟨by rw [HE.out]; rfl, rfl⟩
        · have hb : bad s[k] = false := bad_no (fun h => hbad (.inl h))
          have hn1 : n + 1 ≤ 998 := by omega
          have HE : Hid (R = mok (n + 1) (s.data.toList.drop (k + 1))) := (show R = _ by rw [HM.out, hdk]; exact mok_good hno hb hn1)
          have hq : ¬ (((s[k]'hlt).toNat : Int) = 0 ∨ 127 < ((s[k]'hlt).toNat : Int) ∨ ((s[k]'hlt).toNat : Int) = 13 ∨ ((s[k]'hlt).toNat : Int) = 10) := fun h => hbad (.inl ((bad_iff _).2 h))
          have d2 : (((s[k]'hlt).toNat : Int) == 10) = false := beq_eq_false_iff_ne.2 (by omega)
          have d3 : (((s[k]'hlt).toNat : Int) == 0) = false := beq_eq_false_iff_ne.2 (by omega)
          have d4 : decide (127 < ((s[k]'hlt).toNat : Int)) = false := decide_eq_false (by omega)
          have d5 : decide (998 < (n : Int) + 1) = false := decide_eq_false (by omega)
          clear hdk hno hbad hb hq c1
          go_wp2
          go_round
          case rel => exact ⟨k + 1, n + 1, by omega, hn1, by go_num, by go_num, HE.out⟩
          case measure => simp [intOf]; omega
    · have HE : Hid (R = ((n : Int) == 0)) := (show R = _ by
        rw [HM.out, drop_end s k (by omega), mok, Bool.eq_iff_iff, beq_iff_eq, beq_iff_eq]
        omega)
      go_wp2
      go_ret
      exact ⟨by rw [HE.out]; rfl, rfl⟩
end Go.Proofs.YtbokolpjdaamiaaGreatDoor.ml

namespace Go.Proofs.YtbokolpjdaamiaaGreatDoor.ml
open Go.RowKit
set_option linter.unusedVariables false

theorem mk_list (r : ByteArray) : r = ⟨r.data.toList.toArray⟩ := by cases r; simp
theorem mk_size (l : List UInt8) : (⟨l.toArray⟩ : ByteArray).size = l.length := by rw [Lib.size_eq]
theorem isEmpty_no {l : List UInt8} (h : l ≠ []) : l.isEmpty = false := by cases l; exact absurd rfl h; rfl
theorem cut_hit {l : List UInt8} {i : Nat} (h : Lib.index l nl = i) : Lib.cut l nl = (l.take i, l.drop (i + 2), true) := by
  unfold Lib.cut
  rw [if_pos (by rw [h]; omega), h]
  rfl
theorem cut_miss {l : List UInt8} (h : Lib.index l nl = -1) : Lib.cut l nl = (l, [], false) := by
  unfold Lib.cut
  rw [if_neg (by rw [h]; decide)]
theorem drewN_add (w : World) (a b : Nat) : (w.drewN a).drewN b = w.drewN (a + b) := by simp

set_option maxHeartbeats 2000000 in
set_option maxRecDepth 100000 in
theorem impl_mok (s : ByteArray) (w : World) (m : Int) (hm : w.cell? ⟨1, 0, none⟩ = some (.int .i64 m)) (hs : s.size ≤ 1048576) :
    Calls Tryz.prog 93 #[.string s] w fun e w' => e = .returned (.bool (decide (s.size ≤ 65536) && mok 0 s.data.toList)) ∧ ∃ n, w' = w.drewN n := by
  by_cases hl : s.size ≤ 65536
  case neg =>
    have hl' : (65536 : Int) < (s.size : Int) := by omega
    rw [decide_eq_false hl, Bool.false_and]
    clear hm
    go_enter Tryz.func93, Tryz.ntmps93
    go_wp2
    go_ret
    exact ⟨rfl, 0, rfl⟩
  have hl' : (s.size : Int) ≤ 65536 := by omega
  rw [decide_eq_true hl, Bool.true_and]
  obtain ⟨R, hR⟩ : ∃ R, R = mok 0 s.data.toList := ⟨_, rfl⟩
  rw [← hR]
  have HR : Hid (R = mok 0 s.data.toList) := hR
  have HMX : Hid (∀ n, (w.drewN n).cell? ⟨1, 0, none⟩ = some (.int .i64 m)) := fun n => hm
  clear hR hm
  go_enter Tryz.func93, Tryz.ntmps93
  go_wp2
  go_loopw [0] (fun t wr => ∃ (r : ByteArray) (n : Nat), t = .string r ∧ r.size ≤ 65536 ∧ wr = w.drewN n ∧ R = mok 0 r.data.toList) (fun t _ => (match t with | .string r => r.size | _ => 0))
  case atStart => exact ⟨s, 0, rfl, hl, rfl, HR.out⟩
  case round =>
    obtain ⟨r, n, rfl, hrl, rfl, hm⟩ := hrel
    have HM : Hid (R = mok 0 r.data.toList) := hm
    clear hm
    by_cases h0 : r.data.toList = []
    · have hr0 : r = ⟨#[]⟩ := by rw [mk_list r, h0]
      subst hr0
      have HE : Hid (R = true) := (show R = true by rw [HM.out]; rfl)
      go_wp2
      go_ret
      exact ⟨by rw [HE.out]; rfl, n, rfl⟩
    have he : r.toList.isEmpty = false := by rw [Lib.toList_data]; exact isEmpty_no h0
    have hC := (Tryz.strings_Cut r ⟨#[13, 10]⟩ m (w.drewN n) (by omega) (HMX.out n))
    rw [show (⟨#[13, 10]⟩ : ByteArray).data.toList = nl from rfl] at hC
    rcases Lib.index_spec r.data.toList nl with ⟨hi, _⟩ | ⟨i, hi, hil, _⟩
    · rw [cut_miss hi] at hC
      have HE : Hid (R = false) := (show R = false by rw [HM.out]; exact mok_none _ _ hi (.inr h0))
      have HC : Hid (Calls Tryz.prog 61 #[.string r, .string ⟨#[13, 10]⟩] (w.drewN n) fun e w' => e = .returned (.tuple #[.string r, .string ⟨#[]⟩, .bool false]) ∧ ∃ q, w' = (w.drewN n).drewN q) := (show Calls _ _ _ _ _ from hC.mono fun e w' ⟨h1, h2⟩ => ⟨by rw [h1, ← mk_list], h2⟩)
      clear hC hi h0
      go_wp2_with fail
      refine HC.out.mono ?_
      rintro e w1 ⟨rfl, q, rfl⟩
      go_wp2
      go_ret
      exact ⟨by rw [HE.out]; rfl, n + q, by first | rfl | exact drewN_add _ _ _⟩
    · have hroom := Lib.index_room r.data.toList nl (by rw [hi]; omega)
      rw [hi, ← Lib.size_eq] at hroom
      have hroom' : i + 2 ≤ r.size := by have : nl.length = 2 := rfl; omega
      rw [cut_hit hi] at hC
      obtain ⟨A, hA⟩ : ∃ A : ByteArray, A = ⟨(r.data.toList.take i).toArray⟩ := ⟨_, rfl⟩
      obtain ⟨B, hB⟩ : ∃ B : ByteArray, B = ⟨(r.data.toList.drop (i + 2)).toArray⟩ := ⟨_, rfl⟩
      have hAl : A.data.toList = r.data.toList.take i := by rw [hA]
      have hBl : B.data.toList = r.data.toList.drop (i + 2) := by rw [hB]
      have hAs : A.size = i := by rw [Lib.size_eq, hAl, List.length_take, ← Lib.size_eq]; omega
      have hBs : B.size = r.size - (i + 2) := by rw [Lib.size_eq, hBl, List.length_drop, ← Lib.size_eq]
      rw [← hA, ← hB] at hC
      have hz := mok_zero hi
      rw [← hAl, ← hBl] at hz
      have hline : lineOK A.data.toList = decide (good A.data.toList = true ∧ i ≤ 998) := by
        rw [lineOK, ← Lib.size_eq, hAs]
        cases good A.data.toList <;> simp
      rw [← hline] at hz
      have HZ : Hid (R = (lineOK A.data.toList && mok 0 B.data.toList)) := (show R = _ by rw [HM.out]; exact hz)
      have HC : Hid (Calls Tryz.prog 61 #[.string r, .string ⟨#[13, 10]⟩] (w.drewN n) fun e w' => e = .returned (.tuple #[.string A, .string B, .bool true]) ∧ ∃ q, w' = (w.drewN n).drewN q) := hC
      have hAm : A.size ≤ maxLen := by unfold maxLen; omega
      clear hC hi hA hB hAl hBl hz hline h0
      cases hLO : lineOK A.data.toList with
      | false =>
        have HE : Hid (R = false) := (show R = false by rw [HZ.out, hLO]; rfl)
        have HLI : Hid (∀ W, Calls Tryz.prog 108 #[.string A] W fun e w' => e = .returned (.bool false) ∧ w' = W) := fun W => by have := line_any A W hAm; rwa [hLO] at this
        clear hLO
        go_wp2_with fail
        refine HC.out.mono ?_
        rintro e w1 ⟨rfl, q, rfl⟩
        go_wp2_with (go_at_call 108; refine (HLI.out _).mono ?_; rintro e w' ⟨rfl, rfl⟩)
        go_ret
        exact ⟨by rw [HE.out]; rfl, n + q, by first | rfl | exact drewN_add _ _ _⟩
      | true =>
        have HE : Hid (R = mok 0 B.data.toList) := (show R = _ by rw [HZ.out, hLO]; rfl)
        have HLI : Hid (∀ W, Calls Tryz.prog 108 #[.string A] W fun e w' => e = .returned (.bool true) ∧ w' = W) := fun W => by have := line_any A W hAm; rwa [hLO] at this
        clear hLO
        go_wp2_with fail
        refine HC.out.mono ?_
        rintro e w1 ⟨rfl, q, rfl⟩
        go_wp2_with (go_at_call 108; refine (HLI.out _).mono ?_; rintro e w' ⟨rfl, rfl⟩)
        go_roundw
        case rel => exact ⟨B, n + q, rfl, by omega, by first | rfl | exact drewN_add _ _ _, HE.out⟩
        case measure => simp; omega
end Go.Proofs.YtbokolpjdaamiaaGreatDoor.ml

namespace Go.Proofs.YtbokolpjdaamiaaGreatDoor.ml
open Go.RowKit
set_option linter.unusedVariables false

theorem ext_list (s : ByteArray) (a b : Nat) : (s.extract a b).data.toList = (s.data.toList.drop a).take (b - a) := by rw [← Lib.toList_data, Lib.extract_toList]
theorem ext_tail (s : ByteArray) (a : Nat) : (s.extract a s.size).data.toList = s.data.toList.drop a := by
  rw [ext_list, List.take_of_length_le (by rw [List.length_drop, ← Lib.size_eq]; omega)]
theorem ext_front (s : ByteArray) (b : Nat) : (s.extract 0 b).data.toList = s.data.toList.take b := by rw [ext_list]; rfl
theorem ext_size (s : ByteArray) (a b : Nat) (h : b ≤ s.size) : (s.extract a b).size = b - a := by
  rw [Lib.size_eq, ext_list, List.length_take, List.length_drop, ← Lib.size_eq]; omega
theorem has_blank (l : B) : Lib.hasPrefix l [32] = decide (l.head? = some 32) := by
  unfold Lib.hasPrefix
  match l with
  | [] => rfl
  | c :: r =>
    rw [Bool.eq_iff_iff]
    simp only [List.isPrefixOf, Bool.and_true, beq_iff_eq, List.head?_cons, decide_eq_true_iff, Option.some.injEq]
    exact eq_comm
theorem blank_ne {l : B} (h : l.head? = some 32) : l ≠ [] := fun e => by rw [e] at h; cases h

set_option maxHeartbeats 2000000 in
set_option maxRecDepth 100000 in
theorem fieldSize_any (s : ByteArray) (w : World) (m : Int) (hm : w.cell? ⟨1, 0, none⟩ = some (.int .i64 m)) (hs : s.size ≤ 65536) (hE : Ends s.data.toList) (h0 : s.data.toList ≠ []) :
    Calls Tryz.prog 109 #[.string s] w fun e w' => (∃ p : Nat, e = .returned (.int .i64 p) ∧ Seek s.data.toList p ∧ (s.data.toList.drop p).head? ≠ some 32) ∧ ∃ n, w' = w.drewN n := by
  have HMX : Hid (∀ n, (w.drewN n).cell? ⟨1, 0, none⟩ = some (.int .i64 m)) := fun n => hm
  obtain ⟨i, hi⟩ := index_some hE h0 (ends_len hE)
  have hC := Tryz.strings_Index s ⟨#[13, 10]⟩ m w (by omega) hm
  rw [show (⟨#[13, 10]⟩ : ByteArray).data.toList = nl from rfl, hi] at hC
  have hsk := seek_first hi
  have hlen := seek_le hsk
  rw [← Lib.size_eq] at hlen
  have HS0 : Hid (Seek s.data.toList (i + 2)) := hsk
  have HE : Hid (Ends s.data.toList) := hE
  have HC : Hid (Calls Tryz.prog 92 #[.string s, .string ⟨#[13, 10]⟩] w fun e w' => e = .returned (.int .i64 (i : Int)) ∧ w' = w) := hC
  clear hC hi hsk hE h0 hm
  go_enter Tryz.func109, Tryz.ntmps109
  go_wp2_with fail
  refine HC.out.mono ?_
  rintro e w1 ⟨rfl, rfl⟩
  go_wp2
  go_loopw [3] (fun q wr => ∃ p n : Nat, q = .int .i64 p ∧ p ≤ s.size ∧ Seek s.data.toList p ∧ wr = w1.drewN n) (fun q _ => s.size - (intOf q).toNat)
  case atStart => exact ⟨i + 2, 0, by go_num, hlen, HS0.out, rfl⟩
  case round =>
    obtain ⟨p, n, rfl, hp, hsk, rfl⟩ := hrel
    clear HC HS0 hlen
    have hp' : (p : Int) ≤ (s.size : Int) := by omega
    have hp0 : (0 : Int) ≤ (p : Int) := by omega
    have HH := Tryz.strings_HasPrefix (s.extract p s.size) ⟨#[32]⟩ (w1.drewN n)
    rw [show (⟨#[32]⟩ : ByteArray).data.toList = [32] from rfl, ext_tail, has_blank] at HH
    by_cases hb : (s.data.toList.drop p).head? = some 32
    · rw [decide_eq_true hb] at HH
      have hE2 := seek_ends hsk HE.out
      obtain ⟨j, hj⟩ := index_some hE2 (blank_ne hb) (ends_len hE2)
      have hnx := seek_next hsk hb hj
      have hle := seek_le hnx
      rw [← Lib.size_eq] at hle
      have HI := Tryz.strings_Index (s.extract p s.size) ⟨#[13, 10]⟩ m (w1.drewN n) (by rw [ext_size _ _ _ (Nat.le_refl _)]; omega) (HMX.out n)
      rw [show (⟨#[13, 10]⟩ : ByteArray).data.toList = nl from rfl, ext_tail, hj] at HI
      have HI' : Hid (Calls Tryz.prog 92 #[.string (s.extract p s.size), .string ⟨#[13, 10]⟩] (w1.drewN n) fun e w' => e = .returned (.int .i64 (j : Int)) ∧ w' = w1.drewN n) := HI
      have HN : Hid (Seek s.data.toList (p + (j + 2))) := hnx
      have HH' : Hid (Calls Tryz.prog 119 #[.string (s.extract p s.size), .string ⟨#[32]⟩] (w1.drewN n) fun e w' => e = .returned (.bool true) ∧ w' = w1.drewN n) := HH
      clear HI HH hnx hsk hb hE2 hj
      go_wp2_with fail
      refine HH'.out.mono ?_
      rintro e w2 ⟨rfl, rfl⟩
      go_wp2_with fail
      refine HI'.out.mono ?_
      rintro e w2 ⟨rfl, rfl⟩
      go_wp2
      go_roundw
      case rel => exact ⟨p + (j + 2), n, by go_num, hle, HN.out, rfl⟩
      case measure => simp [intOf]; omega
    · rw [decide_eq_false hb] at HH
      have HB : Hid (¬ (s.data.toList.drop p).head? = some 32) := hb
      have HK : Hid (Seek s.data.toList p) := hsk
      have HH' : Hid (Calls Tryz.prog 119 #[.string (s.extract p s.size), .string ⟨#[32]⟩] (w1.drewN n) fun e w' => e = .returned (.bool false) ∧ w' = w1.drewN n) := HH
      clear HH hsk hb
      go_wp2_with fail
      refine HH'.out.mono ?_
      rintro e w2 ⟨rfl, rfl⟩
      go_wp2
      go_ret
      exact ⟨⟨p, rfl, HK.out, HB.out⟩, n, rfl⟩
end Go.Proofs.YtbokolpjdaamiaaGreatDoor.ml

namespace Go.Proofs.YtbokolpjdaamiaaGreatDoor.hd
open Go
set_option linter.unusedVariables false

/-- How many characters the word has that is being read, behind one more; none where the text is not safe. -/
def step (o : Option Nat) (c : UInt8) : Option Nat := o.bind fun w =>
  if c.toNat < 32 ∨ 126 < c.toNat then none else if c.toNat = 32 then (if w = 0 then none else some 0) else if 200 ≤ w then none else some (w + 1)
def wid (l : List UInt8) : Option Nat := l.foldl step (some 0)
/-- A text is safe as a field's value. -/
def Safe (l : List UInt8) : Prop := l.length ≤ 2000 ∧ (l = [] ∨ ∃ w, wid l = some w ∧ 0 < w)

theorem fold_none : ∀ l : List UInt8, l.foldl step none = none
  | [] => rfl
  | c :: l => by rw [List.foldl_cons]; exact fold_none l
theorem wid_snoc (l : List UInt8) (c : UInt8) : wid (l ++ [c]) = step (wid l) c := by simp [wid]
theorem take_snoc (s : ByteArray) (k : Nat) (h : k < s.size) : s.data.toList.take (k + 1) = s.data.toList.take k ++ [s[k]] := by
  rw [List.take_succ_eq_append_getElem (by simpa using h)]; rfl
theorem wid_at (s : ByteArray) (k : Nat) (h : k < s.size) : wid (s.data.toList.take (k + 1)) = step (wid (s.data.toList.take k)) s[k] := by
  rw [take_snoc s k h, wid_snoc]
theorem take_all (s : ByteArray) (k : Nat) (h : s.size ≤ k) : s.data.toList.take k = s.data.toList := List.take_of_length_le (by rw [← Lib.size_eq]; exact h)
theorem bad_at {s : ByteArray} {k w : Nat} (h : k < s.size) (hw : wid (s.data.toList.take k) = some w) (hb : step (some w) s[k] = none) : ¬ Safe s.data.toList := by
  rintro ⟨_, h0 | ⟨w', hw', _⟩⟩
  · have : s.size = 0 := by rw [Lib.size_eq, h0]; rfl
    omega
  · have e : wid s.data.toList = (s.data.toList.drop (k + 1)).foldl step (wid (s.data.toList.take (k + 1))) := by
      unfold wid
      rw [← List.foldl_append, List.take_append_drop]
    rw [wid_at s k h, hw, hb, fold_none] at e
    rw [e] at hw'
    cases hw'
theorem big {s : ByteArray} (h : 2000 < s.size) : ¬ Safe s.data.toList := fun x => by have := x.1; rw [← Lib.size_eq] at this; omega
theorem good {s : ByteArray} {w : Nat} (h : s.size ≤ 2000) (hw : wid s.data.toList = some w) (hp : s.size = 0 ∨ 0 < w) : Safe s.data.toList := by
  refine ⟨by rw [← Lib.size_eq]; exact h, ?_⟩
  rcases hp with h0 | h0
  · exact .inl (List.eq_nil_of_length_eq_zero (by rw [← Lib.size_eq]; exact h0))
  · exact .inr ⟨w, hw, h0⟩
theorem endBad {s : ByteArray} (h0 : s.size ≠ 0) (hw : wid s.data.toList = some 0) : ¬ Safe s.data.toList := by
  rintro ⟨_, h1 | ⟨w', hw', h1⟩⟩
  · have : s.size = 0 := by rw [Lib.size_eq, h1]; rfl
    omega
  · rw [hw] at hw'
    cases hw'
    omega
theorem st_bad {c : UInt8} {w : Nat} (h : (c.toNat : Int) < 32 ∨ 126 < (c.toNat : Int)) : step (some w) c = none := by
  show (if c.toNat < 32 ∨ 126 < c.toNat then none else _) = none
  rw [if_pos (by omega)]
theorem st_sp0 {c : UInt8} (h : (c.toNat : Int) = 32) : step (some 0) c = none := by
  show (if c.toNat < 32 ∨ 126 < c.toNat then none else if c.toNat = 32 then (if (0 : Nat) = 0 then none else some 0) else _) = none
  rw [if_neg (by omega), if_pos (by omega), if_pos rfl]
theorem st_sp {c : UInt8} {w : Nat} (h : (c.toNat : Int) = 32) (hw : w ≠ 0) : step (some w) c = some 0 := by
  show (if c.toNat < 32 ∨ 126 < c.toNat then none else if c.toNat = 32 then (if w = 0 then none else some 0) else _) = some 0
  rw [if_neg (by omega), if_pos (by omega), if_neg hw]
theorem st_ch {c : UInt8} {w : Nat} (h1 : 32 ≤ (c.toNat : Int)) (h2 : (c.toNat : Int) ≤ 126) (h3 : (c.toNat : Int) ≠ 32) (hw : w < 200) : step (some w) c = some (w + 1) := by
  show (if c.toNat < 32 ∨ 126 < c.toNat then none else if c.toNat = 32 then (if w = 0 then none else some 0) else if 200 ≤ w then none else some (w + 1)) = some (w + 1)
  rw [if_neg (by omega), if_neg (by omega), if_neg (by omega)]
theorem st_long {c : UInt8} {w : Nat} (h3 : (c.toNat : Int) ≠ 32) (hw : 200 ≤ w) : step (some w) c = none := by
  show (if c.toNat < 32 ∨ 126 < c.toNat then none else if c.toNat = 32 then (if w = 0 then none else some 0) else if 200 ≤ w then none else some (w + 1)) = none
  split
  · rfl
  · rw [if_neg (by omega)]
theorem wid_le (l : List UInt8) : ∀ w w', w ≤ 200 → l.foldl step (some w) = some w' → w' ≤ 200 := by
  induction l with
  | nil => intro w w' h e; cases e; exact h
  | cons c l ih =>
    intro w w' h e
    rw [List.foldl_cons] at e
    cases hs : step (some w) c with
    | none => rw [hs, fold_none] at e; cases e
    | some v =>
      rw [hs] at e
      refine ih v w' ?_ e
      have : (if c.toNat < 32 ∨ 126 < c.toNat then none else if c.toNat = 32 then (if w = 0 then none else some 0) else if 200 ≤ w then none else some (w + 1)) = some v := hs
      split at this
      · cases this
      · split at this
        · split at this
          · cases this
          · cases this; omega
        · split at this
          · cases this
          · cases this; omega
theorem width_le {l : List UInt8} {w : Nat} (h : wid l = some w) : w ≤ 200 := wid_le l 0 w (by omega) h

/-- The parts of a text at each blank. -/
def cutGo : List UInt8 → List UInt8 → List (List UInt8)
  | cur, [] => [cur]
  | cur, b :: l => if b.toNat = 32 then cur :: cutGo [] l else cutGo (cur ++ [b]) l
theorem isSp_blank {b : UInt8} (h : b.toNat = 32) : Lib.isSp b = true := by
  have : b = 32 := by rw [← UInt8.toNat_inj]; exact h
  subst this; rfl
theorem isSp_sign : ∀ n : Fin 256, 32 < n.val → n.val ≤ 126 → Lib.isSp (UInt8.ofNat n.val) = false := by decide +kernel
theorem isSp_not {b : UInt8} (h : 32 < b.toNat) (h' : b.toNat ≤ 126) : Lib.isSp b = false := by
  have := isSp_sign ⟨b.toNat, b.toNat_lt⟩ h h'
  simpa using this
/-- One step, taken apart. -/
theorem step_cases {w v : Nat} {c : UInt8} (h : step (some w) c = some v) : (c.toNat = 32 ∧ w ≠ 0 ∧ v = 0) ∨ (32 < c.toNat ∧ c.toNat ≤ 126 ∧ w < 200 ∧ v = w + 1) := by
  have : (if c.toNat < 32 ∨ 126 < c.toNat then none else if c.toNat = 32 then (if w = 0 then none else some 0) else if 200 ≤ w then none else some (w + 1)) = some v := h
  split at this
  · cases this
  · split at this
    · split at this
      · cases this
      · cases this; exact .inl ⟨‹_›, ‹_›, rfl⟩
    · split at this
      · cases this
      · cases this; exact .inr ⟨by omega, by omega, by omega, rfl⟩
/-- The words of a safe text are its parts. -/
theorem fields_cut : ∀ (l cur : List UInt8) (w w' : Nat), cur.length = w → l.foldl step (some w) = some w' → 0 < w' → Lib.fieldsGo cur l = cutGo cur l
  | [], cur, w, w', hc, h, hp => by
    cases h
    have : cur ≠ [] := fun e => by rw [e] at hc; simp at hc; omega
    simp [Lib.fieldsGo, cutGo, this]
  | c :: l, cur, w, w', hc, h, hp => by
    rw [List.foldl_cons] at h
    cases hs : step (some w) c with
    | none => rw [hs, fold_none] at h; cases h
    | some v =>
      rw [hs] at h
      rcases step_cases hs with ⟨h1, h2, rfl⟩ | ⟨h1, h2, h3, rfl⟩
      · have : cur ≠ [] := fun e => by rw [e] at hc; simp at hc; omega
        rw [Lib.fieldsGo_end cur c l (isSp_blank h1) this, cutGo, if_pos h1, fields_cut l [] 0 w' rfl h hp]
      · rw [Lib.fieldsGo_more cur c l (isSp_not h1 h2), cutGo, if_neg (by omega)]
        exact fields_cut l (cur ++ [c]) (w + 1) w' (by simp [hc]) h hp
/-- The words of a text as the program reckons them. -/
def words (l : List UInt8) : List (List UInt8) := if l = [] then [] else cutGo [] l
theorem fields_safe {l : List UInt8} (h : Safe l) : Lib.fields l = words l := by
  rcases h with ⟨_, rfl | ⟨w, hw, hp⟩⟩
  · rfl
  · have hne : l ≠ [] := fun e => by subst e; cases hw; omega
    rw [words, if_neg hne]
    exact fields_cut l [] 0 w rfl hw hp
theorem ascii {l : List UInt8} (h : Safe l) : ∀ b ∈ l, 32 ≤ b.toNat ∧ b.toNat ≤ 126 := by
  have key : ∀ (l : List UInt8) (w w' : Nat), l.foldl step (some w) = some w' → ∀ b ∈ l, 32 ≤ b.toNat ∧ b.toNat ≤ 126 := by
    intro l
    induction l with
    | nil => intro w w' _ b hb; cases hb
    | cons c l ih =>
      intro w w' h b hb
      rw [List.foldl_cons] at h
      cases hs : step (some w) c with
      | none => rw [hs, fold_none] at h; cases h
      | some v =>
        rw [hs] at h
        rcases List.mem_cons.1 hb with rfl | hb
        · rcases step_cases hs with ⟨h1, _⟩ | ⟨h1, h2, _⟩ <;> omega
        · exact ih v w' h b hb
  rcases h with ⟨_, rfl | ⟨w, hw, hp⟩⟩
  · intro b hb; cases hb
  · exact key l 0 w hw
/-- The lines of a folded field behind its colon. -/
def foldGo : Bool → Nat → List (List UInt8) → List UInt8
  | _, _, [] => []
  | first, width, x :: r => if first = false ∧ 78 < width + 1 + x.length then [13, 10, 32] ++ x ++ foldGo false (1 + x.length) r else [32] ++ x ++ foldGo false (width + 1 + x.length) r
/-- A folded field. -/
def foldL (name value : List UInt8) : List UInt8 := name ++ [58] ++ foldGo true (name.length + 1) (cutGo [] value) ++ [13, 10]
theorem foldGo_yes {width : Nat} {x : List UInt8} (r : List (List UInt8)) (h : 78 < width + 1 + x.length) : foldGo false width (x :: r) = [13, 10, 32] ++ x ++ foldGo false (1 + x.length) r := by
  rw [foldGo, if_pos ⟨rfl, h⟩]
theorem foldGo_no {first : Bool} {width : Nat} {x : List UInt8} (r : List (List UInt8)) (h : first = true ∨ width + 1 + x.length ≤ 78) : foldGo first width (x :: r) = [32] ++ x ++ foldGo false (width + 1 + x.length) r := by
  rw [foldGo, if_neg]
  rintro ⟨h1, h2⟩
  rcases h with h | h
  · rw [h] at h1; cases h1
  · omega
theorem cutGo_ne (l cur : List UInt8) : cutGo cur l ≠ [] := by
  induction l generalizing cur with
  | nil => simp [cutGo]
  | cons b l ih =>
    rw [cutGo]
    split
    · simp
    · exact ih _
/-- All parts of a text together are no longer than it. -/
theorem cutGo_len : ∀ (l cur : List UInt8), ((cutGo cur l).map List.length).sum + (cutGo cur l).length = cur.length + l.length + 1
  | [], cur => by simp [cutGo]
  | b :: l, cur => by
    rw [cutGo]
    split
    · have := cutGo_len l []
      simp at this ⊢
      omega
    · have := cutGo_len l (cur ++ [b])
      simp at this ⊢
      omega
theorem cutGo_mem : ∀ (l cur x : List UInt8), x ∈ cutGo cur l → x.length ≤ cur.length + l.length
  | [], cur, x, h => by simp [cutGo] at h; subst h; simp
  | b :: l, cur, x, h => by
    rw [cutGo] at h
    split at h
    · rcases List.mem_cons.1 h with rfl | h
      · simp
      · have := cutGo_mem l [] x h
        simp at this ⊢
        omega
    · have := cutGo_mem l (cur ++ [b]) x h
      simp at this ⊢
      omega
end Go.Proofs.YtbokolpjdaamiaaGreatDoor.hd
