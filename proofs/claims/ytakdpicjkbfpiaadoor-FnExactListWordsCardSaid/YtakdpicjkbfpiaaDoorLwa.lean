/-
  Plain words of a command: the program's test of them, and the specification's of a sign.
-/
import Derived.Test.YtakdpicjkbfpiaaDoorOwn
import Derived.Test.YtakdpicjkbfpiaaDoorRows
import Derived.Test.YtakdpicjkbfpiaaDoorShf
import Derived.WalkKit
import Derived.WalkLawsBesides
import Derived.Deep.QuietTactic
import Derived.BigQuiet
import Derived.Below
namespace Go.Proofs.YtakdpicjkbfpiaaDoor.lw
open Go.RowKit
set_option linter.unusedVariables false

/-- A sign of a plain word. -/
def atB (c : UInt8) : Bool := decide (33 ≤ c.toNat) && (decide (c.toNat ≤ 126) && (c != 40 && (c != 41 && (c != 123 && c != 34))))
/-- A plain word. -/
def wordB (l : List UInt8) : Bool := !l.isEmpty && l.all atB
def shB (c : UInt8) : Bool := decide (32 ≤ c.toNat) && decide (c.toNat ≤ 126)
def five : ByteArray := ⟨#[32, 40, 41, 123, 34]⟩
def ixB (c : UInt8) : Bool := decide (Lib.indexByte five.data.toList c < 0)
theorem five_all : ∀ k : Fin 256, (shB (UInt8.ofNat k.val) && ixB (UInt8.ofNat k.val)) = atB (UInt8.ofNat k.val) := by decide +kernel
theorem five_is (c : UInt8) : (shB c && ixB c) = atB c := by
  have := five_all ⟨c.toNat, c.toNat_lt⟩
  simpa using this

set_option maxHeartbeats 1000000 in
theorem shown_any (c : UInt8) (w : World) : Calls Tryd.prog 61 #[.int .u8 (c.toNat : Int)] w fun e w' => e = .returned (.bool (shB c)) ∧ w' = w := by
  have hc : c.toNat ≤ 255 := by have := c.toNat_lt; omega
  unfold shB
  by_cases h1 : 32 ≤ c.toNat
  · have h1' : decide ((32 : Int) ≤ (c.toNat : Int)) = true := decide_eq_true (by omega)
    by_cases h2 : c.toNat ≤ 126
    · have h2' : decide ((c.toNat : Int) ≤ 126) = true := decide_eq_true (by omega)
      rw [decide_eq_true h1, decide_eq_true h2]
      clear h1 h2
      go_enter Tryd.func61, Tryd.ntmps61
      go_wp2
      go_ret
      exact ⟨rfl, rfl⟩
    · have h2' : decide ((c.toNat : Int) ≤ 126) = false := decide_eq_false (by omega)
      rw [decide_eq_true h1, decide_eq_false h2]
      clear h1 h2
      go_enter Tryd.func61, Tryd.ntmps61
      go_wp2
      go_ret
      exact ⟨rfl, rfl⟩
  · have h1' : decide ((32 : Int) ≤ (c.toNat : Int)) = false := decide_eq_false (by omega)
    rw [decide_eq_false h1]
    clear h1
    go_enter Tryd.func61, Tryd.ntmps61
    go_wp2
    go_ret
    exact ⟨rfl, rfl⟩
set_option maxHeartbeats 1000000 in
set_option maxRecDepth 100000 in
theorem plain_any (c : UInt8) (w : World) : Calls Tryd.prog 50 #[.int .u8 (c.toNat : Int)] w fun e w' => e = .returned (.bool (atB c)) ∧ w' = w := by
  have HS : Hid (∀ W, Calls Tryd.prog 61 #[.int .u8 (c.toNat : Int)] W fun e w' => e = .returned (.bool (shB c)) ∧ w' = W) := fun W => shown_any c W
  have HI : Hid (∀ W, Calls Tryd.prog 62 #[.string ⟨#[32, 40, 41, 123, 34]⟩, .int .u8 (c.toNat : Int)] W fun e w' => e = .returned (.int .i64 (Lib.indexByte five.data.toList c)) ∧ w' = W) := fun W => by
    have := Tryd.strings_IndexByte five (c.toNat : Int) W
    rw [show ((c.toNat : Int).toNat.toUInt8) = c from by simp] at this
    exact this
  rw [← five_is c]
  have hx : ixB c = decide (Lib.indexByte five.data.toList c < 0) := rfl
  generalize ixB c = X at hx ⊢
  generalize Lib.indexByte five.data.toList c = Y at HI hx
  generalize shB c = B at HS ⊢
  cases B
  · go_enter Tryd.func50, Tryd.ntmps50
    go_wp2_with fail
    refine (HS.out _).mono ?_
    rintro e w1 ⟨rfl, h1⟩
    have h1 := h1.symm
    subst h1
    go_wp2
    go_ret
    exact ⟨rfl, rfl⟩
  · go_enter Tryd.func50, Tryd.ntmps50
    go_wp2_with fail
    refine (HS.out _).mono ?_
    rintro e w1 ⟨rfl, h1⟩
    have h1 := h1.symm
    subst h1
    go_wp2_with fail
    refine (HI.out _).mono ?_
    rintro e w1 ⟨rfl, h1⟩
    have h1 := h1.symm
    subst h1
    clear HI HS
    go_wp2
    go_ret
    exact ⟨by rw [hx]; rfl, rfl⟩
/-- What plainAhead answers. -/
def PA (s : ByteArray) (e : Ending) : Prop := ∃ k : Nat, k ≤ s.size ∧ (∀ (j : Nat) (h : j < s.size), j < k → atB s[j] = true) ∧ (∀ h : k < s.size, atB s[k] = false) ∧ e = .returned (.tuple #[.string (s.extract 0 k), .string (s.extract k s.size), .bool (decide (0 < k))])
set_option maxHeartbeats 2000000 in
set_option maxRecDepth 100000 in
theorem ahead_any (s : ByteArray) (w : World) (hs : s.size ≤ 1048576) : Calls Tryd.prog 36 #[.string s] w fun e w' => PA s e ∧ Below w.heap.size w w' := by
  go_enter Tryd.func36, Tryd.ntmps36
  go_wp2
  go_loopw [5] (fun i wr => ∃ k : Nat, k ≤ s.size ∧ i = .int .i64 k ∧ (∀ (j : Nat) (h : j < s.size), j < k → atB s[j] = true) ∧ wr = w) (fun i _ => s.size - (intOf i).toNat)
  case atStart => exact ⟨0, Nat.zero_le _, rfl, fun j _ h => absurd h (Nat.not_lt_zero _), rfl⟩
  case round =>
    obtain ⟨k, hk, rfl, hall, hwr⟩ := hrel
    have hwr := hwr.symm
    subst hwr
    have HALL : Hid (∀ (j : Nat) (h : j < s.size), j < k → atB s[j] = true) := hall
    have c0 : (0 : Int) ≤ (k : Int) := by omega
    have c1 : (k : Int) ≤ (s.size : Int) := by omega
    clear hall
    by_cases hlt : k < s.size
    · have hlt' : (k : Int) < (s.size : Int) := by omega
      have hlt2 : decide ((k : Int) < (s.size : Int)) = true := decide_eq_true hlt'
      cases hb : atB s[k]
      · have HP : Hid (∀ W, Calls Tryd.prog 50 #[.int .u8 ((s[k]'hlt).toNat : Int)] W fun e w' => e = .returned (.bool false) ∧ w' = W) := fun W => by rw [← hb]; exact plain_any _ W
        have HB : Hid (∀ h : k < s.size, atB s[k] = false) := fun _ => hb
        clear hb
        go_wp2_with fail
        refine (HP.out _).mono ?_
        rintro e w1 ⟨rfl, h1⟩
        have h1 := h1.symm
        subst h1
        clear HP
        go_wp2
        go_quiet (fail)
        go_wp2
        go_ret3
        exact ⟨⟨k, hk, HALL.out, HB.out, rfl⟩, ⟨rfl, rfl, rfl, Nat.le_refl _, fun _ _ => rfl⟩⟩
      · have HP : Hid (∀ W, Calls Tryd.prog 50 #[.int .u8 ((s[k]'hlt).toNat : Int)] W fun e w' => e = .returned (.bool true) ∧ w' = W) := fun W => by rw [← hb]; exact plain_any _ W
        have HB : Hid (∀ (j : Nat) (h : j < s.size), j < k + 1 → atB s[j] = true) := fun j h hj => by
          by_cases e : j = k
          · subst e; exact hb
          · exact HALL.out j h (by omega)
        clear hb HALL
        go_wp2_with fail
        refine (HP.out _).mono ?_
        rintro e w1 ⟨rfl, h1⟩
        have h1 := h1.symm
        subst h1
        clear HP
        go_wp2
        go_roundw
        case rel => exact ⟨k + 1, by omega, by go_num, HB.out, by trivial⟩
        case measure => simp [intOf]; omega
    · have hlt2 : decide ((k : Int) < (s.size : Int)) = false := decide_eq_false (by omega)
      go_wp2
      go_quiet (fail)
      go_wp2
      go_ret3
      exact ⟨⟨k, hk, HALL.out, fun h => absurd h hlt, rfl⟩, ⟨rfl, rfl, rfl, Nat.le_refl _, fun _ _ => rfl⟩⟩
theorem word_of {s : ByteArray} {k : Nat} (hk : k ≤ s.size) (h1 : ∀ (j : Nat) (h : j < s.size), j < k → atB s[j] = true) (h2 : ∀ h : k < s.size, atB s[k] = false) : wordB s.data.toList = (decide (0 < k) && decide (k = s.size)) := by
  have hz := Lib.size_eq s
  by_cases hks : k = s.size
  · subst hks
    have hall : s.data.toList.all atB = true := by
      rw [List.all_eq_true]
      intro b hb
      obtain ⟨j, hj, rfl⟩ := List.mem_iff_getElem.1 hb
      exact h1 j (by omega) (by omega)
    unfold wordB
    rw [hall]
    cases hl : s.data.toList with
    | nil => rw [hl] at hz; simp at hz; rw [hz]; rfl
    | cons a b => rw [hl] at hz; simp at hz; simp; omega
  · have hlt : k < s.size := by omega
    have hall : s.data.toList.all atB = false := by
      rw [List.all_eq_false]
      exact ⟨s[k], by have : s[k] = s.data.toList[k]'(by omega) := rfl; rw [this]; exact List.getElem_mem _, by rw [h2 hlt]; simp⟩
    unfold wordB
    rw [hall]
    simp [hks]
set_option maxHeartbeats 1000000 in
set_option maxRecDepth 100000 in
theorem isWord_any (s : ByteArray) (w : World) (hs : s.size ≤ 1048576) : Calls Tryd.prog 23 #[.string s] w fun e w' => e = .returned (.bool (wordB s.data.toList)) ∧ Below w.heap.size w w' := by
  have HP : Hid (∀ W, Calls Tryd.prog 36 #[.string s] W fun e w' => PA s e ∧ Below W.heap.size W w') := fun W => ahead_any s W hs
  go_enter Tryd.func23, Tryd.ntmps23
  go_wp2_with fail
  refine (HP.out _).mono ?_
  rintro e w1 ⟨⟨k, hk, h1, h2, rfl⟩, b1⟩
  have HW : Hid (wordB s.data.toList = (decide (0 < k) && decide (k = s.size))) := word_of hk h1 h2
  clear HP h1 h2
  obtain ⟨R, hR⟩ : ∃ R, R = s.extract k s.size := ⟨_, rfl⟩
  have hRs : R.size = s.size - k := by rw [hR, ByteArray.size_extract]; omega
  rw [← hR]
  clear hR
  have hem : (R.toList == []) = decide (k = s.size) := by
    rw [Lib.toList_data, Bool.eq_iff_iff]
    have hz := Lib.size_eq R
    constructor
    · intro h
      have e : R.data.toList = [] := by simpa using h
      rw [e, List.length_nil] at hz
      exact decide_eq_true (by omega)
    · intro h
      have h : k = s.size := by simpa using h
      have e : R.data.toList = [] := List.eq_nil_of_length_eq_zero (by omega)
      rw [e]
      rfl
  have hem2 : R.toList.isEmpty = decide (k = s.size) := by rw [← hem]; cases R.toList <;> rfl
  generalize decide (k = s.size) = X at hem hem2 HW
  generalize decide (0 < k) = Y at HW ⊢
  cases Y
  · go_wp2
    go_ret
    exact ⟨by rw [HW.out]; rfl, b1⟩
  · go_wp2
    go_ret
    exact ⟨by rw [HW.out]; rfl, b1⟩
end Go.Proofs.YtakdpicjkbfpiaaDoor.lw
