/-
  Contracts of both Rfc822Text functions.
  The contract of the specification's Rfc822Text.
  A number's digits: the specification's, of up to ten places.
  Contracts of the functions on names: a letter, a digit, a word, and both NameOK functions answer whether a text is a name, and leave the world as it was.
  Plain facts on quoted text: what a line's bytes come to, step by step.
-/
import Derived.Test.YtinnnfkhiigjpaaPkao
import Derived.Lib.ItoaNum
import Derived.Test.YtinnnfkhiigjpaaRows
import Derived.WalkKit
import Derived.WalkLawsBesides
import Derived.Test.YtinnnfkhiigjpaaPkai

namespace Go.Proofs.Ytinnnfkhiigjpaa.dx
open Go.RowKit
open dt gr
set_option linter.unusedVariables false
def wkn (a : Nat) : List UInt8 := td.wks.getD a []
def mtn (m : Nat) : List UInt8 := td.mts.getD m []
theorem wkn_len {a : Nat} (h : a < 7) : (wkn a).length = 3 := by
  have : a = 0 ∨ a = 1 ∨ a = 2 ∨ a = 3 ∨ a = 4 ∨ a = 5 ∨ a = 6 := by omega
  rcases this with rfl | rfl | rfl | rfl | rfl | rfl | rfl <;> rfl
theorem mtn_len {m : Nat} (h0 : 1 ≤ m) (h : m < 13) : (mtn m).length = 3 := by
  have : m = 1 ∨ m = 2 ∨ m = 3 ∨ m = 4 ∨ m = 5 ∨ m = 6 ∨ m = 7 ∨ m = 8 ∨ m = 9 ∨ m = 10 ∨ m = 11 ∨ m = 12 := by omega
  rcases this with rfl | rfl | rfl | rfl | rfl | rfl | rfl | rfl | rfl | rfl | rfl | rfl <;> rfl

set_option maxHeartbeats 2000000 in
theorem spec_wkn (a : Nat) (h : a < 7) (w : World) : Calls Try.prog 53 #[.int .i64 (a : Int)] w fun e w' => e = .returned (.string ⟨(wkn a).toArray⟩) ∧ Below w.heap.size w w' := by
  have : a = 0 ∨ a = 1 ∨ a = 2 ∨ a = 3 ∨ a = 4 ∨ a = 5 ∨ a = 6 := by omega
  rcases this with rfl | rfl | rfl | rfl | rfl | rfl | rfl
  all_goals
    go_enter Try.func53, Try.ntmps53
    go_wp2
    go_ret
    exact ⟨rfl, bel_box _ _⟩
set_option maxHeartbeats 2000000 in
theorem spec_mtn (m : Nat) (h0 : 1 ≤ m) (h : m < 13) (w : World) : Calls Try.prog 55 #[.int .i64 (m : Int)] w fun e w' => e = .returned (.string ⟨(mtn m).toArray⟩) ∧ Below w.heap.size w w' := by
  have : m = 1 ∨ m = 2 ∨ m = 3 ∨ m = 4 ∨ m = 5 ∨ m = 6 ∨ m = 7 ∨ m = 8 ∨ m = 9 ∨ m = 10 ∨ m = 11 ∨ m = 12 := by omega
  rcases this with rfl | rfl | rfl | rfl | rfl | rfl | rfl | rfl | rfl | rfl | rfl | rfl
  all_goals
    go_enter Try.func55, Try.ntmps55
    go_wp2
    go_ret
    exact ⟨rfl, bel_box _ _⟩

/-- The text of a calendar of the second form, with its day of the week ahead. -/
def m82 (y : Int) (m : Nat) (d h i s : Int) : List UInt8 := two d ++ [32] ++ mtn m ++ [32] ++ four y ++ [32] ++ clk h i s ++ [32]
def f82 (a : Nat) (y : Int) (m : Nat) (d h i s : Int) : List UInt8 := wkn a ++ [44, 32] ++ two d ++ [32] ++ mtn m ++ [32] ++ four y ++ [32] ++ clk h i s ++ [32, 43, 48, 48, 48, 48]
def wkd (n : Int) : Nat := ((n / 86400 + 4) % 7).toNat
def t82 (n : Int) : List UInt8 := f82 (wkd n) (yr n) (mn n).toNat (dy n) (hr n) (dt.mt n) (sc n)
def r82 (n : Int) : Value := if dw.inB n 0 4102444799 then .tuple #[.string ⟨(t82 n).toArray⟩, .int .i64 0] else .tuple #[.string ⟨#[]⟩, .int .i64 4]
theorem r82_in {n : Int} (h : dw.inB n 0 4102444799 = true) : r82 n = .tuple #[.string ⟨(t82 n).toArray⟩, .int .i64 0] := by simp [r82, h]
theorem r82_out {n : Int} (h : dw.inB n 0 4102444799 = false) : r82 n = .tuple #[.string ⟨#[]⟩, .int .i64 4] := by simp [r82, h]
theorem r82_form (n : Int) : ∃ (s : ByteArray) (c : Int), r82 n = .tuple #[.string s, .int .i64 c] := by
  cases e : dw.inB n 0 4102444799
  · exact ⟨_, _, r82_out e⟩
  · exact ⟨_, _, r82_in e⟩

end Go.Proofs.Ytinnnfkhiigjpaa.dx

namespace Go.Proofs.Ytinnnfkhiigjpaa.dx
open Go.RowKit
open dt gr
set_option linter.unusedVariables false
set_option maxHeartbeats 4000000 in
set_option maxRecDepth 100000 in
theorem spec_f82 (n : Int) (n0 : 0 ≤ n) (n1 : n ≤ 4102444799) (w : World) : Calls Try.prog 42 #[.int .i64 n] w fun e w' => e = .returned (.string ⟨(t82 n).toArray⟩) ∧ Below w.heap.size w w' := by
  have hok := civ_ok n0 n1
  have hx : Hid (∀ w, Calls Try.prog 52 #[.int .i64 n] w fun e w' => e = .returned (C6 (yr n) (mn n) (dy n) (hr n) (dt.mt n) (sc n)) ∧ Below w.heap.size w w') := fun w => dw.spec_civ n n0 n1 w
  unfold t82
  have ha : (n / 86400 + 4) % 7 = ((wkd n : Nat) : Int) := by unfold wkd; omega
  have ha7 : wkd n < 7 := by unfold wkd; omega
  obtain ⟨q, hq⟩ : ∃ q : Nat, mn n = (q : Int) := ⟨(mn n).toNat, by have := hok.2.2.1; omega⟩
  rw [hq] at hx hok ⊢
  rw [Int.toNat_natCast]
  generalize yr n = y, dy n = d, hr n = h, dt.mt n = i, sc n = s, wkd n = a at hx hok ha ha7 ⊢
  clear hq
  obtain ⟨k1, k2, k3, k4, k5, k6, k7, k8, k9, k10, k11, k12⟩ := hok
  have k13 := dm_pos y (q : Int)
  go_enter Try.func42, Try.ntmps42
  go_wp2_with fail
  refine (hx.out _).mono ?_
  rintro e w1 ⟨rfl, b1⟩
  unfold C6
  clear hx
  go_wp2_with fail
  have L := dw.lies_new w1 y (q : Int) d h i s
  have b2 := b1.trans ((bel_box w1 (.cells #[.int .i64 y, .int .i64 (q : Int), .int .i64 d, .int .i64 h, .int .i64 i, .int .i64 s] 76)).mono b1.size)
  generalize w1.alloc _ = W at L b2 ⊢
  have HF : Hid (∀ W, Calls Try.prog 25 #[.int .i64 y] W fun e w' => e = .returned (.string ⟨(four y).toArray⟩) ∧ Below W.heap.size W w') := fun W => spec_four y (by omega) (by omega) W
  have HW : Hid (∀ W, Calls Try.prog 53 #[.int .i64 ((n / 86400 + 4) % 7)] W fun e w' => e = .returned (.string ⟨(wkn a).toArray⟩) ∧ Below W.heap.size W w') := fun W => by rw [ha]; exact spec_wkn a ha7 W
  have HM : Hid (∀ W, Calls Try.prog 55 #[.int .i64 (q : Int)] W fun e w' => e = .returned (.string ⟨(mtn q).toArray⟩) ∧ Below W.heap.size W w') := fun W => spec_mtn q (by omega) (by omega) W
  have d0 : 0 ≤ d := by omega
  have d9 : d ≤ 99 := by omega
  have HC : Hid (∀ W, Calls Try.prog 56 #[C6 y (q : Int) d h i s] W fun e w' => e = .returned (.string ⟨(clk h i s).toArray⟩) ∧ Below W.heap.size W w') := fun W => spec_clk y (q : Int) d h i s (by omega) (by omega) (by omega) (by omega) (by omega) (by omega) W
  unfold C6 at HC
  have ne := ext_some W
  have l2 := two_len
  have l4 := four_len
  have l8 := clk_len
  have l3 := wkn_len ha7
  have l3m := mtn_len (m := q) (by omega) (by omega)
  have c0 := fun x : Ext W => gw_cell x L.c0
  have c1 := fun x : Ext W => gw_cell x L.c1
  have c2 := fun x : Ext W => gw_cell x L.c2
  have c3 := fun x : Ext W => gw_cell x L.c3
  have c4 := fun x : Ext W => gw_cell x L.c4
  have c5 := fun x : Ext W => gw_cell x L.c5
  clear L b1 ha
  refine region_lit (by kernel_rfl) (by kernel_rfl) ?_
  repeat (go_big_quiet_step ((first | (go_at_call 25; exact grow_of (HF.out _)) | (go_at_call 54; exact grow_of (spec_two _ (by assumption) (by assumption) _)) | (go_at_call 53; exact grow_of (HW.out _)) | (go_at_call 55; exact grow_of (HM.out _)) | (go_at_call 56; exact grow_of (HC.out _)))))
  refine wpQuiet_nil ?_
  rintro W' ⟨x, rfl⟩
  have b3 := b2.trans ((gw_below x).mono b2.size)
  generalize gw x = W' at b3 ⊢
  clear c0 c1 c2 c3 c4 c5 ne HF HW HM HC b2
  go_wp2
  go_ret
  refine ⟨?_, b3⟩
  unfold f82
  simp only [← app]
  rfl

end Go.Proofs.Ytinnnfkhiigjpaa.dx

namespace Go.Proofs.Ytinnnfkhiigjpaa.dx
open Go.RowKit
open gr
set_option linter.unusedVariables false

set_option maxHeartbeats 2000000 in
set_option maxRecDepth 100000 in
theorem digs_more (n : Int) (h0 : 10 ≤ n) (h1 : n ≤ 9999999999) (l : List UInt8) (hl : l.length ≤ 40) (ih : ∀ w, Calls Try.prog 25 #[.int .i64 (n / 10)] w fun e w' => e = .returned (.string ⟨l.toArray⟩) ∧ Below w.heap.size w w') (w : World) :
    Calls Try.prog 25 #[.int .i64 n] w fun e w' => e = .returned (.string ⟨(l ++ [dg (n % 10)]).toArray⟩) ∧ Below w.heap.size w w' := by
  have hz : ((dg (n % 10)).toNat : Int) = 48 + n % 10 := dg_nat (by omega) (by omega)
  have HZ : Hid (((dg (n % 10)).toNat : Int) = 48 + n % 10) := hz
  have cv := conv_oneD w hz
  clear hz
  have IH : Hid (∀ w, Calls Try.prog 25 #[.int .i64 (n / 10)] w fun e w' => e = .returned (.string ⟨l.toArray⟩) ∧ Below w.heap.size w w') := ih
  clear ih
  have d1 : (n == -9223372036854775808) = false := beq_eq_false_iff_ne.2 (by omega)
  have hs : (9223372036854775807 < l.length + 1) = False := eq_false (by omega)
  have e0 : n.tdiv 10 = n / 10 := Int.tdiv_eq_ediv_of_nonneg (by omega)
  have e00 : n.tmod 10 = n % 10 := Int.tmod_eq_emod_of_nonneg (by omega)
  have e1 : IntKind.i64.wrap (n / 10) = n / 10 := by rw [IntKind.wrap_i64]; omega
  have e2 : IntKind.i64.wrap (n % 10) = n % 10 := by rw [IntKind.wrap_i64]; omega
  have e3 : IntKind.i64.wrap (48 + n % 10) = 48 + n % 10 := by rw [IntKind.wrap_i64]; omega
  have e4 : IntKind.u8.wrap (48 + n % 10) = 48 + n % 10 := by rw [IntKind.wrap_u8]; omega
  go_enter Try.func25, Try.ntmps25
  go_wp2_with fail
  go_region_with (go_at_call 25; refine (IH.out _).mono ?_; rintro e w1 ⟨rfl, b1⟩; have cw := conv_one w1 (z := 48 + n % 10) (b := dg (n % 10)) HZ.out; first | (have ck := conv_keptD (w := w) (z := 48 + n % 10) (b := dg (n % 10)) HZ.out b1) | skip)
  all_goals go_wp2
  all_goals go_ret
  all_goals refine ⟨by rw [← app]; rfl, ?_⟩
  all_goals first
    | exact belA b1
    | exact belB b1


theorem dec_len : ∀ (k n : Nat), n < 10 ^ (k + 1) → (Lib.decDigits n).length ≤ k + 1
  | 0, n, h => by
    rw [Lib.decDigits, dif_pos (by omega)]
    simp
  | k + 1, n, h => by
    rw [Lib.decDigits]
    by_cases h9 : n < 10
    · rw [dif_pos h9]; simp
    · rw [dif_neg h9, List.length_append]
      have := dec_len k (n / 10) (by rw [Nat.pow_succ] at h; omega)
      simp
      exact this
theorem spec_digs : ∀ (k n : Nat), n < 10 ^ (k + 1) → k ≤ 9 → ∀ w : World, Calls Try.prog 25 #[.int .i64 (n : Int)] w fun e w' => e = .returned (.string ⟨(Lib.decDigits n).toArray⟩) ∧ Below w.heap.size w w'
  | 0, n, h, _, w => by
    have := digs_one (n : Int) (by omega) (by omega) w
    rw [Lib.decDigits, dif_pos (by omega)]
    exact this
  | k + 1, n, h, hk, w => by
    by_cases h9 : n < 10
    · have := digs_one (n : Int) (by omega) (by omega) w
      rw [Lib.decDigits, dif_pos h9]
      exact this
    · have hp : n / 10 < 10 ^ (k + 1) := by rw [Nat.pow_succ] at h; omega
      have hl := dec_len k (n / 10) hp
      have h10 : n ≤ 9999999999 := by
        have : 10 ^ (k + 1 + 1) ≤ 10 ^ 10 := Nat.pow_le_pow_right (by omega) (by omega)
        have e : (10 : Nat) ^ 10 = 10000000000 := by decide
        omega
      have := digs_more (n : Int) (by omega) (by omega) (Lib.decDigits (n / 10)) (by omega) (fun w => by
        have := spec_digs k (n / 10) hp (by omega) w
        rw [show ((n / 10 : Nat) : Int) = (n : Int) / 10 from by omega] at this
        exact this) w
      rw [Lib.decDigits, dif_neg h9]
      have e : dg ((n : Int) % 10) = UInt8.ofNat (48 + n % 10) := by
        unfold dg
        congr 1
      rw [e] at this
      exact this
end Go.Proofs.Ytinnnfkhiigjpaa.dx

namespace Go.Proofs.Ytinnnfkhiigjpaa.nm
open Go.RowKit
set_option linter.unusedVariables false

def letB (c : Int) : Bool := decide (97 ≤ c ∧ c ≤ 122 ∨ 65 ≤ c ∧ c ≤ 90 ∨ c = 95)
def digB (c : Int) : Bool := decide (48 ≤ c ∧ c ≤ 57)

theorem ret_bool {a b : Bool} (h : a = b) : Ending.returned (.bool a) = .returned (.bool b) := by rw [h]

set_option maxHeartbeats 400000 in
theorem begins_any (c : Int) (w : World) : Calls Try.prog 32 #[.int .u8 c] w fun e w' => e = .returned (.bool (letB c)) ∧ w' = w := by
  go_enter Try.func32, Try.ntmps32
  go_wp2
  all_goals (go_ret; exact ⟨ret_bool (by rw [Bool.eq_iff_iff]; simp [letB]; omega), rfl⟩)

set_option maxHeartbeats 400000 in
theorem letter_any (c : Int) (w : World) : Calls Try.prog 57 #[.int .u8 c] w fun e w' => e = .returned (.bool (letB c)) ∧ w' = w := by
  go_enter Try.func57, Try.ntmps57
  go_wp2
  all_goals (go_ret; exact ⟨ret_bool (by rw [Bool.eq_iff_iff]; simp [letB]; omega), rfl⟩)

set_option maxHeartbeats 400000 in
theorem isDigit_any (c : Int) (w : World) : Calls Try.prog 33 #[.int .u8 c] w fun e w' => e = .returned (.bool (digB c)) ∧ w' = w := by
  go_enter Try.func33, Try.ntmps33
  go_wp2
  all_goals (go_ret; exact ⟨ret_bool (by simp [digB]; omega), rfl⟩)

set_option maxHeartbeats 400000 in
theorem digit_any (c : Int) (w : World) : Calls Try.prog 58 #[.int .u8 c] w fun e w' => e = .returned (.bool (digB c)) ∧ w' = w := by
  go_enter Try.func58, Try.ntmps58
  go_wp2
  all_goals (go_ret; exact ⟨ret_bool (by simp [digB]; omega), rfl⟩)

/-- The byte at a place may stand there in a name. -/
def good (s : ByteArray) (j : Nat) : Prop := ∃ h : j < s.size, letB ((s[j]'h).toNat : Int) = true ∨ (0 < j ∧ digB ((s[j]'h).toNat : Int) = true)
/-- A text is a name. -/
def IsName (s : ByteArray) : Prop := 1 ≤ s.size ∧ s.size ≤ 40 ∧ ∀ j, j < s.size → good s j

/-- What a call on a name answers: a bool that says whether it is one. -/
def NameRet (s : ByteArray) (e : Ending) : Prop := ∃ b : Bool, e = .returned (.bool b) ∧ (b = true ↔ IsName s)

theorem not_name {s : ByteArray} {k : Nat} (h : k < s.size) (hl : ¬ letB ((s[k]'h).toNat : Int) = true) (hd : k = 0 ∨ digB ((s[k]'h).toNat : Int) = false) : NameRet s (.returned (.bool false)) := by
  refine ⟨false, rfl, ?_⟩
  constructor
  · intro x; cases x
  · rintro ⟨_, _, hg⟩
    obtain ⟨h', hx⟩ := hg k h
    rcases hx with hx | ⟨hp, hx⟩
    · exact absurd hx hl
    · rcases hd with rfl | hd
      · omega
      · rw [hd] at hx; cases hx
theorem no_size {s : ByteArray} (h : s.size = 0 ∨ 40 < s.size) : NameRet s (.returned (.bool false)) :=
  ⟨false, rfl, ⟨fun x => (by cases x), fun x => (by have h1 := x.1; have h2 := x.2.1; omega)⟩⟩
theorem yes_name {s : ByteArray} (h1 : 1 ≤ s.size) (h2 : s.size ≤ 40) (hg : ∀ j, j < s.size → good s j) : NameRet s (.returned (.bool true)) :=
  ⟨true, rfl, ⟨fun _ => ⟨h1, h2, hg⟩, fun _ => rfl⟩⟩
theorem step {s : ByteArray} {k : Nat} (hg : ∀ j, j < k → good s j) (h : k < s.size) (hx : letB ((s[k]'h).toNat : Int) = true ∨ (0 < k ∧ digB ((s[k]'h).toNat : Int) = true)) : ∀ j, j < k + 1 → good s j := by
  intro j hj
  by_cases e : j = k
  · subst e; exact ⟨h, hx⟩
  · exact hg j (by omega)
theorem same_ret {s : ByteArray} {a b : Bool} (h1 : NameRet s (.returned (.bool a))) (h2 : NameRet s (.returned (.bool b))) : a = b := by
  obtain ⟨x, hx, h1⟩ := h1
  obtain ⟨y, hy, h2⟩ := h2
  cases hx; cases hy
  exact Bool.eq_iff_iff.2 (h1.trans h2.symm)
theorem ret_ex {s : ByteArray} {e : Ending} (h : NameRet s e) : ∃ b : Bool, e = .returned (.bool b) := ⟨h.choose, h.choose_spec.1⟩

set_option maxHeartbeats 1000000 in
theorem implName_any (s : ByteArray) (w : World) (hs : s.size ≤ 1048576) :
    Calls Try.prog 17 #[.string s] w fun e w' => NameRet s e ∧ w' = w := by
  by_cases h0 : s.size = 0
  · have b0 : ((s.size : Int) == 0) = true := beq_iff_eq.2 (by omega)
    go_enter Try.func17, Try.ntmps17
    go_wp2
    go_ret
    exact ⟨no_size (.inl h0), rfl⟩
  have b0 : ((s.size : Int) == 0) = false := beq_eq_false_iff_ne.2 (by omega)
  by_cases h4 : 40 < s.size
  · have h4' : (40 : Int) < (s.size : Int) := by omega
    go_enter Try.func17, Try.ntmps17
    go_wp2
    go_ret
    exact ⟨no_size (.inr h4), rfl⟩
  have h4' : (s.size : Int) ≤ 40 := by omega
  go_enter Try.func17, Try.ntmps17
  go_wp2
  go_loop [14] (fun i => ∃ k : Nat, k ≤ s.size ∧ i = .int .i64 k ∧ ∀ j, j < k → good s j) (fun i => s.size - (intOf i).toNat)
  case atStart => exact ⟨0, Nat.zero_le _, rfl, fun j hj => absurd hj (Nat.not_lt_zero _)⟩
  case round =>
    obtain ⟨k, hk, rfl, hg⟩ := hrel
    have HG : Hid (∀ j, j < k → good s j) := hg
    clear hg
    by_cases hlt : k < s.size
    · go_wp2_with (first | (go_at_call 32; refine (begins_any _ _).mono ?_; rintro e w' ⟨rfl, rfl⟩) | (go_at_call 33; refine (isDigit_any _ _).mono ?_; rintro e w' ⟨rfl, rfl⟩))
      · go_round
        case rel => exact ⟨k + 1, by omega, by go_num, step HG.out hlt (.inl ‹_›)⟩
        case measure => simp [intOf]; omega
      · go_ret
        exact ⟨not_name hlt ‹_› (.inl ‹_›), rfl⟩
      · go_ret
        exact ⟨not_name hlt ‹_› (by rename_i h; simp at h; omega), rfl⟩
      · go_round
        case rel => exact ⟨k + 1, by omega, by go_num, step HG.out hlt (.inr ⟨by omega, by rename_i h; simpa using h.2⟩)⟩
        case measure => simp [intOf]; omega
    · go_wp2
      go_ret
      exact ⟨yes_name (by omega) (by omega) (fun j hj => HG.out j (by omega)), rfl⟩

set_option maxHeartbeats 1000000 in
theorem word_any (s : ByteArray) (w : World) (hs : s.size ≤ 1048576) :
    Calls Try.prog 46 #[.string s] w fun e w' => NameRet s e ∧ w' = w := by
  by_cases h0 : s.size = 0
  · have b0 : (s.size : Int) < 1 := by omega
    go_enter Try.func46, Try.ntmps46
    go_wp2
    go_ret
    exact ⟨no_size (.inl h0), rfl⟩
  have b0 : (1 : Int) ≤ (s.size : Int) := by omega
  by_cases h4 : 40 < s.size
  · have h4' : (40 : Int) < (s.size : Int) := by omega
    go_enter Try.func46, Try.ntmps46
    go_wp2
    go_ret
    exact ⟨no_size (.inr h4), rfl⟩
  have h4' : (s.size : Int) ≤ 40 := by omega
  have hp : 0 < s.size := by omega
  by_cases hl0 : letB ((s[0]'hp).toNat : Int) = true
  case neg =>
    go_enter Try.func46, Try.ntmps46
    go_wp2_with (go_at_call 57; refine (letter_any _ _).mono ?_; rintro e w' ⟨rfl, rfl⟩)
    go_ret
    exact ⟨not_name hp hl0 (.inl rfl), rfl⟩
  have HL : Hid (letB ((s[0]'hp).toNat : Int) = true) := hl0
  go_enter Try.func46, Try.ntmps46
  go_wp2_with (go_at_call 57; refine (letter_any _ _).mono ?_; rintro e w' ⟨rfl, rfl⟩)
  go_loop [3] (fun i => ∃ k : Nat, 1 ≤ k ∧ k ≤ s.size ∧ i = .int .i64 k ∧ ∀ j, j < k → good s j) (fun i => s.size - (intOf i).toNat)
  case atStart => exact ⟨1, Nat.le_refl _, hp, rfl, step (k := 0) (fun j hj => absurd hj (Nat.not_lt_zero _)) hp (.inl HL.out)⟩
  case round =>
    obtain ⟨k, hk1, hk, rfl, hg⟩ := hrel
    have HG : Hid (∀ j, j < k → good s j) := hg
    clear hg
    by_cases hlt : k < s.size
    · go_wp2_with (first | (go_at_call 57; refine (letter_any _ _).mono ?_; rintro e w' ⟨rfl, rfl⟩) | (go_at_call 58; refine (digit_any _ _).mono ?_; rintro e w' ⟨rfl, rfl⟩))
      · go_round
        case rel => exact ⟨k + 1, by omega, by omega, by go_num, step HG.out hlt (.inl ‹_›)⟩
        case measure => simp [intOf]; omega
      · go_ret
        exact ⟨not_name hlt ‹_› (by rename_i h; simp at h; exact .inr h), rfl⟩
      · go_round
        case rel => exact ⟨k + 1, by omega, by omega, by go_num, step HG.out hlt (.inr ⟨by omega, by rename_i h; simpa using h⟩)⟩
        case measure => simp [intOf]; omega
    · go_wp2
      go_ret
      exact ⟨yes_name (by omega) (by omega) (fun j hj => HG.out j (by omega)), rfl⟩

theorem specName_any (s : ByteArray) (w : World) (hs : s.size ≤ 1048576) :
    Calls Try.prog 27 #[.string s] w fun e w' => NameRet s e ∧ w' = w := by
  go_enter Try.func27, Try.ntmps27
  go_wp2_with fail
  refine (word_any s _ hs).mono ?_
  rintro e w' ⟨hn, rfl⟩
  obtain ⟨b, rfl⟩ := ret_ex hn
  go_wp2
  go_ret
  exact ⟨hn, rfl⟩
end Go.Proofs.Ytinnnfkhiigjpaa.nm

namespace Go.Proofs.Ytinnnfkhiigjpaa.qu
set_option linter.unusedVariables false

/-- The end of a line stands here. -/
def crlf (l : List UInt8) : Bool := l.head? == some 13 && l.tail.head? == some 10
/-- The byte ahead of this is the last one of its line. -/
def lastb (r : List UInt8) : Bool := r.isEmpty || crlf r
def hx (n : Nat) : UInt8 := tb.digs.getD n 0
def plain (c : UInt8) (la : Bool) : Bool := (decide (33 ≤ c.toNat) && decide (c.toNat ≤ 126) && c != 61) || (c == 32 && !la)
def form (c : UInt8) (la : Bool) : List UInt8 := if plain c la then [c] else [61, hx (c.toNat / 16), hx (c.toNat % 16)]
def lim (la : Bool) : Nat := if la then 76 else 75
/-- The quoted text of bytes, behind w characters of a line; of an end of line the second byte is passed by. -/
def qtS : Bool → Nat → List UInt8 → List UInt8
  | _, _, [] => []
  | true, _, _ :: r => qtS false 0 r
  | false, w, c :: r => if crlf (c :: r) then 13 :: 10 :: qtS true 0 r
    else if lim (lastb r) < w + (form c (lastb r)).length then 61 :: 13 :: 10 :: (form c (lastb r) ++ qtS false (form c (lastb r)).length r)
    else form c (lastb r) ++ qtS false (w + (form c (lastb r)).length) r
def qt (w : Nat) (l : List UInt8) : List UInt8 := qtS false w l

theorem qt_nil (w : Nat) : qt w [] = [] := by rw [qt, qtS]
theorem qt_crlf (w : Nat) (r : List UInt8) : qt w (13 :: 10 :: r) = 13 :: 10 :: qt 0 r := by
  rw [qt, qtS, if_pos (by simp [crlf]), qtS, qt]
theorem qt_soft {w : Nat} {c : UInt8} {r : List UInt8} (h : crlf (c :: r) = false) (h2 : lim (lastb r) < w + (form c (lastb r)).length) : qt w (c :: r) = 61 :: 13 :: 10 :: (form c (lastb r) ++ qt (form c (lastb r)).length r) := by
  rw [qt, qtS, if_neg (by rw [h]; decide), if_pos h2, qt]
theorem qt_on {w : Nat} {c : UInt8} {r : List UInt8} (h : crlf (c :: r) = false) (h2 : ¬ lim (lastb r) < w + (form c (lastb r)).length) : qt w (c :: r) = form c (lastb r) ++ qt (w + (form c (lastb r)).length) r := by
  rw [qt, qtS, if_neg (by rw [h]; decide), if_neg h2, qt]
theorem form_len (c : UInt8) (la : Bool) : 1 ≤ (form c la).length ∧ (form c la).length ≤ 3 := by
  unfold form
  split <;> simp
theorem crlf_iff {l : List UInt8} : crlf l = true ↔ ∃ r, l = 13 :: 10 :: r := by
  match l with
  | [] => simp [crlf]
  | [a] => simp [crlf]
  | a :: b :: r => simp [crlf]
theorem crlf_at (l : List UInt8) (i : Nat) : crlf (l.drop i) = (l.getD i 0 == 13 && l.getD (i + 1) 0 == 10) := by
  by_cases h : i < l.length
  · rw [b6.drop_cons h]
    by_cases h2 : i + 1 < l.length
    · rw [b6.drop_cons h2]
      simp [crlf]
    · rw [List.drop_eq_nil_of_le (i := i + 1) (by omega)]
      have e : l.getD (i + 1) 0 = 0 := by rw [List.getD_eq_getElem?_getD, List.getElem?_eq_none (by omega)]; rfl
      rw [e]
      simp [crlf]
  · rw [List.drop_eq_nil_of_le (by omega)]
    have e : l.getD i 0 = 0 := by rw [List.getD_eq_getElem?_getD, List.getElem?_eq_none (by omega)]; rfl
    rw [e]
    simp [crlf]
theorem last_at (l : List UInt8) (i : Nat) : lastb (l.drop i) = (decide (l.length ≤ i) || (l.getD i 0 == 13 && l.getD (i + 1) 0 == 10)) := by
  unfold lastb
  rw [crlf_at]
  congr 1
  by_cases h : l.length ≤ i
  · rw [List.drop_eq_nil_of_le h]
    simp [h]
  · rw [b6.drop_cons (by omega)]
    simp [h]
theorem at_crlf {l : List UInt8} {i w : Nat} (h : crlf (l.drop i) = true) : qt w (l.drop i) = [13, 10] ++ qt 0 (l.drop (i + 2)) := by
  obtain ⟨r, hr⟩ := crlf_iff.1 h
  have e : l.drop (i + 2) = r := by rw [← List.drop_drop, hr]; rfl
  rw [hr, qt_crlf, e]
  rfl
theorem at_soft {l : List UInt8} {i w : Nat} {la : Bool} {f : List UInt8} (hi : i < l.length) (h : crlf (l.drop i) = false) (hla : la = lastb (l.drop (i + 1))) (hf : f = form (l.getD i 0) la) (h2 : lim la < w + f.length) : qt w (l.drop i) = ([61, 13, 10] ++ f) ++ qt f.length (l.drop (i + 1)) := by
  subst hla hf
  rw [b6.drop_cons hi] at h ⊢
  rw [qt_soft h h2]
  simp
theorem at_on {l : List UInt8} {i w : Nat} {la : Bool} {f : List UInt8} (hi : i < l.length) (h : crlf (l.drop i) = false) (hla : la = lastb (l.drop (i + 1))) (hf : f = form (l.getD i 0) la) (h2 : ¬ lim la < w + f.length) : qt w (l.drop i) = f ++ qt (w + f.length) (l.drop (i + 1)) := by
  subst hla hf
  rw [b6.drop_cons hi] at h ⊢
  rw [qt_on h h2]
theorem grow {q p : List UInt8} {l : List UInt8} {i j w w' : Nat} (h : q ++ qt w (l.drop i) = qt 0 l) (e : qt w (l.drop i) = p ++ qt w' (l.drop j)) : (q ++ p) ++ qt w' (l.drop j) = qt 0 l := by
  rw [List.append_assoc, ← e, h]
theorem qt_len_n : ∀ (n : Nat) (w : Nat) (l : List UInt8), l.length ≤ n → (qt w l).length ≤ 6 * l.length := by
  intro n
  induction n with
  | zero =>
    intro w l h
    obtain rfl : l = [] := List.eq_nil_of_length_eq_zero (by omega)
    rw [qt_nil]
    simp
  | succ n ih =>
    intro w l h
    match l, h with
    | [], _ => rw [qt_nil]; simp
    | c :: r, h =>
      have hr : r.length ≤ n := by simp at h; omega
      by_cases hc : crlf (c :: r) = true
      · obtain ⟨r', hr'⟩ := crlf_iff.1 hc
        obtain ⟨rfl, rfl⟩ := List.cons.inj hr'
        rw [qt_crlf]
        have := ih 0 r' (by simp at hr; omega)
        simp
        omega
      · have hcf : crlf (c :: r) = false := by simpa using hc
        have hf := form_len c (lastb r)
        by_cases h2 : lim (lastb r) < w + (form c (lastb r)).length
        · rw [qt_soft hcf h2]
          have := ih (form c (lastb r)).length r hr
          simp
          omega
        · rw [qt_on hcf h2]
          have := ih (w + (form c (lastb r)).length) r hr
          simp
          omega
theorem qt_len (w : Nat) (l : List UInt8) : (qt w l).length ≤ 6 * l.length := qt_len_n l.length w l (Nat.le_refl _)
end Go.Proofs.Ytinnnfkhiigjpaa.qu
