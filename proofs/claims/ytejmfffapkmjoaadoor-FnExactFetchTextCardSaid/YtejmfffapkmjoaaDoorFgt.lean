/-
  Flags written as a text: both functions.
-/
import Derived.Test.YtejmfffapkmjoaaDoorFgb
import Derived.Test.YtejmfffapkmjoaaDoorJon
namespace Go.Proofs.YtejmfffapkmjoaaDoor.fg
open Go.RowKit
open lo sl sp gr bl
set_option linter.unusedVariables false

/-- A flag is set. -/
def bit (f : Nat) (i : Nat) : Bool := (f / 2 ^ i) % 2 == 1
/-- The names of the flags that are set, among the first ones. -/
def sel (f : Nat) : Nat → List (List UInt8)
  | 0 => []
  | k + 1 => sel f k ++ (if bit f k = true then [tb.fls.getD k []] else [])
def FT (f : Nat) : ByteArray := ⟨(40 :: (jn 32 (sel f 5) ++ [41])).toArray⟩
theorem jn_snoc (c : UInt8) (V : List (List UInt8)) (x : List UInt8) (h : V ≠ []) : jn c (V ++ [x]) = jn c V ++ (c :: x) := by
  cases V with
  | nil => exact absurd rfl h
  | cons a r => simp [jn, tails]
theorem fls_small : ∀ k, k < 5 → (tb.fls.getD k []).length ≤ 9 ∧ tb.fls.getD k [] ≠ [] := by decide
theorem mk_app (a b : List UInt8) : (⟨a.toArray⟩ : ByteArray) ++ ⟨b.toArray⟩ = ⟨(a ++ b).toArray⟩ := by
  apply ByteArray.ext
  rw [ByteArray.data_append]
  simp
/-- The text so far. -/
def tx (f k : Nat) : ByteArray := ⟨(jn 32 (sel f k)).toArray⟩
theorem tx_none {f k : Nat} (h : bit f k = false) : tx f (k + 1) = tx f k := by
  unfold tx
  rw [sel, if_neg (by rw [h]; simp), List.append_nil]
theorem tx_first {f k : Nat} (h : bit f k = true) (he : sel f k = []) : tx f (k + 1) = tx f k ++ fn k := by
  unfold tx fn
  rw [mk_app, sel, if_pos h, he]
  simp [jn, tails]
theorem tx_more {f k : Nat} (h : bit f k = true) (he : sel f k ≠ []) : tx f (k + 1) = tx f k ++ ⟨#[32]⟩ ++ fn k := by
  have e : (⟨#[32]⟩ : ByteArray) = ⟨([32] : List UInt8).toArray⟩ := rfl
  unfold tx fn
  rw [e, mk_app, mk_app, sel, if_pos h, jn_snoc 32 _ _ he]
  simp
theorem sel_len : ∀ (f k : Nat), k ≤ 5 → (sel f k).length ≤ k ∧ lens (sel f k) ≤ 9 * k ∧ ∀ x ∈ sel f k, x ≠ []
  | f, 0, _ => ⟨Nat.le_refl _, Nat.le_refl _, fun x hx => by cases hx⟩
  | f, k + 1, hk => by
    obtain ⟨h1, h2, h3⟩ := sel_len f k (by omega)
    obtain ⟨s1, s2⟩ := fls_small k (by omega)
    have hap : ∀ (a b : List (List UInt8)), lens (a ++ b) = lens a + lens b := fun a b => by
      induction a with
      | nil => simp [lens]
      | cons x a ih => simp [lens] at ih ⊢; omega
    rw [sel]
    split
    · refine ⟨by rw [List.length_append, List.length_singleton]; omega, by rw [hap]; have e : lens [tb.fls.getD k []] = (tb.fls.getD k []).length := Nat.add_zero _; omega, fun x hx => ?_⟩
      rcases List.mem_append.1 hx with hx | hx
      · exact h3 x hx
      · rw [List.mem_singleton] at hx
        rw [hx]
        exact s2
    · rw [List.append_nil]
      exact ⟨by omega, by omega, h3⟩
theorem jn_len (c : UInt8) (V : List (List UInt8)) : (jn c V).length ≤ V.length + lens V := by
  cases V with
  | nil => simp [jn]
  | cons a r =>
    have := tails_len c r
    rw [jn, List.length_append, this]
    simp [lens]
    omega
theorem tx_size {f k : Nat} (hk : k ≤ 5) : (tx f k).size ≤ 50 := by
  obtain ⟨h1, h2, _⟩ := sel_len f k hk
  have := jn_len 32 (sel f k)
  rw [Lib.size_eq]
  show (jn 32 (sel f k)).length ≤ 50
  omega
theorem tx_empty {f k : Nat} (hk : k ≤ 5) : ((tx f k).toList.isEmpty = true ↔ sel f k = []) := by
  obtain ⟨_, _, h3⟩ := sel_len f k hk
  rw [Lib.toList_data]
  show (jn 32 (sel f k)).isEmpty = true ↔ sel f k = []
  cases hs : sel f k with
  | nil => simp [jn]
  | cons a r =>
    have ha : a ≠ [] := h3 a (by rw [hs]; exact List.mem_cons_self)
    cases a with
    | nil => exact absurd rfl ha
    | cons b t => simp [jn]
theorem FT_is (f : Nat) : FT f = (⟨#[40]⟩ ++ tx f 5) ++ ⟨#[41]⟩ := by
  have e : (⟨#[40]⟩ : ByteArray) = ⟨([40] : List UInt8).toArray⟩ := rfl
  have e' : (⟨#[41]⟩ : ByteArray) = ⟨([41] : List UInt8).toArray⟩ := rfl
  unfold FT tx
  rw [e, e', mk_app, mk_app]
  simp
def OutIs (f k : Nat) (z : Value) : Prop := z = .string (tx f k)
theorem sb0 : ∀ f : Nat, f < 32 → (bits .and .i64 (f : Int) 1 == 0) = !bit f 0 := by decide
theorem sb1 : ∀ f : Nat, f < 32 → (bits .and .i64 ((f : Int) / 2) 1 == 0) = !bit f 1 := by decide
theorem sb2 : ∀ f : Nat, f < 32 → (bits .and .i64 ((f : Int) / 4) 1 == 0) = !bit f 2 := by decide
theorem sb3 : ∀ f : Nat, f < 32 → (bits .and .i64 ((f : Int) / 8) 1 == 0) = !bit f 3 := by decide
theorem sb4 : ∀ f : Nat, f < 32 → (bits .and .i64 ((f : Int) / 16) 1 == 0) = !bit f 4 := by decide
theorem ib0 : ∀ f : Nat, f < 32 → (bits .and .i64 (f : Int) 1 != 0) = bit f 0 := by decide
theorem ib1 : ∀ f : Nat, f < 32 → (bits .and .i64 (f : Int) 2 != 0) = bit f 1 := by decide
theorem ib2 : ∀ f : Nat, f < 32 → (bits .and .i64 (f : Int) 4 != 0) = bit f 2 := by decide
theorem ib3 : ∀ f : Nat, f < 32 → (bits .and .i64 (f : Int) 8 != 0) = bit f 3 := by decide
theorem ib4 : ∀ f : Nat, f < 32 → (bits .and .i64 (f : Int) 16 != 0) = bit f 4 := by decide

set_option maxHeartbeats 4000000 in
set_option maxRecDepth 100000 in
theorem specFlags (f : Nat) (w : World) (hf : f < 32) :
    Calls Tryd.prog 20 #[.int .i64 (f : Int)] w fun e w' => e = .returned (.string (FT f)) ∧ Below w.heap.size w w' := by
  have hf' : (f : Int) < 32 := by omega
  have HF : Hid (f < 32) := hf
  rw [FT_is]
  go_enter Tryd.func20, Tryd.ntmps20
  go_wp2_with fail
  refine (names_any _).mono ?_
  rintro e w2 ⟨u, rfl, hw2, b2⟩
  obtain ⟨g2, cap2, rfl, hgl2, hcl2⟩ := hw2
  rw [fls_len]
  have HC2 : Hid (∀ j, j < 5 → w2.cell? ⟨g2, j, none⟩ = some (.string (fn j))) := hcl2
  clear hcl2
  go_wp2
  go_loopw [3, 5] (fun z i wr => ∃ k : Nat, k ≤ 5 ∧ OutIs f k z ∧ i = .int .i64 k ∧ wr = w2) (fun _ i _ => 5 - (intOf i).toNat)
  case atStart => exact ⟨0, Nat.zero_le _, rfl, rfl, rfl⟩
  case round =>
    obtain ⟨k, hk, hz, rfl, hwr⟩ := hrel
    obtain rfl : _ = _ := hz
    have hwr := hwr.symm
    subst hwr
    by_cases hlt : k < 5
    · have c2 := HC2.out k hlt
      have hts := tx_size (f := f) hk
      have hes := tx_empty (f := f) hk
      have hfs := fn_size k hlt
      have HT0 : Hid (bit f k = false → tx f (k + 1) = tx f k) := tx_none
      have HT1 : Hid (bit f k = true → sel f k = [] → tx f (k + 1) = tx f k ++ fn k) := tx_first
      have HT2 : Hid (bit f k = true → sel f k ≠ [] → tx f (k + 1) = tx f k ++ ⟨#[32]⟩ ++ fn k) := tx_more
      have hc : k = 0 ∨ k = 1 ∨ k = 2 ∨ k = 3 ∨ k = 4 := by omega
      generalize tx f k = T at hts hes HT0 HT1 HT2 ⊢
      generalize fn k = Y at c2 hfs HT1 HT2
      by_cases he : sel f k = []
      · have hem : T.toList.isEmpty = true := hes.2 he
        have HT1 : Hid (bit f k = true → tx f (k + 1) = T ++ Y) := fun y => HT1.out y he
        clear hes he HT2
        rcases hc with rfl | rfl | rfl | rfl | rfl
        · have hb := sb0 f HF.out
          cases hbt : bit f 0
          · rw [hbt] at hb
            simp only [Bool.not_false] at hb
            have HZ : Hid (tx f (0 + 1) = T) := HT0.out hbt
            clear HT0 HT1 hbt
            go_wp2
            go_roundw
            case rel => exact ⟨0 + 1, by omega, by unfold OutIs; rw [HZ.out], by go_num, by trivial⟩
            case measure => simp [intOf]
          · rw [hbt] at hb
            simp only [Bool.not_true] at hb
            have HZ := HT1.out hbt
            have HZ : Hid (tx f (0 + 1) = _) := HZ
            clear HT0 HT1 hbt
            go_wp2
            go_roundw
            case rel => exact ⟨0 + 1, by omega, by unfold OutIs; rw [HZ.out], by go_num, by trivial⟩
            case measure => simp [intOf]
        · have hb := sb1 f HF.out
          cases hbt : bit f 1
          · rw [hbt] at hb
            simp only [Bool.not_false] at hb
            have HZ : Hid (tx f (1 + 1) = T) := HT0.out hbt
            clear HT0 HT1 hbt
            go_wp2
            go_roundw
            case rel => exact ⟨1 + 1, by omega, by unfold OutIs; rw [HZ.out], by go_num, by trivial⟩
            case measure => simp [intOf]
          · rw [hbt] at hb
            simp only [Bool.not_true] at hb
            have HZ := HT1.out hbt
            have HZ : Hid (tx f (1 + 1) = _) := HZ
            clear HT0 HT1 hbt
            go_wp2
            go_roundw
            case rel => exact ⟨1 + 1, by omega, by unfold OutIs; rw [HZ.out], by go_num, by trivial⟩
            case measure => simp [intOf]
        · have hb := sb2 f HF.out
          cases hbt : bit f 2
          · rw [hbt] at hb
            simp only [Bool.not_false] at hb
            have HZ : Hid (tx f (2 + 1) = T) := HT0.out hbt
            clear HT0 HT1 hbt
            go_wp2
            go_roundw
            case rel => exact ⟨2 + 1, by omega, by unfold OutIs; rw [HZ.out], by go_num, by trivial⟩
            case measure => simp [intOf]
          · rw [hbt] at hb
            simp only [Bool.not_true] at hb
            have HZ := HT1.out hbt
            have HZ : Hid (tx f (2 + 1) = _) := HZ
            clear HT0 HT1 hbt
            go_wp2
            go_roundw
            case rel => exact ⟨2 + 1, by omega, by unfold OutIs; rw [HZ.out], by go_num, by trivial⟩
            case measure => simp [intOf]
        · have hb := sb3 f HF.out
          cases hbt : bit f 3
          · rw [hbt] at hb
            simp only [Bool.not_false] at hb
            have HZ : Hid (tx f (3 + 1) = T) := HT0.out hbt
            clear HT0 HT1 hbt
            go_wp2
            go_roundw
            case rel => exact ⟨3 + 1, by omega, by unfold OutIs; rw [HZ.out], by go_num, by trivial⟩
            case measure => simp [intOf]
          · rw [hbt] at hb
            simp only [Bool.not_true] at hb
            have HZ := HT1.out hbt
            have HZ : Hid (tx f (3 + 1) = _) := HZ
            clear HT0 HT1 hbt
            go_wp2
            go_roundw
            case rel => exact ⟨3 + 1, by omega, by unfold OutIs; rw [HZ.out], by go_num, by trivial⟩
            case measure => simp [intOf]
        · have hb := sb4 f HF.out
          cases hbt : bit f 4
          · rw [hbt] at hb
            simp only [Bool.not_false] at hb
            have HZ : Hid (tx f (4 + 1) = T) := HT0.out hbt
            clear HT0 HT1 hbt
            go_wp2
            go_roundw
            case rel => exact ⟨4 + 1, by omega, by unfold OutIs; rw [HZ.out], by go_num, by trivial⟩
            case measure => simp [intOf]
          · rw [hbt] at hb
            simp only [Bool.not_true] at hb
            have HZ := HT1.out hbt
            have HZ : Hid (tx f (4 + 1) = _) := HZ
            clear HT0 HT1 hbt
            go_wp2
            go_roundw
            case rel => exact ⟨4 + 1, by omega, by unfold OutIs; rw [HZ.out], by go_num, by trivial⟩
            case measure => simp [intOf]
      · have hem : T.toList.isEmpty = false := by
          cases h : T.toList.isEmpty
          · rfl
          · exact absurd (hes.1 h) he
        have HT1 : Hid (bit f k = true → tx f (k + 1) = T ++ ⟨#[32]⟩ ++ Y) := fun y => HT2.out y he
        clear hes he HT2
        rcases hc with rfl | rfl | rfl | rfl | rfl
        · have hb := sb0 f HF.out
          cases hbt : bit f 0
          · rw [hbt] at hb
            simp only [Bool.not_false] at hb
            have HZ : Hid (tx f (0 + 1) = T) := HT0.out hbt
            clear HT0 HT1 hbt
            go_wp2
            go_roundw
            case rel => exact ⟨0 + 1, by omega, by unfold OutIs; rw [HZ.out], by go_num, by trivial⟩
            case measure => simp [intOf]
          · rw [hbt] at hb
            simp only [Bool.not_true] at hb
            have HZ := HT1.out hbt
            have HZ : Hid (tx f (0 + 1) = _) := HZ
            clear HT0 HT1 hbt
            go_wp2
            go_roundw
            case rel => exact ⟨0 + 1, by omega, by unfold OutIs; rw [HZ.out], by go_num, by trivial⟩
            case measure => simp [intOf]
        · have hb := sb1 f HF.out
          cases hbt : bit f 1
          · rw [hbt] at hb
            simp only [Bool.not_false] at hb
            have HZ : Hid (tx f (1 + 1) = T) := HT0.out hbt
            clear HT0 HT1 hbt
            go_wp2
            go_roundw
            case rel => exact ⟨1 + 1, by omega, by unfold OutIs; rw [HZ.out], by go_num, by trivial⟩
            case measure => simp [intOf]
          · rw [hbt] at hb
            simp only [Bool.not_true] at hb
            have HZ := HT1.out hbt
            have HZ : Hid (tx f (1 + 1) = _) := HZ
            clear HT0 HT1 hbt
            go_wp2
            go_roundw
            case rel => exact ⟨1 + 1, by omega, by unfold OutIs; rw [HZ.out], by go_num, by trivial⟩
            case measure => simp [intOf]
        · have hb := sb2 f HF.out
          cases hbt : bit f 2
          · rw [hbt] at hb
            simp only [Bool.not_false] at hb
            have HZ : Hid (tx f (2 + 1) = T) := HT0.out hbt
            clear HT0 HT1 hbt
            go_wp2
            go_roundw
            case rel => exact ⟨2 + 1, by omega, by unfold OutIs; rw [HZ.out], by go_num, by trivial⟩
            case measure => simp [intOf]
          · rw [hbt] at hb
            simp only [Bool.not_true] at hb
            have HZ := HT1.out hbt
            have HZ : Hid (tx f (2 + 1) = _) := HZ
            clear HT0 HT1 hbt
            go_wp2
            go_roundw
            case rel => exact ⟨2 + 1, by omega, by unfold OutIs; rw [HZ.out], by go_num, by trivial⟩
            case measure => simp [intOf]
        · have hb := sb3 f HF.out
          cases hbt : bit f 3
          · rw [hbt] at hb
            simp only [Bool.not_false] at hb
            have HZ : Hid (tx f (3 + 1) = T) := HT0.out hbt
            clear HT0 HT1 hbt
            go_wp2
            go_roundw
            case rel => exact ⟨3 + 1, by omega, by unfold OutIs; rw [HZ.out], by go_num, by trivial⟩
            case measure => simp [intOf]
          · rw [hbt] at hb
            simp only [Bool.not_true] at hb
            have HZ := HT1.out hbt
            have HZ : Hid (tx f (3 + 1) = _) := HZ
            clear HT0 HT1 hbt
            go_wp2
            go_roundw
            case rel => exact ⟨3 + 1, by omega, by unfold OutIs; rw [HZ.out], by go_num, by trivial⟩
            case measure => simp [intOf]
        · have hb := sb4 f HF.out
          cases hbt : bit f 4
          · rw [hbt] at hb
            simp only [Bool.not_false] at hb
            have HZ : Hid (tx f (4 + 1) = T) := HT0.out hbt
            clear HT0 HT1 hbt
            go_wp2
            go_roundw
            case rel => exact ⟨4 + 1, by omega, by unfold OutIs; rw [HZ.out], by go_num, by trivial⟩
            case measure => simp [intOf]
          · rw [hbt] at hb
            simp only [Bool.not_true] at hb
            have HZ := HT1.out hbt
            have HZ : Hid (tx f (4 + 1) = _) := HZ
            clear HT0 HT1 hbt
            go_wp2
            go_roundw
            case rel => exact ⟨4 + 1, by omega, by unfold OutIs; rw [HZ.out], by go_num, by trivial⟩
            case measure => simp [intOf]
    · have hk5 : k = 5 := by omega
      subst hk5
      have hts := tx_size (f := f) hk
      generalize hT : tx f 5 = T at hts ⊢
      have HT : Hid (tx f 5 = T) := hT
      clear hT
      go_wp2
      go_ret
      exact ⟨by rw [HT.out]; rfl, b2⟩
theorem ret_bool {a b : Bool} (h : a = b) : (Ending.returned (.bool a)) = .returned (.bool b) := by rw [h]
/-- What FlagsText answers. -/
def FR (z : Int) : ByteArray × Int := if 0 ≤ z ∧ z ≤ 31 then (FT z.toNat, 0) else (⟨#[]⟩, 4)
end Go.Proofs.YtejmfffapkmjoaaDoor.fg
