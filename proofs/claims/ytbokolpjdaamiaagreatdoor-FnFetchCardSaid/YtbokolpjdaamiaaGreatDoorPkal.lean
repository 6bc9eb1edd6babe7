/-
  Plain facts on the places at which a reader of a text stands: after n steps, and when every step finds a rune.
  Contracts of the functions on runes: what a rune's size is, which rune begins at a place of a text.
-/
import Derived.Test.YtbokolpjdaamiaaGreatDoorPkak
import Derived.Lib.Strings
import Derived.Lib.IndexBytes
import Derived.Test.YtbokolpjdaamiaaGreatDoorRows
import Derived.WalkKit
import Derived.WalkLawsBesides

namespace Go.Proofs.YtbokolpjdaamiaaGreatDoor.ut
open Go.RowKit
set_option linter.unusedVariables false

/-- The place after n steps, each as wide as the model's decoding says. -/
def pos (s : ByteArray) : Nat → Nat
  | 0 => 0
  | n + 1 => pos s n + (Utf8.decode s (pos s n)).2
/-- A text is right: a rune begins at every place that is come to. -/
def Right (s : ByteArray) : Prop := ∀ n, pos s n < s.size → ¬ badAt s (pos s n)
/-- A call that answers whether something holds. -/
def Says (p : Prop) (e : Ending) : Prop := ∃ b : Bool, e = .returned (.bool b) ∧ (b = true ↔ p)

theorem says_no {p : Prop} (h : ¬ p) : Says p (.returned (.bool false)) := ⟨false, rfl, fun x => (by cases x), fun x => absurd x h⟩
theorem says_yes {p : Prop} (h : p) : Says p (.returned (.bool true)) := ⟨true, rfl, fun _ => h, fun _ => rfl⟩
theorem says_ex {p : Prop} {e : Ending} (h : Says p e) : ∃ b : Bool, e = .returned (.bool b) := ⟨h.choose, h.choose_spec.1⟩
theorem says_same {p : Prop} {a b : Bool} (h1 : Says p (.returned (.bool a))) (h2 : Says p (.returned (.bool b))) : a = b := by
  obtain ⟨x, hx, h1⟩ := h1
  obtain ⟨y, hy, h2⟩ := h2
  cases hx; cases hy
  exact Bool.eq_iff_iff.2 (h1.trans h2.symm)
theorem says_iff {p : Prop} {b : Bool} (h : Says p (.returned (.bool b))) : b = true ↔ p := by
  obtain ⟨x, hx, h⟩ := h
  cases hx
  exact h
theorem says_of {p : Prop} {b : Bool} (h : b = true ↔ p) : Says p (.returned (.bool b)) := ⟨b, rfl, h⟩

theorem F_wide (n k b0 b1 b2 b3 : Nat) (hk : k < n) : 1 ≤ (decF n k b0 b1 b2 b3).2 ∧ k + (decF n k b0 b1 b2 b3).2 ≤ n := by
  unfold decF
  split
  · simp; omega
  split
  · rename_i g; simp at g
    split <;> simp <;> omega
  split
  · rename_i g; simp at g
    split <;> simp <;> omega
  split
  · rename_i g; simp at g
    split <;> simp <;> omega
  · simp; omega
theorem wide (s : ByteArray) (k : Nat) (hk : k < s.size) : 1 ≤ (Utf8.decode s k).2 ∧ k + (Utf8.decode s k).2 ≤ s.size := by
  rw [dec_eq]
  exact F_wide _ _ _ _ _ _ hk
theorem pos_le (s : ByteArray) (n : Nat) (h : pos s n < s.size) : pos s (n + 1) ≤ s.size ∧ pos s n < pos s (n + 1) := by
  have := wide s _ h
  simp only [pos]
  omega
theorem pos_mono (s : ByteArray) (n m : Nat) : pos s n ≤ pos s (n + m) := by
  induction m with
  | zero => exact Nat.le_refl _
  | succ m ih => rw [← Nat.add_assoc]; simp only [pos]; omega
theorem right_of (s : ByteArray) (n : Nat) (h : s.size ≤ pos s n) (hg : ∀ m, m < n → ¬ badAt s (pos s m)) : Right s := by
  intro m hm
  by_cases hmn : m < n
  · exact hg m hmn
  · have := pos_mono s n (m - n)
    rw [show n + (m - n) = m from by omega] at this
    omega
theorem right_step {s : ByteArray} {n : Nat} (hg : ∀ m, m < n → ¬ badAt s (pos s m)) (h : ¬ badAt s (pos s n)) : ∀ m, m < n + 1 → ¬ badAt s (pos s m) := by
  intro m hm
  by_cases e : m = n
  · subst e; exact h
  · exact hg m (by omega)
theorem wrong_at {s : ByteArray} {n : Nat} (h : pos s n < s.size) (hb : badAt s (pos s n)) : ¬ Right s := fun hr => hr n h hb
theorem bad_wide {s : ByteArray} {k : Nat} (h : badAt s k) : (Utf8.decode s k).2 = 1 := by rw [badAt] at h; rw [h]
theorem bad_rune {s : ByteArray} {k : Nat} (h : badAt s k) : (Utf8.decode s k).1 = 65533 := by rw [badAt] at h; rw [h]

theorem F_stand {n k b0 b1 b2 b3 : Nat} (h : (decF n k b0 b1 b2 b3).1 = 65533) (u0 : b0 ≤ 255) (u1 : b1 ≤ 255) (u2 : b2 ≤ 255) :
    decF n k b0 b1 b2 b3 = (65533, 1) ∨ (k + 2 < n ∧ b0 = 239 ∧ b1 = 191 ∧ b2 = 189) := by
  revert h
  unfold decF
  split
  · intro h; simp at h; omega
  split
  · rename_i g; simp at g
    split
    · intro h; simp at h; omega
    · intro _; exact .inl rfl
  split
  · rename_i g; simp at g
    split
    · intro h; simp at h
      right
      omega
    · intro _; exact .inl rfl
  split
  · rename_i g; simp at g
    split
    · rename_i g2; simp at g2
      intro h; simp at h; omega
    · intro _; exact .inl rfl
  · intro _; exact .inl rfl

/-- The three bytes of the stand-in lie at a place. -/
def standAt (s : ByteArray) (p : Nat) : Bool := ((s.extract p s.size).extract 0 3).toList == [239, 191, 189]
theorem stand_list (s : ByteArray) (p : Nat) (h : p + 2 < s.size) : ((s.extract p s.size).extract 0 3).toList = [s.get! p, s.get! (p + 1), s.get! (p + 2)] := by
  rw [Lib.extract_toList, Lib.extract_to_end]
  rw [get_byte s p (by omega), get_byte s (p + 1) (by omega), get_byte s (p + 2) (by omega)]
  have hl : s.data.toList.length = s.size := (Lib.size_eq s).symm
  rw [List.drop_zero, List.drop_eq_getElem_cons (by omega), List.drop_eq_getElem_cons (by omega), List.drop_eq_getElem_cons (by omega)]
  rfl
theorem stand_bad {s : ByteArray} {p : Nat} (hp : p < s.size) (h : ((Utf8.decode s p).1 : Int) = 65533) (hb : standAt s p = false) : badAt s p := by
  have h' : (decF s.size p (s.get! p).toNat (s.get! (p + 1)).toNat (s.get! (p + 2)).toNat (s.get! (p + 3)).toNat).1 = 65533 := by rw [← dec_eq]; omega
  rcases F_stand h' (by have := UInt8.toNat_lt (s.get! p); omega) (by have := UInt8.toNat_lt (s.get! (p + 1)); omega) (by have := UInt8.toNat_lt (s.get! (p + 2)); omega) with e | ⟨hn, e0, e1, e2⟩
  · rw [badAt, dec_eq, e]
  · exfalso
    rw [standAt, stand_list s p hn] at hb
    have f0 : s.get! p = 239 := UInt8.toNat_inj.1 e0
    have f1 : s.get! (p + 1) = 191 := UInt8.toNat_inj.1 e1
    have f2 : s.get! (p + 2) = 189 := UInt8.toNat_inj.1 e2
    rw [f0, f1, f2] at hb
    simp at hb
theorem stand_short {s : ByteArray} {p : Nat} (hp : p < s.size) (h : ((Utf8.decode s p).1 : Int) = 65533) (hb : s.size < p + 3) : badAt s p := by
  have h' : (decF s.size p (s.get! p).toNat (s.get! (p + 1)).toNat (s.get! (p + 2)).toNat (s.get! (p + 3)).toNat).1 = 65533 := by rw [← dec_eq]; omega
  rcases F_stand h' (by have := UInt8.toNat_lt (s.get! p); omega) (by have := UInt8.toNat_lt (s.get! (p + 1)); omega) (by have := UInt8.toNat_lt (s.get! (p + 2)); omega) with e | ⟨hn, e0, e1, e2⟩
  · rw [badAt, dec_eq, e]
  · omega
theorem stand_good {s : ByteArray} {p : Nat} (hn : p + 2 < s.size) (hb : standAt s p = true) : ¬ badAt s p := by
  rw [standAt, stand_list s p hn] at hb
  simp at hb
  obtain ⟨f0, f1, f2⟩ := hb
  rw [badAt, dec_eq, f0, f1, f2]
  intro h
  rw [show UInt8.toNat 239 = 239 from rfl, show UInt8.toNat 191 = 191 from rfl, show UInt8.toNat 189 = 189 from rfl, F3 (by omega) (by omega) hn (by omega) (by omega) (by omega) (by omega), if_pos (by omega)] at h
  simp at h
end Go.Proofs.YtbokolpjdaamiaaGreatDoor.ut

namespace Go.Proofs.YtbokolpjdaamiaaGreatDoor.ut
open Go.RowKit
set_option linter.unusedVariables false

set_option maxHeartbeats 400000 in
theorem in_any (n a b : Int) (w : World) : Calls Tryz.prog 20 #[.int .i64 n, .int .i64 a, .int .i64 b] w fun e w' => e = .returned (.bool (inB n a b)) ∧ w' = w := by
  by_cases h : a ≤ n
  · go_enter Tryz.func20, Tryz.ntmps20
    go_wp2
    go_ret
    exact ⟨ret_bool (by simp [inB, h]), rfl⟩
  · go_enter Tryz.func20, Tryz.ntmps20
    go_wp2
    go_ret
    exact ⟨ret_bool (by simp [inB]; omega), rfl⟩

set_option maxHeartbeats 400000 in
theorem scalar_any (n : Int) (w : World) : Calls Tryz.prog 74 #[.int .i64 n] w fun e w' => e = .returned (.bool (scB n)) ∧ w' = w := by
  cases h : inB n 0 55295
  all_goals
    go_enter Tryz.func74, Tryz.ntmps74
    go_wp2_with (go_at_call 20; refine (in_any _ _ _ _).mono ?_; rintro e w' ⟨rfl, rfl⟩)
    go_ret
    exact ⟨ret_bool (by simp [scB, h]), rfl⟩

set_option maxHeartbeats 400000 in
theorem size_any (n : Int) (w : World) : Calls Tryz.prog 73 #[.int .i64 n] w fun e w' => e = .returned (.int .i64 (rsz n)) ∧ w' = w := by
  cases h : scB n
  · go_enter Tryz.func73, Tryz.ntmps73
    go_wp2_with (go_at_call 74; refine (scalar_any _ _).mono ?_; rintro e w' ⟨rfl, rfl⟩)
    go_ret
    exact ⟨ret_int (by simp [rsz, h]), rfl⟩
  · go_enter Tryz.func73, Tryz.ntmps73
    go_wp2_with (go_at_call 74; refine (scalar_any _ _).mono ?_; rintro e w' ⟨rfl, rfl⟩)
    all_goals (go_ret; exact ⟨ret_int (by unfold rsz; rw [if_pos h]; (repeat' split) <;> omega), rfl⟩)

set_option maxHeartbeats 1000000 in
set_option maxRecDepth 100000 in
theorem rune_1 (s : ByteArray) (k : Nat) (w : World) (hs : s.size ≤ 1048576) (hk : k < s.size) (b : ((s[k]'hk).toNat : Int) < 128) :
    Calls Tryz.prog 46 #[.string s, .int .i64 k] w fun e w' => RuneRet s k e ∧ w' = w := by
  have u0 : ((s[k]'hk).toNat : Int) ≤ 255 := by have := UInt8.toNat_lt (s[k]'hk); omega
  go_enter Tryz.func46, Tryz.ntmps46
  go_wp2_with (first | go_in)
  go_ret3
  exact ⟨r_ok1 hk b, rfl⟩
set_option maxHeartbeats 1000000 in
set_option maxRecDepth 100000 in
theorem rune_lo (s : ByteArray) (k : Nat) (w : World) (hs : s.size ≤ 1048576) (hk : k < s.size) (b : 128 ≤ ((s[k]'hk).toNat : Int)) (b2 : ((s[k]'hk).toNat : Int) < 194) :
    Calls Tryz.prog 46 #[.string s, .int .i64 k] w fun e w' => RuneRet s k e ∧ w' = w := by
  have u0 : ((s[k]'hk).toNat : Int) ≤ 255 := by have := UInt8.toNat_lt (s[k]'hk); omega
  go_enter Tryz.func46, Tryz.ntmps46
  go_wp2_with (first | go_in)
  go_ret3
  exact ⟨r_bad (b_lead hk b (.inl b2)), rfl⟩
set_option maxHeartbeats 1000000 in
set_option maxRecDepth 100000 in
theorem rune_hi (s : ByteArray) (k : Nat) (w : World) (hs : s.size ≤ 1048576) (hk : k < s.size) (b : 244 < ((s[k]'hk).toNat : Int)) :
    Calls Tryz.prog 46 #[.string s, .int .i64 k] w fun e w' => RuneRet s k e ∧ w' = w := by
  have u0 : ((s[k]'hk).toNat : Int) ≤ 255 := by have := UInt8.toNat_lt (s[k]'hk); omega
  go_enter Tryz.func46, Tryz.ntmps46
  go_wp2_with (first | go_in)
  go_ret3
  exact ⟨r_bad (b_lead hk (by omega) (.inr b)), rfl⟩
set_option maxHeartbeats 1000000 in
set_option maxRecDepth 100000 in
theorem rune_2s (s : ByteArray) (k : Nat) (w : World) (hs : s.size ≤ 1048576) (hk : k < s.size) (b : 194 ≤ ((s[k]'hk).toNat : Int)) (b2 : ((s[k]'hk).toNat : Int) ≤ 223) (hn : s.size < k + 2) :
    Calls Tryz.prog 46 #[.string s, .int .i64 k] w fun e w' => RuneRet s k e ∧ w' = w := by
  have u0 : ((s[k]'hk).toNat : Int) ≤ 255 := by have := UInt8.toNat_lt (s[k]'hk); omega
  have hn2 : (s.size : Int) < (k : Int) + 2 := by omega
  go_enter Tryz.func46, Tryz.ntmps46
  go_wp2_with (first | go_in)
  go_ret3
  exact ⟨r_bad (b_short2 hk (by omega) hn), rfl⟩
set_option maxHeartbeats 1000000 in
set_option maxRecDepth 100000 in
theorem rune_2c1lo (s : ByteArray) (k : Nat) (w : World) (hs : s.size ≤ 1048576) (hk : k < s.size) (b : 194 ≤ ((s[k]'hk).toNat : Int)) (b2 : ((s[k]'hk).toNat : Int) ≤ 223) (h1 : k + 1 < s.size) (x : ((s[k + 1]'h1).toNat : Int) < 128) :
    Calls Tryz.prog 46 #[.string s, .int .i64 k] w fun e w' => RuneRet s k e ∧ w' = w := by
  have u0 : ((s[k]'hk).toNat : Int) ≤ 255 := by have := UInt8.toNat_lt (s[k]'hk); omega
  have u1 : ((s[k + 1]'h1).toNat : Int) ≤ 255 := by have := UInt8.toNat_lt (s[k + 1]'h1); omega
  go_enter Tryz.func46, Tryz.ntmps46
  go_wp2_with (first | go_in)
  refine wp_loop_rounds 2 ?_
  rw [rounds_succ]
  go_wp2_with (first | go_in)
  go_ret3
  exact ⟨r_bad (b_c1 hk h1 (by omega) (.inl x)), rfl⟩
set_option maxHeartbeats 1000000 in
set_option maxRecDepth 100000 in
theorem rune_2c1hi (s : ByteArray) (k : Nat) (w : World) (hs : s.size ≤ 1048576) (hk : k < s.size) (b : 194 ≤ ((s[k]'hk).toNat : Int)) (b2 : ((s[k]'hk).toNat : Int) ≤ 223) (h1 : k + 1 < s.size) (x : 191 < ((s[k + 1]'h1).toNat : Int)) :
    Calls Tryz.prog 46 #[.string s, .int .i64 k] w fun e w' => RuneRet s k e ∧ w' = w := by
  have u0 : ((s[k]'hk).toNat : Int) ≤ 255 := by have := UInt8.toNat_lt (s[k]'hk); omega
  have u1 : ((s[k + 1]'h1).toNat : Int) ≤ 255 := by have := UInt8.toNat_lt (s[k + 1]'h1); omega
  have xd : decide (((s[k + 1]'h1).toNat : Int) ≤ 191) = false := decide_eq_false (by omega)
  go_enter Tryz.func46, Tryz.ntmps46
  go_wp2_with (first | go_in)
  refine wp_loop_rounds 2 ?_
  rw [rounds_succ]
  go_wp2_with (first | go_in)
  go_ret3
  exact ⟨r_bad (b_c1 hk h1 (by omega) (.inr x)), rfl⟩
set_option maxHeartbeats 1000000 in
set_option maxRecDepth 100000 in
theorem rune_2 (s : ByteArray) (k : Nat) (w : World) (hs : s.size ≤ 1048576) (hk : k < s.size) (b : 194 ≤ ((s[k]'hk).toNat : Int)) (b2 : ((s[k]'hk).toNat : Int) ≤ 223) (h1 : k + 1 < s.size) (c1 : 128 ≤ ((s[k + 1]'h1).toNat : Int)) (c1' : ((s[k + 1]'h1).toNat : Int) ≤ 191) :
    Calls Tryz.prog 46 #[.string s, .int .i64 k] w fun e w' => RuneRet s k e ∧ w' = w := by
  have u0 : ((s[k]'hk).toNat : Int) ≤ 255 := by have := UInt8.toNat_lt (s[k]'hk); omega
  have u1 : ((s[k + 1]'h1).toNat : Int) ≤ 255 := by have := UInt8.toNat_lt (s[k + 1]'h1); omega
  go_enter Tryz.func46, Tryz.ntmps46
  go_wp2_with (first | go_in)
  refine wp_loop_rounds 2 ?_
  rw [rounds_succ]
  go_wp2_with (first | go_in)
  rw [rounds_succ]
  go_wp2_with (first | go_in)
  go_ret3
  exact ⟨r_ok2 hk h1 b b2 c1 c1', rfl⟩
set_option maxHeartbeats 1000000 in
set_option maxRecDepth 100000 in
theorem rune_3s (s : ByteArray) (k : Nat) (w : World) (hs : s.size ≤ 1048576) (hk : k < s.size) (b : 224 ≤ ((s[k]'hk).toNat : Int)) (b2 : ((s[k]'hk).toNat : Int) ≤ 239) (hn : s.size < k + 3) :
    Calls Tryz.prog 46 #[.string s, .int .i64 k] w fun e w' => RuneRet s k e ∧ w' = w := by
  have u0 : ((s[k]'hk).toNat : Int) ≤ 255 := by have := UInt8.toNat_lt (s[k]'hk); omega
  have hn2 : (s.size : Int) < (k : Int) + 3 := by omega
  go_enter Tryz.func46, Tryz.ntmps46
  go_wp2_with (first | go_in)
  go_ret3
  exact ⟨r_bad (b_short3 hk (by omega) hn), rfl⟩
set_option maxHeartbeats 1000000 in
set_option maxRecDepth 100000 in
theorem rune_3c1lo (s : ByteArray) (k : Nat) (w : World) (hs : s.size ≤ 1048576) (hk : k < s.size) (b : 224 ≤ ((s[k]'hk).toNat : Int)) (b2 : ((s[k]'hk).toNat : Int) ≤ 239) (h1 : k + 1 < s.size) (h2 : k + 2 < s.size) (x : ((s[k + 1]'h1).toNat : Int) < 128) :
    Calls Tryz.prog 46 #[.string s, .int .i64 k] w fun e w' => RuneRet s k e ∧ w' = w := by
  have u0 : ((s[k]'hk).toNat : Int) ≤ 255 := by have := UInt8.toNat_lt (s[k]'hk); omega
  have u1 : ((s[k + 1]'h1).toNat : Int) ≤ 255 := by have := UInt8.toNat_lt (s[k + 1]'h1); omega
  go_enter Tryz.func46, Tryz.ntmps46
  go_wp2_with (first | go_in)
  refine wp_loop_rounds 3 ?_
  rw [rounds_succ]
  go_wp2_with (first | go_in)
  go_ret3
  exact ⟨r_bad (b_c1 hk h1 (by omega) (.inl x)), rfl⟩
set_option maxHeartbeats 1000000 in
set_option maxRecDepth 100000 in
theorem rune_3c1hi (s : ByteArray) (k : Nat) (w : World) (hs : s.size ≤ 1048576) (hk : k < s.size) (b : 224 ≤ ((s[k]'hk).toNat : Int)) (b2 : ((s[k]'hk).toNat : Int) ≤ 239) (h1 : k + 1 < s.size) (h2 : k + 2 < s.size) (x : 191 < ((s[k + 1]'h1).toNat : Int)) :
    Calls Tryz.prog 46 #[.string s, .int .i64 k] w fun e w' => RuneRet s k e ∧ w' = w := by
  have u0 : ((s[k]'hk).toNat : Int) ≤ 255 := by have := UInt8.toNat_lt (s[k]'hk); omega
  have u1 : ((s[k + 1]'h1).toNat : Int) ≤ 255 := by have := UInt8.toNat_lt (s[k + 1]'h1); omega
  have xd : decide (((s[k + 1]'h1).toNat : Int) ≤ 191) = false := decide_eq_false (by omega)
  go_enter Tryz.func46, Tryz.ntmps46
  go_wp2_with (first | go_in)
  refine wp_loop_rounds 3 ?_
  rw [rounds_succ]
  go_wp2_with (first | go_in)
  go_ret3
  exact ⟨r_bad (b_c1 hk h1 (by omega) (.inr x)), rfl⟩
set_option maxHeartbeats 1000000 in
set_option maxRecDepth 100000 in
theorem rune_3c2lo (s : ByteArray) (k : Nat) (w : World) (hs : s.size ≤ 1048576) (hk : k < s.size) (b : 224 ≤ ((s[k]'hk).toNat : Int)) (b2 : ((s[k]'hk).toNat : Int) ≤ 239) (h1 : k + 1 < s.size) (h2 : k + 2 < s.size) (c1 : 128 ≤ ((s[k + 1]'h1).toNat : Int)) (c1' : ((s[k + 1]'h1).toNat : Int) ≤ 191) (x : ((s[k + 2]'h2).toNat : Int) < 128) :
    Calls Tryz.prog 46 #[.string s, .int .i64 k] w fun e w' => RuneRet s k e ∧ w' = w := by
  have u0 : ((s[k]'hk).toNat : Int) ≤ 255 := by have := UInt8.toNat_lt (s[k]'hk); omega
  have u1 : ((s[k + 1]'h1).toNat : Int) ≤ 255 := by have := UInt8.toNat_lt (s[k + 1]'h1); omega
  have u2 : ((s[k + 2]'h2).toNat : Int) ≤ 255 := by have := UInt8.toNat_lt (s[k + 2]'h2); omega
  go_enter Tryz.func46, Tryz.ntmps46
  go_wp2_with (first | go_in)
  refine wp_loop_rounds 3 ?_
  rw [rounds_succ]
  go_wp2_with (first | go_in)
  rw [rounds_succ]
  go_wp2_with (first | go_in)
  go_ret3
  exact ⟨r_bad (b_c2 hk h2 (by omega) (.inl x)), rfl⟩
set_option maxHeartbeats 1000000 in
set_option maxRecDepth 100000 in
theorem rune_3c2hi (s : ByteArray) (k : Nat) (w : World) (hs : s.size ≤ 1048576) (hk : k < s.size) (b : 224 ≤ ((s[k]'hk).toNat : Int)) (b2 : ((s[k]'hk).toNat : Int) ≤ 239) (h1 : k + 1 < s.size) (h2 : k + 2 < s.size) (c1 : 128 ≤ ((s[k + 1]'h1).toNat : Int)) (c1' : ((s[k + 1]'h1).toNat : Int) ≤ 191) (x : 191 < ((s[k + 2]'h2).toNat : Int)) :
    Calls Tryz.prog 46 #[.string s, .int .i64 k] w fun e w' => RuneRet s k e ∧ w' = w := by
  have u0 : ((s[k]'hk).toNat : Int) ≤ 255 := by have := UInt8.toNat_lt (s[k]'hk); omega
  have u1 : ((s[k + 1]'h1).toNat : Int) ≤ 255 := by have := UInt8.toNat_lt (s[k + 1]'h1); omega
  have u2 : ((s[k + 2]'h2).toNat : Int) ≤ 255 := by have := UInt8.toNat_lt (s[k + 2]'h2); omega
  have xd : decide (((s[k + 2]'h2).toNat : Int) ≤ 191) = false := decide_eq_false (by omega)
  go_enter Tryz.func46, Tryz.ntmps46
  go_wp2_with (first | go_in)
  refine wp_loop_rounds 3 ?_
  rw [rounds_succ]
  go_wp2_with (first | go_in)
  rw [rounds_succ]
  go_wp2_with (first | go_in)
  go_ret3
  exact ⟨r_bad (b_c2 hk h2 (by omega) (.inr x)), rfl⟩
set_option maxHeartbeats 1000000 in
set_option maxRecDepth 100000 in
theorem rune_4s (s : ByteArray) (k : Nat) (w : World) (hs : s.size ≤ 1048576) (hk : k < s.size) (b : 240 ≤ ((s[k]'hk).toNat : Int)) (b2 : ((s[k]'hk).toNat : Int) ≤ 244) (hn : s.size < k + 4) :
    Calls Tryz.prog 46 #[.string s, .int .i64 k] w fun e w' => RuneRet s k e ∧ w' = w := by
  have u0 : ((s[k]'hk).toNat : Int) ≤ 255 := by have := UInt8.toNat_lt (s[k]'hk); omega
  have hn2 : (s.size : Int) < (k : Int) + 4 := by omega
  go_enter Tryz.func46, Tryz.ntmps46
  go_wp2_with (first | go_in)
  go_ret3
  exact ⟨r_bad (b_short4 hk (by omega) hn), rfl⟩
set_option maxHeartbeats 1000000 in
set_option maxRecDepth 100000 in
theorem rune_4c1lo (s : ByteArray) (k : Nat) (w : World) (hs : s.size ≤ 1048576) (hk : k < s.size) (b : 240 ≤ ((s[k]'hk).toNat : Int)) (b2 : ((s[k]'hk).toNat : Int) ≤ 244) (h1 : k + 1 < s.size) (h2 : k + 2 < s.size) (h3 : k + 3 < s.size) (x : ((s[k + 1]'h1).toNat : Int) < 128) :
    Calls Tryz.prog 46 #[.string s, .int .i64 k] w fun e w' => RuneRet s k e ∧ w' = w := by
  have u0 : ((s[k]'hk).toNat : Int) ≤ 255 := by have := UInt8.toNat_lt (s[k]'hk); omega
  have u1 : ((s[k + 1]'h1).toNat : Int) ≤ 255 := by have := UInt8.toNat_lt (s[k + 1]'h1); omega
  go_enter Tryz.func46, Tryz.ntmps46
  go_wp2_with (first | go_in)
  refine wp_loop_rounds 4 ?_
  rw [rounds_succ]
  go_wp2_with (first | go_in)
  go_ret3
  exact ⟨r_bad (b_c1 hk h1 (by omega) (.inl x)), rfl⟩
set_option maxHeartbeats 1000000 in
set_option maxRecDepth 100000 in
theorem rune_4c1hi (s : ByteArray) (k : Nat) (w : World) (hs : s.size ≤ 1048576) (hk : k < s.size) (b : 240 ≤ ((s[k]'hk).toNat : Int)) (b2 : ((s[k]'hk).toNat : Int) ≤ 244) (h1 : k + 1 < s.size) (h2 : k + 2 < s.size) (h3 : k + 3 < s.size) (x : 191 < ((s[k + 1]'h1).toNat : Int)) :
    Calls Tryz.prog 46 #[.string s, .int .i64 k] w fun e w' => RuneRet s k e ∧ w' = w := by
  have u0 : ((s[k]'hk).toNat : Int) ≤ 255 := by have := UInt8.toNat_lt (s[k]'hk); omega
  have u1 : ((s[k + 1]'h1).toNat : Int) ≤ 255 := by have := UInt8.toNat_lt (s[k + 1]'h1); omega
  have xd : decide (((s[k + 1]'h1).toNat : Int) ≤ 191) = false := decide_eq_false (by omega)
  go_enter Tryz.func46, Tryz.ntmps46
  go_wp2_with (first | go_in)
  refine wp_loop_rounds 4 ?_
  rw [rounds_succ]
  go_wp2_with (first | go_in)
  go_ret3
  exact ⟨r_bad (b_c1 hk h1 (by omega) (.inr x)), rfl⟩
set_option maxHeartbeats 1000000 in
set_option maxRecDepth 100000 in
theorem rune_4c2lo (s : ByteArray) (k : Nat) (w : World) (hs : s.size ≤ 1048576) (hk : k < s.size) (b : 240 ≤ ((s[k]'hk).toNat : Int)) (b2 : ((s[k]'hk).toNat : Int) ≤ 244) (h1 : k + 1 < s.size) (h2 : k + 2 < s.size) (h3 : k + 3 < s.size) (c1 : 128 ≤ ((s[k + 1]'h1).toNat : Int)) (c1' : ((s[k + 1]'h1).toNat : Int) ≤ 191) (x : ((s[k + 2]'h2).toNat : Int) < 128) :
    Calls Tryz.prog 46 #[.string s, .int .i64 k] w fun e w' => RuneRet s k e ∧ w' = w := by
  have u0 : ((s[k]'hk).toNat : Int) ≤ 255 := by have := UInt8.toNat_lt (s[k]'hk); omega
  have u1 : ((s[k + 1]'h1).toNat : Int) ≤ 255 := by have := UInt8.toNat_lt (s[k + 1]'h1); omega
  have u2 : ((s[k + 2]'h2).toNat : Int) ≤ 255 := by have := UInt8.toNat_lt (s[k + 2]'h2); omega
  go_enter Tryz.func46, Tryz.ntmps46
  go_wp2_with (first | go_in)
  refine wp_loop_rounds 4 ?_
  rw [rounds_succ]
  go_wp2_with (first | go_in)
  rw [rounds_succ]
  go_wp2_with (first | go_in)
  go_ret3
  exact ⟨r_bad (b_c2 hk h2 (by omega) (.inl x)), rfl⟩
set_option maxHeartbeats 1000000 in
set_option maxRecDepth 100000 in
theorem rune_4c2hi (s : ByteArray) (k : Nat) (w : World) (hs : s.size ≤ 1048576) (hk : k < s.size) (b : 240 ≤ ((s[k]'hk).toNat : Int)) (b2 : ((s[k]'hk).toNat : Int) ≤ 244) (h1 : k + 1 < s.size) (h2 : k + 2 < s.size) (h3 : k + 3 < s.size) (c1 : 128 ≤ ((s[k + 1]'h1).toNat : Int)) (c1' : ((s[k + 1]'h1).toNat : Int) ≤ 191) (x : 191 < ((s[k + 2]'h2).toNat : Int)) :
    Calls Tryz.prog 46 #[.string s, .int .i64 k] w fun e w' => RuneRet s k e ∧ w' = w := by
  have u0 : ((s[k]'hk).toNat : Int) ≤ 255 := by have := UInt8.toNat_lt (s[k]'hk); omega
  have u1 : ((s[k + 1]'h1).toNat : Int) ≤ 255 := by have := UInt8.toNat_lt (s[k + 1]'h1); omega
  have u2 : ((s[k + 2]'h2).toNat : Int) ≤ 255 := by have := UInt8.toNat_lt (s[k + 2]'h2); omega
  have xd : decide (((s[k + 2]'h2).toNat : Int) ≤ 191) = false := decide_eq_false (by omega)
  go_enter Tryz.func46, Tryz.ntmps46
  go_wp2_with (first | go_in)
  refine wp_loop_rounds 4 ?_
  rw [rounds_succ]
  go_wp2_with (first | go_in)
  rw [rounds_succ]
  go_wp2_with (first | go_in)
  go_ret3
  exact ⟨r_bad (b_c2 hk h2 (by omega) (.inr x)), rfl⟩
set_option maxHeartbeats 1000000 in
set_option maxRecDepth 100000 in
theorem rune_4c3lo (s : ByteArray) (k : Nat) (w : World) (hs : s.size ≤ 1048576) (hk : k < s.size) (b : 240 ≤ ((s[k]'hk).toNat : Int)) (b2 : ((s[k]'hk).toNat : Int) ≤ 244) (h1 : k + 1 < s.size) (h2 : k + 2 < s.size) (h3 : k + 3 < s.size) (c1 : 128 ≤ ((s[k + 1]'h1).toNat : Int)) (c1' : ((s[k + 1]'h1).toNat : Int) ≤ 191) (c2 : 128 ≤ ((s[k + 2]'h2).toNat : Int)) (c2' : ((s[k + 2]'h2).toNat : Int) ≤ 191) (x : ((s[k + 3]'h3).toNat : Int) < 128) :
    Calls Tryz.prog 46 #[.string s, .int .i64 k] w fun e w' => RuneRet s k e ∧ w' = w := by
  have u0 : ((s[k]'hk).toNat : Int) ≤ 255 := by have := UInt8.toNat_lt (s[k]'hk); omega
  have u1 : ((s[k + 1]'h1).toNat : Int) ≤ 255 := by have := UInt8.toNat_lt (s[k + 1]'h1); omega
  have u2 : ((s[k + 2]'h2).toNat : Int) ≤ 255 := by have := UInt8.toNat_lt (s[k + 2]'h2); omega
  have u3 : ((s[k + 3]'h3).toNat : Int) ≤ 255 := by have := UInt8.toNat_lt (s[k + 3]'h3); omega
  go_enter Tryz.func46, Tryz.ntmps46
  go_wp2_with (first | go_in)
  refine wp_loop_rounds 4 ?_
  rw [rounds_succ]
  go_wp2_with (first | go_in)
  rw [rounds_succ]
  go_wp2_with (first | go_in)
  rw [rounds_succ]
  go_wp2_with (first | go_in)
  go_ret3
  exact ⟨r_bad (b_c3 hk h3 (by omega) (.inl x)), rfl⟩
set_option maxHeartbeats 1000000 in
set_option maxRecDepth 100000 in
theorem rune_4c3hi (s : ByteArray) (k : Nat) (w : World) (hs : s.size ≤ 1048576) (hk : k < s.size) (b : 240 ≤ ((s[k]'hk).toNat : Int)) (b2 : ((s[k]'hk).toNat : Int) ≤ 244) (h1 : k + 1 < s.size) (h2 : k + 2 < s.size) (h3 : k + 3 < s.size) (c1 : 128 ≤ ((s[k + 1]'h1).toNat : Int)) (c1' : ((s[k + 1]'h1).toNat : Int) ≤ 191) (c2 : 128 ≤ ((s[k + 2]'h2).toNat : Int)) (c2' : ((s[k + 2]'h2).toNat : Int) ≤ 191) (x : 191 < ((s[k + 3]'h3).toNat : Int)) :
    Calls Tryz.prog 46 #[.string s, .int .i64 k] w fun e w' => RuneRet s k e ∧ w' = w := by
  have u0 : ((s[k]'hk).toNat : Int) ≤ 255 := by have := UInt8.toNat_lt (s[k]'hk); omega
  have u1 : ((s[k + 1]'h1).toNat : Int) ≤ 255 := by have := UInt8.toNat_lt (s[k + 1]'h1); omega
  have u2 : ((s[k + 2]'h2).toNat : Int) ≤ 255 := by have := UInt8.toNat_lt (s[k + 2]'h2); omega
  have u3 : ((s[k + 3]'h3).toNat : Int) ≤ 255 := by have := UInt8.toNat_lt (s[k + 3]'h3); omega
  have xd : decide (((s[k + 3]'h3).toNat : Int) ≤ 191) = false := decide_eq_false (by omega)
  go_enter Tryz.func46, Tryz.ntmps46
  go_wp2_with (first | go_in)
  refine wp_loop_rounds 4 ?_
  rw [rounds_succ]
  go_wp2_with (first | go_in)
  rw [rounds_succ]
  go_wp2_with (first | go_in)
  rw [rounds_succ]
  go_wp2_with (first | go_in)
  go_ret3
  exact ⟨r_bad (b_c3 hk h3 (by omega) (.inr x)), rfl⟩
end Go.Proofs.YtbokolpjdaamiaaGreatDoor.ut
