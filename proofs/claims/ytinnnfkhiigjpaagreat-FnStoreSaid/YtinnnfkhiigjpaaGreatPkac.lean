/-
  Items as rows of pairs of texts: read by the law's own measure, copy and comparison.
  The laws' own copy of items, and their comparison of items that are the same.
  Items as an argument, opened.
  A mutation as an argument: opened; measured, copied and compared by the law's own functions.
  Contracts of the functions on names: a letter, a digit, a word, and both NameOK functions answer whether a text is a name, and leave the world as it was.
-/
import Derived.Test.YtinnnfkhiigjpaaGreatRows
import Derived.Test.YtinnnfkhiigjpaaGreatPkaa
import Derived.WalkKit
import Derived.WalkLawsBesides
import Derived.Below
import Derived.BigRegion
import Derived.Test.YtinnnfkhiigjpaaGreatPkab
import Derived.ProofKit
import Derived.OpenShut
import Derived.ChangeOld
import Derived.Lib.SmallJoins
import Derived.Deep.SlicePairs
import Derived.Deep.Fields
import Derived.Deep.Slices

namespace Go.Proofs.YtinnnfkhiigjpaaGreat.it
open Go.RowKit
set_option linter.unusedVariables false

abbrev Pr := ByteArray × ByteArray
def no : Pr := (⟨#[]⟩, ⟨#[]⟩)
/-- A slice of attributes. -/
def AttrsAt (w : World) (v : Value) (ps : List Pr) : Prop :=
  ∃ a cap, v = .slice a ps.length cap ∧ (ps = [] ∨ ∃ b off, a = some ⟨b, off, none⟩ ∧ ∀ j, j < ps.length → w.cell? ⟨b, off + j * 2, none⟩ = some (.string (ps.getD j no).1) ∧ w.cell? ⟨b, off + j * 2 + 1, none⟩ = some (.string (ps.getD j no).2))
theorem at_below {w w' : World} {v : Value} {ps : List Pr} (h : AttrsAt w v ps) (hb : Below w.heap.size w w') : AttrsAt w' v ps := by
  obtain ⟨a, cap, rfl, h⟩ := h
  refine ⟨a, cap, rfl, ?_⟩
  rcases h with h | ⟨b, off, rfl, h⟩
  · exact .inl h
  · refine .inr ⟨b, off, rfl, fun j hj => ?_⟩
    obtain ⟨h0, h1⟩ := h j hj
    have hl := World.block_lt_of_cell? w _ h0
    exact ⟨(hb.cell (p := ⟨b, off + j * 2, none⟩) hl).trans h0, (hb.cell (p := ⟨b, off + j * 2 + 1, none⟩) hl).trans h1⟩

/-- Attributes of a size that a law takes. -/
def Small (ps : List Pr) : Prop := ps.length ≤ 1048576 ∧ ∀ j, j < ps.length → (ps.getD j no).1.size ≤ 1048576 ∧ (ps.getD j no).2.size ≤ 1048576

end Go.Proofs.YtinnnfkhiigjpaaGreat.it

namespace Go.Proofs.YtinnnfkhiigjpaaGreat.it
open Go.RowKit
set_option linter.unusedVariables false

theorem infoAt : (Tryz.prog.info? 78).map (fun i => (i.zero, i.size, i.bytes)) = some (some (.agg #[.string ⟨#[]⟩, .string ⟨#[]⟩]), 2, 32) := by kernel_rfl

def Lay (ps : List Pr) (k : Nat) (xs : List Value) : Prop := ∀ j, j < k → xs[j * 2]? = some (.string (ps.getD j no).1) ∧ xs[j * 2 + 1]? = some (.string (ps.getD j no).2)
theorem attrs_lay {w : World} {base e g n cap : Nat} {ps : List Pr} {xs : List Value} (hn : n = ps.length) (h : w.ownsRow base e 2 (.slice (some ⟨g, 0, none⟩) n cap) n xs) (hl : Lay ps n xs) : AttrsAt w (.slice (some ⟨g, 0, none⟩) n cap) ps := by
  subst hn
  refine ⟨_, cap, rfl, .inr ⟨g, 0, rfl, fun j hj => ?_⟩⟩
  obtain ⟨h0, h1⟩ := hl j hj
  refine ⟨?_, ?_⟩
  · rw [Nat.zero_add, h.cellAt (j * 2) (by omega), h0]
  · rw [Nat.zero_add, h.cellAt (j * 2 + 1) (by omega), h1]

open gr
end Go.Proofs.YtinnnfkhiigjpaaGreat.it

namespace Go.Proofs.YtinnnfkhiigjpaaGreat.it
open Go.ChangeShapes Go.WideShapes Go.ChangeAt Go.RowKit Go.Joins Go.Deep
set_option linter.unusedVariables false

section
variable {H : Type} {enc : TypeId × Value → H} {w : World} {base : Nat} {spare : Nat → Bool} {held : Bool}
end
end Go.Proofs.YtinnnfkhiigjpaaGreat.it

namespace Go.Proofs.YtinnnfkhiigjpaaGreat.mu
open Go.ChangeShapes Go.WideShapes Go.ChangeAt Go.RowKit Go.Deep Go.Joins
open it
set_option linter.unusedVariables false

/-- A mutation: kind, uid, mode, flags, box, items. -/
structure Mu where
  k : Int
  u : Int
  m : Int
  f : Int
  b : ByteArray
  ps : List Pr
/-- It as the program has it, its items in v. -/
def MV (x : Mu) (v : Value) : Value := .agg #[.int .i64 x.k, .int .i64 x.u, .int .i64 x.m, .int .i64 x.f, .string x.b, v]
/-- A number that an int can be. -/
def In (z : Int) : Prop := -9223372036854775808 ≤ z ∧ z ≤ 9223372036854775807
def Ins (x : Mu) : Prop := In x.k ∧ In x.u ∧ In x.m ∧ In x.f
def Small (x : Mu) : Prop := Ins x ∧ x.b.size ≤ 1048576 ∧ it.Small x.ps

section
variable {H : Type} {enc : TypeId × Value → H} {w : World} {base : Nat} {spare : Nat → Bool} {held : Bool}
end

/-- A mutation that lies as a variable. -/
def Lies (w : World) (b : Nat) (T : TypeId) (x : Mu) (v : Value) : Prop := w.heap[b]? = some (.cells #[.int .i64 x.k, .int .i64 x.u, .int .i64 x.m, .int .i64 x.f, .string x.b, v] T (0, 0))
section
variable {w w' : World} {b : Nat} {T : TypeId} {x : Mu} {v : Value}
theorem Lies.c0 (h : Lies w b T x v) : w.cell? ⟨b, 0, none⟩ = some (.int .i64 x.k) := by rw [cell_of_row w _ _ _ _ _ h]; rfl
theorem Lies.c1 (h : Lies w b T x v) : w.cell? ⟨b, 0 + 1, none⟩ = some (.int .i64 x.u) := by rw [cell_of_row w _ _ _ _ _ h]; rfl
theorem Lies.c2 (h : Lies w b T x v) : w.cell? ⟨b, 0 + 2, none⟩ = some (.int .i64 x.m) := by rw [cell_of_row w _ _ _ _ _ h]; rfl
theorem Lies.c3 (h : Lies w b T x v) : w.cell? ⟨b, 0 + 3, none⟩ = some (.int .i64 x.f) := by rw [cell_of_row w _ _ _ _ _ h]; rfl
theorem Lies.c4 (h : Lies w b T x v) : w.cell? ⟨b, 0 + 4, none⟩ = some (.string x.b) := by rw [cell_of_row w _ _ _ _ _ h]; rfl
theorem Lies.c5 (h : Lies w b T x v) : w.cell? ⟨b, 0 + 5, none⟩ = some v := by rw [cell_of_row w _ _ _ _ _ h]; rfl
theorem Lies.lt (h : Lies w b T x v) : b < w.heap.size := World.block_lt_of_cell? w _ h.c0
theorem Lies.keep (h : Lies w b T x v) (hb : Below w.heap.size w w') : Lies w' b T x v := (hb.block b h.lt).trans h
theorem lies_new (w : World) (T : TypeId) (x : Mu) (v : Value) : Lies (w.alloc (.cells #[.int .i64 x.k, .int .i64 x.u, .int .i64 x.m, .int .i64 x.f, .string x.b, v] T)) w.heap.size T x v := by show (w.heap.push _)[w.heap.size]? = _; simp
theorem new_below (w : World) (T : TypeId) (cs : Array Value) : Below w.heap.size w (w.alloc (.cells cs T)) := (Below.refl _ _).alloc (Nat.le_refl _) _
end

end Go.Proofs.YtinnnfkhiigjpaaGreat.mu

namespace Go.Proofs.YtinnnfkhiigjpaaGreat.nm
open Go.RowKit
set_option linter.unusedVariables false

def letB (c : Int) : Bool := decide (97 ≤ c ∧ c ≤ 122 ∨ 65 ≤ c ∧ c ≤ 90 ∨ c = 95)
def digB (c : Int) : Bool := decide (48 ≤ c ∧ c ≤ 57)

theorem ret_bool {a b : Bool} (h : a = b) : Ending.returned (.bool a) = .returned (.bool b) := by rw [h]

set_option maxHeartbeats 400000 in
theorem begins_any (c : Int) (w : World) : Calls Tryz.prog 74 #[.int .u8 c] w fun e w' => e = .returned (.bool (letB c)) ∧ w' = w := by
  go_enter Tryz.func74, Tryz.ntmps74
  go_wp2
  all_goals (go_ret; exact ⟨ret_bool (by rw [Bool.eq_iff_iff]; simp [letB]; omega), rfl⟩)

set_option maxHeartbeats 400000 in
theorem letter_any (c : Int) (w : World) : Calls Tryz.prog 94 #[.int .u8 c] w fun e w' => e = .returned (.bool (letB c)) ∧ w' = w := by
  go_enter Tryz.func94, Tryz.ntmps94
  go_wp2
  all_goals (go_ret; exact ⟨ret_bool (by rw [Bool.eq_iff_iff]; simp [letB]; omega), rfl⟩)

set_option maxHeartbeats 400000 in
theorem isDigit_any (c : Int) (w : World) : Calls Tryz.prog 75 #[.int .u8 c] w fun e w' => e = .returned (.bool (digB c)) ∧ w' = w := by
  go_enter Tryz.func75, Tryz.ntmps75
  go_wp2
  all_goals (go_ret; exact ⟨ret_bool (by simp [digB]; omega), rfl⟩)

set_option maxHeartbeats 400000 in
theorem digit_any (c : Int) (w : World) : Calls Tryz.prog 95 #[.int .u8 c] w fun e w' => e = .returned (.bool (digB c)) ∧ w' = w := by
  go_enter Tryz.func95, Tryz.ntmps95
  go_wp2
  all_goals (go_ret; exact ⟨ret_bool (by simp [digB]; omega), rfl⟩)

/-- The byte at a place may stand there in a name. -/
def good (s : ByteArray) (j : Nat) : Prop := ∃ h : j < s.size, letB ((s[j]'h).toNat : Int) = true ∨ (0 < j ∧ digB ((s[j]'h).toNat : Int) = true)
/-- A text is a name. -/
def IsName (s : ByteArray) : Prop := 1 ≤ s.size ∧ s.size ≤ 40 ∧ ∀ j, j < s.size → good s j

/-- What a call on a name answers: a bool that says whether it is one. -/
def NameRet (s : ByteArray) (e : Ending) : Prop := ∃ b : Bool, e = .returned (.bool b) ∧ (b = true ↔ IsName s)

theorem not_name {s : ByteArray} {k : Nat} (h : k < s.size) (hl : ¬ letB ((s[k]'h).toNat : Int) = true) (hd : k = 0 ∨ digB ((s[k]'h).toNat : Int) = false) : NameRet s (.returned (.bool false)) := by
  refine ⟨false, rfl, ?_⟩
  constructor
  · intro x; cases x
  · rintro ⟨_, _, hg⟩
    obtain ⟨h', hx⟩ := hg k h
    rcases hx with hx | ⟨hp, hx⟩
    · exact absurd hx hl
    · rcases hd with rfl | hd
      · omega
      · rw [hd] at hx; cases hx
theorem no_size {s : ByteArray} (h : s.size = 0 ∨ 40 < s.size) : NameRet s (.returned (.bool false)) :=
  ⟨false, rfl, ⟨fun x => (by cases x), fun x => (by have h1 := x.1; have h2 := x.2.1; omega)⟩⟩
theorem yes_name {s : ByteArray} (h1 : 1 ≤ s.size) (h2 : s.size ≤ 40) (hg : ∀ j, j < s.size → good s j) : NameRet s (.returned (.bool true)) :=
  ⟨true, rfl, ⟨fun _ => ⟨h1, h2, hg⟩, fun _ => rfl⟩⟩
theorem step {s : ByteArray} {k : Nat} (hg : ∀ j, j < k → good s j) (h : k < s.size) (hx : letB ((s[k]'h).toNat : Int) = true ∨ (0 < k ∧ digB ((s[k]'h).toNat : Int) = true)) : ∀ j, j < k + 1 → good s j := by
  intro j hj
  by_cases e : j = k
  · subst e; exact ⟨h, hx⟩
  · exact hg j (by omega)
theorem ret_ex {s : ByteArray} {e : Ending} (h : NameRet s e) : ∃ b : Bool, e = .returned (.bool b) := ⟨h.choose, h.choose_spec.1⟩

set_option maxHeartbeats 1000000 in
theorem implName_any (s : ByteArray) (w : World) (hs : s.size ≤ 1048576) :
    Calls Tryz.prog 43 #[.string s] w fun e w' => NameRet s e ∧ w' = w := by
  by_cases h0 : s.size = 0
  · have b0 : ((s.size : Int) == 0) = true := beq_iff_eq.2 (by omega)
    go_enter Tryz.func43, Tryz.ntmps43
    go_wp2
    go_ret
    exact ⟨no_size (.inl h0), rfl⟩
  have b0 : ((s.size : Int) == 0) = false := beq_eq_false_iff_ne.2 (by omega)
  by_cases h4 : 40 < s.size
  · have h4' : (40 : Int) < (s.size : Int) := by omega
    go_enter Tryz.func43, Tryz.ntmps43
    go_wp2
    go_ret
    exact ⟨no_size (.inr h4), rfl⟩
  have h4' : (s.size : Int) ≤ 40 := by omega
  go_enter Tryz.func43, Tryz.ntmps43
  go_wp2
  go_loop [14] (fun i => ∃ k : Nat, k ≤ s.size ∧ i = .int .i64 k ∧ ∀ j, j < k → good s j) (fun i => s.size - (intOf i).toNat)
  case atStart => exact ⟨0, Nat.zero_le _, rfl, fun j hj => absurd hj (Nat.not_lt_zero _)⟩
  case round =>
    obtain ⟨k, hk, rfl, hg⟩ := hrel
    have HG : Hid (∀ j, j < k → good s j) := hg
    clear hg
    by_cases hlt : k < s.size
    · go_wp2_with (first | (go_at_call 74; refine (begins_any _ _).mono ?_; rintro e w' ⟨rfl, rfl⟩) | (go_at_call 75; refine (isDigit_any _ _).mono ?_; rintro e w' ⟨rfl, rfl⟩))
      · go_round
        case rel => exact ⟨k + 1, by omega, by go_num, step HG.out hlt (.inl ‹_›)⟩
        case measure => simp [intOf]; omega
      · go_ret
        exact ⟨not_name hlt ‹_› (.inl ‹_›), rfl⟩
      · go_ret
        exact ⟨not_name hlt ‹_› (by rename_i h; simp at h; omega), rfl⟩
      · go_round
        case rel => exact ⟨k + 1, by omega, by go_num, step HG.out hlt (.inr ⟨by omega, by rename_i h; simpa using h.2⟩)⟩
        case measure => simp [intOf]; omega
    · go_wp2
      go_ret
      exact ⟨yes_name (by omega) (by omega) (fun j hj => HG.out j (by omega)), rfl⟩

set_option maxHeartbeats 1000000 in
theorem word_any (s : ByteArray) (w : World) (hs : s.size ≤ 1048576) :
    Calls Tryz.prog 81 #[.string s] w fun e w' => NameRet s e ∧ w' = w := by
  by_cases h0 : s.size = 0
  · have b0 : (s.size : Int) < 1 := by omega
    go_enter Tryz.func81, Tryz.ntmps81
    go_wp2
    go_ret
    exact ⟨no_size (.inl h0), rfl⟩
  have b0 : (1 : Int) ≤ (s.size : Int) := by omega
  by_cases h4 : 40 < s.size
  · have h4' : (40 : Int) < (s.size : Int) := by omega
    go_enter Tryz.func81, Tryz.ntmps81
    go_wp2
    go_ret
    exact ⟨no_size (.inr h4), rfl⟩
  have h4' : (s.size : Int) ≤ 40 := by omega
  have hp : 0 < s.size := by omega
  by_cases hl0 : letB ((s[0]'hp).toNat : Int) = true
  case neg =>
    go_enter Tryz.func81, Tryz.ntmps81
    go_wp2_with (go_at_call 94; refine (letter_any _ _).mono ?_; rintro e w' ⟨rfl, rfl⟩)
    go_ret
    exact ⟨not_name hp hl0 (.inl rfl), rfl⟩
  have HL : Hid (letB ((s[0]'hp).toNat : Int) = true) := hl0
  go_enter Tryz.func81, Tryz.ntmps81
  go_wp2_with (go_at_call 94; refine (letter_any _ _).mono ?_; rintro e w' ⟨rfl, rfl⟩)
  go_loop [3] (fun i => ∃ k : Nat, 1 ≤ k ∧ k ≤ s.size ∧ i = .int .i64 k ∧ ∀ j, j < k → good s j) (fun i => s.size - (intOf i).toNat)
  case atStart => exact ⟨1, Nat.le_refl _, hp, rfl, step (k := 0) (fun j hj => absurd hj (Nat.not_lt_zero _)) hp (.inl HL.out)⟩
  case round =>
    obtain ⟨k, hk1, hk, rfl, hg⟩ := hrel
    have HG : Hid (∀ j, j < k → good s j) := hg
    clear hg
    by_cases hlt : k < s.size
    · go_wp2_with (first | (go_at_call 94; refine (letter_any _ _).mono ?_; rintro e w' ⟨rfl, rfl⟩) | (go_at_call 95; refine (digit_any _ _).mono ?_; rintro e w' ⟨rfl, rfl⟩))
      · go_round
        case rel => exact ⟨k + 1, by omega, by omega, by go_num, step HG.out hlt (.inl ‹_›)⟩
        case measure => simp [intOf]; omega
      · go_ret
        exact ⟨not_name hlt ‹_› (by rename_i h; simp at h; exact .inr h), rfl⟩
      · go_round
        case rel => exact ⟨k + 1, by omega, by omega, by go_num, step HG.out hlt (.inr ⟨by omega, by rename_i h; simpa using h⟩)⟩
        case measure => simp [intOf]; omega
    · go_wp2
      go_ret
      exact ⟨yes_name (by omega) (by omega) (fun j hj => HG.out j (by omega)), rfl⟩

theorem specName_any (s : ByteArray) (w : World) (hs : s.size ≤ 1048576) :
    Calls Tryz.prog 50 #[.string s] w fun e w' => NameRet s e ∧ w' = w := by
  go_enter Tryz.func50, Tryz.ntmps50
  go_wp2_with fail
  refine (word_any s _ hs).mono ?_
  rintro e w' ⟨hn, rfl⟩
  obtain ⟨b, rfl⟩ := ret_ex hn
  go_wp2
  go_ret
  exact ⟨hn, rfl⟩
end Go.Proofs.YtinnnfkhiigjpaaGreat.nm
