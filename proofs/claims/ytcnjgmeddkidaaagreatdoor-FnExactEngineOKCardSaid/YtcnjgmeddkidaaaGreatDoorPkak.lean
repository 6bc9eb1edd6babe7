/-
  A mutation as an argument: opened; measured, copied and compared by the law's own functions.
  Contracts of the functions on names: a letter, a digit, a word, and both NameOK functions answer whether a text is a name, and leave the world as it was.
  Both MutationOK functions answer whether a mutation is right.
-/
import Derived.Test.YtcnjgmeddkidaaaGreatDoorPkaj
import Derived.Deep.Fields
import Derived.Deep.Slices
import Derived.Test.YtcnjgmeddkidaaaGreatDoorRows
import Derived.WalkKit
import Derived.WalkLawsBesides

namespace Go.Proofs.YtcnjgmeddkidaaaGreatDoor.mu
open Go.ChangeShapes Go.WideShapes Go.ChangeAt Go.RowKit Go.Deep Go.Joins
open it
set_option linter.unusedVariables false

/-- A mutation: kind, uid, mode, flags, box, items. -/
structure Mu where
  k : Int
  u : Int
  m : Int
  f : Int
  b : ByteArray
  ps : List Pr
/-- It as the program has it, its items in v. -/
def MV (x : Mu) (v : Value) : Value := .agg #[.int .i64 x.k, .int .i64 x.u, .int .i64 x.m, .int .i64 x.f, .string x.b, v]
/-- A number that an int can be. -/
def In (z : Int) : Prop := -9223372036854775808 ≤ z ∧ z ≤ 9223372036854775807
theorem in_of_wf {z : Int} (h : (Lit.int .i64 z).wf = true) : In z := by
  have h1 : IntKind.i64.min = -9223372036854775808 := rfl
  have h2 : IntKind.i64.max = 9223372036854775807 := rfl
  simp [Lit.wf, h1, h2] at h
  exact ⟨by omega, by omega⟩
def Ins (x : Mu) : Prop := In x.k ∧ In x.u ∧ In x.m ∧ In x.f
def Small (x : Mu) : Prop := Ins x ∧ x.b.size ≤ 1048576 ∧ it.Small x.ps
def Held (x : Mu) : Prop := Ins x ∧ x.b.size ≤ maxLen ∧ x.ps.length ≤ maxLen ∧ ∀ j, j < x.ps.length → (x.ps.getD j no).1.size ≤ maxLen ∧ (x.ps.getD j no).2.size ≤ maxLen

theorem six_list {α : Type} {l : List α} (h : l.length = 6) : ∃ a b c d e f, l = [a, b, c, d, e, f] := by
  match l, h with
  | [a, b, c, d, e, f], _ => exact ⟨a, b, c, d, e, f, rfl⟩
section
variable {H : Type} {enc : TypeId × Value → H} {w : World} {base : Nat} {spare : Nat → Bool} {held : Bool}
theorem trod_cells {T : TypeId} {fs : Array Field} {fuel : Nat} {cs : List Value} {x : DataW H × List MemPlace} (hs : Tryz.prog.underlying T = some (.struct fs)) (hone : oneCellFields Tryz.prog fs = true) (hc : Tryz.prog.cellsOf T = fs.size) (h : DataW.trod enc Tryz.prog w base spare held fuel T cs = some x) :
    cs.length = fs.size ∧ ∃ n, ∀ (j : Nat) (f : Field) (c : Value), fs[j]? = some f → cs[j]? = some c → ∃ y, DataW.trod enc Tryz.prog w base spare held n f.type [c] = some y := by
  obtain ⟨xs, n, _, hx, hcl, hlen, hf⟩ := DataW.trod_struct hs h
  rw [hc] at hcl
  refine ⟨hcl, n, fun j f c hfj hcj => ?_⟩
  have hh := hf j f hfj
  obtain ⟨o, k⟩ := hone_of hone j f hfj
  rw [o, k] at hh
  have hj : j < xs.length := by
    rw [hlen]
    exact (Array.getElem?_eq_some_iff.1 hfj).1
  have ht : (cs.drop j).take 1 = [c] := by
    obtain ⟨hj2, e⟩ := List.getElem?_eq_some_iff.1 hcj
    rw [List.drop_eq_getElem_cons hj2, e]
    rfl
  rw [ht, List.getElem?_eq_getElem hj] at hh
  exact ⟨_, hh⟩
end

/-- A mutation that lies as a variable. -/
def Lies (w : World) (b : Nat) (T : TypeId) (x : Mu) (v : Value) : Prop := w.heap[b]? = some (.cells #[.int .i64 x.k, .int .i64 x.u, .int .i64 x.m, .int .i64 x.f, .string x.b, v] T (0, 0))
section
variable {w w' : World} {b : Nat} {T : TypeId} {x : Mu} {v : Value}
theorem Lies.c0 (h : Lies w b T x v) : w.cell? ⟨b, 0, none⟩ = some (.int .i64 x.k) := by rw [cell_of_row w _ _ _ _ _ h]; rfl
theorem Lies.c1 (h : Lies w b T x v) : w.cell? ⟨b, 0 + 1, none⟩ = some (.int .i64 x.u) := by rw [cell_of_row w _ _ _ _ _ h]; rfl
theorem Lies.c2 (h : Lies w b T x v) : w.cell? ⟨b, 0 + 2, none⟩ = some (.int .i64 x.m) := by rw [cell_of_row w _ _ _ _ _ h]; rfl
theorem Lies.c3 (h : Lies w b T x v) : w.cell? ⟨b, 0 + 3, none⟩ = some (.int .i64 x.f) := by rw [cell_of_row w _ _ _ _ _ h]; rfl
theorem Lies.c4 (h : Lies w b T x v) : w.cell? ⟨b, 0 + 4, none⟩ = some (.string x.b) := by rw [cell_of_row w _ _ _ _ _ h]; rfl
theorem Lies.c5 (h : Lies w b T x v) : w.cell? ⟨b, 0 + 5, none⟩ = some v := by rw [cell_of_row w _ _ _ _ _ h]; rfl
theorem Lies.lt (h : Lies w b T x v) : b < w.heap.size := World.block_lt_of_cell? w _ h.c0
theorem Lies.keep (h : Lies w b T x v) (hb : Below w.heap.size w w') : Lies w' b T x v := (hb.block b h.lt).trans h
theorem lies_new (w : World) (T : TypeId) (x : Mu) (v : Value) : Lies (w.alloc (.cells #[.int .i64 x.k, .int .i64 x.u, .int .i64 x.m, .int .i64 x.f, .string x.b, v] T)) w.heap.size T x v := by show (w.heap.push _)[w.heap.size]? = _; simp
theorem new_below (w : World) (T : TypeId) (cs : Array Value) : Below w.heap.size w (w.alloc (.cells cs T)) := (Below.refl _ _).alloc (Nat.le_refl _) _
end



end Go.Proofs.YtcnjgmeddkidaaaGreatDoor.mu

namespace Go.Proofs.YtcnjgmeddkidaaaGreatDoor.nm
open Go.RowKit
set_option linter.unusedVariables false

def letB (c : Int) : Bool := decide (97 ≤ c ∧ c ≤ 122 ∨ 65 ≤ c ∧ c ≤ 90 ∨ c = 95)
def digB (c : Int) : Bool := decide (48 ≤ c ∧ c ≤ 57)

theorem ret_bool {a b : Bool} (h : a = b) : Ending.returned (.bool a) = .returned (.bool b) := by rw [h]

set_option maxHeartbeats 400000 in
theorem begins_any (c : Int) (w : World) : Calls Tryz.prog 105 #[.int .u8 c] w fun e w' => e = .returned (.bool (letB c)) ∧ w' = w := by
  go_enter Tryz.func105, Tryz.ntmps105
  go_wp2
  all_goals (go_ret; exact ⟨ret_bool (by rw [Bool.eq_iff_iff]; simp [letB]; omega), rfl⟩)

set_option maxHeartbeats 400000 in
theorem letter_any (c : Int) (w : World) : Calls Tryz.prog 110 #[.int .u8 c] w fun e w' => e = .returned (.bool (letB c)) ∧ w' = w := by
  go_enter Tryz.func110, Tryz.ntmps110
  go_wp2
  all_goals (go_ret; exact ⟨ret_bool (by rw [Bool.eq_iff_iff]; simp [letB]; omega), rfl⟩)

set_option maxHeartbeats 400000 in
theorem isDigit_any (c : Int) (w : World) : Calls Tryz.prog 106 #[.int .u8 c] w fun e w' => e = .returned (.bool (digB c)) ∧ w' = w := by
  go_enter Tryz.func106, Tryz.ntmps106
  go_wp2
  all_goals (go_ret; exact ⟨ret_bool (by simp [digB]; omega), rfl⟩)

set_option maxHeartbeats 400000 in
theorem digit_any (c : Int) (w : World) : Calls Tryz.prog 111 #[.int .u8 c] w fun e w' => e = .returned (.bool (digB c)) ∧ w' = w := by
  go_enter Tryz.func111, Tryz.ntmps111
  go_wp2
  all_goals (go_ret; exact ⟨ret_bool (by simp [digB]; omega), rfl⟩)

/-- The byte at a place may stand there in a name. -/
def good (s : ByteArray) (j : Nat) : Prop := ∃ h : j < s.size, letB ((s[j]'h).toNat : Int) = true ∨ (0 < j ∧ digB ((s[j]'h).toNat : Int) = true)
/-- A text is a name. -/
def IsName (s : ByteArray) : Prop := 1 ≤ s.size ∧ s.size ≤ 40 ∧ ∀ j, j < s.size → good s j

/-- What a call on a name answers: a bool that says whether it is one. -/
def NameRet (s : ByteArray) (e : Ending) : Prop := ∃ b : Bool, e = .returned (.bool b) ∧ (b = true ↔ IsName s)

theorem not_name {s : ByteArray} {k : Nat} (h : k < s.size) (hl : ¬ letB ((s[k]'h).toNat : Int) = true) (hd : k = 0 ∨ digB ((s[k]'h).toNat : Int) = false) : NameRet s (.returned (.bool false)) := by
  refine ⟨false, rfl, ?_⟩
  constructor
  · intro x; cases x
  · rintro ⟨_, _, hg⟩
    obtain ⟨h', hx⟩ := hg k h
    rcases hx with hx | ⟨hp, hx⟩
    · exact absurd hx hl
    · rcases hd with rfl | hd
      · omega
      · rw [hd] at hx; cases hx
theorem no_size {s : ByteArray} (h : s.size = 0 ∨ 40 < s.size) : NameRet s (.returned (.bool false)) :=
  ⟨false, rfl, ⟨fun x => (by cases x), fun x => (by have h1 := x.1; have h2 := x.2.1; omega)⟩⟩
theorem yes_name {s : ByteArray} (h1 : 1 ≤ s.size) (h2 : s.size ≤ 40) (hg : ∀ j, j < s.size → good s j) : NameRet s (.returned (.bool true)) :=
  ⟨true, rfl, ⟨fun _ => ⟨h1, h2, hg⟩, fun _ => rfl⟩⟩
theorem step {s : ByteArray} {k : Nat} (hg : ∀ j, j < k → good s j) (h : k < s.size) (hx : letB ((s[k]'h).toNat : Int) = true ∨ (0 < k ∧ digB ((s[k]'h).toNat : Int) = true)) : ∀ j, j < k + 1 → good s j := by
  intro j hj
  by_cases e : j = k
  · subst e; exact ⟨h, hx⟩
  · exact hg j (by omega)
theorem same_ret {s : ByteArray} {a b : Bool} (h1 : NameRet s (.returned (.bool a))) (h2 : NameRet s (.returned (.bool b))) : a = b := by
  obtain ⟨x, hx, h1⟩ := h1
  obtain ⟨y, hy, h2⟩ := h2
  cases hx; cases hy
  exact Bool.eq_iff_iff.2 (h1.trans h2.symm)
theorem ret_ex {s : ByteArray} {e : Ending} (h : NameRet s e) : ∃ b : Bool, e = .returned (.bool b) := ⟨h.choose, h.choose_spec.1⟩

set_option maxHeartbeats 1000000 in
theorem implName_any (s : ByteArray) (w : World) (hs : s.size ≤ 1048576) :
    Calls Tryz.prog 86 #[.string s] w fun e w' => NameRet s e ∧ w' = w := by
  by_cases h0 : s.size = 0
  · have b0 : ((s.size : Int) == 0) = true := beq_iff_eq.2 (by omega)
    go_enter Tryz.func86, Tryz.ntmps86
    go_wp2
    go_ret
    exact ⟨no_size (.inl h0), rfl⟩
  have b0 : ((s.size : Int) == 0) = false := beq_eq_false_iff_ne.2 (by omega)
  by_cases h4 : 40 < s.size
  · have h4' : (40 : Int) < (s.size : Int) := by omega
    go_enter Tryz.func86, Tryz.ntmps86
    go_wp2
    go_ret
    exact ⟨no_size (.inr h4), rfl⟩
  have h4' : (s.size : Int) ≤ 40 := by omega
  go_enter Tryz.func86, Tryz.ntmps86
  go_wp2
  go_loop [14] (fun i => ∃ k : Nat, k ≤ s.size ∧ i = .int .i64 k ∧ ∀ j, j < k → good s j) (fun i => s.size - (intOf i).toNat)
  case atStart => exact ⟨0, Nat.zero_le _, rfl, fun j hj => absurd hj (Nat.not_lt_zero _)⟩
  case round =>
    obtain ⟨k, hk, rfl, hg⟩ := hrel
    have HG : Hid (∀ j, j < k → good s j) := hg
    clear hg
    by_cases hlt : k < s.size
    · go_wp2_with (first | (go_at_call 105; refine (begins_any _ _).mono ?_; rintro e w' ⟨rfl, rfl⟩) | (go_at_call 106; refine (isDigit_any _ _).mono ?_; rintro e w' ⟨rfl, rfl⟩))
      · go_round
        case rel => exact ⟨k + 1, by omega, by go_num, step HG.out hlt (.inl ‹_›)⟩
        case measure => simp [intOf]; omega
      · go_ret
        exact ⟨not_name hlt ‹_› (.inl ‹_›), rfl⟩
      · go_ret
        exact ⟨not_name hlt ‹_› (by rename_i h; simp at h; omega), rfl⟩
      · go_round
        case rel => exact ⟨k + 1, by omega, by go_num, step HG.out hlt (.inr ⟨by omega, by rename_i h; simpa using h.2⟩)⟩
        case measure => simp [intOf]; omega
    · go_wp2
      go_ret
      exact ⟨yes_name (by omega) (by omega) (fun j hj => HG.out j (by omega)), rfl⟩

set_option maxHeartbeats 1000000 in
theorem word_any (s : ByteArray) (w : World) (hs : s.size ≤ 1048576) :
    Calls Tryz.prog 98 #[.string s] w fun e w' => NameRet s e ∧ w' = w := by
  by_cases h0 : s.size = 0
  · have b0 : (s.size : Int) < 1 := by omega
    go_enter Tryz.func98, Tryz.ntmps98
    go_wp2
    go_ret
    exact ⟨no_size (.inl h0), rfl⟩
  have b0 : (1 : Int) ≤ (s.size : Int) := by omega
  by_cases h4 : 40 < s.size
  · have h4' : (40 : Int) < (s.size : Int) := by omega
    go_enter Tryz.func98, Tryz.ntmps98
    go_wp2
    go_ret
    exact ⟨no_size (.inr h4), rfl⟩
  have h4' : (s.size : Int) ≤ 40 := by omega
  have hp : 0 < s.size := by omega
  by_cases hl0 : letB ((s[0]'hp).toNat : Int) = true
  case neg =>
    go_enter Tryz.func98, Tryz.ntmps98
    go_wp2_with (go_at_call 110; refine (letter_any _ _).mono ?_; rintro e w' ⟨rfl, rfl⟩)
    go_ret
    exact ⟨not_name hp hl0 (.inl rfl), rfl⟩
  have HL : Hid (letB ((s[0]'hp).toNat : Int) = true) := hl0
  go_enter Tryz.func98, Tryz.ntmps98
  go_wp2_with (go_at_call 110; refine (letter_any _ _).mono ?_; rintro e w' ⟨rfl, rfl⟩)
  go_loop [3] (fun i => ∃ k : Nat, 1 ≤ k ∧ k ≤ s.size ∧ i = .int .i64 k ∧ ∀ j, j < k → good s j) (fun i => s.size - (intOf i).toNat)
  case atStart => exact ⟨1, Nat.le_refl _, hp, rfl, step (k := 0) (fun j hj => absurd hj (Nat.not_lt_zero _)) hp (.inl HL.out)⟩
  case round =>
    obtain ⟨k, hk1, hk, rfl, hg⟩ := hrel
    have HG : Hid (∀ j, j < k → good s j) := hg
    clear hg
    by_cases hlt : k < s.size
    · go_wp2_with (first | (go_at_call 110; refine (letter_any _ _).mono ?_; rintro e w' ⟨rfl, rfl⟩) | (go_at_call 111; refine (digit_any _ _).mono ?_; rintro e w' ⟨rfl, rfl⟩))
      · go_round
        case rel => exact ⟨k + 1, by omega, by omega, by go_num, step HG.out hlt (.inl ‹_›)⟩
        case measure => simp [intOf]; omega
      · go_ret
        exact ⟨not_name hlt ‹_› (by rename_i h; simp at h; exact .inr h), rfl⟩
      · go_round
        case rel => exact ⟨k + 1, by omega, by omega, by go_num, step HG.out hlt (.inr ⟨by omega, by rename_i h; simpa using h⟩)⟩
        case measure => simp [intOf]; omega
    · go_wp2
      go_ret
      exact ⟨yes_name (by omega) (by omega) (fun j hj => HG.out j (by omega)), rfl⟩

theorem specName_any (s : ByteArray) (w : World) (hs : s.size ≤ 1048576) :
    Calls Tryz.prog 70 #[.string s] w fun e w' => NameRet s e ∧ w' = w := by
  go_enter Tryz.func70, Tryz.ntmps70
  go_wp2_with fail
  refine (word_any s _ hs).mono ?_
  rintro e w' ⟨hn, rfl⟩
  obtain ⟨b, rfl⟩ := ret_ex hn
  go_wp2
  go_ret
  exact ⟨hn, rfl⟩
end Go.Proofs.YtcnjgmeddkidaaaGreatDoor.nm

namespace Go.Proofs.YtcnjgmeddkidaaaGreatDoor.mu
open Go.RowKit
open it
set_option linter.unusedVariables false

def dGood (s : ByteArray) (j : Nat) : Decidable (nm.good s j) :=
  if h : j < s.size then decidable_of_iff (nm.letB ((s[j]'h).toNat : Int) = true ∨ (0 < j ∧ nm.digB ((s[j]'h).toNat : Int) = true)) ⟨fun x => ⟨h, x⟩, fun ⟨_, x⟩ => x⟩ else isFalse (fun ⟨h', _⟩ => h h')
def dAllGood (s : ByteArray) : Decidable (∀ j, j < s.size → nm.good s j) := @Nat.decidableBallLT s.size (fun j _ => nm.good s j) (fun j _ => dGood s j)
def dName (s : ByteArray) : Decidable (nm.IsName s) := @instDecidableAnd _ _ _ (@instDecidableAnd _ _ _ (dAllGood s))
/-- A text is a name. -/
def nmB (s : ByteArray) : Bool := @decide (nm.IsName s) (dName s)
theorem nm_of {s : ByteArray} {e : Ending} (h : nm.NameRet s e) : e = .returned (.bool (nmB s)) := by
  obtain ⟨b, rfl, h⟩ := h
  have : b = nmB s := by
    unfold nmB
    cases b
    · exact (ow.df (fun x => by have := h.2 x; cases this)).symm
    · exact (ow.dt (h.1 rfl)).symm
  rw [this]
theorem impl_name (s : ByteArray) (w : World) (hs : s.size ≤ 1048576) : Calls Tryz.prog 86 #[.string s] w fun e w' => e = .returned (.bool (nmB s)) ∧ w' = w :=
  (nm.implName_any s w hs).mono fun e w' ⟨h, h2⟩ => ⟨nm_of h, h2⟩
theorem spec_name (s : ByteArray) (w : World) (hs : s.size ≤ 1048576) : Calls Tryz.prog 70 #[.string s] w fun e w' => e = .returned (.bool (nmB s)) ∧ w' = w :=
  (nm.specName_any s w hs).mono fun e w' ⟨h, h2⟩ => ⟨nm_of h, h2⟩

/-- A key's length. -/
def kOK (n : Nat) : Bool := decide (1 ≤ n ∧ n ≤ 200)
/-- Flags. -/
def fOK (f : Int) : Bool := decide (0 ≤ f ∧ f ≤ 31)
def iOK (p : Pr) : Bool := decide ((1 ≤ p.1.size ∧ p.1.size ≤ 200) ∧ p.2.size ≤ 4000)
def AllTo (ps : List Pr) (k : Nat) : Prop := ∀ j, j < k → iOK (ps.getD j no) = true
def dAll (ps : List Pr) (k : Nat) : Decidable (AllTo ps k) := inferInstanceAs (Decidable (∀ j, j < k → iOK (ps.getD j no) = true))
def itsOK (ps : List Pr) : Bool := @decide (ps.length ≤ 20 ∧ AllTo ps ps.length) (@instDecidableAnd _ _ _ (dAll ps ps.length))
theorem its_no {ps : List Pr} (h : ¬ (ps.length ≤ 20 ∧ AllTo ps ps.length)) : itsOK ps = false := ow.df h
theorem its_yes {ps : List Pr} (h : ps.length ≤ 20) (h2 : AllTo ps ps.length) : itsOK ps = true := ow.dt ⟨h, h2⟩
theorem its_of {ps : List Pr} (h : itsOK ps = true) : ps.length ≤ 20 ∧ AllTo ps ps.length := ow.dof h
theorem all_step {ps : List Pr} {k : Nat} (h : AllTo ps k) {a b : ByteArray} (ha : (ps.getD k no).1 = a) (hb : (ps.getD k no).2 = b) (hi : iOK (a, b) = true) : AllTo ps (k + 1) := by
  intro j hj
  by_cases e : j = k
  · subst e
    have : ps.getD j no = (a, b) := by rw [← ha, ← hb]
    rw [this]
    exact hi
  · exact h j (by omega)
theorem all_bad {ps : List Pr} {k : Nat} (hk : k < ps.length) {a b : ByteArray} (ha : (ps.getD k no).1 = a) (hb : (ps.getD k no).2 = b) (hi : iOK (a, b) = false) : itsOK ps = false := by
  refine its_no fun x => ?_
  have h := x.2 k hk
  have : ps.getD k no = (a, b) := by rw [← ha, ← hb]
  rw [this, hi] at h
  cases h
/-- What goes with a kind. -/
def kindOK (k u m f : Int) (n : Nat) : Bool := decide ((k = 1 ∨ k = 4) ∧ u = 0 ∧ m = 0 ∧ f = 0 ∧ n = 0 ∨ k = 2 ∧ u = 0 ∧ m = 0 ∧ f = 0 ∧ 0 < n ∨ k = 3 ∧ n = 0 ∧ 1 ≤ u ∧ u ≤ 1000 ∧ 1 ≤ m ∧ m ≤ 3 ∧ 0 ≤ f ∧ f ≤ 31)
/-- A mutation is right. -/
def mok (x : Mu) : Bool := nmB x.b && itsOK x.ps && kindOK x.k x.u x.m x.f x.ps.length
theorem ret_bool {a b : Bool} (h : a = b) : Ending.returned (.bool a) = .returned (.bool b) := by rw [h]
theorem mok_name {x : Mu} (h : nmB x.b = false) : mok x = false := by simp [mok, h]
theorem mok_its {x : Mu} (h : itsOK x.ps = false) : mok x = false := by simp [mok, h]
theorem mok_kind {x : Mu} (h : nmB x.b = true) (h2 : itsOK x.ps = true) : mok x = kindOK x.k x.u x.m x.f x.ps.length := by simp [mok, h, h2]

theorem isKey_any (s : ByteArray) (w : World) : Calls Tryz.prog 107 #[.string s] w fun e w' => e = .returned (.bool (kOK s.size)) ∧ w' = w := by
  go_enter Tryz.func107, Tryz.ntmps107
  go_wp2
  all_goals (go_ret; exact ⟨ret_bool (by rw [Bool.eq_iff_iff]; simp [kOK]; omega), rfl⟩)
theorem areFlags_any (f : Int) (w : World) : Calls Tryz.prog 89 #[.int .i64 f] w fun e w' => e = .returned (.bool (fOK f)) ∧ w' = w := by
  go_enter Tryz.func89, Tryz.ntmps89
  go_wp2
  all_goals (go_ret; exact ⟨ret_bool (by rw [Bool.eq_iff_iff]; simp [fOK]; omega), rfl⟩)
theorem in_any (n a b : Int) (w : World) : Calls Tryz.prog 35 #[.int .i64 n, .int .i64 a, .int .i64 b] w fun e w' => e = .returned (.bool (decide (a ≤ n ∧ n ≤ b))) ∧ w' = w := by
  go_enter Tryz.func35, Tryz.ntmps35
  go_wp2
  all_goals (go_ret; exact ⟨ret_bool (by rw [Bool.eq_iff_iff]; simp; try omega), rfl⟩)

set_option maxHeartbeats 1000000 in
theorem areItems_any (v : Value) (ps : List Pr) (w : World) (h : AttrsAt w v ps) (hs : it.Small ps) :
    Calls Tryz.prog 87 #[v] w fun e w' => e = .returned (.bool (itsOK ps)) ∧ Below w.heap.size w w' := by
  obtain ⟨a, cap, rfl, h⟩ := h
  obtain ⟨n, hn⟩ : ∃ n, n = ps.length := ⟨_, rfl⟩
  have HN : Hid (n = ps.length) := hn
  have HH : Hid (ps = [] ∨ ∃ b off, a = some ⟨b, off, none⟩ ∧ ∀ j, j < ps.length → w.cell? ⟨b, off + j * 2, none⟩ = some (.string (ps.getD j no).1) ∧ w.cell? ⟨b, off + j * 2 + 1, none⟩ = some (.string (ps.getD j no).2)) := h
  have HS : Hid (it.Small ps) := hs
  have hl : n ≤ 1048576 := by rw [hn]; exact hs.1
  rw [← hn]
  clear h hs hn
  by_cases g0 : 20 < n
  · have g0' : (20 : Int) < (n : Int) := by omega
    rw [its_no (by have := HN.out; omega)]
    go_enter Tryz.func87, Tryz.ntmps87
    go_wp2
    go_ret
    exact ⟨rfl, Below.refl _ _⟩
  have g0' : (n : Int) ≤ 20 := by omega
  go_enter Tryz.func87, Tryz.ntmps87
  go_wp2
  go_loopw [10] (fun i wr => ∃ (k : Nat), k ≤ n ∧ i = .int .i64 k ∧ AllTo ps k ∧ Below w.heap.size w wr) (fun i _ => n - (intOf i).toNat)
  case atStart => exact ⟨0, Nat.zero_le _, rfl, fun j hj => absurd hj (Nat.not_lt_zero _), Below.refl _ _⟩
  case round =>
    obtain ⟨k, hk, rfl, hal, hbw⟩ := hrel
    have HAL : Hid (AllTo ps k) := hal
    clear hal
    by_cases hlt : k < n
    · have hka : k < ps.length := by rw [← HN.out]; exact hlt
      rcases HH.out with e | ⟨b, off, rfl, hcells⟩
      · rw [e] at hka; simp at hka
      obtain ⟨v0, v1⟩ := hcells k hka
      obtain ⟨s0, s1⟩ := HS.out.2 k hka
      have hblt : b < w.heap.size := World.block_lt_of_cell? w _ v0
      have c0 := (hbw.cell (p := ⟨b, off + k * 2, none⟩) hblt).trans v0
      have c1 := (hbw.cell (p := ⟨b, off + k * 2 + 1, none⟩) hblt).trans v1
      clear hcells v0 v1
      generalize hn1 : (ps.getD k no).1 = nm at c0 s0
      generalize hv1 : (ps.getD k no).2 = vl at c1 s1
      have HN1 : Hid ((ps.getD k no).1 = nm) := hn1
      have HV1 : Hid ((ps.getD k no).2 = vl) := hv1
      have HKA : Hid (k < ps.length) := hka
      clear hn1 hv1 hka
      have hlt' : (k : Int) < (n : Int) := by omega
      have hb2 : Below w.heap.size w (wr.alloc (.cells #[.string nm, .string vl] 97)) := hbw.alloc hbw.size _
      by_cases q0 : 1 ≤ nm.size ∧ nm.size ≤ 200
      · have e0 : kOK nm.size = true := decide_eq_true q0
        by_cases q1 : vl.size ≤ 4000
        · have q1' : (vl.size : Int) ≤ 4000 := by omega
          go_wp2_with (go_at_call 107; refine (isKey_any _ _).mono ?_; rintro e w' ⟨rfl, rfl⟩; rw [e0])
          go_roundw
          case rel => exact ⟨k + 1, by omega, by go_num, all_step HAL.out HN1.out HV1.out (decide_eq_true ⟨q0, q1⟩), hb2⟩
          case measure => simp [intOf]; omega
        · have q1' : (4000 : Int) < (vl.size : Int) := by omega
          have HR : Hid (itsOK ps = false) := all_bad HKA.out HN1.out HV1.out (decide_eq_false fun x => q1 x.2)
          go_wp2_with (go_at_call 107; refine (isKey_any _ _).mono ?_; rintro e w' ⟨rfl, rfl⟩; rw [e0])
          go_ret
          exact ⟨ret_bool HR.out.symm, hb2⟩
      · have e0 : kOK nm.size = false := decide_eq_false q0
        have HR : Hid (itsOK ps = false) := all_bad HKA.out HN1.out HV1.out (decide_eq_false fun x => q0 x.1)
        go_wp2_with (go_at_call 107; refine (isKey_any _ _).mono ?_; rintro e w' ⟨rfl, rfl⟩; rw [e0])
        go_ret
        exact ⟨ret_bool HR.out.symm, hb2⟩
    · have HR : Hid (itsOK ps = true) := its_yes (by have := HN.out; omega) (fun j hj => HAL.out j (by have := HN.out; omega))
      go_wp2
      go_ret
      exact ⟨ret_bool HR.out.symm, hbw⟩
end Go.Proofs.YtcnjgmeddkidaaaGreatDoor.mu
