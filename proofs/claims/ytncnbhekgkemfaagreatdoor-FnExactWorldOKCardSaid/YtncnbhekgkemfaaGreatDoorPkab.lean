/-
  Contracts of the functions on names: a letter, a digit, a word, and both NameOK functions answer whether a text is a name, and leave the world as it was.
  A session as an argument: opened, measured, copied and compared by the law's own functions; both ImapOK and both NewImap functions.
  Regions that draw their order, whose own operations only read and whose callees make new memory alone: one walk in the order of the text.
-/
import Derived.Test.YtncnbhekgkemfaaGreatDoorRows
import Derived.WalkKit
import Derived.WalkLawsBesides
import Derived.Test.YtncnbhekgkemfaaGreatDoorPkaa
import Derived.ProofKit
import Derived.OpenShut
import Derived.ChangeOld
import Derived.Deep.Fields
import Derived.Lib.SmallJoins
import Derived.Deep.Slices
import Derived.Below
import Derived.Deep.QuietTactic
import Derived.BigQuiet
import Derived.BigRegion

namespace Go.Proofs.YtncnbhekgkemfaaGreatDoor.nm
open Go.RowKit
set_option linter.unusedVariables false

def letB (c : Int) : Bool := decide (97 ≤ c ∧ c ≤ 122 ∨ 65 ≤ c ∧ c ≤ 90 ∨ c = 95)
def digB (c : Int) : Bool := decide (48 ≤ c ∧ c ≤ 57)

theorem ret_bool {a b : Bool} (h : a = b) : Ending.returned (.bool a) = .returned (.bool b) := by rw [h]

set_option maxHeartbeats 400000 in
theorem begins_any (c : Int) (w : World) : Calls Tryz.prog 88 #[.int .u8 c] w fun e w' => e = .returned (.bool (letB c)) ∧ w' = w := by
  go_enter Tryz.func88, Tryz.ntmps88
  go_wp2
  all_goals (go_ret; exact ⟨ret_bool (by rw [Bool.eq_iff_iff]; simp [letB]; omega), rfl⟩)

set_option maxHeartbeats 400000 in
theorem letter_any (c : Int) (w : World) : Calls Tryz.prog 107 #[.int .u8 c] w fun e w' => e = .returned (.bool (letB c)) ∧ w' = w := by
  go_enter Tryz.func107, Tryz.ntmps107
  go_wp2
  all_goals (go_ret; exact ⟨ret_bool (by rw [Bool.eq_iff_iff]; simp [letB]; omega), rfl⟩)

set_option maxHeartbeats 400000 in
theorem isDigit_any (c : Int) (w : World) : Calls Tryz.prog 89 #[.int .u8 c] w fun e w' => e = .returned (.bool (digB c)) ∧ w' = w := by
  go_enter Tryz.func89, Tryz.ntmps89
  go_wp2
  all_goals (go_ret; exact ⟨ret_bool (by simp [digB]; omega), rfl⟩)

set_option maxHeartbeats 400000 in
theorem digit_any (c : Int) (w : World) : Calls Tryz.prog 108 #[.int .u8 c] w fun e w' => e = .returned (.bool (digB c)) ∧ w' = w := by
  go_enter Tryz.func108, Tryz.ntmps108
  go_wp2
  all_goals (go_ret; exact ⟨ret_bool (by simp [digB]; omega), rfl⟩)

/-- The byte at a place may stand there in a name. -/
def good (s : ByteArray) (j : Nat) : Prop := ∃ h : j < s.size, letB ((s[j]'h).toNat : Int) = true ∨ (0 < j ∧ digB ((s[j]'h).toNat : Int) = true)
/-- A text is a name. -/
def IsName (s : ByteArray) : Prop := 1 ≤ s.size ∧ s.size ≤ 40 ∧ ∀ j, j < s.size → good s j

/-- What a call on a name answers: a bool that says whether it is one. -/
def NameRet (s : ByteArray) (e : Ending) : Prop := ∃ b : Bool, e = .returned (.bool b) ∧ (b = true ↔ IsName s)

theorem not_name {s : ByteArray} {k : Nat} (h : k < s.size) (hl : ¬ letB ((s[k]'h).toNat : Int) = true) (hd : k = 0 ∨ digB ((s[k]'h).toNat : Int) = false) : NameRet s (.returned (.bool false)) := by
  refine ⟨false, rfl, ?_⟩
  constructor
  · intro x; cases x
  · rintro ⟨_, _, hg⟩
    obtain ⟨h', hx⟩ := hg k h
    rcases hx with hx | ⟨hp, hx⟩
    · exact absurd hx hl
    · rcases hd with rfl | hd
      · omega
      · rw [hd] at hx; cases hx
theorem no_size {s : ByteArray} (h : s.size = 0 ∨ 40 < s.size) : NameRet s (.returned (.bool false)) :=
  ⟨false, rfl, ⟨fun x => (by cases x), fun x => (by have h1 := x.1; have h2 := x.2.1; omega)⟩⟩
theorem yes_name {s : ByteArray} (h1 : 1 ≤ s.size) (h2 : s.size ≤ 40) (hg : ∀ j, j < s.size → good s j) : NameRet s (.returned (.bool true)) :=
  ⟨true, rfl, ⟨fun _ => ⟨h1, h2, hg⟩, fun _ => rfl⟩⟩
theorem step {s : ByteArray} {k : Nat} (hg : ∀ j, j < k → good s j) (h : k < s.size) (hx : letB ((s[k]'h).toNat : Int) = true ∨ (0 < k ∧ digB ((s[k]'h).toNat : Int) = true)) : ∀ j, j < k + 1 → good s j := by
  intro j hj
  by_cases e : j = k
  · subst e; exact ⟨h, hx⟩
  · exact hg j (by omega)
theorem same_ret {s : ByteArray} {a b : Bool} (h1 : NameRet s (.returned (.bool a))) (h2 : NameRet s (.returned (.bool b))) : a = b := by
  obtain ⟨x, hx, h1⟩ := h1
  obtain ⟨y, hy, h2⟩ := h2
  cases hx; cases hy
  exact Bool.eq_iff_iff.2 (h1.trans h2.symm)
theorem ret_ex {s : ByteArray} {e : Ending} (h : NameRet s e) : ∃ b : Bool, e = .returned (.bool b) := ⟨h.choose, h.choose_spec.1⟩

set_option maxHeartbeats 1000000 in
theorem implName_any (s : ByteArray) (w : World) (hs : s.size ≤ 1048576) :
    Calls Tryz.prog 59 #[.string s] w fun e w' => NameRet s e ∧ w' = w := by
  by_cases h0 : s.size = 0
  · have b0 : ((s.size : Int) == 0) = true := beq_iff_eq.2 (by omega)
    go_enter Tryz.func59, Tryz.ntmps59
    go_wp2
    go_ret
    exact ⟨no_size (.inl h0), rfl⟩
  have b0 : ((s.size : Int) == 0) = false := beq_eq_false_iff_ne.2 (by omega)
  by_cases h4 : 40 < s.size
  · have h4' : (40 : Int) < (s.size : Int) := by omega
    go_enter Tryz.func59, Tryz.ntmps59
    go_wp2
    go_ret
    exact ⟨no_size (.inr h4), rfl⟩
  have h4' : (s.size : Int) ≤ 40 := by omega
  go_enter Tryz.func59, Tryz.ntmps59
  go_wp2
  go_loop [14] (fun i => ∃ k : Nat, k ≤ s.size ∧ i = .int .i64 k ∧ ∀ j, j < k → good s j) (fun i => s.size - (intOf i).toNat)
  case atStart => exact ⟨0, Nat.zero_le _, rfl, fun j hj => absurd hj (Nat.not_lt_zero _)⟩
  case round =>
    obtain ⟨k, hk, rfl, hg⟩ := hrel
    have HG : Hid (∀ j, j < k → good s j) := hg
    clear hg
    by_cases hlt : k < s.size
    · go_wp2_with (first | (go_at_call 88; refine (begins_any _ _).mono ?_; rintro e w' ⟨rfl, rfl⟩) | (go_at_call 89; refine (isDigit_any _ _).mono ?_; rintro e w' ⟨rfl, rfl⟩))
      · go_round
        case rel => exact ⟨k + 1, by omega, by go_num, step HG.out hlt (.inl ‹_›)⟩
        case measure => simp [intOf]; omega
      · go_ret
        exact ⟨not_name hlt ‹_› (.inl ‹_›), rfl⟩
      · go_ret
        exact ⟨not_name hlt ‹_› (by rename_i h; simp at h; omega), rfl⟩
      · go_round
        case rel => exact ⟨k + 1, by omega, by go_num, step HG.out hlt (.inr ⟨by omega, by rename_i h; simpa using h.2⟩)⟩
        case measure => simp [intOf]; omega
    · go_wp2
      go_ret
      exact ⟨yes_name (by omega) (by omega) (fun j hj => HG.out j (by omega)), rfl⟩

set_option maxHeartbeats 1000000 in
theorem word_any (s : ByteArray) (w : World) (hs : s.size ≤ 1048576) :
    Calls Tryz.prog 84 #[.string s] w fun e w' => NameRet s e ∧ w' = w := by
  by_cases h0 : s.size = 0
  · have b0 : (s.size : Int) < 1 := by omega
    go_enter Tryz.func84, Tryz.ntmps84
    go_wp2
    go_ret
    exact ⟨no_size (.inl h0), rfl⟩
  have b0 : (1 : Int) ≤ (s.size : Int) := by omega
  by_cases h4 : 40 < s.size
  · have h4' : (40 : Int) < (s.size : Int) := by omega
    go_enter Tryz.func84, Tryz.ntmps84
    go_wp2
    go_ret
    exact ⟨no_size (.inr h4), rfl⟩
  have h4' : (s.size : Int) ≤ 40 := by omega
  have hp : 0 < s.size := by omega
  by_cases hl0 : letB ((s[0]'hp).toNat : Int) = true
  case neg =>
    go_enter Tryz.func84, Tryz.ntmps84
    go_wp2_with (go_at_call 107; refine (letter_any _ _).mono ?_; rintro e w' ⟨rfl, rfl⟩)
    go_ret
    exact ⟨not_name hp hl0 (.inl rfl), rfl⟩
  have HL : Hid (letB ((s[0]'hp).toNat : Int) = true) := hl0
  go_enter Tryz.func84, Tryz.ntmps84
  go_wp2_with (go_at_call 107; refine (letter_any _ _).mono ?_; rintro e w' ⟨rfl, rfl⟩)
  go_loop [3] (fun i => ∃ k : Nat, 1 ≤ k ∧ k ≤ s.size ∧ i = .int .i64 k ∧ ∀ j, j < k → good s j) (fun i => s.size - (intOf i).toNat)
  case atStart => exact ⟨1, Nat.le_refl _, hp, rfl, step (k := 0) (fun j hj => absurd hj (Nat.not_lt_zero _)) hp (.inl HL.out)⟩
  case round =>
    obtain ⟨k, hk1, hk, rfl, hg⟩ := hrel
    have HG : Hid (∀ j, j < k → good s j) := hg
    clear hg
    by_cases hlt : k < s.size
    · go_wp2_with (first | (go_at_call 107; refine (letter_any _ _).mono ?_; rintro e w' ⟨rfl, rfl⟩) | (go_at_call 108; refine (digit_any _ _).mono ?_; rintro e w' ⟨rfl, rfl⟩))
      · go_round
        case rel => exact ⟨k + 1, by omega, by omega, by go_num, step HG.out hlt (.inl ‹_›)⟩
        case measure => simp [intOf]; omega
      · go_ret
        exact ⟨not_name hlt ‹_› (by rename_i h; simp at h; exact .inr h), rfl⟩
      · go_round
        case rel => exact ⟨k + 1, by omega, by omega, by go_num, step HG.out hlt (.inr ⟨by omega, by rename_i h; simpa using h⟩)⟩
        case measure => simp [intOf]; omega
    · go_wp2
      go_ret
      exact ⟨yes_name (by omega) (by omega) (fun j hj => HG.out j (by omega)), rfl⟩

theorem specName_any (s : ByteArray) (w : World) (hs : s.size ≤ 1048576) :
    Calls Tryz.prog 55 #[.string s] w fun e w' => NameRet s e ∧ w' = w := by
  go_enter Tryz.func55, Tryz.ntmps55
  go_wp2_with fail
  refine (word_any s _ hs).mono ?_
  rintro e w' ⟨hn, rfl⟩
  obtain ⟨b, rfl⟩ := ret_ex hn
  go_wp2
  go_ret
  exact ⟨hn, rfl⟩
end Go.Proofs.YtncnbhekgkemfaaGreatDoor.nm

namespace Go.Proofs.YtncnbhekgkemfaaGreatDoor.im
open Go.ChangeShapes Go.WideShapes Go.ChangeAt Go.RowKit Go.Deep Go.Joins
open ow (Reads Says says_yes says_no reads_own reads_keep)
set_option linter.unusedVariables false

/-- A session: its state, its box, whether it may not write, its view. -/
structure Im where
  st : Int
  bx : ByteArray
  ro : Bool
  vw : List Int
def IV (x : Im) (v : Value) : Value := .agg #[.int .i64 x.st, .string x.bx, .bool x.ro, v]
def Lies (w : World) (b : Nat) (T : TypeId) (x : Im) (v : Value) : Prop := w.heap[b]? = some (.cells #[.int .i64 x.st, .string x.bx, .bool x.ro, v] T (0, 0))
section
variable {w w' : World} {b : Nat} {T : TypeId} {x : Im} {v : Value}
theorem Lies.c0 (h : Lies w b T x v) : w.cell? ⟨b, 0, none⟩ = some (.int .i64 x.st) := by rw [cell_of_row w _ _ _ _ _ h]; rfl
theorem Lies.c1 (h : Lies w b T x v) : w.cell? ⟨b, 0 + 1, none⟩ = some (.string x.bx) := by rw [cell_of_row w _ _ _ _ _ h]; rfl
theorem Lies.c2 (h : Lies w b T x v) : w.cell? ⟨b, 0 + 2, none⟩ = some (.bool x.ro) := by rw [cell_of_row w _ _ _ _ _ h]; rfl
theorem Lies.c3 (h : Lies w b T x v) : w.cell? ⟨b, 0 + 3, none⟩ = some v := by rw [cell_of_row w _ _ _ _ _ h]; rfl
theorem Lies.c1' (h : Lies w b T x v) : w.cell? ⟨b, 1, none⟩ = some (.string x.bx) := h.c1
theorem Lies.c2' (h : Lies w b T x v) : w.cell? ⟨b, 2, none⟩ = some (.bool x.ro) := h.c2
theorem Lies.c3' (h : Lies w b T x v) : w.cell? ⟨b, 3, none⟩ = some v := h.c3
theorem Lies.f (h : Lies w b T x v) (j : Nat) : w.frozen? ⟨b, j, none⟩ = false := frozen_of_row _ _ _ _ _ h
theorem Lies.lt (h : Lies w b T x v) : b < w.heap.size := World.block_lt_of_cell? w _ h.c0
theorem Lies.keep (h : Lies w b T x v) (hb : Below w.heap.size w w') : Lies w' b T x v := (hb.block b h.lt).trans h
theorem lies_new (w : World) (T : TypeId) (x : Im) (v : Value) : Lies (w.alloc (.cells #[.int .i64 x.st, .string x.bx, .bool x.ro, v] T)) w.heap.size T x v := by show (w.heap.push _)[w.heap.size]? = _; simp
theorem new_below (w : World) (T : TypeId) (cs : Array Value) : Below w.heap.size w (w.alloc (.cells cs T)) := (Below.refl _ _).alloc (Nat.le_refl _) _
theorem reads_below {v : Value} {zs : List Int} (h : Reads .i64 w v zs) (hb : Below w.heap.size w w') : Reads .i64 w' v zs := reads_keep h (fun a u h => (hb.cell (p := a) (World.block_lt_of_cell? w _ h)).trans h)
theorem heap_new (w : World) (o : Obj) : (w.alloc o).heap[w.heap.size]? = some o := (MapKept.heap_alloc w _).1
theorem new1 (w : World) (o0 o1 o2 : Obj) : (((w.alloc o0).alloc o1).alloc o2).heap[w.heap.size + 1]? = some o1 := by
  have h := heap_new (w.alloc o0) o1
  rw [show (w.alloc o0).heap.size = w.heap.size + 1 by simp] at h
  rw [Below.heap_alloc _ _ _ (by simp), h]
theorem new2 (w : World) (o0 o1 o2 : Obj) : (((w.alloc o0).alloc o1).alloc o2).heap[w.heap.size + 1 + 1]? = some o2 := by
  have h := heap_new ((w.alloc o0).alloc o1) o2
  rw [show ((w.alloc o0).alloc o1).heap.size = w.heap.size + 1 + 1 by simp] at h
  exact h
end

section
variable {H : Type} {enc : TypeId × Value → H} {w : World} {base : Nat} {spare : Nat → Bool} {held : Bool}
theorem cellsI : Tryz.prog.cellsOf 3 = 1 := by kernel_rfl
theorem open_ints {fuel : Nat} {v : Value} {x : DataW H × List MemPlace} (h : DataW.trod enc Tryz.prog w base spare held fuel 46 [v] = some x) :
    ∃ zs : List Int, Reads .i64 w v zs ∧ zs.length ≤ maxLen := by
  rcases open_slice Tryz.underlying46 h with ⟨hc, _⟩ | ⟨a, len, cap, m, n, D, Pl, hc, _, hl, hm, hmm, _, hall⟩
  · cases hc
    exact ⟨[], ⟨none, 0, rfl, .inl rfl⟩, Nat.zero_le _⟩
  · cases hc
    have hml : len ≤ m := by rw [hmm]; split <;> omega
    have each : ∀ i, ∃ e : Int, i < len → w.cell? (a.add i) = some (.int .i64 e) := by
      intro i
      by_cases hi : i < len
      · obtain ⟨cs', h1, h2⟩ := hall i (by omega)
        obtain ⟨e, rfl, _, hh⟩ := DataW.trod_int Tryz.underlying3 h2
        rw [cellsI] at h1
        obtain ⟨_, hlen, hcell⟩ := World.cells?_some h1
        refine ⟨e, fun _ => ?_⟩
        have := hcell 0 (by omega)
        rw [add_add, Nat.mul_one, Nat.add_zero] at this
        rw [this]
        rfl
      · exact ⟨0, fun h => absurd h hi⟩
    obtain ⟨q, hq⟩ := Classical.axiomOfChoice each
    have hget : ∀ j, j < len → ((List.range len).map q).getD j 0 = q j := by
      intro j hj
      simp [List.getD_eq_getElem?_getD, hj]
    refine ⟨(List.range len).map q, ⟨some a, cap, by simp, ?_⟩, by simp; omega⟩
    by_cases h0 : len = 0
    · left; simp [h0]
    · right
      have c0 := hq 0 (by omega)
      obtain ⟨b, off, spot⟩ := a
      have hspot : spot = none := by simpa [Addr.add] using World.cell?_spot c0
      subst hspot
      refine ⟨b, off, rfl, fun j hj => ?_⟩
      have hj' : j < len := by simpa using hj
      have hc := hq j hj'
      rw [hget j hj']
      have hadd : (⟨b, off, none⟩ : Addr).add j = ⟨b, off + j, none⟩ := by simp only [Addr.add]; split <;> simp_all
      rw [hadd] at hc
      exact hc
set_option maxRecDepth 100000 in
theorem open_imap {r : Reach} {b0 : Nat} {v : Value} {d : DataW H} {p : List MemPlace} (hv : Value.okWide Tryz.prog w r b0 63 v) (h : DataW.Trod enc Tryz.prog w base spare held 63 v d p) :
    ∃ (x : Im) (u : Value), v = IV x u ∧ Reads .i64 w u x.vw ∧ x.vw.length ≤ maxLen ∧ x.bx.size ≤ maxLen := by
  obtain ⟨v0, v1, v2, v3, y0, y1, y2, y3, n, rfl, _, _, t0, t1, t2, t3⟩ := open_agg4 Tryz.underlying63 (by kernel_rfl) (by kernel_rfl) hv h
  obtain ⟨z0, e0, _, f0⟩ := DataW.trod_int Tryz.underlying3 t0
  obtain ⟨s1, e1, _, f1⟩ := DataW.trod_string Tryz.underlying9 t1
  obtain ⟨b2, e2, _⟩ := DataW.trod_bool Tryz.underlying4 t2
  obtain ⟨zs, hr, hl⟩ := open_ints t3
  simp only [List.cons.injEq, and_true] at e0 e1 e2
  subst e0 e1 e2
  exact ⟨⟨z0, s1, b2, zs⟩, v3, rfl, hr, hl, f1⟩
end

theorem szInts_any (v : Value) (zs : List Int) (left : Int) (w : World) (h : Reads .i64 w v zs) (h0 : 0 ≤ left) (h1 : left ≤ 1048576) (hl : zs.length ≤ maxLen) :
    Calls Tryz.prog 76 #[v, .int .i64 left] w fun e w' => (∃ z : Int, e = .returned (.int .i64 z) ∧ z ≤ left ∧ -1 ≤ z ∧ (0 ≤ z → zs.length ≤ 1048576)) ∧ w' = w := by
  obtain ⟨a, cap, rfl, _⟩ := h
  generalize zs.length = n at hl ⊢
  unfold maxLen at hl
  by_cases g0 : left - (n : Int) < 0
  · go_enter Tryz.func76, Tryz.ntmps76
    go_wp2
    go_ret
    exact ⟨⟨-1, rfl, by omega, by omega, by omega⟩, rfl⟩
  · go_enter Tryz.func76, Tryz.ntmps76
    go_wp2
    go_ret
    exact ⟨⟨_, rfl, by omega, by omega, by omega⟩, rfl⟩
set_option maxHeartbeats 1000000 in
theorem szImap_any (x : Im) (v : Value) (w : World) (h : Reads .i64 w v x.vw) (hl : x.vw.length ≤ maxLen) (hb : x.bx.size ≤ maxLen) :
    Calls Tryz.prog 46 #[IV x v, .int .i64 1048576] w fun e w' => (∃ z : Int, e = .returned (.int .i64 z) ∧ z ≤ 1048576 ∧ -1 ≤ z ∧ (0 ≤ z → x.vw.length ≤ 1048576 ∧ x.bx.size ≤ 1048576)) ∧ Below w.heap.size w w' := by
  have L0 := lies_new w 63 x v
  have hbw := new_below w 63 #[.int .i64 x.st, .string x.bx, .bool x.ro, v]
  have HR : Hid (Reads .i64 (w.alloc (.cells #[.int .i64 x.st, .string x.bx, .bool x.ro, v] 63)) v x.vw) := reads_below h hbw
  obtain ⟨a, cap, rfl, _⟩ := h
  obtain ⟨st, bx, ro, vw⟩ := x
  unfold IV
  simp only at *
  have hb' : bx.size ≤ 9223372036854775807 := hb
  by_cases g0 : (1048576 : Int) - (bx.size : Int) < 0
  · go_enter Tryz.func46, Tryz.ntmps46
    go_wp2
    go_ret
    exact ⟨⟨-1, rfl, by omega, by omega, by omega⟩, hbw⟩
  go_enter Tryz.func46, Tryz.ntmps46
  go_wp2_with fail
  refine (szInts_any _ vw _ _ HR.out (by omega) (by omega) hl).mono ?_
  rintro e w1 ⟨⟨z, rfl, hz0, hz1, hz2⟩, rfl⟩
  by_cases hz : z < 0
  · go_wp2
    go_ret
    exact ⟨⟨-1, rfl, by omega, by omega, by omega⟩, hbw⟩
  · go_wp2
    go_ret
    exact ⟨⟨z, rfl, by omega, by omega, fun _ => ⟨hz2 (by omega), by omega⟩⟩, hbw⟩

/-- What the copy of a session leaves. -/
def fin (w2 : World) (b : Nat) (x : Im) (V : Value) : World := ((((w2.setCell ⟨b + 1 + 1, 3, none⟩ V).setCell ⟨b + 1, 0, none⟩ (.int .i64 x.st)).setCell ⟨b + 1, 1, none⟩ (.string x.bx)).setCell ⟨b + 1, 2, none⟩ (.bool x.ro)).setCell ⟨b + 1, 3, none⟩ V
theorem fin_block {w2 : World} {b : Nat} {T : TypeId} {u0 u1 u2 u3 : Value} (h : w2.heap[b + 1]? = some (.cells #[u0, u1, u2, u3] T (0, 0))) (x : Im) (V : Value) : Lies (fin w2 b x V) (b + 1) T x V := by
  have M1 := (heap_setCell_other w2 ⟨b + 1 + 1, 3, none⟩ (b + 1) V (by simp)).trans h
  have M2 := heap_setCell_same _ (b + 1) 0 _ _ (.int .i64 x.st) M1
  have M3 := heap_setCell_same _ (b + 1) 1 _ _ (.string x.bx) M2
  have M4 := heap_setCell_same _ (b + 1) 2 _ _ (.bool x.ro) M3
  exact heap_setCell_same _ (b + 1) 3 _ _ V M4
theorem fin_other (w2 : World) (b g : Nat) (x : Im) (V : Value) (h1 : g ≠ b + 1) (h2 : g ≠ b + 1 + 1) : (fin w2 b x V).heap[g]? = w2.heap[g]? := by
  unfold fin
  rw [heap_setCell_other _ _ _ _ h1, heap_setCell_other _ _ _ _ h1, heap_setCell_other _ _ _ _ h1, heap_setCell_other _ _ _ _ h1, heap_setCell_other _ _ _ _ h2]
theorem fin_below {w w2 : World} {b : Nat} (h : Below b w w2) (x : Im) (V : Value) : Below b w (fin w2 b x V) := by
  unfold fin
  exact ((((h.setCell (by simp; omega) _).setCell (by simp) _).setCell (by simp) _).setCell (by simp) _).setCell (by simp) _
/-- An owned row stays one where its block does. -/
theorem own_block {w w' : World} {base e size n : Nat} {v : Value} {xs : List Value} (h : w.ownsRow base e size v n xs) (hb : ∀ g, base ≤ g → w'.heap[g]? = w.heap[g]?) : w'.ownsRow base e size v n xs := by
  obtain ⟨h1, h2⟩ := h
  refine ⟨h1, ?_⟩
  rcases h2 with h2 | ⟨g, cap, cur, a, b, c, d⟩
  · exact .inl h2
  · exact .inr ⟨g, cap, cur, a, b, (hb g b).trans c, d⟩

theorem own_mono {w : World} {base base' e size n : Nat} {v : Value} {xs : List Value} (h : w.ownsRow base e size v n xs) (hb : base' ≤ base) : w.ownsRow base' e size v n xs := by
  obtain ⟨h1, h2⟩ := h
  refine ⟨h1, ?_⟩
  rcases h2 with h2 | ⟨g, cap, cur, a, b, c, d⟩
  · exact .inl h2
  · exact .inr ⟨g, cap, cur, a, Nat.le_trans hb b, c, d⟩
theorem own_form {w : World} {base e size n : Nat} {v : Value} {xs : List Value} (h : w.ownsRow base e size v n xs) : ∃ a cap, v = .slice a n cap := by
  rcases h.2 with ⟨rfl, h0⟩ | ⟨g, cap, cur, rfl, _⟩
  · exact ⟨none, 0, by rw [h0]⟩
  · exact ⟨_, _, rfl⟩

set_option maxHeartbeats 2000000 in
set_option maxRecDepth 100000 in
theorem toImap_any (x : Im) (v : Value) (w : World) (h : Reads .i64 w v x.vw) (hn : x.vw.length ≤ 1048576) :
    Calls Tryz.prog 57 #[IV x v] w fun e w' => ∃ V, e = .returned (IV x V) ∧ w'.ownsRow w.heap.size 3 1 V x.vw.length (x.vw.map (Value.int .i64)) ∧ Below w.heap.size w w' := by
  have HB : Hid (Reads .i64 w v x.vw) := h
  obtain ⟨a, cap, rfl, _⟩ := h
  obtain ⟨W, hW⟩ : ∃ W, W = (((w.alloc (.cells #[.int .i64 x.st, .string x.bx, .bool x.ro, .slice a x.vw.length cap] 63)).alloc (.cells #[.int .i64 0, .string ⟨#[]⟩, .bool false, .slice none 0 0] 48)).alloc (.cells #[.int .i64 x.st, .string x.bx, .bool x.ro, .slice none 0 0] 48)) := ⟨_, rfl⟩
  obtain ⟨st, bx, ro, vw⟩ := x
  unfold IV
  simp only at HB hn hW ⊢
  go_enter Tryz.func57, Tryz.ntmps57
  go_wp2_with fail
  have b3 : Below w.heap.size w W := by rw [hW]; exact ((new_below w _ _).alloc (by simp) _).alloc (by simp; omega) _
  have sz : W.heap.size = w.heap.size + 3 := by rw [hW]; simp
  have k1 : W.heap[w.heap.size + 1]? = some (.cells #[.int .i64 0, .string ⟨#[]⟩, .bool false, .slice none 0 0] 48 (0, 0)) := by rw [hW]; exact new1 _ _ _ _
  have k2 : Lies W (w.heap.size + 1 + 1) 48 ⟨st, bx, ro, vw⟩ (.slice none 0 0) := by rw [hW]; exact new2 _ _ _ _
  rw [← hW]
  have HA : Hid (Reads .i64 W (.slice a vw.length cap) vw) := reads_below HB.out b3
  clear HB hW
  refine (ow.toInts_any _ vw _ HA.out hn).mono ?_
  rintro e w2 ⟨V, rfl, hv', hb2⟩
  obtain ⟨aV, cV, rfl⟩ := own_form hv'
  have HV : Hid (w2.ownsRow W.heap.size 3 1 (.slice aV vw.length cV) vw.length (vw.map (Value.int .i64))) := hv'
  clear hv'
  have m1 := (hb2.block (w.heap.size + 1) (by omega)).trans k1
  have m2 := k2.keep hb2
  have b4 := b3.trans (hb2.mono b3.size)
  have HSZ : Hid (W.heap.size = w.heap.size + 3) := sz
  clear k1 k2 hb2 b3 sz
  have c20 := m2.c0
  have c21 := m2.c1
  have c22 := m2.c2
  have c23 := m2.c3
  have f2 : w2.frozen? ⟨w.heap.size + 1 + 1, 3, none⟩ = false := m2.f 3
  have g0 : w2.frozen? ⟨w.heap.size + 1, 0, none⟩ = false := frozen_of_row w2 _ 0 _ _ m1
  have g1 : w2.frozen? ⟨w.heap.size + 1, 1, none⟩ = false := frozen_of_row w2 _ 1 _ _ m1
  have g2 : w2.frozen? ⟨w.heap.size + 1, 2, none⟩ = false := frozen_of_row w2 _ 2 _ _ m1
  have g3 : w2.frozen? ⟨w.heap.size + 1, 3, none⟩ = false := frozen_of_row w2 _ 3 _ _ m1
  have d0 : w2.cell? ⟨w.heap.size + 1, 0, none⟩ = some (.int .i64 0) := by rw [cell_of_row w2 _ _ _ _ _ m1]; rfl
  have d1 : w2.cell? ⟨w.heap.size + 1, 0 + 1, none⟩ = some (.string ⟨#[]⟩) := by rw [cell_of_row w2 _ _ _ _ _ m1]; rfl
  have d2 : w2.cell? ⟨w.heap.size + 1, 0 + 2, none⟩ = some (.bool false) := by rw [cell_of_row w2 _ _ _ _ _ m1]; rfl
  have d3 : w2.cell? ⟨w.heap.size + 1, 0 + 3, none⟩ = some (.slice none 0 0) := by rw [cell_of_row w2 _ _ _ _ _ m1]; rfl
  simp only at c20 c21 c22 c23
  have HM1 : Hid (w2.heap[w.heap.size + 1]? = some (.cells #[.int .i64 0, .string ⟨#[]⟩, .bool false, .slice none 0 0] 48 (0, 0))) := m1
  clear m1 m2
  go_wp2
  have A5 := fin_block HM1.out ⟨st, bx, ro, vw⟩ (.slice aV vw.length cV)
  have b5 := fin_below b4 ⟨st, bx, ro, vw⟩ (.slice aV vw.length cV)
  have O5 : (fin w2 w.heap.size ⟨st, bx, ro, vw⟩ (.slice aV vw.length cV)).ownsRow w.heap.size 3 1 (.slice aV vw.length cV) vw.length (vw.map (Value.int .i64)) := by
    have := own_block HV.out (fun g hg => fin_other w2 w.heap.size g ⟨st, bx, ro, vw⟩ (.slice aV vw.length cV) (by have := HSZ.out; omega) (by have := HSZ.out; omega))
    exact own_mono this (by have := HSZ.out; omega)
  change bodyPost _ _ _ _ _ (fin w2 w.heap.size ⟨st, bx, ro, vw⟩ (.slice aV vw.length cV))
  generalize fin _ _ _ _ = W5 at A5 b5 O5 ⊢
  have e0 := A5.c0
  have e1 := A5.c1'
  have e2 := A5.c2'
  have e3 := A5.c3'
  exact bodyPost_ret (v := IV ⟨st, bx, ro, vw⟩ (.slice aV vw.length cV)) (by simp [results, Tryz.results57, go_sem, e0, e1, e2, e3, IV]) rfl ⟨_, rfl, O5, b5⟩

set_option maxHeartbeats 1000000 in
set_option maxRecDepth 100000 in
theorem eqImap_same (x : Im) (v u : Value) (w : World) (h : Reads .i64 w v x.vw) (h' : Reads .i64 w u x.vw) (hn : x.vw.length ≤ 1048576) :
    Calls Tryz.prog 72 #[IV x v, IV x u] w fun e w' => e = .returned (.bool true) ∧ Below w.heap.size w w' := by
  have b0 := (new_below w 48 #[.int .i64 x.st, .string x.bx, .bool x.ro, v]).alloc (by simp) (.cells #[.int .i64 x.st, .string x.bx, .bool x.ro, u] 48)
  have HR : Hid (Reads .i64 ((w.alloc (.cells #[.int .i64 x.st, .string x.bx, .bool x.ro, v] 48)).alloc (.cells #[.int .i64 x.st, .string x.bx, .bool x.ro, u] 48)) v x.vw) := reads_below h b0
  have HS : Hid (Reads .i64 ((w.alloc (.cells #[.int .i64 x.st, .string x.bx, .bool x.ro, v] 48)).alloc (.cells #[.int .i64 x.st, .string x.bx, .bool x.ro, u] 48)) u x.vw) := reads_below h' b0
  obtain ⟨a, cap, rfl, _⟩ := h
  obtain ⟨a', cap', rfl, _⟩ := h'
  obtain ⟨st, bx, ro, vw⟩ := x
  unfold IV
  simp only at *
  have h0 : (st != st) = false := by simp
  have h2 : (ro != ro) = false := by simp
  go_enter Tryz.func72, Tryz.ntmps72
  go_wp2_with fail
  refine (ow.eqInts_any _ _ vw vw _ HR.out HS.out hn hn).mono ?_
  rintro e w1 ⟨hs, m, rfl⟩
  have := ow.says_true hs rfl
  subst this
  have b1 := below_drewN b0 m
  go_wp2
  go_ret
  exact ⟨rfl, b1⟩
end Go.Proofs.YtncnbhekgkemfaaGreatDoor.im

namespace Go.Proofs.YtncnbhekgkemfaaGreatDoor.gr
open Go.RowKit
set_option linter.unusedVariables false

/-- What a world may have grown to. -/
def Ext (w : World) : Type := { x : World // Below w.heap.size w x }
def gw {w : World} (x : Ext w) : World := x.1
section
variable {P : Program} {w : World}
theorem gw_below (x : Ext w) : Below w.heap.size w (gw x) := x.2
theorem ext_some (w : World) : Nonempty (Ext w) := ⟨⟨w, Below.refl _ _⟩⟩
theorem gw_cell (x : Ext w) {p : Addr} {v : Value} (h : w.cell? p = some v) : (gw x).cell? p = some v := (x.2.cell (World.block_lt_of_cell? w _ h)).trans h
theorem region_lit {id : Nat} {Q : Exit → Act → World → Prop} {a : Act} {l : List Oper} (hm : P.follows .mixedOrders = true) (hB : Region.lexB .any l.toArray = true)
    (h : wpQuiet P l.toArray (fun w' => ∃ x : Ext w, w' = gw x) (fun a' => ∀ w', (∃ x : Ext w, w' = gw x) → Q .normal a' w') l a) : (Code.region id l.toArray true).wp P Q a w :=
  wp_region_quiet (C := fun w' => ∃ x : Ext w, w' = gw x) hm hB ⟨⟨_, (Below.refl _ w).drew⟩, rfl⟩ (by simpa using h)
theorem grow_of {f : FuncId} {args : Array Value} {x : Ext w} {v : Value} (h : Calls P f args (gw x) fun e w' => e = .returned v ∧ Below (gw x).heap.size (gw x) w') :
    Calls P f args (gw x) fun e w'' => e = .returned v ∧ ∃ y : Ext w, w'' = gw y :=
  h.mono fun e w' ⟨he, hb⟩ => ⟨he, ⟨w', (gw_below x).trans (hb.mono (gw_below x).size)⟩, rfl⟩
theorem grow_same {f : FuncId} {args : Array Value} {x : Ext w} {v : Value} (h : Calls P f args (gw x) fun e w' => e = .returned v ∧ w' = gw x) :
    Calls P f args (gw x) fun e w'' => e = .returned v ∧ ∃ y : Ext w, w'' = gw y :=
  h.mono fun e w' ⟨he, hb⟩ => ⟨he, x, hb⟩
end
end Go.Proofs.YtncnbhekgkemfaaGreatDoor.gr
