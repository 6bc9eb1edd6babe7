/-
  The program's reader of XML, its least methods: whether a piece stands at its place, to take a piece, to pass blanks by.
-/
import Derived.Test.YtjncdnnllaoccaaGreatDoorXmb
import Derived.Test.YtjncdnnllaoccaaGreatDoorShf
import Derived.Test.YtjncdnnllaoccaaGreatDoorOwn
import Derived.Deep.QuietTactic
import Derived.BigQuiet
import Derived.BigRegion
namespace Go.Proofs.YtjncdnnllaoccaaGreatDoor.xd
open Go.RowKit
set_option linter.unusedVariables false

/-- A reader lies in block b: its text, its place, its tokens, the open elements. -/
def Rb (w : World) (b : Nat) (s : ByteArray) (p : Nat) (vT vO : Value) : Prop :=
  w.heap[b]? = some (.cells #[.string s, .int .i64 p, vT, vO] 49 (0, 0))
section
variable {w w' : World} {b p q : Nat} {s : ByteArray} {vT vO : Value}
theorem Rb.c0 (h : Rb w b s p vT vO) : w.cell? ⟨b, 0, none⟩ = some (.string s) := by rw [cell_of_row w b 0 _ _ _ h]; rfl
theorem Rb.c1 (h : Rb w b s p vT vO) : w.cell? ⟨b, 0 + 1, none⟩ = some (.int .i64 p) := by rw [cell_of_row w b _ _ _ _ h]; rfl
theorem Rb.c2 (h : Rb w b s p vT vO) : w.cell? ⟨b, 0 + 2, none⟩ = some vT := by rw [cell_of_row w b _ _ _ _ h]; rfl
theorem Rb.c3 (h : Rb w b s p vT vO) : w.cell? ⟨b, 0 + 3, none⟩ = some vO := by rw [cell_of_row w b _ _ _ _ h]; rfl
theorem Rb.f (h : Rb w b s p vT vO) (j : Nat) : w.frozen? ⟨b, j, none⟩ = false := frozen_of_row w b j _ _ h
theorem Rb.lt (h : Rb w b s p vT vO) : b < w.heap.size := World.block_lt_of_cell? w _ h.c0
theorem Rb.drew (h : Rb w b s p vT vO) (n : Nat) : Rb (w.drewN n) b s p vT vO := h
theorem Rb.at (h : Rb w b s p vT vO) (q : Nat) : Rb (w.setCell ⟨b, 1, none⟩ (.int .i64 q)) b s q vT vO := heap_setCell_same w b 1 _ _ _ h
theorem Rb.keep (h : Rb w b s p vT vO) (hb : Below w.heap.size w w') : Rb w' b s p vT vO := (hb.block b h.lt).trans h
end
/-- The place of the reader in block b. -/
def plc (w : World) (b : Nat) : Nat := (intOf ((w.cell? ⟨b, 1, none⟩).getD undef)).toNat
theorem Rb.plc {w : World} {b p : Nat} {s : ByteArray} {vT vO : Value} (h : Rb w b s p vT vO) : plc w b = p := by
  have := h.c1
  unfold xd.plc
  rw [show (⟨b, 1, none⟩ : Addr) = ⟨b, 0 + 1, none⟩ from rfl, this]
  simp [intOf]
/-- A call that leaves all as it was but the reader's place. -/
def Mv (b : Nat) (s : ByteArray) (p : Nat) (vT vO : Value) (w w' : World) : Prop := Rb w' b s p vT vO ∧ w.grownBy w' (some b)
section
variable {w w' w'' : World} {b p q : Nat} {s : ByteArray} {vT vO : Value}
theorem grown_at (w : World) (b j : Nat) (u : Value) : w.grownBy (w.setCell ⟨b, j, none⟩ u) (some b) :=
  ⟨rfl, rfl, rfl, by simp, fun k _ hk => heap_setCell_other w ⟨b, j, none⟩ k u (fun e => hk (by simp [e]))⟩
theorem Mv.refl (h : Rb w b s p vT vO) : Mv b s p vT vO w w := ⟨h, ow.grown_refl _ _⟩
theorem Mv.trans (h : Mv b s p vT vO w w') (k : Mv b s q vT vO w' w'') : Mv b s q vT vO w w'' := ⟨k.1, ow.grown_trans h.2 k.2⟩
theorem Mv.drew (h : Mv b s p vT vO w w') (n : Nat) : Mv b s p vT vO w (w'.drewN n) := ⟨h.1.drew n, ow.grown_drewN h.2 n⟩
theorem Mv.at (h : Mv b s p vT vO w w') (q : Nat) : Mv b s q vT vO w (w'.setCell ⟨b, 1, none⟩ (.int .i64 q)) := ⟨h.1.at q, ow.grown_trans h.2 (grown_at _ _ _ _)⟩
theorem Mv.below (h : Mv b s p vT vO w w') (hb : Below w'.heap.size w' w'') : Mv b s p vT vO w w'' := ⟨h.1.keep hb, ow.grown_trans h.2 (ow.grown_below hb)⟩
end

theorem rest_list (s : ByteArray) (p : Nat) : (s.extract p s.size).data.toList = s.data.toList.drop p := Lib.extract_to_end s p

set_option maxHeartbeats 1000000 in
set_option maxRecDepth 100000 in
theorem stands_any (b p : Nat) (s pc : ByteArray) (vT vO : Value) (w : World) (h : Rb w b s p vT vO) (hp : p ≤ s.size) (hs : s.size ≤ 65536) :
    Calls Tryz.prog 80 #[.pointer (some ⟨b, 0, none⟩), .string pc] w fun e w' => e = .returned (.bool (Lib.hasPrefix (s.data.toList.drop p) pc.data.toList)) ∧ ∃ n, w' = w.drewN n := by
  have c0 := h.c0
  have c1 := h.c1
  have hsl := ow.slice_str (P := Tryz.prog) 9 s .i64 .i64 p s.size Tryz.underlying9 (p : Int) (s.size : Int) rfl rfl hp (Nat.le_refl _)
  have HP : Hid (∀ w, Calls Tryz.prog 49 #[.string (s.extract p s.size), .string pc] w fun e w' => e = .returned (.bool (Lib.hasPrefix (s.data.toList.drop p) pc.data.toList)) ∧ w' = w) := fun w => by
    have := Tryz.strings_HasPrefix (s.extract p s.size) pc w
    rwa [rest_list] at this
  clear h
  go_enter Tryz.func80, Tryz.ntmps80
  go_wp2
  go_quiet ((go_at_call 49; exact Calls.quiet_of_same (HP.out _)))
  go_wp2
  go_ret
  exact ⟨rfl, _, rfl⟩

set_option maxHeartbeats 1000000 in
set_option maxRecDepth 100000 in
theorem take_yes (b p : Nat) (s pc : ByteArray) (vT vO : Value) (w : World) (h : Rb w b s p vT vO) (hp : p ≤ s.size) (hs : s.size ≤ 65536) (hc : pc.size ≤ 65536) (hh : Lib.hasPrefix (s.data.toList.drop p) pc.data.toList = true) :
    Calls Tryz.prog 102 #[.pointer (some ⟨b, 0, none⟩), .string pc] w fun e w' => e = .returned (.bool true) ∧ Mv b s (p + pc.size) vT vO w w' := by
  have HR : Hid (Rb w b s p vT vO) := h
  go_enter Tryz.func102, Tryz.ntmps102
  go_wp2_with fail
  refine (stands_any b p s pc vT vO _ HR.out hp hs).mono ?_
  rintro e w' ⟨rfl, n, rfl⟩
  rw [hh]
  have c1 := (h.drew n).c1
  have f1 := (h.drew n).f 1
  clear h hh
  generalize hW : w.drewN n = W at c1 f1 ⊢
  have HW : Hid (w.drewN n = W) := hW
  clear hW
  go_wp2
  go_ret
  refine ⟨rfl, ?_⟩
  rw [show ((p : Int) + (pc.size : Int)) = ((p + pc.size : Nat) : Int) by omega, ← HW.out]
  exact ((Mv.refl HR.out).drew n).at _

set_option maxHeartbeats 1000000 in
theorem take_no (b p : Nat) (s pc : ByteArray) (vT vO : Value) (w : World) (h : Rb w b s p vT vO) (hp : p ≤ s.size) (hs : s.size ≤ 65536) (hh : Lib.hasPrefix (s.data.toList.drop p) pc.data.toList = false) :
    Calls Tryz.prog 102 #[.pointer (some ⟨b, 0, none⟩), .string pc] w fun e w' => e = .returned (.bool false) ∧ Mv b s p vT vO w w' := by
  go_enter Tryz.func102, Tryz.ntmps102
  go_wp2_with fail
  refine (stands_any b p s pc vT vO _ h hp hs).mono ?_
  rintro e w' ⟨rfl, n, rfl⟩
  rw [hh]
  go_wp2
  go_ret
  exact ⟨rfl, (Mv.refl h).drew n⟩

/-- How far a run of such bytes goes. -/
def run (q : UInt8 → Bool) (l : List UInt8) (k : Nat) : Nat := k + ((l.drop k).takeWhile q).length
theorem run_step {q : UInt8 → Bool} {s : ByteArray} {k : Nat} (h : k < s.size) (hq : q s[k] = true) : run q s.data.toList k = run q s.data.toList (k + 1) := by
  have hl : k < s.data.toList.length := by rw [← Lib.size_eq]; exact h
  unfold run
  rw [List.drop_eq_getElem_cons hl, List.takeWhile_cons, if_pos (by exact hq)]
  simp; omega
theorem run_stop {q : UInt8 → Bool} {s : ByteArray} {k : Nat} (h : k < s.size) (hq : q s[k] = false) : run q s.data.toList k = k := by
  have hl : k < s.data.toList.length := by rw [← Lib.size_eq]; exact h
  unfold run
  rw [List.drop_eq_getElem_cons hl, List.takeWhile_cons, if_neg (by show ¬ q s[k] = true; rw [hq]; simp)]
  simp
theorem run_end {q : UInt8 → Bool} {s : ByteArray} {k : Nat} (h : s.size ≤ k) : run q s.data.toList k = k := by
  unfold run
  rw [List.drop_of_length_le (by rw [← Lib.size_eq]; exact h)]
  simp
def blankB (c : Int) : Bool := decide (c = 9 ∨ c = 10 ∨ c = 13 ∨ c = 32)
def blank (c : UInt8) : Bool := blankB (c.toNat : Int)

set_option maxHeartbeats 400000 in
theorem isBlank_any (c : Int) (w : World) : Calls Tryz.prog 108 #[.int .u8 c] w fun e w' => e = .returned (.bool (blankB c)) ∧ w' = w := by
  go_enter Tryz.func108, Tryz.ntmps108
  go_wp2
  all_goals (go_ret; exact ⟨xm.ret_bool (by rw [Bool.eq_iff_iff]; simp [blankB] <;> omega), rfl⟩)

set_option maxHeartbeats 2000000 in
set_option maxRecDepth 100000 in
theorem skip_any (b p : Nat) (s : ByteArray) (vT vO : Value) (w : World) (h : Rb w b s p vT vO) (hp : p ≤ s.size) (hs : s.size ≤ 65536) :
    Calls Tryz.prog 104 #[.pointer (some ⟨b, 0, none⟩)] w fun e w' => e = .returned (.bool (decide (p < run blank s.data.toList p))) ∧ run blank s.data.toList p ≤ s.size ∧ Mv b s (run blank s.data.toList p) vT vO w w' := by
  have c1 := h.c1
  go_enter Tryz.func104, Tryz.ntmps104
  go_wp2
  go_loopw [] (fun wr => ∃ k : Nat, p ≤ k ∧ k ≤ s.size ∧ run blank s.data.toList k = run blank s.data.toList p ∧ Mv b s k vT vO w wr) (fun wr => s.size - plc wr b)
  case atStart => exact ⟨p, Nat.le_refl _, hp, rfl, Mv.refl h⟩
  case round =>
    clear c1 h
    obtain ⟨k, hpk, hk, hrun, hmv⟩ := hrel
    have HR : Hid (run blank s.data.toList k = run blank s.data.toList p) := hrun
    have HM : Hid (Mv b s k vT vO w wr) := hmv
    have c0 := hmv.1.c0
    have c1 := hmv.1.c1
    have f1 := hmv.1.f 1
    clear hrun hmv
    by_cases hlt : k < s.size
    · have hlt' : (k : Int) < (s.size : Int) := by omega
      have hk0 : (0 : Int) ≤ (k : Int) := by omega
      cases hq : blank s[k]
      · have HB : Hid (∀ w, Calls Tryz.prog 108 #[.int .u8 ((s[k]'hlt).toNat : Int)] w fun e w' => e = .returned (.bool false) ∧ w' = w) := fun w => by have := isBlank_any ((s[k]'hlt).toNat : Int) w; rwa [show blankB ((s[k]'hlt).toNat : Int) = false from hq] at this
        have HE : Hid (run blank s.data.toList k = k) := run_stop hlt hq
        clear hq
        go_wp2
        go_quiet ((go_at_call 108; exact Calls.quiet_of_same (HB.out _)))
        go_wp2
        go_ret
        refine ⟨?_, ?_, ?_⟩
        · rw [← HR.out, HE.out]; exact xm.ret_bool (by simp)
        · rw [← HR.out, HE.out]; exact hk
        · rw [← HR.out, HE.out]; exact HM.out.drew _
      · have HB : Hid (∀ w, Calls Tryz.prog 108 #[.int .u8 ((s[k]'hlt).toNat : Int)] w fun e w' => e = .returned (.bool true) ∧ w' = w) := fun w => by have := isBlank_any ((s[k]'hlt).toNat : Int) w; rwa [show blankB ((s[k]'hlt).toNat : Int) = true from hq] at this
        have HE : Hid (run blank s.data.toList k = run blank s.data.toList (k + 1)) := run_step hlt hq
        clear hq
        go_wp2
        go_quiet ((go_at_call 108; exact Calls.quiet_of_same (HB.out _)))
        go_wp2
        go_roundw
        case rel => exact ⟨k + 1, by omega, by omega, HE.out.symm.trans HR.out, by have := (HM.out.drew nq).at (k + 1); simpa using this⟩
        case measure =>
          have e1 : plc wr b = k := HM.out.1.plc
          have e2 : plc ((wr.drewN nq).setCell ⟨b, 1, none⟩ (.int .i64 ((k : Int) + 1))) b = k + 1 := ((HM.out.drew nq).at (k + 1)).1.plc
          rw [e1, e2]
          omega
    · have hlt' : decide ((k : Int) < (s.size : Int)) = false := decide_eq_false (by omega)
      have HE : Hid (run blank s.data.toList k = k) := run_end (by omega)
      go_wp2
      go_quiet (fail)
      go_wp2
      go_ret
      refine ⟨?_, ?_, ?_⟩
      · rw [← HR.out, HE.out]; exact xm.ret_bool (by simp)
      · rw [← HR.out, HE.out]; exact hk
      · rw [← HR.out, HE.out]; exact HM.out.drew _
end Go.Proofs.YtjncdnnllaoccaaGreatDoor.xd
