/-
  The number that bytes say: both functions; a cutter that takes pieces off the front of a text.
-/
import Derived.Test.YtcnjgmeddkidaaaGreatDoorPkaa
import Derived.Test.YtcnjgmeddkidaaaGreatDoorRows
import Derived.WalkKit
import Derived.WalkLawsBesides
import Derived.Below
import Derived.Laws.BitsAllLaws
import Derived.BigQuiet
import Derived.Deep.QuietTactic
import Derived.BigRegion
import Derived.WideShapes
import Derived.Lib.Strings

namespace Go.Proofs.YtcnjgmeddkidaaaGreatDoor.rm
open Go.RowKit
set_option linter.unusedVariables false

/-- The number that bytes say, the higher ones first. -/
def num (l : List UInt8) : Nat := l.foldl (fun n b => n * 256 + b.toNat) 0
def numB (s : ByteArray) : Nat := num s.data.toList
theorem num_step (l : List UInt8) (k : Nat) (h : k < l.length) : num (l.take (k + 1)) = num (l.take k) * 256 + (l[k]).toNat := by
  unfold num
  rw [List.take_succ_eq_append_getElem h, List.foldl_append]
  rfl
theorem num_lt : ∀ (l : List UInt8), num l < 256 ^ l.length := by
  intro l
  have h : ∀ k, k ≤ l.length → num (l.take k) < 256 ^ k := by
    intro k
    induction k with
    | zero => intro _; simp [num]
    | succ k ih =>
      intro hk
      rw [num_step l k (by omega)]
      have h1 := ih (by omega)
      have h2 := (l[k]).toNat_lt
      have h3 : 256 ^ (k + 1) = 256 ^ k * 256 := Nat.pow_succ ..
      omega
  have := h l.length (Nat.le_refl _)
  rwa [List.take_length] at this
theorem i64o (a b : Nat) (ha : a < 4294967296) (hb : b < 4294967296) : bits .or .i64 (a : Int) (b : Int) = ((a ||| b : Nat) : Int) := by
  have hx : a ||| b < 4294967296 := Nat.or_lt_two_pow (n := 32) ha hb
  show IntKind.i64.wrap ((BitVec.ofInt 64 (a : Int) ||| BitVec.ofInt 64 (b : Int)).toNat : Int) = _
  rw [BitVec.toNat_or, ofInt_u64 a (by omega), ofInt_u64 b (by omega)]
  simp only [IntKind.wrap, IntKind.bits, IntKind.signed]
  simp
  omega
theorem or_add (a : Nat) (b : UInt8) (ha : a < 16777216) : bits .or .i64 ((a : Int) * 256) (b.toNat : Int) = ((a * 256 + b.toNat : Nat) : Int) := by
  have hb := b.toNat_lt
  have h : (a * 256) ||| b.toNat = a * 256 + b.toNat := by
    have := Nat.two_pow_add_eq_or_of_lt (i := 8) (b := b.toNat) (by omega) a
    rw [Nat.mul_comm a 256]
    exact this.symm
  rw [← h, ← i64o (a * 256) b.toNat (by omega) (by omega)]
  rfl

set_option maxHeartbeats 1000000 in
set_option maxRecDepth 100000 in
theorem ofBytes_any (s : ByteArray) (w : World) (hs : s.size ≤ 3) :
    Calls Tryz.prog 78 #[.string s] w fun e w' => e = .returned (.int .i64 (numB s)) ∧ w' = w := by
  go_enter Tryz.func78, Tryz.ntmps78
  go_wp2
  go_loop [3, 7] (fun n i => ∃ k : Nat, k ≤ s.size ∧ i = .int .i64 k ∧ n = .int .i64 (num (s.data.toList.take k) : Nat)) (fun _ i => s.size - (intOf i).toNat)
  case atStart => exact ⟨0, Nat.zero_le _, rfl, rfl⟩
  case round =>
    obtain ⟨k, hk, rfl, rfl⟩ := hrel
    have hq := num_lt (s.data.toList.take k)
    have hlen : (s.data.toList.take k).length = k := by rw [List.length_take]; exact Nat.min_eq_left hk
    rw [hlen] at hq
    by_cases hlt : k < s.size
    · have hst := num_step s.data.toList k hlt
      have hq2 : num (s.data.toList.take k) < 16777216 := Nat.lt_of_lt_of_le hq (Nat.pow_le_pow_right (n := 256) (by omega) (show k ≤ 3 by omega))
      have hb' : (s[k]).toNat < 256 := (s[k]).toNat_lt
      have HO : Hid (bits .or .i64 ((num (s.data.toList.take k) : Int) * 256) ((s[k]).toNat : Int) = ((num (s.data.toList.take k) * 256 + (s[k]).toNat : Nat) : Int)) := or_add (num (s.data.toList.take k)) (s[k]) hq2
      have HS : Hid (num (s.data.toList.take (k + 1)) = num (s.data.toList.take k) * 256 + (s[k]).toNat) := hst
      clear hst
      generalize num (s.data.toList.take k) = q at *
      go_wp2
      go_round
      case rel => exact ⟨k + 1, by omega, by go_num, by rw [HS.out]; exact congrArg (Value.int .i64) HO.out⟩
      case measure => simp [intOf]; omega
    · have hkn : k = s.size := by omega
      subst hkn
      have e : s.data.toList.take s.size = s.data.toList := List.take_length
      rw [e]
      have HN : Hid (num s.data.toList = numB s) := rfl
      rw [HN.out]
      go_wp2
      go_ret
      exact ⟨rfl, rfl⟩

set_option maxHeartbeats 1000000 in
set_option maxRecDepth 100000 in
theorem l08Number_any (s : ByteArray) (w : World) (hs : s.size ≤ 3) :
    Calls Tryz.prog 49 #[.string s] w fun e w' => e = .returned (.int .i64 (numB s)) ∧ w' = w := by
  go_enter Tryz.func49, Tryz.ntmps49
  go_wp2
  go_loop [3, 4] (fun n i => ∃ k : Nat, k ≤ s.size ∧ i = .int .i64 k ∧ n = .int .i64 (num (s.data.toList.take k) : Nat)) (fun _ i => s.size - (intOf i).toNat)
  case atStart => exact ⟨0, Nat.zero_le _, rfl, rfl⟩
  case round =>
    obtain ⟨k, hk, rfl, rfl⟩ := hrel
    have hq := num_lt (s.data.toList.take k)
    have hlen : (s.data.toList.take k).length = k := by rw [List.length_take]; exact Nat.min_eq_left hk
    rw [hlen] at hq
    by_cases hlt : k < s.size
    · have hst := num_step s.data.toList k hlt
      have hq2 : num (s.data.toList.take k) < 16777216 := Nat.lt_of_lt_of_le hq (Nat.pow_le_pow_right (n := 256) (by omega) (show k ≤ 3 by omega))
      have hb := (s.data.toList[k]).toNat_lt
      have hb' : (s[k]).toNat < 256 := (s[k]).toNat_lt
      have HS : Hid (num (s.data.toList.take (k + 1)) = num (s.data.toList.take k) * 256 + (s[k]).toNat) := hst
      clear hst hb
      generalize num (s.data.toList.take k) = q at *
      go_wp2
      go_round
      case rel => exact ⟨k + 1, by omega, by go_num, by rw [HS.out]; rfl⟩
      case measure => simp [intOf]; omega
    · have hkn : k = s.size := by omega
      subst hkn
      have e : s.data.toList.take s.size = s.data.toList := List.take_length
      rw [e]
      have HN : Hid (num s.data.toList = numB s) := rfl
      rw [HN.out]
      go_wp2
      go_ret
      exact ⟨rfl, rfl⟩


/-- A cutter: what is left, and whether it was asked for more. -/
def Cut (w : World) (g : Nat) (r : ByteArray) (sh : Bool) : Prop := w.heap[g]? = some (.cells #[.string r, .bool sh] 109 (0, 0))
section
variable {w w' : World} {g : Nat} {r : ByteArray} {sh : Bool}
theorem Cut.c0 (h : Cut w g r sh) : w.cell? ⟨g, 0, none⟩ = some (.string r) := by rw [cell_of_row _ _ 0 _ _ _ h]; rfl
theorem Cut.c1 (h : Cut w g r sh) : w.cell? ⟨g, 1, none⟩ = some (.bool sh) := by rw [cell_of_row _ _ 1 _ _ _ h]; rfl
theorem Cut.f (h : Cut w g r sh) (j : Nat) : w.frozen? ⟨g, j, none⟩ = false := frozen_of_row _ _ _ _ _ h
theorem Cut.lt (h : Cut w g r sh) : g < w.heap.size := (Array.getElem?_eq_some_iff.1 h).1
theorem Cut.keep {b : Nat} (h : Cut w g r sh) (hg : w.grownBy w' (some b)) (hne : g ≠ b) : Cut w' g r sh := (hg.block g h.lt (by simp; omega)).trans h
theorem Cut.put0 (h : Cut w g r sh) (u : ByteArray) : Cut (w.setCell ⟨g, 0, none⟩ (.string u)) g u sh := heap_setCell_same _ g 0 _ _ _ h
theorem Cut.put1 (h : Cut w g r sh) (u : Bool) : Cut (w.setCell ⟨g, 1, none⟩ (.bool u)) g r u := heap_setCell_same _ g 1 _ _ _ h
end
theorem grown_cell (w : World) (b j : Nat) (u : Value) : w.grownBy (w.setCell ⟨b, j, none⟩ u) (some b) :=
  ⟨rfl, rfl, rfl, by simp, fun k _ hk => heap_setCell_other w ⟨b, j, none⟩ k u (fun e => hk (by simp [e]))⟩
/-- What is taken, what is left, whether it was too much. -/
def tk (r : ByteArray) (n : Nat) : ByteArray := if r.size < n then ⟨#[]⟩ else r.extract 0 n
def rs (r : ByteArray) (n : Nat) : ByteArray := if r.size < n then r else r.extract n r.size
def sx (r : ByteArray) (n : Nat) : Bool := decide (r.size < n)

set_option maxHeartbeats 1000000 in
set_option maxRecDepth 100000 in
theorem text_any (g : Nat) (r : ByteArray) (sh : Bool) (n : Nat) (w : World) (h : Cut w g r sh) (hr : r.size ≤ 1048576) (hn : n ≤ 1048576) :
    Calls Tryz.prog 85 #[.pointer (some ⟨g, 0, none⟩), .int .i64 n] w fun e w' => e = .returned (.string (tk r n)) ∧ Cut w' g (rs r n) (sh || sx r n) ∧ w.grownBy w' (some g) := by
  have c0 := h.c0
  have f0 := h.f 0
  have f1 := h.f 1
  have c1 := h.c1
  by_cases q : r.size < n
  · have q' : (r.size : Int) < (n : Int) := by omega
    have e1 : tk r n = ⟨#[]⟩ := if_pos q
    have e2 : rs r n = r := if_pos q
    have e3 : sx r n = true := decide_eq_true q
    have HC := h.put1 true
    have HG := grown_cell w g 1 (.bool true)
    have HE : Hid (tk r n = ⟨#[]⟩ ∧ rs r n = r ∧ sx r n = true ∧ Cut (w.setCell ⟨g, 1, none⟩ (.bool true)) g r true ∧ w.grownBy (w.setCell ⟨g, 1, none⟩ (.bool true)) (some g)) := ⟨e1, e2, e3, HC, HG⟩
    clear e1 e2 e3 HC HG h
    go_enter Tryz.func85, Tryz.ntmps85
    go_wp2
    go_ret
    obtain ⟨e1, e2, e3, hc, hg⟩ := HE.out
    exact ⟨by rw [e1]; rfl, by rw [e2, e3, Bool.or_true]; exact hc, hg⟩
  · have q' : (n : Int) ≤ (r.size : Int) := by omega
    have e1 : tk r n = r.extract 0 n := if_neg q
    have e2 : rs r n = r.extract n r.size := if_neg q
    have e3 : sx r n = false := decide_eq_false q
    have HC := h.put0 (r.extract n r.size)
    have HG := grown_cell w g 0 (.string (r.extract n r.size))
    have HE : Hid (tk r n = r.extract 0 n ∧ rs r n = r.extract n r.size ∧ sx r n = false ∧ Cut (w.setCell ⟨g, 0, none⟩ (.string (r.extract n r.size))) g (r.extract n r.size) sh ∧ w.grownBy (w.setCell ⟨g, 0, none⟩ (.string (r.extract n r.size))) (some g)) := ⟨e1, e2, e3, HC, HG⟩
    clear e1 e2 e3 HC HG h
    have hn0 : (0 : Int) ≤ (n : Int) := by omega
    go_enter Tryz.func85, Tryz.ntmps85
    go_wp2
    go_ret
    obtain ⟨e1, e2, e3, hc, hg⟩ := HE.out
    exact ⟨by rw [e1]; rfl, by rw [e2, e3, Bool.or_false]; exact hc, hg⟩

theorem tk_size (r : ByteArray) (n : Nat) : (tk r n).size ≤ n := by
  unfold tk
  split
  · exact Nat.zero_le _
  · simp; omega
set_option maxHeartbeats 1000000 in
theorem number_any (g : Nat) (r : ByteArray) (sh : Bool) (n : Nat) (w : World) (h : Cut w g r sh) (hr : r.size ≤ 1048576) (hn : n ≤ 3) :
    Calls Tryz.prog 84 #[.pointer (some ⟨g, 0, none⟩), .int .i64 n] w fun e w' => e = .returned (.int .i64 (numB (tk r n))) ∧ Cut w' g (rs r n) (sh || sx r n) ∧ w.grownBy w' (some g) := by
  have HC : Hid (Cut w g r sh) := h
  clear h
  go_enter Tryz.func84, Tryz.ntmps84
  go_wp2_with fail
  refine (text_any g r sh n w HC.out hr (by omega)).mono ?_
  rintro e w1 ⟨rfl, hc1, hg1⟩
  have HH : Hid (Cut w1 g (rs r n) (sh || sx r n) ∧ w.grownBy w1 (some g)) := ⟨hc1, hg1⟩
  clear hc1 hg1 HC
  go_wp2_with fail
  refine (ofBytes_any _ w1 (Nat.le_trans (tk_size r n) hn)).mono ?_
  rintro e w2 ⟨rfl, rfl⟩
  go_wp2
  go_ret
  exact ⟨rfl, HH.out⟩
end Go.Proofs.YtcnjgmeddkidaaaGreatDoor.rm
