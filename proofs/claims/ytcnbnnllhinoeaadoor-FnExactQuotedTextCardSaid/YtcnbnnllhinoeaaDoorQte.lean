/-
  Contracts of both quoted texts at bytes of any length: the text of the bytes, or the code of what is too long.
-/
import Derived.Test.YtcnbnnllhinoeaaDoorIqu
import Derived.Test.YtcnbnnllhinoeaaDoorSqu
import Derived.Test.YtcnbnnllhinoeaaDoorCvr
namespace Go.Proofs.YtcnbnnllhinoeaaDoor.qu
open Go.RowKit
set_option linter.unusedVariables false

/-- The text and the code that are answered. -/
def es (l : List UInt8) : ByteArray := if l.length ≤ 65536 then ⟨(qt 0 l).toArray⟩ else ⟨#[]⟩
def ec (l : List UInt8) : Int := if l.length ≤ 65536 then 0 else 2

set_option maxHeartbeats 1000000 in
set_option maxRecDepth 100000 in
theorem specText_any (v : Value) (l : List UInt8) (w : World) (h : ow.Reads .u8 w v (b6.bz l)) (hn : l.length ≤ 1048576) :
    Calls Tryd.prog 5 #[v] w fun e w' => e = .returned (.tuple #[.string (es l), .int .i64 (ec l)]) ∧ Below w.heap.size w w' := by
  have HH : Hid (l.length ≤ 65536 → Calls Tryd.prog 13 #[v] w fun e w' => e = .returned (.string ⟨(qt 0 l).toArray⟩) ∧ Below w.heap.size w w') := fun hl0 => specQt_any v l w h hl0
  obtain ⟨a, cap, rfl, h⟩ := h
  rw [b6.bz_len] at h HH ⊢
  clear h
  by_cases hl : l.length ≤ 65536
  · have e1 : es l = ⟨(qt 0 l).toArray⟩ := if_pos hl
    have e2 : ec l = 0 := if_pos hl
    rw [e1, e2]
    have hd : decide (65536 < (l.length : Int)) = false := decide_eq_false (by omega)
    generalize (⟨(qt 0 l).toArray⟩ : ByteArray) = t at HH ⊢
    clear e1 e2
    go_enter Tryd.func5, Tryd.ntmps5
    go_wp2_with fail
    refine (HH.out hl).mono ?_
    rintro e w1 ⟨rfl, hb⟩
    go_wp2
    go_ret2
    exact ⟨rfl, hb⟩
  · have e1 : es l = ⟨#[]⟩ := if_neg hl
    have e2 : ec l = 2 := if_neg hl
    rw [e1, e2]
    have hd : (65536 : Int) < (l.length : Int) := by omega
    clear HH e1 e2
    go_enter Tryd.func5, Tryd.ntmps5
    go_wp2
    go_ret2
    exact ⟨rfl, Below.refl _ _⟩

set_option maxHeartbeats 1000000 in
set_option maxRecDepth 100000 in
theorem implText_any (v : Value) (l : List UInt8) (w : World) (h : ow.Reads .u8 w v (b6.bz l)) (hT : tb.TD w) :
    Calls Tryd.prog 7 #[v] w fun e w' => e = .returned (.tuple #[.string (es l), .int .i64 (ec l)]) ∧ Below w.heap.size w w' := by
  by_cases hl : l.length ≤ 65536
  · have e1 : es l = ⟨(qt 0 l).toArray⟩ := if_pos hl
    have e2 : ec l = 0 := if_pos hl
    rw [e1, e2]
    exact implQt_any v l w h (ag.conv (ow.reads_below h ((Below.refl _ _).alloc (Nat.le_refl _) _))) hT hl
  · have e1 : es l = ⟨#[]⟩ := if_neg hl
    have e2 : ec l = 2 := if_neg hl
    rw [e1, e2]
    obtain ⟨a, cap, rfl, h⟩ := h
    rw [b6.bz_len]
    have hd : (65536 : Int) < (l.length : Int) := by omega
    clear e1 e2 h hT
    go_enter Tryd.func7, Tryd.ntmps7
    go_wp2
    go_ret2
    exact ⟨rfl, Below.refl _ _⟩
end Go.Proofs.YtcnbnnllhinoeaaDoor.qu
