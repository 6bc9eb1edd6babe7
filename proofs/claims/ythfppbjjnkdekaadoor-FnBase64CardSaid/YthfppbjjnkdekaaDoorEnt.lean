/-
  Contracts of both base 64 texts at bytes of any length: the text of the bytes, or the code of what is too long.
-/
import Derived.Test.YthfppbjjnkdekaaDoorIen
namespace Go.Proofs.YthfppbjjnkdekaaDoor.b6
open Go.RowKit
set_option linter.unusedVariables false

/-- The text and the code that are answered. -/
def es (l : List UInt8) : ByteArray := if l.length ≤ 65536 then ⟨(enc l).toArray⟩ else ⟨#[]⟩
def ec (l : List UInt8) : Int := if l.length ≤ 65536 then 0 else 2

set_option maxHeartbeats 1000000 in
set_option maxRecDepth 100000 in
theorem specText_any (v : Value) (l : List UInt8) (w : World) (h : ow.Reads .u8 w v (bz l)) (hn : l.length ≤ 1048576) :
    Calls Tryd.prog 11 #[v] w fun e w' => e = .returned (.tuple #[.string (es l), .int .i64 (ec l)]) ∧ Below w.heap.size w w' := by
  have H := specEnc_any v l w h hn
  have HH : Hid (Calls Tryd.prog 31 #[v] w fun e w' => e = .returned (.string ⟨(enc l).toArray⟩) ∧ Below w.heap.size w w') := H
  clear H
  obtain ⟨a, cap, rfl, h⟩ := h
  rw [bz_len] at h HH ⊢
  clear h
  by_cases hl : l.length ≤ 65536
  · have e1 : es l = ⟨(enc l).toArray⟩ := if_pos hl
    have e2 : ec l = 0 := if_pos hl
    rw [e1, e2]
    have hd : decide (65536 < (l.length : Int)) = false := decide_eq_false (by omega)
    generalize (⟨(enc l).toArray⟩ : ByteArray) = t at HH ⊢
    clear e1 e2
    go_enter Tryd.func11, Tryd.ntmps11
    go_wp2_with fail
    refine HH.out.mono ?_
    rintro e w1 ⟨rfl, hb⟩
    go_wp2
    go_ret2
    exact ⟨rfl, hb⟩
  · have e1 : es l = ⟨#[]⟩ := if_neg hl
    have e2 : ec l = 2 := if_neg hl
    rw [e1, e2]
    have hd : (65536 : Int) < (l.length : Int) := by omega
    clear HH e1 e2
    go_enter Tryd.func11, Tryd.ntmps11
    go_wp2
    go_ret2
    exact ⟨rfl, Below.refl _ _⟩

set_option maxHeartbeats 1000000 in
set_option maxRecDepth 100000 in
theorem implText_any (v : Value) (l : List UInt8) (base : Nat) (w : World) (h : w.ownsRow base 5 1 v l.length (Lib.byteCells l)) (hT : tb.TC w) :
    Calls Tryd.prog 10 #[v] w fun e w' => e = .returned (.tuple #[.string (es l), .int .i64 (ec l)]) ∧ Below w.heap.size w w' := by
  by_cases hl : l.length ≤ 65536
  · have e1 : es l = ⟨(enc l).toArray⟩ := if_pos hl
    have e2 : ec l = 0 := if_pos hl
    rw [e1, e2]
    exact implEnc_any v l base w h hT hl
  · have e1 : es l = ⟨#[]⟩ := if_neg hl
    have e2 : ec l = 2 := if_neg hl
    rw [e1, e2]
    obtain ⟨ao, cap, rfl⟩ : ∃ ao cap, v = .slice ao l.length cap := by
      rcases h.2 with ⟨hv, h0⟩ | ⟨g, cap, cur, hv, _⟩
      · exact ⟨none, 0, by rw [hv, h0]⟩
      · exact ⟨_, cap, hv⟩
    have hd : (65536 : Int) < (l.length : Int) := by omega
    clear e1 e2 h hT
    go_enter Tryd.func10, Tryd.ntmps10
    go_wp2
    go_ret2
    exact ⟨rfl, Below.refl _ _⟩
end Go.Proofs.YthfppbjjnkdekaaDoor.b6
