/-
  What the law on escaped texts asks of the tokens: their number, the attribute, the text.
-/
import Derived.Test.YtjncdnnllaoccaaGreatDoorXro
import Derived.Test.YtjncdnnllaoccaaGreatDoorXad
import Derived.Test.YtjncdnnllaoccaaGreatDoorXme
namespace Go.Proofs.YtjncdnnllaoccaaGreatDoor.xd
open Go.RowKit
set_option linter.unusedVariables false

set_option maxHeartbeats 400000 in
theorem boolInt_any (b : Bool) (w : World) : Calls Tryz.prog 10 #[.bool b] w fun e w' => e = .returned (.int .i64 (if b = true then 1 else 0)) ∧ w' = w := by
  cases b
  all_goals
    go_enter Tryz.func10, Tryz.ntmps10
    go_wp2
    go_ret
    exact ⟨rfl, rfl⟩
theorem one_attrs {B : Nat} {w : World} {a : Option Addr} {len cap : Nat} {nm v : ByteArray} (h : OneAt B w a len cap nm v) : len = 1 ∧ xa.AttrsAt w (.slice a len cap) [(nm, v)] := by
  have h' : w.ownsRow B 59 2 (.slice a len cap) (0 + 1) [.string nm, .string v] := h
  obtain ⟨g, c, e⟩ := row_some h'
  cases e
  refine ⟨rfl, _, _, rfl, .inr ⟨g, 0, rfl, fun j hj => ?_⟩⟩
  have hj0 : j = 0 := by simp at hj; omega
  subst hj0
  have c0 := h'.cellAt 0 (by omega)
  have c1 := h'.cellAt 1 (by omega)
  exact ⟨c0, c1⟩
theorem attr_hit (T : ByteArray) (hT : T.size ≤ 1048576) (k : Int) (n t : ByteArray) (a : Option Addr) (len cap B : Nat) (w : World) (h : OneAt B w a len cap nB T) :
    Calls Tryz.prog 12 #[.agg #[.int .i64 k, .string n, .slice a len cap, .string t], .string ⟨#[98]⟩] w fun e w' => e = .returned (.tuple #[.string T, .int .i64 0]) ∧ Below w.heap.size w w' := by
  refine (xa.impl_attr k n t ⟨#[98]⟩ _ [(nB, T)] w (one_attrs h).2 ⟨by simp, fun j hj => ?_⟩).mono fun e w' ⟨h1, h2⟩ => ⟨xa.attr_same h1 (.inr ⟨by decide, .inl ⟨0, by simp, rfl, fun j hj => absurd hj (Nat.not_lt_zero _), rfl⟩⟩), h2⟩
  have hj0 : j = 0 := by simp at hj; omega
  subst hj0
  exact ⟨by show 1 ≤ 1048576; omega, hT⟩
theorem attr_miss (T : ByteArray) (hT : T.size ≤ 1048576) (k : Int) (n t : ByteArray) (a : Option Addr) (len cap B : Nat) (w : World) (h : OneAt B w a len cap nB T) :
    Calls Tryz.prog 12 #[.agg #[.int .i64 k, .string n, .slice a len cap, .string t], .string ⟨#[99]⟩] w fun e w' => e = .returned (.tuple #[.string ⟨#[]⟩, .int .i64 5]) ∧ Below w.heap.size w w' := by
  refine (xa.impl_attr k n t ⟨#[99]⟩ _ [(nB, T)] w (one_attrs h).2 ⟨by simp, fun j hj => ?_⟩).mono fun e w' ⟨h1, h2⟩ => ⟨xa.attr_same h1 (.inr ⟨by decide, .inr ⟨fun j hj => ?_, rfl⟩⟩), h2⟩
  · have hj0 : j = 0 := by simp at hj; omega
    subst hj0
    exact ⟨by show 1 ≤ 1048576; omega, hT⟩
  · have hj0 : j = 0 := by simp at hj; omega
    subst hj0
    intro e
    have h : nB.data = #[99] := congrArg ByteArray.data (show nB = ⟨#[99]⟩ from e)
    exact absurd h (by decide)
theorem own_keep {B e sz n : Nat} {v : Value} {xs : List Value} {w w' : World} (h : w.ownsRow B e sz v n xs) (hb : Below w.heap.size w w') : w'.ownsRow B e sz v n xs := ow.own_below h hb
theorem name_a (w : World) : Calls Tryz.prog 11 #[.string ⟨#[97]⟩] w fun e w' => e = .returned (.bool true) ∧ w' = w := xm.impl_name ⟨#[97]⟩ w (by decide)
theorem empty_iff {t : List UInt8} (h : t = []) : (⟨t.toArray⟩ : ByteArray).toList.isEmpty = true := by subst h; rw [Lib.toList_data]; rfl
end Go.Proofs.YtjncdnnllaoccaaGreatDoor.xd
