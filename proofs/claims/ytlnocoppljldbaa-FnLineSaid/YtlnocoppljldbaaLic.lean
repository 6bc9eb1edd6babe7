/-
  Contracts of both OneLine functions.
-/
import Derived.Test.YtlnocoppljldbaaLib
namespace Go.Proofs.Ytlnocoppljldbaa.li
open Go.RowKit
set_option linter.unusedVariables false

theorem get_at (s : ByteArray) (k : Nat) (h : k < s.size) : s.data.toList.getD k 0 = s[k] := by
  have h' : k < s.data.toList.length := by rw [← Lib.size_eq]; exact h
  rw [List.getD_eq_getElem?_getD, List.getElem?_eq_getElem h']
  rfl
theorem no_n {c : UInt8} (n : UInt8) (h : blk c = false) (hn : blk n = true) : ((c.toNat : Int) == (n.toNat : Int)) = false := by
  rw [beq_eq_false_iff_ne]
  intro e
  have : c = n := UInt8.toNat_inj.1 (by omega)
  rw [this, hn] at h
  cases h
theorem no9 {c : UInt8} (h : blk c = false) : ((c.toNat : Int) == 9) = false := no_n 9 h rfl
theorem no10 {c : UInt8} (h : blk c = false) : ((c.toNat : Int) == 10) = false := no_n 10 h rfl
theorem no13 {c : UInt8} (h : blk c = false) : ((c.toNat : Int) == 13) = false := no_n 13 h rfl
theorem no32 {c : UInt8} (h : blk c = false) : ((c.toNat : Int) == 32) = false := no_n 32 h rfl

/-- What a call of OneLine answers. -/
def OneRet (s : ByteArray) (e : Ending) : Prop :=
  (65536 < s.size ∧ e = .returned (.tuple #[.string ⟨#[]⟩, .int .i64 2])) ∨
  (s.size ≤ 65536 ∧ e = .returned (.tuple #[.string ⟨(line s.data.toList).toArray⟩, .int .i64 0]))
theorem one_ret {s : ByteArray} {e e' : Ending} (h : OneRet s e) (h' : OneRet s e') : e = e' := by
  rcases h with ⟨h, rfl⟩ | ⟨h, rfl⟩ <;> rcases h' with ⟨h', rfl⟩ | ⟨h', rfl⟩ <;> first | rfl | omega
theorem one_form {s : ByteArray} {e : Ending} (h : OneRet s e) : ∃ (t : ByteArray) (c : Int), e = .returned (.tuple #[.string t, .int .i64 c]) := by
  rcases h with ⟨h, rfl⟩ | ⟨h, rfl⟩ <;> exact ⟨_, _, rfl⟩
theorem one_yes {s : ByteArray} {e : Ending} (h : OneRet s e) (hs : s.size ≤ 65536) : e = .returned (.tuple #[.string ⟨(line s.data.toList).toArray⟩, .int .i64 0]) := by
  rcases h with ⟨h, rfl⟩ | ⟨h, rfl⟩
  · omega
  · rfl

set_option maxHeartbeats 1000000 in
theorem impl_one (s : ByteArray) (w : World) (hs : s.size ≤ 1048576) :
    Calls Try.prog 9 #[.string s] w fun e w' => OneRet s e ∧ Below w.heap.size w w' := by
  by_cases h : 65536 < s.size
  · have h' : (65536 : Int) < (s.size : Int) := by omega
    go_enter Try.func9, Try.ntmps9
    go_wp2
    go_ret2
    exact ⟨.inl ⟨h, rfl⟩, Below.refl _ _⟩
  have h' : (s.size : Int) ≤ 65536 := by omega
  go_enter Try.func9, Try.ntmps9
  go_wp2_with fail
  refine (impl_line s _ hs).mono ?_
  rintro e w' ⟨rfl, hb⟩
  go_wp2
  go_ret2
  exact ⟨.inr ⟨by omega, rfl⟩, hb⟩

set_option maxHeartbeats 1000000 in
theorem spec_one (s : ByteArray) (w : World) (hs : s.size ≤ 1048576) :
    Calls Try.prog 10 #[.string s] w fun e w' => OneRet s e ∧ Below w.heap.size w w' := by
  by_cases h : 65536 < s.size
  · have h' : (65536 : Int) < (s.size : Int) := by omega
    go_enter Try.func10, Try.ntmps10
    go_wp2
    go_ret2
    exact ⟨.inl ⟨h, rfl⟩, Below.refl _ _⟩
  have h' : (s.size : Int) ≤ 65536 := by omega
  go_enter Try.func10, Try.ntmps10
  go_wp2_with fail
  refine (spec_line s _ hs).mono ?_
  rintro e w' ⟨rfl, hb⟩
  go_wp2
  go_ret2
  exact ⟨.inr ⟨by omega, rfl⟩, hb⟩
end Go.Proofs.Ytlnocoppljldbaa.li
