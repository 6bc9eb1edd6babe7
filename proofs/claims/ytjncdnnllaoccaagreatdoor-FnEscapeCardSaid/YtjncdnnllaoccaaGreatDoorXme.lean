/-
  Contracts of both EscapeXml functions.
-/
import Derived.Test.YtjncdnnllaoccaaGreatDoorXmd
namespace Go.Proofs.YtjncdnnllaoccaaGreatDoor.xm
open Go.RowKit
set_option linter.unusedVariables false

/-- What a call of EscapeXml answers. -/
def EscRet (s : ByteArray) (e : Ending) : Prop :=
  (8192 < s.size ∧ e = .returned (.tuple #[.string ⟨#[]⟩, .int .i64 2])) ∨
  (s.size ≤ 8192 ∧ ¬ GoodTo s s.size ∧ e = .returned (.tuple #[.string ⟨#[]⟩, .int .i64 3])) ∨
  (s.size ≤ 8192 ∧ GoodTo s s.size ∧ e = .returned (.tuple #[.string ⟨(esc s.data.toList).toArray⟩, .int .i64 0]))
theorem esc_ret {s : ByteArray} {e e' : Ending} (h : EscRet s e) (h' : EscRet s e') : e = e' := by
  rcases h with ⟨h, rfl⟩ | ⟨h, g, rfl⟩ | ⟨h, g, rfl⟩ <;> rcases h' with ⟨h', rfl⟩ | ⟨h', g', rfl⟩ | ⟨h', g', rfl⟩ <;> first | rfl | omega | exact absurd g g' | exact absurd g' g
theorem esc_form {s : ByteArray} {e : Ending} (h : EscRet s e) : ∃ (t : ByteArray) (c : Int), e = .returned (.tuple #[.string t, .int .i64 c]) := by
  rcases h with ⟨h, rfl⟩ | ⟨h, g, rfl⟩ | ⟨h, g, rfl⟩ <;> exact ⟨_, _, rfl⟩

set_option maxHeartbeats 1000000 in
theorem impl_escx (s : ByteArray) (w : World) (hs : s.size ≤ 1048576) :
    Calls Tryz.prog 7 #[.string s] w fun e w' => EscRet s e ∧ Below w.heap.size w w' := by
  by_cases h : 8192 < s.size
  · have h' : (8192 : Int) < (s.size : Int) := by omega
    go_enter Tryz.func7, Tryz.ntmps7
    go_wp2
    go_ret2
    exact ⟨.inl ⟨h, rfl⟩, Below.refl _ _⟩
  have h' : (s.size : Int) ≤ 8192 := by omega
  go_enter Tryz.func7, Tryz.ntmps7
  go_wp2_with fail
  refine (impl_good s _ hs).mono ?_
  rintro e w' ⟨g, rfl, hg, p, rfl⟩
  have hbw : Below w.heap.size w (w.iter s p) := (Below.refl _ _).alloc (Nat.le_refl _) _
  have HG : Hid (GoodTo s g) := hg
  have hle : g ≤ s.size := by obtain ⟨n, rfl, hn, _⟩ := hg; exact hn
  clear hg
  generalize w.iter s p = w1 at hbw
  by_cases hz : g = s.size
  · subst hz
    go_wp2_with fail
    refine (impl_esc s _ hs).mono ?_
    rintro e w' ⟨rfl, hb2⟩
    go_wp2
    go_ret2
    exact ⟨.inr (.inr ⟨by omega, HG.out, rfl⟩), hbw.trans (hb2.mono hbw.size)⟩
  · have hlt : (g : Int) < (s.size : Int) := by omega
    go_wp2
    go_ret2
    exact ⟨.inr (.inl ⟨by omega, fun x => hz (good_one HG.out x), rfl⟩), hbw⟩

set_option maxHeartbeats 1000000 in
theorem spec_escx (s : ByteArray) (w : World) (hs : s.size ≤ 1048576) :
    Calls Tryz.prog 8 #[.string s] w fun e w' => EscRet s e ∧ Below w.heap.size w w' := by
  by_cases h : 8192 < s.size
  · have h' : (8192 : Int) < (s.size : Int) := by omega
    go_enter Tryz.func8, Tryz.ntmps8
    go_wp2
    go_ret2
    exact ⟨.inl ⟨h, rfl⟩, Below.refl _ _⟩
  have h' : (s.size : Int) ≤ 8192 := by omega
  go_enter Tryz.func8, Tryz.ntmps8
  go_wp2_with fail
  refine (spec_good s _ hs).mono ?_
  rintro e w' ⟨⟨g, hg, rfl⟩, rfl⟩
  have HG : Hid (GoodTo s g) := hg
  clear hg
  by_cases hz : g = s.size
  · rw [if_pos hz]
    subst hz
    go_wp2_with fail
    refine (spec_esc s _ hs).mono ?_
    rintro e w' ⟨rfl, hb2⟩
    go_wp2
    go_ret2
    exact ⟨.inr (.inr ⟨by omega, HG.out, rfl⟩), hb2⟩
  · rw [if_neg hz]
    go_wp2
    go_ret2
    exact ⟨.inr (.inl ⟨by omega, fun x => hz (good_one HG.out x), rfl⟩), Below.refl _ _⟩
end Go.Proofs.YtjncdnnllaoccaaGreatDoor.xm
