/-
  The contract of impl.ValidText: whether a text is right and of at most 65536 bytes.
-/
import Derived.Test.YthndloempbcflaaRiw
namespace Go.Proofs.Ythndloempbcflaa.ut
open Go.RowKit
set_option linter.unusedVariables false

set_option maxHeartbeats 1000000 in
theorem implValid_any (s : ByteArray) (w : World) (hs : s.size ≤ 1048576) :
    Calls Try.prog 10 #[.string s] w fun e w' => Says (Valid s) e ∧ Below w.heap.size w w' := by
  by_cases h : s.size ≤ 65536
  · have h' : (s.size : Int) ≤ 65536 := by omega
    go_enter Try.func10, Try.ntmps10
    go_wp2_with fail
    refine (isRight_any s _ hs).mono ?_
    rintro e w' ⟨hn, p, rfl⟩
    obtain ⟨b, rfl⟩ := says_ex hn
    have hb := says_iff hn
    have HB : Hid (b = true ↔ Right s) := hb
    clear hb hn
    go_wp2
    go_ret
    exact ⟨says_of (HB.out.trans ⟨fun x => ⟨h, x⟩, fun x => x.2⟩), (Below.refl _ _).alloc (Nat.le_refl _) _⟩
  · have h' : decide ((s.size : Int) ≤ 65536) = false := decide_eq_false (by omega)
    go_enter Try.func10, Try.ntmps10
    go_wp2
    go_ret
    exact ⟨says_no (fun x => h x.1), Below.refl _ _⟩
end Go.Proofs.Ythndloempbcflaa.ut
