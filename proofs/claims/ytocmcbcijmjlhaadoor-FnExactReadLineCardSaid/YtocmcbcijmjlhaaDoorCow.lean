/-
  What both ReadLine functions answer, as values; two events held against each other.
-/
import Derived.Test.YtocmcbcijmjlhaaDoorCov
import Derived.Test.YtocmcbcijmjlhaaDoorLaj
namespace Go.Proofs.YtocmcbcijmjlhaaDoor.cn
open Go.RowKit
set_option linter.unusedVariables false

def lnv (l : List UInt8) : Ev × Int := if 32768 < l.length then ((0, 0, [], []), 2) else match evI l with | none => ((0, 0, [], []), 3) | some y => (y, 0)
theorem line_val {l : List UInt8} {e : Ending} (h : LineRet l e) : e = .returned (.tuple #[EvV (lnv l).1.1 (lnv l).1.2.1 (lnv l).1.2.2.1 (lnv l).1.2.2.2, .int .i64 (lnv l).2]) := by
  rcases h with ⟨h1, h2⟩ | ⟨h1, h2⟩
  · unfold lnv
    rw [if_pos h1]
    exact h2
  · unfold lnv
    rw [if_neg (by omega)]
    cases he : evI l with
    | none => rw [he] at h2; exact h2
    | some y => obtain ⟨k, c, x, d⟩ := y; rw [he] at h2; exact h2

set_option maxHeartbeats 2000000 in
set_option maxRecDepth 100000 in
theorem eqEv_any (k c : Int) (x d : List UInt8) (w : World) :
    Calls Tryd.prog 6 #[EvV k c x d, EvV k c x d] w fun e w' => e = .returned (.bool true) ∧ Below w.heap.size w w' := by
  unfold EvV
  generalize (⟨x.toArray⟩ : ByteArray) = X
  generalize (⟨d.toArray⟩ : ByteArray) = D
  have HB : Hid (∀ o o', Below w.heap.size w ((w.alloc o).alloc o')) := fun o o' => ((Below.refl _ w).alloc (Nat.le_refl _) o).alloc (by simp) o'
  go_enter Tryd.func6, Tryd.ntmps6
  go_wp2
  go_ret
  exact ⟨rfl, HB.out _ _⟩
end Go.Proofs.YtocmcbcijmjlhaaDoor.cn
