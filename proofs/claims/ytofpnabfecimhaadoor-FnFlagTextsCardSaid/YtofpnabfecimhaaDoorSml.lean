/-
  Two texts in letters of either size.
-/
import Derived.Test.YtofpnabfecimhaaDoorLow
namespace Go.Proofs.YtofpnabfecimhaaDoor.sl
open Go.RowKit
open lo
set_option linter.unusedVariables false

def sameB (a b : ByteArray) : Bool := decide (lower a.data.toList = lower b.data.toList)
theorem tl_same (a b : ByteArray) : ((⟨(lower a.data.toList).toArray⟩ : ByteArray).toList == (⟨(lower b.data.toList).toArray⟩ : ByteArray).toList) = sameB a b := by
  rw [Lib.toList_data, Lib.toList_data, Bool.eq_iff_iff, beq_iff_eq, sameB, decide_eq_true_iff]
set_option maxHeartbeats 2000000 in
set_option maxRecDepth 100000 in
theorem same_any (a b : ByteArray) (w : World) (ha : a.size ≤ 1048576) (hb : b.size ≤ 1048576) :
    Calls Tryd.prog 39 #[.string a, .string b] w fun e w' => e = .returned (.bool (sameB a b)) ∧ Below w.heap.size w w' := by
  by_cases hl : a.size = b.size
  case neg =>
    have hd : ((a.size : Int) == (b.size : Int)) = false := beq_eq_false_iff_ne.2 (by omega)
    have HF : Hid (sameB a b = false) := (show sameB a b = false from decide_eq_false (fun h => hl (by have := congrArg List.length h; rw [lower_len, lower_len] at this; rw [Lib.size_eq, Lib.size_eq]; exact this)))
    go_enter Tryd.func39, Tryd.ntmps39
    go_wp2
    go_ret
    exact ⟨by rw [HF.out]; rfl, Below.refl _ _⟩
  have hd : ((a.size : Int) == (b.size : Int)) = true := beq_iff_eq.2 (by omega)
  have HT := tl_same a b
  have HA : Hid (∀ W, Calls Tryd.prog 56 #[.string a] W fun e w' => e = .returned (.string ⟨(lower a.data.toList).toArray⟩) ∧ Below W.heap.size W w') := fun W => impl_lower a W ha
  have HB : Hid (∀ W, Calls Tryd.prog 56 #[.string b] W fun e w' => e = .returned (.string ⟨(lower b.data.toList).toArray⟩) ∧ Below W.heap.size W w') := fun W => impl_lower b W hb
  generalize (⟨(lower a.data.toList).toArray⟩ : ByteArray) = A at HT HA
  generalize (⟨(lower b.data.toList).toArray⟩ : ByteArray) = B at HT HB
  generalize sameB a b = R at HT ⊢
  go_enter Tryd.func39, Tryd.ntmps39
  go_wp2_with fail
  refine (HA.out _).mono ?_
  rintro e w1 ⟨rfl, b1⟩
  go_wp2_with fail
  refine (HB.out _).mono ?_
  rintro e w2 ⟨rfl, b2⟩
  have b3 := b1.trans (b2.mono b1.size)
  go_wp2
  go_ret
  exact ⟨rfl, b3⟩
end Go.Proofs.YtofpnabfecimhaaDoor.sl
