/-
  Two texts in letters of either size.
-/
import Derived.Test.YtejmfffapkmjoaaDoorLow
namespace Go.Proofs.YtejmfffapkmjoaaDoor.sl
open Go.RowKit
open lo
set_option linter.unusedVariables false

def sameB (a b : ByteArray) : Bool := decide (lower a.data.toList = lower b.data.toList)
theorem tl_same (a b : ByteArray) : ((⟨(lower a.data.toList).toArray⟩ : ByteArray).toList == (⟨(lower b.data.toList).toArray⟩ : ByteArray).toList) = sameB a b := by
  rw [Lib.toList_data, Lib.toList_data, Bool.eq_iff_iff, beq_iff_eq, sameB, decide_eq_true_iff]
end Go.Proofs.YtejmfffapkmjoaaDoor.sl
