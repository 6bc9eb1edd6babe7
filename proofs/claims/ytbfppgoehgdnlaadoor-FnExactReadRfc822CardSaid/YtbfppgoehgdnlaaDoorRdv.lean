/-
  The contract of the specification's ReadRfc822 at every text.
-/
import Derived.Test.YtbfppgoehgdnlaaDoorRdt
import Derived.Test.YtbfppgoehgdnlaaDoorRdu
namespace Go.Proofs.YtbfppgoehgdnlaaDoor.rd
open Go.RowKit
set_option linter.unusedVariables false
set_option maxHeartbeats 4000000 in
set_option maxRecDepth 100000 in
theorem spec_822 (s : ByteArray) (w : World) (hs : s.size ≤ 1048576) : Calls Tryd.prog 14 #[.string s] w fun e w' => e = .returned (r8 s.data.toList) ∧ Below w.heap.size w w' := by
  by_cases hbig : 65536 < s.size
  · have hb : (65536 : Int) < (s.size : Int) := by omega
    have hb2 : (s.size : Int) ≤ 1048576 := by omega
    rw [show r8 s.data.toList = .tuple #[.int .i64 0, .int .i64 2] from if_pos hbig]
    go_enter Tryd.func14, Tryd.ntmps14
    go_wp2
    go_ret2
    exact ⟨rfl, Below.refl _ _⟩
  rw [show r8 s.data.toList = implR s.data.toList from if_neg hbig]
  by_cases hah : rd.ahead s.data.toList
  · exact rdb.spec_822_ahead s (by omega) w hah
  · rw [spec_plain hah]
    exact spec_822_plain s (by omega) w hah
end Go.Proofs.YtbfppgoehgdnlaaDoor.rd
