/-
  The contract of impl.RuneSize: how many bytes a rune has, 0 of no rune.
-/
import Derived.Test.YtpbmofofigkpjaaDoorUtw
namespace Go.Proofs.YtpbmofofigkpjaaDoor.ut
open Go.RowKit
set_option linter.unusedVariables false

theorem rsz_no {n : Int} (h : n < 0 ∨ 1114111 < n ∨ (55296 ≤ n ∧ n ≤ 57343)) : rsz n = 0 := by
  unfold rsz
  rw [if_neg]
  simp [scB, inB]
  omega
theorem rsz_yes {n : Int} (h0 : 0 ≤ n) (h1 : n ≤ 1114111) (h2 : n < 55296 ∨ 57343 < n) : rsz n = if n < 128 then 1 else if n < 2048 then 2 else if n < 65536 then 3 else 4 := by
  unfold rsz
  rw [if_pos]
  simp [scB, inB]
  omega

end Go.Proofs.YtpbmofofigkpjaaDoor.ut
