/-
  Contracts of both Rfc3339Text functions.
-/
import Derived.Test.YtadfdfmebdcfgaaGreatDoorDxb
import Derived.Test.YtadfdfmebdcfgaaGreatDoorDxc
import Derived.Test.YtadfdfmebdcfgaaGreatDoorDwf
import Derived.Test.YtadfdfmebdcfgaaGreatDoorTbd
import Derived.Test.YtadfdfmebdcfgaaGreatDoorShf
import Derived.Lib.AppendIntMem
import Derived.Shelf.Strconv.Itoa3
namespace Go.Proofs.YtadfdfmebdcfgaaGreatDoor.dx
open Go.RowKit
open dt gr
set_option linter.unusedVariables false
theorem impl_four (y : Int) (h0 : 1000 ≤ y) (h1 : y ≤ 9999) (w : World) (hT : td.TP w) : Calls Tryz.prog 51 #[.int .i64 y] w fun e w' => e = .returned (.string ⟨(four y).toArray⟩) ∧ Below w.heap.size w w' := by
  refine (Any.strconv_Itoa Tryz.laysM171 y (by omega) (by omega) w (td.tp_is hT)).mono ?_
  rintro e w' ⟨rfl, k, os, rfl⟩
  exact ⟨by rw [itoa_four h0 h1], Lib.below_grow _ _ (Nat.le_refl _) _ _⟩

/-- A calendar's text of the first form, without its zone. -/
def m39 (y m d h i s : Int) : List UInt8 := four y ++ [45] ++ two m ++ [45] ++ two d ++ [84] ++ clk h i s
/-- A stamp's text of the first form and its code. -/
def t39 (n : Int) : List UInt8 := m39 (yr n) (mn n) (dy n) (hr n) (dt.mt n) (sc n) ++ [90]
def r39 (n : Int) : Value := if dw.inB n 0 4102444799 then .tuple #[.string ⟨(t39 n).toArray⟩, .int .i64 0] else .tuple #[.string ⟨#[]⟩, .int .i64 4]
theorem r39_in {n : Int} (h : dw.inB n 0 4102444799 = true) : r39 n = .tuple #[.string ⟨(t39 n).toArray⟩, .int .i64 0] := by simp [r39, h]
theorem r39_out {n : Int} (h : dw.inB n 0 4102444799 = false) : r39 n = .tuple #[.string ⟨#[]⟩, .int .i64 4] := by simp [r39, h]
theorem r39_form (n : Int) : ∃ (s : ByteArray) (c : Int), r39 n = .tuple #[.string s, .int .i64 c] := by
  cases e : dw.inB n 0 4102444799
  · exact ⟨_, _, r39_out e⟩
  · exact ⟨_, _, r39_in e⟩
theorem two_len (n : Int) : (two n).length = 2 := rfl
theorem four_len (n : Int) : (four n).length = 4 := rfl
theorem clk_len (h i s : Int) : (clk h i s).length = 8 := rfl

end Go.Proofs.YtadfdfmebdcfgaaGreatDoor.dx
