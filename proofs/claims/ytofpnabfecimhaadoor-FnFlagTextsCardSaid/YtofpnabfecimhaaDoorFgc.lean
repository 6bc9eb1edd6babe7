/-
  Flags read from a text between brackets: the specification's way.
-/
import Derived.Test.YtofpnabfecimhaaDoorFgb
namespace Go.Proofs.YtofpnabfecimhaaDoor.fg
open Go.RowKit
open lo sl sp gr
set_option linter.unusedVariables false

/-- Whether a name was met. -/
def Fnd (x : ByteArray) (j : Nat) (f : Value) : Prop := f = .bool (decide (flg x j ≠ 0))
/-- What was made of the flags. -/
def Mixed (x : ByteArray) (j : Nat) (o : Int) (z : Value) : Prop := z = .int .i64 (mix x j o)
end Go.Proofs.YtofpnabfecimhaaDoor.fg
