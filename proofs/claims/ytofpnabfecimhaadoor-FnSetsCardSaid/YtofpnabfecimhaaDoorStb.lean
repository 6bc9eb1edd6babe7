/-
  Both SetText functions.
-/
import Derived.Test.YtofpnabfecimhaaDoorSta
namespace Go.Proofs.YtofpnabfecimhaaDoor.rg
open Go.RowKit
open gr bl
set_option linter.unusedVariables false

/-- What SetText answers. -/
def SR (ps : List Pr) : ByteArray × Int := if 4096 < ps.length then (⟨#[]⟩, 2) else if setB ps = false then (⟨#[]⟩, 1) else (⟨(txl ps ps.length).toArray⟩, 0)

end Go.Proofs.YtofpnabfecimhaaDoor.rg
