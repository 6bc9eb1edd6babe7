/-
  The contract of impl.ValidText: whether a text is right and of at most 65536 bytes.
-/
import Derived.Test.YtpbmofofigkpjaaDoorRiw
namespace Go.Proofs.YtpbmofofigkpjaaDoor.ut
open Go.RowKit
set_option linter.unusedVariables false

end Go.Proofs.YtpbmofofigkpjaaDoor.ut
