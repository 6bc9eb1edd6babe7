/-
  The contract of impl.ValidText: whether a text is right and of at most 65536 bytes.
-/
import Derived.Test.YtpbmofofigkpjabDoorRiw
namespace Go.Proofs.YtpbmofofigkpjabDoor.ut
open Go.RowKit
set_option linter.unusedVariables false

end Go.Proofs.YtpbmofofigkpjabDoor.ut
