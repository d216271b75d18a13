/-
  The contract of value.checkAt and of value.Check. · The contract of the document's own check, whole; and of its Check. · The contract of the document's own Equal.
-/
import Derived.Test.YtpfiejmhnkcjbaaGreatDoorAG13x
import Derived.Deep.MidRow
namespace Go.Proofs.YtpfiejmhnkcjbaaGreatDoor
open Go.RowKit
set_option linter.unusedVariables false
end Go.Proofs.YtpfiejmhnkcjbaaGreatDoor
namespace Go.Proofs.YtpfiejmhnkcjbaaGreatDoor
open Go.RowKit
set_option linter.unusedVariables false
end Go.Proofs.YtpfiejmhnkcjbaaGreatDoor
namespace Go.Proofs.YtpfiejmhnkcjbaaGreatDoor
open Go.RowKit
set_option linter.unusedVariables false
end Go.Proofs.YtpfiejmhnkcjbaaGreatDoor
