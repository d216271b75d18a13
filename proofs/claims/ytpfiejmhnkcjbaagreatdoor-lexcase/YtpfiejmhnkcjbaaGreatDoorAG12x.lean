/-
  The contracts of octet.Uvarint and of the document's own Uvarint: each makes the same bytes of a number. · The contract of the document's own check, at values that have no kids.
-/
import Derived.Test.YtpfiejmhnkcjbaaGreatDoorAOsame
import Derived.Test.YtpfiejmhnkcjbaaGreatDoorAFrm
namespace Go.Proofs.YtpfiejmhnkcjbaaGreatDoor
open Go.RowKit Math
end Go.Proofs.YtpfiejmhnkcjbaaGreatDoor
namespace Go.Proofs.YtpfiejmhnkcjbaaGreatDoor
open Go.RowKit
set_option linter.unusedVariables false
end Go.Proofs.YtpfiejmhnkcjbaaGreatDoor
