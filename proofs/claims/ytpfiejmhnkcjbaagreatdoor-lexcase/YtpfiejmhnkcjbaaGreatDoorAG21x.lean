/-
  Appending, as an operation of a region. · codec's appendValue at decimals.
-/
import Derived.Test.YtpfiejmhnkcjbaaGreatDoorAOrt
import Derived.Test.YtpfiejmhnkcjbaaGreatDoorAG18x
namespace Go.Proofs.YtpfiejmhnkcjbaaGreatDoor
open Go.RowKit Math
set_option linter.unusedVariables false
end Go.Proofs.YtpfiejmhnkcjbaaGreatDoor
namespace Go.Proofs.YtpfiejmhnkcjbaaGreatDoor
open Go.RowKit Math
set_option linter.unusedVariables false
end Go.Proofs.YtpfiejmhnkcjbaaGreatDoor
