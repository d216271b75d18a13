/-
  Appending to bytes that the call made: where they lie then, and what stays as it was. · codec's appendUvarint, appendInt, appendText. · codec's appendValue at values without kids.
-/
import Derived.Test.YtpfiejmhnkcjbaaGreatDoorAG12x
import Derived.Test.YtpfiejmhnkcjbaaGreatDoorAG13x
import Derived.Test.YtpfiejmhnkcjbaaGreatDoorAClo
import Derived.Lib.AppendStr
namespace Go.Proofs.YtpfiejmhnkcjbaaGreatDoor
open Go.RowKit Math
set_option linter.unusedVariables false
end Go.Proofs.YtpfiejmhnkcjbaaGreatDoor
namespace Go.Proofs.YtpfiejmhnkcjbaaGreatDoor
open Go.RowKit Math
set_option linter.unusedVariables false
end Go.Proofs.YtpfiejmhnkcjbaaGreatDoor
namespace Go.Proofs.YtpfiejmhnkcjbaaGreatDoor
open Go.RowKit Math
set_option linter.unusedVariables false
end Go.Proofs.YtpfiejmhnkcjbaaGreatDoor
