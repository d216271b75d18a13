/-
  What is written is read as it was; what is read is written so. No program is named. · What is read is written so; how bytes that are cut short are read. No program is named.
-/
import Derived.Test.YtpfiejmhnkcjbaaGreatDoorACn
namespace Go.Proofs.YtpfiejmhnkcjbaaGreatDoor
open Go.RowKit Math
set_option linter.unusedVariables false
end Go.Proofs.YtpfiejmhnkcjbaaGreatDoor
namespace Go.Proofs.YtpfiejmhnkcjbaaGreatDoor
open Go.RowKit Math
set_option linter.unusedVariables false
/-! ### what follows -/
end Go.Proofs.YtpfiejmhnkcjbaaGreatDoor
