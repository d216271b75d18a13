/-
  Values as bytes, over trees: what is written of a value, and what is read. No program is named.
-/
import Derived.Test.YtpfiejmhnkcjbaaGreatDoorACm
namespace Go.Proofs.YtpfiejmhnkcjbaaGreatDoor
open Go.RowKit Math
set_option linter.unusedVariables false
/-! ### values one behind the other -/
/-! ### the check without the depth -/
/-! ### what is written -/
/-! ### what is read -/
/-! ### good readers -/
/-! ### what is written is read -/
end Go.Proofs.YtpfiejmhnkcjbaaGreatDoor
