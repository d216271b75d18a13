/-
  The document's lex: signs.
-/
import Derived.Test.YtpfiejmhnkcjbaaGreatDoorALxd
namespace Go.Proofs.YtpfiejmhnkcjbaaGreatDoor
open Go.RowKit Lx
set_option linter.unusedVariables false
set_option linter.unusedSimpArgs false
end Go.Proofs.YtpfiejmhnkcjbaaGreatDoor
