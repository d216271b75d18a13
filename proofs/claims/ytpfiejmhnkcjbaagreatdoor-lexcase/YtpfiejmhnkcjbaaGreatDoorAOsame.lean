/-
  The contracts of the law package's helpers: same, roomy, stands; and one law on append onto a slice of bytes that the call made.
-/
import Derived.Test.YtpfiejmhnkcjbaaGreatDoorAObase
import Derived.Deep.QuietTactic
import Derived.BigQuiet
import Derived.WalkSmall
import Derived.Laws.AppendOwnNone
import Derived.OpenShut
namespace Go.Proofs.YtpfiejmhnkcjbaaGreatDoor
open Go.RowKit Go.ChangeShapes Go.WideShapes Math
theorem Tryz.info5 : (Tryz.prog.info? 5).map (fun i => (i.zero, i.size, i.bytes)) = some (some (.int .u8 0), 1, 1) := by kernel_rfl
end Go.Proofs.YtpfiejmhnkcjbaaGreatDoor
