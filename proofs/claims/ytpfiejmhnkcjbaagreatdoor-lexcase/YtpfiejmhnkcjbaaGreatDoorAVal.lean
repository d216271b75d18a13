/-
  Values as trees, and where they lie in memory.
-/
import Derived.Test.YtpfiejmhnkcjbaaGreatDoorRows
import Derived.WalkKit
import Derived.WalkSpells
import Derived.StillTactics
import Derived.Laws.Pointers
import Derived.RowKit3
import Derived.Below
import Derived.Deep.QuietTactic
import Derived.BigQuiet
import Derived.WalkSmall
import Derived.OpenShut
import Derived.Laws.Cover1
import Derived.Laws.Strings
import Derived.Deep.Matrix
import Derived.Deep.Slices
import Derived.SizedLaws
import Derived.ProofKit
namespace Go.Proofs.YtpfiejmhnkcjbaaGreatDoor
open Go.RowKit
set_option linter.unusedVariables false
/-- A value without what is below it. -/
structure Hd where
  k : Int
  n : Int
  s : Int
  t : ByteArray
  ns : List ByteArray
/-! ### what came in -/
open Go.ChangeShapes Go.WideShapes Go.Deep
end Go.Proofs.YtpfiejmhnkcjbaaGreatDoor
