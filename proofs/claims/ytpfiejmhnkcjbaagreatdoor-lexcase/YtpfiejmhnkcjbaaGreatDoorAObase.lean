/-
  What the walks share: a row of bytes in memory, as a list of numbers.
-/
import Derived.Test.YtpfiejmhnkcjbaaGreatDoorRows
import Derived.Test.YtpfiejmhnkcjbaaGreatDoorAG9x
import Derived.WalkKit
import Derived.WalkSpells
import Derived.StillTactics
import Derived.Laws.Pointers
import Derived.RowKit3
import Derived.Below
namespace Go.Proofs.YtpfiejmhnkcjbaaGreatDoor
open Go.RowKit Math

end Go.Proofs.YtpfiejmhnkcjbaaGreatDoor
