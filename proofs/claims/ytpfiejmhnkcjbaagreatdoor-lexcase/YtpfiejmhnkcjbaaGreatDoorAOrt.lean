/-
  Regions that draw: one of several operations comes up; what each kind of operation does.
-/
import Derived.Test.YtpfiejmhnkcjbaaGreatDoorAG18x
import Derived.Test.YtpfiejmhnkcjbaaGreatDoorAOrz
namespace Go.Proofs.YtpfiejmhnkcjbaaGreatDoor
open Go Go.RowKit
set_option linter.unusedVariables false
section
variable {P : Program} {C : World → Prop} {z : Nat} {Q : Exit → Act → World → Prop}
end
section
variable {o : Oper} {a : Act} {w : World} {K : Act → World → Prop} {Q : Exit → Act → World → Prop}
end
end Go.Proofs.YtpfiejmhnkcjbaaGreatDoor
