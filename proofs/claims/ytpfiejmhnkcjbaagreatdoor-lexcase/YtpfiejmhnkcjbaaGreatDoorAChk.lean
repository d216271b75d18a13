/-
  The contracts of value's hasOnly, isFormed, isNamed.
-/
import Derived.Test.YtpfiejmhnkcjbaaGreatDoorAVal
namespace Go.Proofs.YtpfiejmhnkcjbaaGreatDoor
open Go.RowKit
set_option linter.unusedVariables false
def only (h : Hd) (kl : Nat) (F : Int) : Bool :=
  (F = 1 || F = 3 || decide (h.n = 0)) && (F = 3 || decide (h.s = 0)) && (F = 4 || h.t.toList.isEmpty) && (F = 24 || decide (h.ns.length = 0)) && (F = 16 || F = 24 || decide (kl = 0))
end Go.Proofs.YtpfiejmhnkcjbaaGreatDoor
