/-
  A region that draws its order, in a class of worlds that every operation keeps: an operation that in every world of the class yields one value and leaves the world alone may be taken first; one that alone may come up is carried out where it stands, whatever it does to the world within the class.
-/
import Derived.Deep.Quiet
import Derived.Deep.RegionLaw
namespace Go.Proofs.YtpfiejmhnkcjbaaGreatDoor
open Go
section
variable {P : Program} {ops : Array Oper} {C : World → Prop} {z : Nat} {Q : Exit → Act → World → Prop}
/-- The kinds of operation that are carried out at once and enter no function. -/
def atOnce : Op → Bool
  | .move _ | .assign _ | .pick .. | .load .. | .binOp .. | .unOp .. | .indexAddr .. | .index .. | .fieldAddr .. | .field .. | .extract .. | .convert .. | .slice .. | .build .. | .nilCheck _ => true
  | _ => false
/-- The operations of these numbers, in this order: each may come up, nothing that is left is at odds with it, and it is carried out at once. -/
def lastOn (ops : Array Oper) (z i : Nat) : Bool := match ops[z]? with | some oz => oz.after.any (fun e => Region.binds .any e && e.on == i) | none => false
def segB (ops : Array Oper) (z : Nat) : Array Bool → List Nat → Bool
  | _, [] => true
  | listed, i :: r => lastOn ops z i && ((Region.ready .any ops listed).contains i && (Region.free .any ops listed i && ((match ops[i]? with | some o => atOnce o.op | none => false) && segB ops z (listed.setIfInBounds i true) r)))
def marks : Array Bool → List Nat → Array Bool
  | l, [] => l
  | l, i :: r => marks (l.setIfInBounds i true) r
end
end Go.Proofs.YtpfiejmhnkcjbaaGreatDoor
