/-
  merkle.VerifyConsist: whether hashes prove a beginning.
-/
import Derived.Test.YtfkiciejipcgkaaDoorEs
namespace Go.Proofs.YtfkiciejipcgkaaDoor
open Go.RowKit Sh
def mtl (os : List (Nat × Nat)) : List (List Nat) → List Nat → List Nat → Bool
  | [], _, _ => false
  | s :: r, x, y => mt s os r x y
/-- what VerifyConsist answers of m = (2 u + 1) 2^c leaves among n. -/
def vcs (m c u n : Nat) (L : List (List Nat)) (x y : List Nat) : Bool :=
  if m = n then decide (L = [] ∧ x = y) else if u = 0 then mt x (Mk.wy c (2 * u) n) L x y else mtl (Mk.wy c (2 * u) n) L x y
end Go.Proofs.YtfkiciejipcgkaaDoor
