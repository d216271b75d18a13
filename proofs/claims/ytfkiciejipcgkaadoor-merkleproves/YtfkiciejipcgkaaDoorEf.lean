/-
  merkle.half.join: the node of a half's root and that of what stands beside it; others: the halves beside a way.
-/
import Derived.Test.YtfkiciejipcgkaaDoorEe
import Derived.BigQuiet
namespace Go.Proofs.YtfkiciejipcgkaaDoor
open Go.RowKit Sh
def nd (a b : List Nat) : List Nat := Mt.D (1 :: (a ++ b))
def em : List Nat := Mt.D []
theorem D_hh (l : List Nat) : Hh (Mt.D l) := ⟨Mt.D_len l, by first | exact Mt.D_oct l | exact fun x hx => Mt.D_lt l x hx⟩
theorem nd_hh (a b : List Nat) : Hh (nd a b) := D_hh _
theorem em_hh : Hh em := D_hh _
theorem sH {h : List Nat} (hh : Hh h) : (Tryd.prog.info? 30).map (·.size) = some (nums .u8 h).length := by rw [nums_length, hh.1]; exact s25
end Go.Proofs.YtfkiciejipcgkaaDoor
