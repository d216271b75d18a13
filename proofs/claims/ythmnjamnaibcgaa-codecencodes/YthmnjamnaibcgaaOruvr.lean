/-
  The contract of the document's own ReadUvarint: it answers what octet.ReadUvarint does.
-/
import Derived.Test.YthmnjamnaibcgaaOruv
namespace Go.Proofs.Ythmnjamnaibcgaa
open Go.RowKit Math
theorem ruv_ten (x v : Nat) (l : List Nat) (h : 127 < x) : ruv (x :: l) 9 v = (0, 0, 3) := ruv_nine x 9 v l rfl (by omega)
end Go.Proofs.Ythmnjamnaibcgaa
