/-
  Plain mathematics of numbers as bytes, of no program: zig and zag, seven digits a byte.
-/
import Derived.Laws.BitsAllLaws
import Derived.Laws.DeepNot64
namespace Go.Proofs.YtpfiejmhnkcjbaaGreatDoor.Math

/-! ### zig and zag -/
/-! ### seven digits a byte -/
end Go.Proofs.YtpfiejmhnkcjbaaGreatDoor.Math
