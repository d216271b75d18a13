/-
  The document's own Equal of two numbers; got. · The law package's got and known. · The document's own sign and Ten. · The document's own sums, differences, products, and turned round: their walks. · The document's own sums, differences, products, and turned round: what they answer.
-/
import Derived.Test.YtpfiejmhnkcjbaaGreatDoorEG34x
import Derived.Test.YtpfiejmhnkcjbaaGreatDoorEG28x
import Derived.Test.YtpfiejmhnkcjbaaGreatDoorEG37x
import Derived.Test.YtpfiejmhnkcjbaaGreatDoorED6Rc
namespace Go.Proofs.YtpfiejmhnkcjbaaGreatDoor.D6
open Go.RowKit
set_option linter.unusedVariables false
end Go.Proofs.YtpfiejmhnkcjbaaGreatDoor.D6
namespace Go.Proofs.YtpfiejmhnkcjbaaGreatDoor.D6
open Go.RowKit
set_option linter.unusedVariables false
end Go.Proofs.YtpfiejmhnkcjbaaGreatDoor.D6
namespace Go.Proofs.YtpfiejmhnkcjbaaGreatDoor.D6
open Go.RowKit
set_option linter.unusedVariables false
end Go.Proofs.YtpfiejmhnkcjbaaGreatDoor.D6
namespace Go.Proofs.YtpfiejmhnkcjbaaGreatDoor.D6
open Go.RowKit
set_option linter.unusedVariables false
theorem sB : (Tryz.prog.info? 4).map (·.size) = some 1 := by kernel_rfl
end Go.Proofs.YtpfiejmhnkcjbaaGreatDoor.D6
namespace Go.Proofs.YtpfiejmhnkcjbaaGreatDoor.D6
open Go.RowKit
set_option linter.unusedVariables false
theorem absG (x : Int) (h0 : -9223372036854775808 ≤ x) (h1 : x < 9223372036854775808) (w : World) : Calls Tryz.prog 28 #[.int .i64 x] w fun e w' => e = .returned (.int .u64 (x.natAbs : Int)) ∧ Grow w w' :=
  (abs65 x h0 h1 w).mono fun e w' ⟨he, hw⟩ => ⟨he, by rw [hw]; exact Grow.refl _⟩
section
variable (k1 n1 : Int) (s1 : Nat) (na1 : Option Addr) (nc1 : Nat) (ka1 : Option Addr) (kc1 : Nat) (k2 n2 : Int) (s2 : Nat) (na2 : Option Addr) (nc2 : Nat) (ka2 : Option Addr) (kc2 : Nat)
  (i1 : isNum k1 n1 s1 ⟨#[]⟩ 0 0 = true) (i2 : isNum k2 n2 s2 ⟨#[]⟩ 0 0 = true) (f1 : -9223372036854775808 ≤ n1 ∧ n1 < 9223372036854775808) (f2 : -9223372036854775808 ≤ n2 ∧ n2 < 9223372036854775808) (q1 : s1 ≤ 18) (q2 : s2 ≤ 18)
include i1 in
theorem isR_yes (w : World) : Calls Tryz.prog 15 #[.agg #[.int .i64 k1, .int .i64 n1, .int .i64 (s1 : Int), .string ⟨#[]⟩, .slice na1 0 nc1, .slice ka1 0 kc1]] w fun e w' => e = .returned (.bool true) ∧ Grow w w' := by
  have := isR_any k1 n1 s1 ⟨#[]⟩ na1 0 nc1 ka1 0 kc1 w
  rw [i1] at this
  exact this
include i1 i2 f1 f2 q1 q2
omit i2 f2 q2 in
end
end Go.Proofs.YtpfiejmhnkcjbaaGreatDoor.D6
