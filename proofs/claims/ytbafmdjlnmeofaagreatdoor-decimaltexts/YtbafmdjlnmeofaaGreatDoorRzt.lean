/-
  What DecimalTexts takes of the document's own reckoning: the size of a number, whether a value is one, plain.
-/
import Derived.Test.YtbafmdjlnmeofaaGreatDoorRb
import Derived.Test.YtbafmdjlnmeofaaGreatDoorOrh
import Derived.Test.YtbafmdjlnmeofaaGreatDoorRa
import Derived.Test.YtbafmdjlnmeofaaGreatDoorRc
import Derived.Test.YtbafmdjlnmeofaaGreatDoorKn
namespace Go.Proofs.YtbafmdjlnmeofaaGreatDoor
open Go.RowKit
set_option linter.unusedVariables false
theorem sB : (Tryz.prog.info? 4).map (·.size) = some 1 := by kernel_rfl
theorem absG (x : Int) (h0 : -9223372036854775808 ≤ x) (h1 : x < 9223372036854775808) (w : World) : Calls Tryz.prog 34 #[.int .i64 x] w fun e w' => e = .returned (.int .u64 (x.natAbs : Int)) ∧ Grow w w' :=
  (abs65 x h0 h1 w).mono fun e w' ⟨he, hw⟩ => ⟨he, by rw [hw]; exact Grow.refl _⟩
theorem isR_yes (k1 n1 : Int) (s1 : Nat) (na1 : Option Addr) (nc1 : Nat) (ka1 : Option Addr) (kc1 : Nat) (i1 : isNum k1 n1 s1 ⟨#[]⟩ 0 0 = true) (w : World) : Calls Tryz.prog 25 #[.agg #[.int .i64 k1, .int .i64 n1, .int .i64 (s1 : Int), .string ⟨#[]⟩, .slice na1 0 nc1, .slice ka1 0 kc1]] w fun e w' => e = .returned (.bool true) ∧ Grow w w' := by
  have := isR_any k1 n1 s1 ⟨#[]⟩ na1 0 nc1 ka1 0 kc1 w
  rw [i1] at this
  exact this
/-- Is it plain? -/
def pln (v : Vv) : Bool := decide (v.kl = 0 ∧ v.nl = 0 ∧ v.t.size < 500)
set_option maxRecDepth 8000 in
theorem plain_any (v : Vv) (w : World) :
    Calls Tryz.prog 5 #[.agg #[.int .i64 v.k, .int .i64 v.n, .int .i64 v.s, .string v.t, .slice v.na v.nl v.nc, .slice v.ka v.kl v.kc]] w fun e w' => e = .returned (.bool (pln v)) ∧ Grow w w' := by
  obtain ⟨k, n, s, t, na, nl, nc, ka, kl, kc⟩ := v
  show Calls _ _ #[.agg #[.int .i64 k, .int .i64 n, .int .i64 s, .string t, .slice na nl nc, .slice ka kl kc]] _ _
  simp only [pln]
  generalize hR : decide (kl = 0 ∧ nl = 0 ∧ t.size < 500) = R
  have e : (kl = 0 ∧ nl = 0 ∧ t.size < 500 ∧ R = true) ∨ (¬ kl = 0 ∧ R = false) ∨ (kl = 0 ∧ ¬ nl = 0 ∧ R = false) ∨ (kl = 0 ∧ nl = 0 ∧ ¬ t.size < 500 ∧ R = false) := by
    rw [← hR]
    by_cases h1 : kl = 0 <;> by_cases h2 : nl = 0 <;> by_cases h3 : t.size < 500 <;> simp [h1, h2, h3]
  clear hR
  rcases e with ⟨rfl, rfl, h, rfl⟩ | ⟨h, rfl⟩ | ⟨rfl, h, rfl⟩ | ⟨rfl, rfl, h, rfl⟩
  all_goals
    go_enter Tryz.func5, Tryz.ntmps5
    go_wp2
    go_ret
    first
    | exact ⟨rfl, (Grow.refl _).alloc _⟩
    | (refine ⟨?_, (Grow.refl _).alloc _⟩
       show Ending.returned (.bool (decide ((t.size : Int) < 500))) = _
       congr 2
       simp only [decide_eq_true_eq, decide_eq_false_iff_not]
       omega)
end Go.Proofs.YtbafmdjlnmeofaaGreatDoor
