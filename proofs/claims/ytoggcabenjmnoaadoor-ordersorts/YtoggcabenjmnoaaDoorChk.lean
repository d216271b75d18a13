/-
  The contracts of value's hasOnly, isFormed, isNamed.
-/
import Derived.Test.YtoggcabenjmnoaaDoorVal
namespace Go.Proofs.YtoggcabenjmnoaaDoor
open Go.RowKit
set_option linter.unusedVariables false
def only (h : Hd) (kl : Nat) (F : Int) : Bool :=
  (F = 1 || F = 3 || decide (h.n = 0)) && (F = 3 || decide (h.s = 0)) && (F = 4 || h.t.toList.isEmpty) && (F = 24 || decide (h.ns.length = 0)) && (F = 16 || F = 24 || decide (kl = 0))
def vl (h : Hd) (na : Option Addr) (nc : Nat) (ka : Option Addr) (kl kc : Nat) : Value :=
  .agg #[.int .i64 h.k, .int .i64 h.n, .int .i64 h.s, .string h.t, .slice na h.ns.length nc, .slice ka kl kc]
set_option maxRecDepth 8000 in
set_option maxHeartbeats 2000000 in
theorem only_any (h : Hd) (na : Option Addr) (nc : Nat) (ka : Option Addr) (kl kc : Nat) (F : Int) (hF : F = 0 ∨ F = 1 ∨ F = 3 ∨ F = 4 ∨ F = 16 ∨ F = 24) (w : World) :
    Calls Tryd.prog 40 #[.agg #[.int .i64 h.k, .int .i64 h.n, .int .i64 h.s, .string h.t, .slice na h.ns.length nc, .slice ka kl kc], .int .u64 F] w fun e w' => e = .returned (.bool (only h kl F)) ∧ Below w.heap.size w w' := by
  have HF : Hid _ := hF
  clear hF
  go_enter Tryd.func40, Tryd.ntmps40
  go_wp2
  all_goals
    go_ret
    refine ⟨?_, (Below.refl _ _).alloc (Nat.le_refl _) _⟩
    unfold only
    cases hte : h.t.toList.isEmpty <;> rcases HF.out with rfl | rfl | rfl | rfl | rfl | rfl <;> simp_all <;> decide
end Go.Proofs.YtoggcabenjmnoaaDoor
