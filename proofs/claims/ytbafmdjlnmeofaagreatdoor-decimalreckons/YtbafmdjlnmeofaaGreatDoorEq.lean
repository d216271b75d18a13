/-
  The document's own Equal of two numbers; got.
-/
import Derived.Test.YtbafmdjlnmeofaaGreatDoorOq
namespace Go.Proofs.YtbafmdjlnmeofaaGreatDoor
open Go.RowKit
set_option linter.unusedVariables false
set_option maxRecDepth 8000 in
set_option maxHeartbeats 4000000 in
theorem equal_no (k n s k2 n2 s2 : Int) (na na2 ka ka2 : Option Addr) (nc kc nc2 kc2 : Nat) (w : World) (hE : ¬ (k = k2 ∧ n = n2 ∧ s = s2)) :
    Calls Tryz.prog 21 #[.agg #[.int .i64 k, .int .i64 n, .int .i64 s, .string ⟨#[]⟩, .slice na 0 nc, .slice ka 0 kc], .agg #[.int .i64 k2, .int .i64 n2, .int .i64 s2, .string ⟨#[]⟩, .slice na2 0 nc2, .slice ka2 0 kc2]] w fun e w' => e = .returned (.bool false) ∧ Grow w w' := by
  go_enter Tryz.func21, Tryz.ntmps21
  go_wp2
  all_goals first
    | (go_ret; exact ⟨rfl, ((Grow.refl _).alloc _).alloc _⟩)
    | (exfalso; apply hE; simp_all; done)
    | (exfalso; simp only [bne_eq_false_iff_eq] at *; apply hE; refine ⟨?_, ?_, ?_⟩ <;> first | assumption | omega)
set_option maxRecDepth 8000 in
theorem equal_yes (k n s : Int) (na na2 ka ka2 : Option Addr) (nc kc nc2 kc2 : Nat) (w : World) :
    Calls Tryz.prog 21 #[.agg #[.int .i64 k, .int .i64 n, .int .i64 s, .string ⟨#[]⟩, .slice na 0 nc, .slice ka 0 kc], .agg #[.int .i64 k, .int .i64 n, .int .i64 s, .string ⟨#[]⟩, .slice na2 0 nc2, .slice ka2 0 kc2]] w fun e w' => e = .returned (.bool true) ∧ Grow w w' := by
  go_enter Tryz.func21, Tryz.ntmps21
  go_wp2
  go_loopw [5] (fun i wr => i = .int .i64 0 ∧ wr = (w.alloc (Obj.cells #[.int .i64 k, .int .i64 n, .int .i64 s, .string ⟨#[]⟩, .slice na 0 nc, .slice ka 0 kc] 25)).alloc (Obj.cells #[.int .i64 k, .int .i64 n, .int .i64 s, .string ⟨#[]⟩, .slice na2 0 nc2, .slice ka2 0 kc2] 25)) (fun _ _ => 0)
  case atStart => exact ⟨rfl, rfl⟩
  case round =>
    obtain ⟨rfl, rfl⟩ := hrel
    go_wp2
    go_loopw [6] (fun i wr => i = .int .i64 0 ∧ wr = (w.alloc (Obj.cells #[.int .i64 k, .int .i64 n, .int .i64 s, .string ⟨#[]⟩, .slice na 0 nc, .slice ka 0 kc] 25)).alloc (Obj.cells #[.int .i64 k, .int .i64 n, .int .i64 s, .string ⟨#[]⟩, .slice na2 0 nc2, .slice ka2 0 kc2] 25)) (fun _ _ => 0)
    case atStart => exact ⟨rfl, rfl⟩
    case round =>
      obtain ⟨rfl, rfl⟩ := hrel
      go_wp2
      go_ret
      exact ⟨rfl, ((Grow.refl _).alloc _).alloc _⟩
def same3 (k n s k2 n2 s2 : Int) : Bool := decide (k = k2 ∧ n = n2 ∧ s = s2)
theorem equal_num (k n s k2 n2 s2 : Int) (na na2 ka ka2 : Option Addr) (nc kc nc2 kc2 : Nat) (w : World) :
    Calls Tryz.prog 21 #[.agg #[.int .i64 k, .int .i64 n, .int .i64 s, .string ⟨#[]⟩, .slice na 0 nc, .slice ka 0 kc], .agg #[.int .i64 k2, .int .i64 n2, .int .i64 s2, .string ⟨#[]⟩, .slice na2 0 nc2, .slice ka2 0 kc2]] w fun e w' => e = .returned (.bool (same3 k n s k2 n2 s2)) ∧ Grow w w' := by
  by_cases h : k = k2 ∧ n = n2 ∧ s = s2
  · obtain ⟨rfl, rfl, rfl⟩ := h
    have e : same3 k n s k n s = true := by simp [same3]
    rw [e]
    exact equal_yes k n s na na2 ka ka2 nc kc nc2 kc2 w
  · have e : same3 k n s k2 n2 s2 = false := by simp [same3, h]
    rw [e]
    exact equal_no k n s k2 n2 s2 na na2 ka ka2 nc kc nc2 kc2 w h
end Go.Proofs.YtbafmdjlnmeofaaGreatDoor
