/-
  isNumber; the document's own Check and Is of numbers.
-/
import Derived.Test.YtbafmdjlnmeofaaGreatDoorCk
namespace Go.Proofs.YtbafmdjlnmeofaaGreatDoor
open Go.RowKit
set_option linter.unusedVariables false
theorem vCheck_num (k n s : Int) (hk : k = 3 ∨ k = 4) (t : ByteArray) (na : Option Addr) (nl nc : Nat) (ka : Option Addr) (kl kc : Nat) (w : World) :
    Calls Tryz.prog 61 #[.agg #[.int .i64 k, .int .i64 n, .int .i64 s, .string t, .slice na nl nc, .slice ka kl kc]] w fun e w' => e = .returned (.int .i64 (chkN (isNum k n s t nl kl))) ∧ Grow w w' := by
  have K : Hid (∀ W, Calls Tryz.prog 77 #[.agg #[.int .i64 k, .int .i64 n, .int .i64 s, .string t, .slice na nl nc, .slice ka kl kc], .int .i64 1] W fun e w' => e = .returned (.int .i64 (chkN (isNum k n s t nl kl))) ∧ Grow W w') := fun W => by
    have F : ∀ W, Calls Tryz.prog 106 #[.agg #[.int .i64 k, .int .i64 n, .int .i64 s, .string t, .slice na nl nc, .slice ka kl kc]] W fun e w' => e = .returned (.bool (isNum k n s t nl kl)) ∧ Grow W w' := fun W => by
      rcases hk with rfl | rfl
      · exact formed3 n s t na nl nc ka kl kc W
      · exact formed4 n s t na nl nc ka kl kc W
    cases hN : isNum k n s t nl kl with
    | false =>
      rw [hN] at F
      exact checkAt_no k n s t na nl nc ka kl kc F W
    | true =>
      obtain ⟨rfl, rfl, rfl, _⟩ := isNum_yes hN
      rw [hN] at F
      exact checkAt_yes k n s na nc ka kc (by rcases hk with rfl | rfl <;> decide) F W
  generalize chkN (isNum k n s t nl kl) = E at *
  clear hk
  go_enter Tryz.func61, Tryz.ntmps61
  go_wp2_with fail
  refine (K.out _).mono ?_
  rintro e w2 ⟨rfl, g2⟩
  have G : Hid (Grow w w2) := Grow.trans ((Grow.refl _).alloc _) g2
  clear g2 K
  go_wp2
  go_ret
  exact ⟨rfl, G.out⟩
theorem isNum_kind {k n s : Int} {t : ByteArray} {nl kl : Nat} (h3 : ¬ k = 3) (h4 : ¬ k = 4) : isNum k n s t nl kl = false := by
  simp [isNum, h3, h4]
set_option maxRecDepth 8000 in
theorem isNumber_any (k n s : Int) (t : ByteArray) (na : Option Addr) (nl nc : Nat) (ka : Option Addr) (kl kc : Nat) (w : World) :
    Calls Tryz.prog 35 #[.agg #[.int .i64 k, .int .i64 n, .int .i64 s, .string t, .slice na nl nc, .slice ka kl kc]] w fun e w' => e = .returned (.bool (isNum k n s t nl kl)) ∧ Grow w w' := by
  by_cases hk : k = 3 ∨ k = 4
  · have K : Hid (∀ W, Calls Tryz.prog 61 #[.agg #[.int .i64 k, .int .i64 n, .int .i64 s, .string t, .slice na nl nc, .slice ka kl kc]] W fun e w' => e = .returned (.int .i64 (chkN (isNum k n s t nl kl))) ∧ Grow W w') := fun W => vCheck_num k n s hk t na nl nc ka kl kc W
    have HE : Hid ((chkN (isNum k n s t nl kl) == 0) = isNum k n s t nl kl) := by
      show _ = _
      cases isNum k n s t nl kl <;> rfl
    generalize chkN (isNum k n s t nl kl) = E at *
    generalize isNum k n s t nl kl = R at *
    rcases hk with rfl | rfl
    all_goals
      go_enter Tryz.func35, Tryz.ntmps35
      go_wp2_with fail
      refine (K.out _).mono ?_
      rintro e w2 ⟨rfl, g2⟩
      have G : Hid (Grow w w2) := Grow.trans ((Grow.refl _).alloc _) g2
      clear g2 K
      have he := HE.out
      go_wp2
      go_ret
      exact ⟨rfl, G.out⟩
  · have h3 : ¬ k = 3 := fun e => hk (.inl e)
    have h4 : ¬ k = 4 := fun e => hk (.inr e)
    rw [isNum_kind h3 h4]
    clear hk
    go_enter Tryz.func35, Tryz.ntmps35
    go_wp2
    go_ret
    exact ⟨rfl, (Grow.refl _).alloc _⟩
end Go.Proofs.YtbafmdjlnmeofaaGreatDoor
