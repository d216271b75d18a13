/-
  The least form of a number, over integers: no program is named.
-/
import Derived.Test.YtpfiejmhnkcjbaaGreatDoorEVal
namespace Go.Proofs.YtpfiejmhnkcjbaaGreatDoor.D6
set_option linter.unusedVariables false
/-- The least form of m, s times divided by ten. -/
def dnN : Nat → Nat → Nat × Nat
  | m, 0 => (m, 0)
  | m, s + 1 => if m % 10 = 0 then dnN (m / 10) s else (m, s + 1)
/-- The least form of z, s times divided by ten. -/
def dn (z : Int) (s : Nat) : Int × Nat := (if z < 0 then -((dnN z.natAbs s).1 : Int) else ((dnN z.natAbs s).1 : Int), (dnN z.natAbs s).2)
theorem ten_pos (n : Nat) : 0 < 10 ^ n := Nat.pow_pos (by decide)
theorem dnN_le : ∀ (s m : Nat), (dnN m s).2 ≤ s
  | 0, m => by simp [dnN]
  | s + 1, m => by
    unfold dnN
    split
    · have := dnN_le s (m / 10); omega
    · exact Nat.le_refl _
theorem dnN_small : ∀ (s m : Nat), (dnN m s).1 ≤ m
  | 0, m => by simp [dnN]
  | s + 1, m => by
    unfold dnN
    split
    · have := dnN_small s (m / 10); omega
    · exact Nat.le_refl _
theorem dnN_zero : ∀ (s : Nat), dnN 0 s = (0, 0)
  | 0 => rfl
  | s + 1 => by
    unfold dnN
    rw [if_pos (by decide), show 0 / 10 = 0 by decide]
    exact dnN_zero s
theorem dnN_up : ∀ (d y t : Nat), (t = 0 ∨ y % 10 ≠ 0) → dnN (y * 10 ^ d) (t + d) = (y, t)
  | 0, y, t, h => by
    cases t with
    | zero => simp [dnN]
    | succ t =>
      have h : y % 10 ≠ 0 := by
        rcases h with h | h
        · cases h
        · exact h
      simp [dnN, h]
  | d + 1, y, t, h => by
    rw [← Nat.add_assoc]
    unfold dnN
    rw [if_pos (by rw [Nat.pow_succ, ← Nat.mul_assoc]; omega), show y * 10 ^ (d + 1) / 10 = y * 10 ^ d by rw [Nat.pow_succ, ← Nat.mul_assoc]; omega]
    exact dnN_up d y t h
theorem pow_split {a b : Nat} (h : a ≤ b) : 10 ^ b = 10 ^ (b - a) * 10 ^ a := by rw [← Nat.pow_add]; congr 1; omega
/-- The least form is one alone. -/
theorem dnN_uni {y t m s : Nat} (h : y * 10 ^ s = m * 10 ^ t) (hr : t = 0 ∨ y % 10 ≠ 0) (hts : t ≤ s) : dnN m s = (y, t) := by
  have e : m = y * 10 ^ (s - t) := by
    rw [pow_split hts, ← Nat.mul_assoc] at h
    exact (Nat.eq_of_mul_eq_mul_right (ten_pos t) h).symm
  rw [e, show s = t + (s - t) by omega, show t + (s - t) - t = s - t by omega]
  exact dnN_up _ _ _ hr
/-! ### with a sign -/
theorem dn_of {y : Int} {t : Nat} (hr : t = 0 ∨ y % 10 ≠ 0) : dn y t = (y, t) := by
  have h : dnN y.natAbs t = (y.natAbs, t) := dnN_uni rfl (by rcases hr with h | h; exact .inl h; right; omega) (Nat.le_refl _)
  unfold dn
  rw [h]
  simp only [Prod.mk.injEq, and_true]
  split <;> omega
/-- What is answered: the number, or nothing where it leaves its digits. -/
def fits (d : Int × Nat) : Bool := decide (d.2 ≤ 18) && decide (-9223372036854775808 ≤ d.1) && decide (d.1 < 9223372036854775808)
def res (z : Int) (s : Nat) : Option (Int × Nat) := if fits (dn z s) then some (dn z s) else none
/-- A number: of Int, or of Decimal. -/
structure Nu (y : Int) (t : Nat) : Prop where
  n0 : -9223372036854775808 ≤ y
  n1 : y < 9223372036854775808
  t1 : t ≤ 18
  red : t = 0 ∨ y % 10 ≠ 0
theorem Nu.res {y : Int} {t : Nat} (h : Nu y t) : res y t = some (y, t) := by
  unfold Go.Proofs.YtpfiejmhnkcjbaaGreatDoor.D6.res
  rw [dn_of h.red]
  have : fits (y, t) = true := by
    simp only [fits, Bool.and_eq_true, decide_eq_true_eq]
    exact ⟨⟨h.t1, h.n0⟩, h.n1⟩
  rw [if_pos this]
end Go.Proofs.YtpfiejmhnkcjbaaGreatDoor.D6
