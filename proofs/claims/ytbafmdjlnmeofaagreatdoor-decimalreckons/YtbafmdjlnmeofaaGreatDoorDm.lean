/-
  The least form of a number, over integers: no program is named.
-/
import Derived.Test.YtbafmdjlnmeofaaGreatDoorVal
namespace Go.Proofs.YtbafmdjlnmeofaaGreatDoor
set_option linter.unusedVariables false
/-- The least form of m, s times divided by ten. -/
def dnN : Nat → Nat → Nat × Nat
  | m, 0 => (m, 0)
  | m, s + 1 => if m % 10 = 0 then dnN (m / 10) s else (m, s + 1)
/-- The least form of z, s times divided by ten. -/
def dn (z : Int) (s : Nat) : Int × Nat := (if z < 0 then -((dnN z.natAbs s).1 : Int) else ((dnN z.natAbs s).1 : Int), (dnN z.natAbs s).2)
theorem ten_pos (n : Nat) : 0 < 10 ^ n := Nat.pow_pos (by decide)
theorem dnN_le : ∀ (s m : Nat), (dnN m s).2 ≤ s
  | 0, m => by simp [dnN]
  | s + 1, m => by
    unfold dnN
    split
    · have := dnN_le s (m / 10); omega
    · exact Nat.le_refl _
theorem dnN_small : ∀ (s m : Nat), (dnN m s).1 ≤ m
  | 0, m => by simp [dnN]
  | s + 1, m => by
    unfold dnN
    split
    · have := dnN_small s (m / 10); omega
    · exact Nat.le_refl _
theorem dnN_val : ∀ (s m : Nat), (dnN m s).1 * 10 ^ (s - (dnN m s).2) = m
  | 0, m => by simp [dnN]
  | s + 1, m => by
    unfold dnN
    split
    · next h =>
      have h1 := dnN_val s (m / 10)
      have h2 := dnN_le s (m / 10)
      rw [show s + 1 - (dnN (m / 10) s).2 = (s - (dnN (m / 10) s).2) + 1 by omega, Nat.pow_succ, ← Nat.mul_assoc, h1]
      omega
    · simp
theorem dnN_red : ∀ (s m : Nat), (dnN m s).2 = 0 ∨ (dnN m s).1 % 10 ≠ 0
  | 0, m => by simp [dnN]
  | s + 1, m => by
    unfold dnN
    split
    · exact dnN_red s (m / 10)
    · next h => exact .inr h
theorem dnN_zero : ∀ (s : Nat), dnN 0 s = (0, 0)
  | 0 => rfl
  | s + 1 => by
    unfold dnN
    rw [if_pos (by decide), show 0 / 10 = 0 by decide]
    exact dnN_zero s
theorem dnN_up : ∀ (d y t : Nat), (t = 0 ∨ y % 10 ≠ 0) → dnN (y * 10 ^ d) (t + d) = (y, t)
  | 0, y, t, h => by
    cases t with
    | zero => simp [dnN]
    | succ t =>
      have h : y % 10 ≠ 0 := by
        rcases h with h | h
        · cases h
        · exact h
      simp [dnN, h]
  | d + 1, y, t, h => by
    rw [← Nat.add_assoc]
    unfold dnN
    rw [if_pos (by rw [Nat.pow_succ, ← Nat.mul_assoc]; omega), show y * 10 ^ (d + 1) / 10 = y * 10 ^ d by rw [Nat.pow_succ, ← Nat.mul_assoc]; omega]
    exact dnN_up d y t h
theorem pow_split {a b : Nat} (h : a ≤ b) : 10 ^ b = 10 ^ (b - a) * 10 ^ a := by rw [← Nat.pow_add]; congr 1; omega
/-- The least form is one alone. -/
theorem dnN_uni {y t m s : Nat} (h : y * 10 ^ s = m * 10 ^ t) (hr : t = 0 ∨ y % 10 ≠ 0) (hts : t ≤ s) : dnN m s = (y, t) := by
  have e : m = y * 10 ^ (s - t) := by
    rw [pow_split hts, ← Nat.mul_assoc] at h
    exact (Nat.eq_of_mul_eq_mul_right (ten_pos t) h).symm
  rw [e, show s = t + (s - t) by omega, show t + (s - t) - t = s - t by omega]
  exact dnN_up _ _ _ hr
theorem red_le {y t m s : Nat} (h : y * 10 ^ s = m * 10 ^ t) (hr : t = 0 ∨ y % 10 ≠ 0) : t ≤ s := by
  apply Nat.le_of_not_lt
  intro hlt
  rw [pow_split (Nat.le_of_lt hlt), ← Nat.mul_assoc] at h
  have h2 := Nat.eq_of_mul_eq_mul_right (ten_pos s) h
  rcases hr with hr | hr
  · omega
  · apply hr
    rw [h2, show t - s = (t - s - 1) + 1 by omega, Nat.pow_succ, ← Nat.mul_assoc]
    omega
theorem dnN_same {m s m' s' : Nat} (h : m * 10 ^ s' = m' * 10 ^ s) : dnN m s = dnN m' s' := by
  have h1 := dnN_val s m
  have h2 := dnN_le s m
  have hr := dnN_red s m
  generalize dnN m s = d at *
  obtain ⟨y, t⟩ := d
  simp only at h1 h2 hr
  have h3 : y * 10 ^ s' = m' * 10 ^ t := by
    apply Nat.eq_of_mul_eq_mul_right (ten_pos (s - t))
    rw [Nat.mul_assoc m', ← Nat.pow_add, show t + (s - t) = s by omega, ← h, ← h1]
    rw [Nat.mul_assoc, Nat.mul_assoc, Nat.mul_comm (10 ^ s')]
  exact (dnN_uni h3 hr (red_le h3 hr)).symm
/-! ### with a sign -/
theorem dn_le (z : Int) (s : Nat) : (dn z s).2 ≤ s := dnN_le _ _
theorem dn_red (z : Int) (s : Nat) : (dn z s).2 = 0 ∨ (dn z s).1 % 10 ≠ 0 := by
  have h := dnN_red s z.natAbs
  unfold dn
  rcases h with h | h
  · exact .inl h
  · right
    simp only
    split <;> omega
theorem dn_abs (z : Int) (s : Nat) : (dn z s).1.natAbs ≤ z.natAbs := by
  have h := dnN_small s z.natAbs
  unfold dn
  simp only
  split <;> omega
theorem natAbs_dn (z : Int) (s : Nat) : (dn z s).1.natAbs = (dnN z.natAbs s).1 := by
  unfold dn
  simp only
  split <;> omega
theorem dn_val (z : Int) (s : Nat) : (dn z s).1 * ((10 ^ (s - (dn z s).2) : Nat) : Int) = z := by
  have h := dnN_val s z.natAbs
  unfold dn
  simp only
  generalize hP : 10 ^ (s - (dnN z.natAbs s).2) = P at *
  generalize (dnN z.natAbs s).1 = y at *
  have h2 : (y : Int) * (P : Int) = (z.natAbs : Int) := by rw [← h]; simp
  split
  · rw [Int.neg_mul, h2]; omega
  · rw [h2]; omega
theorem dn_same {z z' : Int} {s s' : Nat} (h : z * ((10 ^ s' : Nat) : Int) = z' * ((10 ^ s : Nat) : Int)) : dn z s = dn z' s' := by
  have ha : z.natAbs * 10 ^ s' = z'.natAbs * 10 ^ s := by
    have h1 := congrArg Int.natAbs h
    rw [Int.natAbs_mul, Int.natAbs_mul, Int.natAbs_natCast, Int.natAbs_natCast] at h1
    exact h1
  have hn : (z < 0) ↔ (z' < 0) := by
    have p1 := ten_pos s
    have p2 := ten_pos s'
    generalize 10 ^ s = P at *
    generalize 10 ^ s' = Q at *
    constructor
    · intro hz
      have := Int.mul_neg_of_neg_of_pos hz (show (0 : Int) < (Q : Int) by omega)
      rw [h] at this
      apply Int.lt_of_not_ge
      intro hz'
      have := Int.mul_nonneg hz' (show (0 : Int) ≤ (P : Int) by omega)
      omega
    · intro hz
      have := Int.mul_neg_of_neg_of_pos hz (show (0 : Int) < (P : Int) by omega)
      rw [← h] at this
      apply Int.lt_of_not_ge
      intro hz'
      have := Int.mul_nonneg hz' (show (0 : Int) ≤ (Q : Int) by omega)
      omega
  unfold dn
  rw [dnN_same ha]
  by_cases hz : z < 0
  · rw [if_pos hz, if_pos (hn.1 hz)]
  · rw [if_neg hz, if_neg (fun h => hz (hn.2 h))]
theorem dn_of {y : Int} {t : Nat} (hr : t = 0 ∨ y % 10 ≠ 0) : dn y t = (y, t) := by
  have h : dnN y.natAbs t = (y.natAbs, t) := dnN_uni rfl (by rcases hr with h | h; exact .inl h; right; omega) (Nat.le_refl _)
  unfold dn
  rw [h]
  simp only [Prod.mk.injEq, and_true]
  split <;> omega
theorem dn_uni {y z : Int} {t s : Nat} (h : y * ((10 ^ s : Nat) : Int) = z * ((10 ^ t : Nat) : Int)) (hr : t = 0 ∨ y % 10 ≠ 0) : dn z s = (y, t) := by
  rw [dn_same (z := z) (s := s) (z' := y) (s' := t) h.symm]
  exact dn_of hr
/-- What is answered: the number, or nothing where it leaves its digits. -/
def fits (d : Int × Nat) : Bool := decide (d.2 ≤ 18) && decide (-9223372036854775808 ≤ d.1) && decide (d.1 < 9223372036854775808)
def res (z : Int) (s : Nat) : Option (Int × Nat) := if fits (dn z s) then some (dn z s) else none
theorem res_same {z z' : Int} {s s' : Nat} (h : z * ((10 ^ s' : Nat) : Int) = z' * ((10 ^ s : Nat) : Int)) : res z s = res z' s' := by
  unfold res
  rw [dn_same h]
/-- A number: of Int, or of Decimal. -/
structure Nu (y : Int) (t : Nat) : Prop where
  n0 : -9223372036854775808 ≤ y
  n1 : y < 9223372036854775808
  t1 : t ≤ 18
  red : t = 0 ∨ y % 10 ≠ 0
theorem Nu.res {y : Int} {t : Nat} (h : Nu y t) : res y t = some (y, t) := by
  unfold Go.Proofs.YtbafmdjlnmeofaaGreatDoor.res
  rw [dn_of h.red]
  have : fits (y, t) = true := by
    simp only [fits, Bool.and_eq_true, decide_eq_true_eq]
    exact ⟨⟨h.t1, h.n0⟩, h.n1⟩
  rw [if_pos this]
theorem res_some {z : Int} {s : Nat} {y : Int} {t : Nat} (h : res z s = some (y, t)) : Nu y t ∧ y * ((10 ^ s : Nat) : Int) = z * ((10 ^ t : Nat) : Int) ∧ t ≤ s := by
  unfold res at h
  split at h
  · next hf =>
    have hd : dn z s = (y, t) := by simpa using h
    have h1 := dn_val z s
    have h2 := dn_le z s
    have h3 := dn_red z s
    rw [hd] at hf h1 h2 h3
    simp only [fits, Bool.and_eq_true, decide_eq_true_eq] at hf
    simp only at h1 h2 h3
    refine ⟨⟨hf.1.2, hf.2, hf.1.1, h3⟩, ?_, h2⟩
    rw [← h1, Int.mul_assoc, ← Int.natCast_mul, ← pow_split h2]
  · cases h
end Go.Proofs.YtbafmdjlnmeofaaGreatDoor
