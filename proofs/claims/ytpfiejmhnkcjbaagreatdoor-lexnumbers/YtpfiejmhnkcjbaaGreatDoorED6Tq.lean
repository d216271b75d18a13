/-
  A number's text: its parts.
-/
import Derived.Test.YtpfiejmhnkcjbaaGreatDoorEG45x
namespace Go.Proofs.YtpfiejmhnkcjbaaGreatDoor.D6
open Go.RowKit
set_option linter.unusedVariables false
theorem dec_low : ∀ (k u : Nat), u ≤ k → 0 < u → 10 ^ ((Lib.decDigits u).length - 1) ≤ u := by
  intro k
  induction k with
  | zero => intro u h1 h2; omega
  | succ k ih =>
    intro u hu h0
    by_cases h : u < 10
    · rw [Lib.decDigits_one h]
      show 10 ^ 0 ≤ u
      omega
    · rw [dec_step (by omega), List.length_append, List.length_singleton, Nat.add_sub_cancel]
      have h1 := ih (u / 10) (by omega) (by omega)
      have h2 := (dec_num k (u / 10) (by omega)).2.2.1
      have h3 : 0 < (Lib.decDigits (u / 10)).length := List.length_pos_iff.2 h2
      obtain ⟨m, hm⟩ : ∃ m, (Lib.decDigits (u / 10)).length = m + 1 := ⟨_, (Nat.succ_pred_eq_of_pos h3).symm⟩
      rw [hm, Nat.add_sub_cancel] at h1
      rw [hm, Nat.pow_succ]
      omega
theorem dec_19 (u : Nat) (hu : u ≤ 9223372036854775808) : (Lib.decDigits u).length ≤ 19 := by
  by_cases h0 : u = 0
  · subst h0
    rw [Lib.decDigits_one (by omega)]
    decide
  · have h1 := dec_low u u (Nat.le_refl _) (by omega)
    by_cases h : (Lib.decDigits u).length ≤ 19
    · exact h
    · have h2 := pow_le (k := 19) (n := (Lib.decDigits u).length - 1) (by omega)
      have h3 : (10 : Nat) ^ 19 = 10000000000000000000 := by decide
      omega
theorem numL_zeros (j : Nat) : numL (List.replicate j 48) = 0 := by
  induction j with
  | zero => rfl
  | succ j ih =>
    rw [List.replicate_succ', numL_snoc, ih]
    rfl
theorem zeros_dig (j : Nat) : (List.replicate j (48 : UInt8)).all dig10 = true := by
  rw [List.all_eq_true]
  intro x hx
  rw [(List.mem_replicate.1 hx).2]
  rfl
theorem dig_nodot {l : List UInt8} (h : l.all dig10 = true) : ¬ (46 : UInt8) ∈ l := by
  intro hm
  have := List.all_eq_true.1 h _ hm
  cases this
/-- The parts of a number's text with a dot. -/
theorem dot_parts (u s : Nat) (s0 : 0 < s) (hu : u ≤ 9223372036854775808) (D : ByteArray) (hD : D.data.toList = Lib.decDigits u) :
    ∃ a b : List UInt8, (dotN D s).data.toList = a ++ 46 :: b ∧ a.all dig10 = true ∧ b.all dig10 = true ∧ b.length = s ∧ numL a * 10 ^ s + numL b = u ∧ a ≠ [] ∧ (¬ a.head? = some 48 ∨ a.length = 1) ∧ a.length ≤ 19 := by
  obtain ⟨d1, d2, d3, d4⟩ := dec_num u u (Nat.le_refl _)
  have d5 := dec_19 u hu
  have d6 : u = 0 → (Lib.decDigits u).length = 1 := fun e => by rw [e, Lib.decDigits_one (by omega)]; rfl
  have hl : D.size = (Lib.decDigits u).length := by rw [size_list, hD]
  generalize Lib.decDigits u = l at *
  unfold dotN dotAt
  by_cases h : D.size ≤ s
  · rw [if_pos h]
    refine ⟨[48], List.replicate (s - l.length) 48 ++ l, ?_, rfl, ?_, ?_, ?_, by simp, .inr rfl, by decide⟩
    · have e : (zeros (s + 1 - D.size) ++ D).data.toList = 48 :: (List.replicate (s - l.length) 48 ++ l) := by
        rw [app_list, hD]
        show List.replicate (s + 1 - D.size) 48 ++ l = _
        rw [show s + 1 - D.size = (s - l.length) + 1 by omega, List.replicate_succ]
        rfl
      generalize zeros (s + 1 - D.size) ++ D = Y at *
      rw [app_list, app_list]
      have e2 : Y.size = (s - l.length + l.length) + 1 := by rw [size_list, e]; simp
      simp [e, e2]
      exact List.take_of_length_le (by simp)
    · rw [List.all_append, zeros_dig, d2]; rfl
    · simp; omega
    · rw [numL_app, numL_zeros, d1]
      show numL [48] * _ + _ = u
      have : numL [48] = 0 := rfl
      rw [this]; omega
  · rw [if_neg h]
    have hs : s < l.length := by omega
    refine ⟨l.take (l.length - s), l.drop (l.length - s), ?_, ?_, ?_, ?_, ?_, ?_, ?_, ?_⟩
    · rw [app_list, app_list]
      simp [hD, hl]
      exact List.take_of_length_le (by simp)
    · exact List.all_eq_true.2 fun x hx => List.all_eq_true.1 d2 x (List.mem_of_mem_take hx)
    · exact List.all_eq_true.2 fun x hx => List.all_eq_true.1 d2 x (List.mem_of_mem_drop hx)
    · simp; omega
    · have := numL_app (l.take (l.length - s)) (l.drop (l.length - s))
      rw [List.take_append_drop, d1, show (l.drop (l.length - s)).length = s by simp; omega] at this
      exact this.symm
    · intro e
      have := congrArg List.length e
      simp at this
      omega
    · left
      have h0 : 0 < u := by
        by_cases h0 : u = 0
        · have := d6 h0
          omega
        · omega
      have := d4 h0
      cases hh : l with
      | nil => exact absurd hh d3
      | cons x r =>
        rw [hh] at this hs
        rw [show (x :: r).length - s = ((x :: r).length - s - 1) + 1 by omega, List.take_succ_cons]
        exact this
    · simp; omega
end Go.Proofs.YtpfiejmhnkcjbaaGreatDoor.D6
