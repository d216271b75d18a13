/-
  Words of statements: what stands behind, blanks between, small and great letters.
-/
import Derived.Test.YtpfiejmhnkcjbaaGreatDoorALxa
namespace Go.Proofs.YtpfiejmhnkcjbaaGreatDoor.Lx
set_option linter.unusedVariables false
set_option linter.unusedSimpArgs false
theorem lexR_skip {tx nu : List Nat → Bool} {r : List Nat} {p n : Nat} (hr : r ≠ []) (h : step tx nu r = .skip n) : lexR tx nu r p = lexR tx nu (r.drop n) (p + n) := by
  rw [lexR_step tx nu hr p, h]
/-! ### letters -/
theorem tw_all {f : Nat → Bool} : ∀ {r : List Nat}, (∀ c ∈ r, f c = true) → r.takeWhile f = r
  | [], _ => rfl
  | c :: r, h => by rw [List.takeWhile_cons, if_pos (h c (by simp)), tw_all (fun d hd => h d (by simp [hd]))]
/-- One word or one name. -/
theorem lexR_letters (tx nu : List Nat → Bool) {b w : List Nat} (hne : b ≠ []) (hb : ∀ c ∈ b, isLt c = true) (hw : sml b = w) :
    lexR tx nu b 0 = ([if isW w then (2, w, 0) else (1, b, 0), (8, [], b.length)], none) := by
  have h1 : b.takeWhile isNm = b := tw_all (fun c hc => by unfold isNm; rw [hb c hc]; rfl)
  rw [lexR_step tx nu hne 0]
  have hs : step tx nu b = if isW w then .tok 2 w b.length else .tok 1 b b.length := by
    cases b with
    | nil => exact absurd rfl hne
    | cons c q =>
      have hc := hb c (by simp)
      have n1 : isBl c = false := by
        cases h : isBl c with
        | false => rfl
        | true =>
          simp only [isBl, Bool.or_eq_true, beq_iff_eq] at h
          rcases h with ((rfl | rfl) | rfl) | rfl <;> exact absurd hc (by decide)
      have n2 : ¬ (c = 45 ∧ q.head? = some 45) := fun h => by rw [h.1] at hc; exact absurd hc (by decide)
      unfold step
      simp only [n1, Bool.false_eq_true, if_false, if_neg n2, hc, if_true, h1, hw]
  rw [hs]
  by_cases hq : isW w = true
  · simp only [hq, if_true]
    rw [List.drop_length, lexR_nil]
    simp
  · simp only [hq, Bool.false_eq_true, if_false]
    rw [List.drop_length, lexR_nil]
    simp
end Go.Proofs.YtpfiejmhnkcjbaaGreatDoor.Lx
