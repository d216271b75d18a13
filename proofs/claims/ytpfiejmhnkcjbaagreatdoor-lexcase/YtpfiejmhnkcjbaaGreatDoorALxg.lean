/-
  The document's lex: numbers.
-/
import Derived.Test.YtpfiejmhnkcjbaaGreatDoorALxf
namespace Go.Proofs.YtpfiejmhnkcjbaaGreatDoor
open Go.RowKit Lx
set_option linter.unusedVariables false
set_option linter.unusedSimpArgs false
theorem tw_at {f : Nat → Bool} : ∀ (r : List Nat) (k : Nat), k ≤ (r.takeWhile f).length → (k < (r.takeWhile f).length ↔ ∃ c, r[k]? = some c ∧ f c = true)
  | [], k, h => by simp
  | c :: r, k, h => by
    rw [List.takeWhile_cons] at h ⊢
    split at h
    · rename_i hc
      rw [if_pos hc]
      cases k with
      | zero => simp [hc]
      | succ k =>
        simp only [List.length_cons] at h ⊢
        rw [List.getElem?_cons_succ, ← tw_at r k (by omega)]
        omega
    · rename_i hc
      rw [if_neg hc]
      simp only [List.length_nil] at h
      obtain rfl : k = 0 := by omega
      simp [hc]
theorem dw_drop {f : Nat → Bool} (r : List Nat) : r.dropWhile f = r.drop (r.takeWhile f).length := by
  have h := List.takeWhile_append_dropWhile (p := f) (l := r)
  conv => rhs; rw [← h]
  rw [List.takeWhile_append_dropWhile]
  conv => rhs; arg 2; rw [← h]
  rw [List.drop_left]
/-- A number's end by places. -/
theorem nuE_at (r : List Nat) : (r[(r.takeWhile isDg).length]? = some 46 ∧ (∃ d, r[(r.takeWhile isDg).length + 1]? = some d ∧ isDg d = true) ∧ nuE r = ((r.takeWhile isDg).length + 1 + ((r.drop ((r.takeWhile isDg).length + 1)).takeWhile isDg).length, true)) ∨
    (¬ (r[(r.takeWhile isDg).length]? = some 46 ∧ ∃ d, r[(r.takeWhile isDg).length + 1]? = some d ∧ isDg d = true) ∧ nuE r = ((r.takeWhile isDg).length, false)) := by
  have h := dw_drop (f := isDg) r
  unfold nuE
  obtain ⟨A, hA⟩ : ∃ A, (r.takeWhile isDg).length = A := ⟨_, rfl⟩
  rw [hA] at h ⊢
  have e0 : r[A]? = (r.dropWhile isDg)[0]? := by rw [h, List.getElem?_drop, Nat.add_zero]
  have e1 : r[A + 1]? = (r.dropWhile isDg)[1]? := by rw [h, List.getElem?_drop]
  rw [e0, e1]
  have e2 : r.drop (A + 1) = (r.dropWhile isDg).drop 1 := by rw [h, List.drop_drop]
  rw [e2]
  cases hd : r.dropWhile isDg with
  | nil => right; simp
  | cons p q =>
    cases q with
    | nil => right; simp
    | cons d q =>
      by_cases hc : p = 46 ∧ isDg d = true
      · left
        refine ⟨by simp [hc.1], ⟨d, rfl, hc.2⟩, ?_⟩
        simp only [if_pos hc]
        rfl
      · right
        refine ⟨fun hh => hc ?_, by simp only [if_neg hc]⟩
        obtain ⟨h1, d', h2, h3⟩ := hh
        simp only [List.getElem?_cons_zero, Option.some.injEq] at h1
        simp only [List.getElem?_cons_succ, List.getElem?_cons_zero, Option.some.injEq] at h2
        subst h2
        exact ⟨h1, h3⟩
theorem getD_some {L : List Nat} {i c : Nat} (h : L[i]? = some c) : L.getD i 0 = c := by rw [List.getD_eq_getElem?_getD, h]; rfl
theorem lt_some {L : List Nat} {i : Nat} (h : i < L.length) : L[i]? = some (L.getD i 0) := by rw [List.getD_eq_getElem?_getD, List.getElem?_eq_getElem h]; rfl
end Go.Proofs.YtpfiejmhnkcjbaaGreatDoor
