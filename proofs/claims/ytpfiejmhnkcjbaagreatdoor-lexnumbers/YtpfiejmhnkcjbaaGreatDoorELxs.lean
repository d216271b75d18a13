/-
  Tokens: one in a row; a step by its first byte.
-/
import Derived.Test.YtpfiejmhnkcjbaaGreatDoorELxi
namespace Go.Proofs.YtpfiejmhnkcjbaaGreatDoor
open Go.RowKit Lx
set_option linter.unusedVariables false
set_option linter.unusedSimpArgs false
theorem cells_new (w : World) (news : List Value) (t : TypeId) : ∀ ad, some (⟨w.heap.size, 0, none⟩ : Addr) = some ad → ∀ j u, news[j]? = some u → (w.alloc (.cells news.toArray t)).cell? (ad.add j) = some u := by
  rintro ad e j u hj
  injection e with e
  subst e
  have e : (⟨w.heap.size, 0, none⟩ : Addr).add j = ⟨w.heap.size, j, none⟩ := by simp [Addr.add]; intro h; exact h.symm
  rw [e]
  rw [cell_of_row _ w.heap.size j _ t (0, 0) (heap_alloc_new w (.cells news.toArray t))]
  simpa using hj
theorem one_tk (k p : Int) (t : ByteArray) : ∀ u ∈ [Value.int .i64 k, .string t, .int .i64 p], u.oneCell' = true := by simp; exact ⟨rfl, rfl, rfl⟩
/-! ### a step, by the first byte -/
section
variable {tx nu : List Nat → Bool} {c : Nat} {q : List Nat}
theorem st_blank (h : isBl c = true) : Lx.step tx nu (c :: q) = .skip 1 := by unfold Lx.step; simp only [h, if_true]
theorem st_word (h0 : isBl c = false) (h : isLt c = true) : Lx.step tx nu (c :: q) = if isW (sml ((c :: q).takeWhile isNm)) then .tok 2 (sml ((c :: q).takeWhile isNm)) ((c :: q).takeWhile isNm).length else .tok 1 ((c :: q).takeWhile isNm) ((c :: q).takeWhile isNm).length := by
  have h1 : ¬ (c = 45 ∧ q.head? = some 45) := fun e => by rw [e.1] at h; cases h
  unfold Lx.step
  simp only [h0, Bool.false_eq_true, if_false, h1, h, if_true]
theorem st_quo : Lx.step tx nu (34 :: q) = if q.length = (q.takeWhile (· != 34)).length ∨ (q.takeWhile (· != 34)).length < 1 ∨ 40 < (q.takeWhile (· != 34)).length then .bad else .tok 1 (q.takeWhile (· != 34)) ((q.takeWhile (· != 34)).length + 2) := rfl
theorem st_num (h : isDg c = true) : Lx.step tx nu (c :: q) = if folw ((c :: q).drop (nuE (c :: q)).1) = true ∨ nu ((c :: q).take (nuE (c :: q)).1) = false then .bad else .tok (if (nuE (c :: q)).2 then 4 else 3) ((c :: q).take (nuE (c :: q)).1) (nuE (c :: q)).1 := by
  have hc : 48 ≤ c ∧ c ≤ 57 := by unfold isDg at h; simpa using h
  have h0 : isBl c = false := by unfold isBl; simp; omega
  have h1 : ¬ (c = 45 ∧ q.head? = some 45) := by omega
  have h2 : isLt c = false := by unfold isLt; simp; omega
  have h3 : ¬ c = 34 := by omega
  unfold Lx.step
  simp only [h0, Bool.false_eq_true, if_false, h1, h2, h3, h, if_true]
theorem st_txt : Lx.step tx nu (39 :: q) = match txE q with
      | none => .bad
      | some n => if tx ((39 :: q).take (n + 1)) then .tok 5 ((39 :: q).take (n + 1)) (n + 1) else .bad := rfl
theorem st_par : Lx.step tx nu (63 :: q) = .tok 7 [63] 1 := rfl
theorem st_sgn (h0 : isBl c = false) (h1 : ¬ (c = 45 ∧ q.head? = some 45)) (h2 : isLt c = false) (h3 : ¬ c = 34) (h4 : isDg c = false) (h5 : ¬ c = 39) (h6 : ¬ c = 63) : Lx.step tx nu (c :: q) = if sgn (c :: q) = [] then .bad else .tok 6 (told (sgn (c :: q))) (sgn (c :: q)).length := by
  unfold Lx.step
  simp only [h0, Bool.false_eq_true, if_false, h1, h2, h3, h4, h5, h6]
end
end Go.Proofs.YtpfiejmhnkcjbaaGreatDoor
