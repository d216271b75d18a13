/-
  The program's lex: what next answers, over lists of bytes.
-/
import Derived.Test.YtpfiejmhnkcjbaaGreatDoorEG1x
import Derived.Test.YtpfiejmhnkcjbaaGreatDoorELxs
namespace Go.Proofs.YtpfiejmhnkcjbaaGreatDoor
open Lx
set_option linter.unusedVariables false
set_option linter.unusedSimpArgs false
/-! ### numbers -/
/-- A number does not end with a point. -/
def NuDot (nu : List Nat → Bool) : Prop := ∀ l : List Nat, (∀ x ∈ l, isDg x = true) → nu (l ++ [46]) = false
theorem tw_mem {f : Nat → Bool} : ∀ (l : List Nat) (x : Nat), x ∈ l.takeWhile f → f x = true
  | [], x, h => by simp at h
  | c :: l, x, h => by
    rw [List.takeWhile_cons] at h
    split at h
    · rename_i hc
      rcases List.mem_cons.1 h with rfl | h
      · exact hc
      · exact tw_mem l x h
    · simp at h
theorem num_no {tx nu : List Nat → Bool} {c : Nat} {q : List Nat} (hd : isDg c = true) {A : Nat} (hA : ((c :: q).takeWhile isDg).length = A) (h : ¬ ((c :: q).drop A).head? = some 46) :
    ans (Lx.step tx nu (c :: q)) = if folw ((c :: q).drop A) = true ∨ nu ((c :: q).take A) = false then (0, [], 0) else (3, (c :: q).take A, A) := by
  have hn : nuE (c :: q) = (A, false) := by
    rcases nuE_at (c :: q) with ⟨h1, _, _⟩ | ⟨_, h2⟩
    · rw [hA] at h1
      exact absurd (by rw [List.head?_drop]; exact h1) h
    · rw [hA] at h2; exact h2
  rw [st_num hd, hn]
  simp only
  split <;> rfl
theorem num_yes {tx nu : List Nat → Bool} (HD : NuDot nu) {c : Nat} {q : List Nat} (hd : isDg c = true) {A : Nat} (hA : ((c :: q).takeWhile isDg).length = A) {z : List Nat} (h : (c :: q).drop A = 46 :: z) {B : Nat} (hB : (z.takeWhile isDg).length = B) :
    ans (Lx.step tx nu (c :: q)) = if folw ((c :: q).drop (A + 1 + B)) = true ∨ nu ((c :: q).take (A + 1 + B)) = false then (0, [], 0) else (4, (c :: q).take (A + 1 + B), A + 1 + B) := by
  have e46 : (c :: q)[A]? = some 46 := by
    have := List.getElem?_drop (xs := c :: q) (i := A) (j := 0)
    rw [h] at this
    simpa using this.symm
  have ez : (c :: q).drop (A + 1) = z := by
    have : ((c :: q).drop A).drop 1 = z := by rw [h]; rfl
    rw [List.drop_drop] at this
    exact this
  have e1 : ∀ j, (c :: q)[A + 1 + j]? = z[j]? := fun j => by
    rw [← ez, List.getElem?_drop]
  rw [st_num hd]
  rcases nuE_at (c :: q) with ⟨_, _, h3⟩ | ⟨h2, h3⟩
  · rw [hA, ez, hB] at h3
    rw [h3]
    simp only
    split <;> rfl
  · rw [hA] at h2 h3
    rw [h3]
    have hB0 : B = 0 := by
      cases hz : z with
      | nil => rw [hz] at hB; simpa using hB.symm
      | cons d z' =>
        by_cases hdd : isDg d = true
        · exact absurd ⟨e46, d, by have := e1 0; rw [hz] at this; simpa using this, hdd⟩ h2
        · rw [hz, List.takeWhile_cons, if_neg hdd] at hB
          simpa using hB.symm
    subst hB0
    have e4 : folw ((c :: q).drop A) = true := by rw [h]; rfl
    simp only [e4, true_or, if_true, Nat.add_zero]
    have e5 : nu ((c :: q).take (A + 1)) = false := by
      have : (c :: q).take (A + 1) = (c :: q).takeWhile isDg ++ [46] := by
        have hlt := (List.getElem?_eq_some_iff.1 e46)
        rw [List.take_succ_eq_append_getElem hlt.1, hlt.2]
        congr 1
        rw [← hA]
        have := List.takeWhile_append_dropWhile (p := isDg) (l := c :: q)
        conv => lhs; arg 2; rw [← this]
        rw [List.take_left]
      rw [this]
      exact HD _ (fun x hx => tw_mem _ x hx)
    rw [if_pos (.inr e5)]
    rfl
/-! ### texts -/
theorem txE_none : ∀ l : List Nat, ¬ (l.takeWhile (· != 39)).length < l.length → txE l = none
  | [], _ => rfl
  | c :: l, h => by
    by_cases hc : c = 39
    · subst hc
      exact absurd (by simp) h
    · rw [tx_skip hc, txE_none l, Option.map_none]
      intro hl
      apply h
      rw [List.takeWhile_cons, if_pos (by simpa using hc)]
      simpa using hl
theorem txE_some : ∀ (l : List Nat) {T : Nat}, (l.takeWhile (· != 39)).length = T → T < l.length → (¬ (l.drop (T + 1)).head? = some 39 → txE l = some (T + 1)) ∧ ((l.drop (T + 1)).head? = some 39 → txE l = (txE (l.drop (T + 2))).map (· + (T + 2)))
  | [], T, _, h => by simp at h
  | c :: l, T, hT, h => by
    by_cases hc : c = 39
    · subst hc
      have : T = 0 := by rw [← hT]; simp
      subst this
      refine ⟨fun h1 => tx_end (by simpa using h1), fun h1 => ?_⟩
      cases l with
      | nil => simp at h1
      | cons d l =>
        simp only [Nat.zero_add, List.drop_succ_cons, List.drop_zero, List.head?_cons, Option.some.injEq] at h1
        subst h1
        rw [tx_two]
        rfl
    · rw [List.takeWhile_cons, if_pos (by simpa using hc), List.length_cons] at hT
      subst hT
      simp only [List.length_cons, Nat.add_lt_add_iff_right] at h
      obtain ⟨i1, i2⟩ := txE_some l rfl h
      rw [tx_skip hc]
      refine ⟨fun h1 => ?_, fun h1 => ?_⟩
      · rw [i1 (by simpa using h1)]
        rfl
      · rw [i2 (by simpa using h1), Option.map_map, show (l.takeWhile (· != 39)).length + 1 + 2 = (l.takeWhile (· != 39)).length + 2 + 1 by omega, List.drop_succ_cons]
        congr 1
/-! ### signs -/
def isTwo (l : List Nat) : Bool := [[60, 61], [62, 61], [33, 61], [60, 62], [124, 124]].contains l
theorem sgn_one (c : Nat) : sgn [c] = if isS1 c then [c] else [] := by
  by_cases hm : c ∈ [60, 62, 61, 43, 45, 42, 40, 41, 91, 93, 123, 125, 44, 46, 58, 59]
  · simp only [List.mem_cons, List.not_mem_nil, or_false] at hm
    rcases hm with rfl | rfl | rfl | rfl | rfl | rfl | rfl | rfl | rfl | rfl | rfl | rfl | rfl | rfl | rfl | rfl <;> rfl
  · simp only [List.mem_cons, List.not_mem_nil, or_false, not_or] at hm
    obtain ⟨a0, a1, a2, a3, a4, a5, a6, a7, a8, a9, a10, a11, a12, a13, a14, a15⟩ := hm
    have b0 : (60 == c) = false := beq_eq_false_iff_ne.2 (Ne.symm a0)
    have b1 : (62 == c) = false := beq_eq_false_iff_ne.2 (Ne.symm a1)
    have b2 : (61 == c) = false := beq_eq_false_iff_ne.2 (Ne.symm a2)
    have b3 : (43 == c) = false := beq_eq_false_iff_ne.2 (Ne.symm a3)
    have b4 : (45 == c) = false := beq_eq_false_iff_ne.2 (Ne.symm a4)
    have b5 : (42 == c) = false := beq_eq_false_iff_ne.2 (Ne.symm a5)
    have b6 : (40 == c) = false := beq_eq_false_iff_ne.2 (Ne.symm a6)
    have b7 : (41 == c) = false := beq_eq_false_iff_ne.2 (Ne.symm a7)
    have b8 : (91 == c) = false := beq_eq_false_iff_ne.2 (Ne.symm a8)
    have b9 : (93 == c) = false := beq_eq_false_iff_ne.2 (Ne.symm a9)
    have b10 : (123 == c) = false := beq_eq_false_iff_ne.2 (Ne.symm a10)
    have b11 : (125 == c) = false := beq_eq_false_iff_ne.2 (Ne.symm a11)
    have b12 : (44 == c) = false := beq_eq_false_iff_ne.2 (Ne.symm a12)
    have b13 : (46 == c) = false := beq_eq_false_iff_ne.2 (Ne.symm a13)
    have b14 : (58 == c) = false := beq_eq_false_iff_ne.2 (Ne.symm a14)
    have b15 : (59 == c) = false := beq_eq_false_iff_ne.2 (Ne.symm a15)
    simp [sgn, signs, isS1, List.find?, List.isPrefixOf, a0, a1, a2, a3, a4, a5, a6, a7, a8, a9, a10, a11, a12, a13, a14, a15, b0, b1, b2, b3, b4, b5, b6, b7, b8, b9, b10, b11, b12, b13, b14, b15]
theorem sgn_two (c d : Nat) (q : List Nat) : sgn (c :: d :: q) = if isTwo [c, d] then [c, d] else if isS1 c then [c] else [] := by
  by_cases hm : c ∈ [60, 62, 61, 43, 45, 42, 40, 41, 91, 93, 123, 125, 44, 46, 58, 59]
  · simp only [List.mem_cons, List.not_mem_nil, or_false] at hm
    by_cases h1 : d = 61
    · subst h1
      rcases hm with rfl | rfl | rfl | rfl | rfl | rfl | rfl | rfl | rfl | rfl | rfl | rfl | rfl | rfl | rfl | rfl <;> rfl
    by_cases h2 : d = 62
    · subst h2
      rcases hm with rfl | rfl | rfl | rfl | rfl | rfl | rfl | rfl | rfl | rfl | rfl | rfl | rfl | rfl | rfl | rfl <;> rfl
    have h1' : (61 == d) = false := beq_eq_false_iff_ne.2 (Ne.symm h1)
    have h2' : (62 == d) = false := beq_eq_false_iff_ne.2 (Ne.symm h2)
    rcases hm with rfl | rfl | rfl | rfl | rfl | rfl | rfl | rfl | rfl | rfl | rfl | rfl | rfl | rfl | rfl | rfl <;> simp [sgn, signs, isS1, isTwo, List.find?, List.isPrefixOf, h1, h2, h1', h2']
  · simp only [List.mem_cons, List.not_mem_nil, or_false, not_or] at hm
    obtain ⟨a0, a1, a2, a3, a4, a5, a6, a7, a8, a9, a10, a11, a12, a13, a14, a15⟩ := hm
    have b0 : (60 == c) = false := beq_eq_false_iff_ne.2 (Ne.symm a0)
    have b1 : (62 == c) = false := beq_eq_false_iff_ne.2 (Ne.symm a1)
    have b2 : (61 == c) = false := beq_eq_false_iff_ne.2 (Ne.symm a2)
    have b3 : (43 == c) = false := beq_eq_false_iff_ne.2 (Ne.symm a3)
    have b4 : (45 == c) = false := beq_eq_false_iff_ne.2 (Ne.symm a4)
    have b5 : (42 == c) = false := beq_eq_false_iff_ne.2 (Ne.symm a5)
    have b6 : (40 == c) = false := beq_eq_false_iff_ne.2 (Ne.symm a6)
    have b7 : (41 == c) = false := beq_eq_false_iff_ne.2 (Ne.symm a7)
    have b8 : (91 == c) = false := beq_eq_false_iff_ne.2 (Ne.symm a8)
    have b9 : (93 == c) = false := beq_eq_false_iff_ne.2 (Ne.symm a9)
    have b10 : (123 == c) = false := beq_eq_false_iff_ne.2 (Ne.symm a10)
    have b11 : (125 == c) = false := beq_eq_false_iff_ne.2 (Ne.symm a11)
    have b12 : (44 == c) = false := beq_eq_false_iff_ne.2 (Ne.symm a12)
    have b13 : (46 == c) = false := beq_eq_false_iff_ne.2 (Ne.symm a13)
    have b14 : (58 == c) = false := beq_eq_false_iff_ne.2 (Ne.symm a14)
    have b15 : (59 == c) = false := beq_eq_false_iff_ne.2 (Ne.symm a15)
    by_cases h33 : c = 33
    · subst h33
      by_cases h1 : d = 61
      · subst h1; rfl
      · simp [sgn, signs, isS1, isTwo, List.find?, List.isPrefixOf, h1, beq_eq_false_iff_ne.2 (Ne.symm h1)]
    by_cases h124 : c = 124
    · subst h124
      by_cases h1 : d = 124
      · subst h1; rfl
      · simp [sgn, signs, isS1, isTwo, List.find?, List.isPrefixOf, h1, beq_eq_false_iff_ne.2 (Ne.symm h1)]
    simp [sgn, signs, isS1, isTwo, List.find?, List.isPrefixOf, h33, h124, beq_eq_false_iff_ne.2 (Ne.symm h33), beq_eq_false_iff_ne.2 (Ne.symm h124), a0, a1, a2, a3, a4, a5, a6, a7, a8, a9, a10, a11, a12, a13, a14, a15, b0, b1, b2, b3, b4, b5, b6, b7, b8, b9, b10, b11, b12, b13, b14, b15]
end Go.Proofs.YtpfiejmhnkcjbaaGreatDoor
