/-
  What decimal.Parse owes to lex.
-/
import Derived.Test.YtpfiejmhnkcjbaaGreatDoorELyi
import Derived.Test.YtpfiejmhnkcjbaaGreatDoorED6Pd
namespace Go.Proofs.YtpfiejmhnkcjbaaGreatDoor
open Go.RowKit Lx
set_option linter.unusedVariables false
set_option linter.unusedSimpArgs false
theorem dig_ne {d : Nat} (h : isDg d = true) : d ≠ 45 ∧ d ≠ 46 := by
  unfold isDg at h
  simp at h
  omega
/-- The number is read: nothing stands behind its point. -/
theorem dot_no {x : ByteArray} {l : List Nat} (hl : ∀ d ∈ l, isDg d = true) (hx : bts x = l ++ [46]) {R A B : ByteArray} {b d : Bool} (hm : D6.Minus x R b) (hc : D6.Cuts R A B d) : D6.parseV b d R A B = none := by
  have hxR : R = x ∧ b = false := by
    cases hm with
    | yes h =>
      exfalso
      have e : bts x = 45 :: bts R := by unfold bts; rw [h]; rfl
      rw [hx] at e
      cases l with
      | nil => simp at e
      | cons y l =>
        simp at e
        have := dig_ne (hl y (by simp))
        omega
    | no h hr => exact ⟨hr, rfl⟩
  obtain ⟨rfl, rfl⟩ := hxR
  cases hc with
  | none h ha hb =>
    exfalso
    apply h
    have : 46 ∈ bts R := by rw [hx]; simp
    unfold bts at this
    obtain ⟨u, hu, e⟩ := List.mem_map.1 this
    have : u = 46 := UInt8.toNat_inj.1 e
    rwa [this] at hu
  | «at» h ha =>
    have e : bts R = bts A ++ 46 :: bts B := by unfold bts; rw [h]; simp
    have hA : 46 ∉ bts A := fun h46 => by
      unfold bts at h46
      obtain ⟨u, hu, e⟩ := List.mem_map.1 h46
      have : u = 46 := UInt8.toNat_inj.1 e
      rw [this] at hu
      exact ha hu
    rw [hx] at e
    have hB : bts B = [] := by
      have h1 : (l ++ [46]).length = (bts A ++ 46 :: bts B).length := by rw [e]
      have key : ∀ (l a b : List Nat), (∀ d ∈ l, isDg d = true) → l ++ [46] = a ++ 46 :: b → 46 ∉ a → b = [] := by
        intro l
        induction l with
        | nil =>
          intro a b _ e h
          cases a with
          | nil => simpa using e.symm
          | cons y a => simp at e
        | cons y l ih =>
          intro a b hl e h
          cases a with
          | nil =>
            simp at e
            have := dig_ne (hl y (by simp))
            omega
          | cons z a =>
            simp at e
            exact ih a b (fun d hd => hl d (by simp [hd])) e.2 (fun h' => h (by simp [h']))
      exact key l _ _ hl e hA
    have hBl : B.data.toList = [] := by
      unfold bts at hB
      simpa using hB
    unfold D6.parseV
    rw [if_neg]
    rintro ⟨_, h2, _⟩
    have := h2 rfl
    unfold D6.partB D6.allDig at this
    rw [hBl] at this
    cases this
end Go.Proofs.YtpfiejmhnkcjbaaGreatDoor
