/-
  What decimal.Parse owes to lex.
-/
import Derived.Test.YtpfiejmhnkcjbaaGreatDoorFG16x
import Derived.Test.YtpfiejmhnkcjbaaGreatDoorFG29x
namespace Go.Proofs.YtpfiejmhnkcjbaaGreatDoor
open Go.RowKit Lx
set_option linter.unusedVariables false
set_option linter.unusedSimpArgs false
theorem dig_ne {d : Nat} (h : isDg d = true) : d ≠ 45 ∧ d ≠ 46 := by
  unfold isDg at h
  simp at h
  omega
/-- The number is read: nothing stands behind its point. -/
theorem dot_no {x : ByteArray} {l : List Nat} (hl : ∀ d ∈ l, isDg d = true) (hx : bts x = l ++ [46]) {R A B : ByteArray} {b d : Bool} (hm : D6.Minus x R b) (hc : D6.Cuts R A B d) : D6.parseV b d R A B = none := by
  have hxR : R = x ∧ b = false := by
    cases hm with
    | yes h =>
      exfalso
      have e : bts x = 45 :: bts R := by unfold bts; rw [h]; rfl
      rw [hx] at e
      cases l with
      | nil => simp at e
      | cons y l =>
        simp at e
        have := dig_ne (hl y (by simp))
        omega
    | no h hr => exact ⟨hr, rfl⟩
  obtain ⟨rfl, rfl⟩ := hxR
  cases hc with
  | none h ha hb =>
    exfalso
    apply h
    have : 46 ∈ bts R := by rw [hx]; simp
    unfold bts at this
    obtain ⟨u, hu, e⟩ := List.mem_map.1 this
    have : u = 46 := UInt8.toNat_inj.1 e
    rwa [this] at hu
  | «at» h ha =>
    have e : bts R = bts A ++ 46 :: bts B := by unfold bts; rw [h]; simp
    have hA : 46 ∉ bts A := fun h46 => by
      unfold bts at h46
      obtain ⟨u, hu, e⟩ := List.mem_map.1 h46
      have : u = 46 := UInt8.toNat_inj.1 e
      rw [this] at hu
      exact ha hu
    rw [hx] at e
    have hB : bts B = [] := by
      have h1 : (l ++ [46]).length = (bts A ++ 46 :: bts B).length := by rw [e]
      have key : ∀ (l a b : List Nat), (∀ d ∈ l, isDg d = true) → l ++ [46] = a ++ 46 :: b → 46 ∉ a → b = [] := by
        intro l
        induction l with
        | nil =>
          intro a b _ e h
          cases a with
          | nil => simpa using e.symm
          | cons y a => simp at e
        | cons y l ih =>
          intro a b hl e h
          cases a with
          | nil =>
            simp at e
            have := dig_ne (hl y (by simp))
            omega
          | cons z a =>
            simp at e
            exact ih a b (fun d hd => hl d (by simp [hd])) e.2 (fun h' => h (by simp [h']))
      exact key l _ _ hl e hA
    have hBl : B.data.toList = [] := by
      unfold bts at hB
      simpa using hB
    unfold D6.parseV
    rw [if_neg]
    rintro ⟨_, h2, _⟩
    have := h2 rfl
    unfold D6.partB D6.allDig at this
    rw [hBl] at this
    cases this
theorem nup_ex (w : World) : ∃ nu, NuP nu w ∧ NuDot nu := by
  have h : ∀ x : ByteArray, ∃ c : Bool, (x.size ≤ 4096 → ∀ W, Calls Tryz.prog 53 #[.string x] W fun e w' => ∃ (v : List Value) (E : Int), v.length = 6 ∧ (∀ u ∈ v, u.oneCell' = true) ∧ e = .returned (.tuple #[.agg v.toArray, .int .i64 E]) ∧ (c = true ↔ E = 0) ∧ Below W.heap.size W w') ∧ (∀ l : List Nat, (∀ d ∈ l, isDg d = true) → bts x = l ++ [46] → c = false) := fun x => by
    obtain ⟨R, b, hm, hR, CP⟩ := D6.minus_any x
    by_cases hx : x.size ≤ 4096
    · obtain ⟨A, B, d, hc, CT⟩ := D6.cut_any R (by omega)
      have hA : A.size ≤ 1000000 ∧ B.size ≤ 1000000 ∧ (d = false → B = ⟨#[]⟩) := by
        cases hc with
        | none h ha hb => subst ha hb; exact ⟨by omega, by decide, fun _ => rfl⟩
        | «at» h ha =>
          have h1 := congrArg List.length h
          rw [List.length_append, List.length_cons] at h1
          have e1 : R.data.toList.length = R.size := Array.length_toList ..
          have e2 : A.data.toList.length = A.size := Array.length_toList ..
          have e3 : B.data.toList.length = B.size := Array.length_toList ..
          exact ⟨by omega, by omega, fun h => by cases h⟩
      refine ⟨decide (D6.Po.e (D6.parseV b d R A B) = 0), fun _ W => ?_, fun l hl e => ?_⟩
      · refine (D6.dParse_any x R A B b d (by omega) hA.1 hA.2.1 hA.2.2 CP CT W).mono ?_
        rintro e w' ⟨rfl, g⟩
        refine ⟨[_, _, _, _, _, _], _, rfl, ?_, rfl, by simp, g⟩
        simp
        exact ⟨rfl, rfl, rfl, rfl, rfl⟩
      · rw [dot_no hl e hm hc]
        rfl
    · exact ⟨false, fun h => absurd h hx, fun _ _ _ => rfl⟩
  obtain ⟨f, hf⟩ := Classical.axiomOfChoice h
  refine ⟨fun l => f (ofB l), fun x hx W _ => ?_, fun l hl => ?_⟩
  · simp only [ofB_bts]
    exact (hf x).1 hx W
  · refine (hf _).2 l hl (bts_ofB _ fun y hy => ?_)
    rcases List.mem_append.1 hy with h | h
    · have := hl y h
      unfold isDg at this
      simp at this
      omega
    · simp at h
      omega
end Go.Proofs.YtpfiejmhnkcjbaaGreatDoor
