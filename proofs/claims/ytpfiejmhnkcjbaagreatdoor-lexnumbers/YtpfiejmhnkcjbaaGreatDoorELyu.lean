/-
  Numbers, printed: how they are read again.
-/
import Derived.Test.YtpfiejmhnkcjbaaGreatDoorELyi
import Derived.Test.YtpfiejmhnkcjbaaGreatDoorED6Pd
import Derived.Test.YtpfiejmhnkcjbaaGreatDoorEG47x
namespace Go.Proofs.YtpfiejmhnkcjbaaGreatDoor
open Go.RowKit Lx
set_option linter.unusedVariables false
set_option linter.unusedSimpArgs false
theorem dg_of {x : UInt8} (h : D6.dig10 x = true) : isDg x.toNat = true := by
  unfold D6.dig10 at h
  unfold isDg
  simpa using h
/-! ### what Minus and Cuts find is one thing -/
theorem minus_uni {x R R' : ByteArray} {b b' : Bool} (h : D6.Minus x R b) (k : D6.Minus x R' b') : R = R' ∧ b = b' := by
  cases h with
  | yes h =>
    cases k with
    | yes k =>
      rw [h] at k
      injection k with _ k
      exact ⟨ByteArray.ext (Array.toList_inj.1 k), rfl⟩
    | no k _ => rw [h] at k; exact absurd rfl k
  | no h hr =>
    cases k with
    | yes k => rw [k] at h; exact absurd rfl h
    | no k kr => exact ⟨by rw [hr, kr], rfl⟩
theorem lcut_one {a c a' c' : List UInt8} (h : a ++ 46 :: c = a' ++ 46 :: c') (ha : ¬ (46 : UInt8) ∈ a) (ha' : ¬ (46 : UInt8) ∈ a') : a = a' ∧ c = c' := by
  rcases List.append_eq_append_iff.1 h with ⟨b, e1, e2⟩ | ⟨b, e1, e2⟩
  · cases b with
    | nil =>
      simp only [List.nil_append, List.cons.injEq] at e2
      simp only [List.append_nil] at e1
      exact ⟨e1.symm, e2.2⟩
    | cons y b =>
      simp only [List.cons_append, List.cons.injEq] at e2
      exact (ha' (by rw [e1, ← e2.1]; simp)).elim
  · cases b with
    | nil =>
      simp only [List.nil_append, List.cons.injEq] at e2
      simp only [List.append_nil] at e1
      exact ⟨e1, e2.2.symm⟩
    | cons y b =>
      simp only [List.cons_append, List.cons.injEq] at e2
      exact (ha (by rw [e1, ← e2.1]; simp)).elim
theorem cuts_uni {R A B A' B' : ByteArray} {d d' : Bool} (h : D6.Cuts R A B d) (k : D6.Cuts R A' B' d') : A = A' ∧ B = B' ∧ d = d' := by
  cases h with
  | none h ha hb =>
    cases k with
    | none k ka kb => exact ⟨by rw [ha, ka], by rw [hb, kb], rfl⟩
    | «at» k ka => exact absurd (by rw [k]; simp) h
  | «at» h ha =>
    cases k with
    | none k _ _ => exact absurd (by rw [h]; simp) k
    | «at» k ka =>
      rw [h] at k
      obtain ⟨e1, e2⟩ := lcut_one k ha ka
      exact ⟨ByteArray.ext (Array.toList_inj.1 e1), ByteArray.ext (Array.toList_inj.1 e2), rfl⟩
/-! ### tokens -/
/-- A number's text: digits, and what is behind its point. -/
structure NumL (l A B : List Nat) (s : Nat) : Prop where
  eq : l = A ++ (if s = 0 then [] else 46 :: B)
  ne : A ≠ []
  da : ∀ x ∈ A, isDg x = true
  db : ∀ x ∈ B, isDg x = true
  len : B.length = s
theorem tw_app {f : Nat → Bool} : ∀ {a : List Nat} {z : List Nat}, (∀ x ∈ a, f x = true) → (∀ c q, z = c :: q → f c = false) → (a ++ z).takeWhile f = a ∧ (a ++ z).dropWhile f = z
  | [], z, _, h => by
    cases z with
    | nil => exact ⟨rfl, rfl⟩
    | cons c q => simp [List.takeWhile_cons, List.dropWhile_cons, h c q rfl]
  | y :: a, z, ha, h => by
    have := tw_app (f := f) (a := a) (z := z) (fun x hx => ha x (by simp [hx])) h
    simp [List.takeWhile_cons, List.dropWhile_cons, ha y (by simp), this.1, this.2]
theorem NumL.nu {l A B : List Nat} {s : Nat} (h : NumL l A B s) (z : List Nat) (hz : z = [] ∨ z = [32]) : nuE (l ++ z) = (l.length, decide (s ≠ 0)) := by
  have hz1 : ∀ c q, z = c :: q → isDg c = false := by
    rintro c q e
    rcases hz with rfl | rfl
    · cases e
    · injection e with e _; subst e; rfl
  by_cases s0 : s = 0
  · have e : l = A := by rw [h.eq, if_pos s0, List.append_nil]
    subst e
    obtain ⟨h1, h2⟩ := tw_app (f := isDg) h.da hz1
    unfold nuE
    rw [h1, h2]
    rcases hz with rfl | rfl <;> simp [s0]
  · have e : l = A ++ 46 :: B := by rw [h.eq, if_neg s0]
    obtain ⟨h1, h2⟩ := tw_app (f := isDg) (z := 46 :: (B ++ z)) h.da (by rintro c q e; injection e with e _; subst e; rfl)
    obtain ⟨h3, h4⟩ := tw_app (f := isDg) h.db hz1
    have e2 : l ++ z = A ++ 46 :: (B ++ z) := by rw [e]; simp
    rw [e2]
    unfold nuE
    rw [h1, h2]
    cases hB : B with
    | nil => have := h.len; rw [hB] at this; simp at this; omega
    | cons b B' =>
      rw [hB] at h3
      have hb : isDg b = true := h.db b (by rw [hB]; simp)
      simp only [List.cons_append]
      rw [if_pos ⟨(by first | rfl | trivial), hb⟩]
      have h5 : ((b :: (B' ++ z)).takeWhile isDg) = b :: B' := h3
      rw [h5, e, hB]
      simp [s0]
      omega
theorem NumL.hd {l A B : List Nat} {s : Nat} (h : NumL l A B s) : ∃ c q, l = c :: q ∧ isDg c = true := by
  cases hA : A with
  | nil => exact absurd hA h.ne
  | cons c A' => exact ⟨c, _, by rw [h.eq, hA]; rfl, h.da c (by rw [hA]; simp)⟩
theorem lex_num {tx nu : List Nat → Bool} {l A B : List Nat} {s : Nat} (h : NumL l A B s) (hn : nu l = true) : lexR tx nu ([32] ++ l ++ [32]) 0 = ([(if s = 0 then 3 else 4, l, 1), (8, [], l.length + 2)], none) := by
  obtain ⟨c, q, e, hc⟩ := h.hd
  have hnu := h.nu [32] (.inr rfl)
  have e1 : [32] ++ l ++ [32] = 32 :: (l ++ [32]) := rfl
  rw [e1, lexR_step tx nu (by simp), st_blank (by rfl)]
  simp only [List.drop_succ_cons, List.drop_zero]
  have hs : Lx.step tx nu (l ++ [32]) = .tok (if s = 0 then 3 else 4) l l.length := by
    have e2 : l ++ [32] = c :: (q ++ [32]) := by rw [e]; rfl
    rw [e2, st_num hc, ← e2, hnu]
    simp only [List.drop_left, List.take_left, hn]
    rw [if_neg (by simp [folw, isLt])]
    by_cases s0 : s = 0 <;> simp [s0]
  rw [lexR_step tx nu (by simp), hs]
  simp only [List.drop_left]
  rw [lexR_step tx nu (by simp), st_blank (by rfl)]
  simp only [List.drop_succ_cons, List.drop_zero, lexR_nil]
  congr 3
  simp
  omega
theorem lex_zero {tx nu : List Nat → Bool} {l A B : List Nat} {s : Nat} (h : NumL l A B s) (hn : nu (48 :: l) = false) : (lexR tx nu (48 :: l) 0).2 = some 0 := by
  have h2 : NumL (48 :: l) (48 :: A) B s := ⟨by rw [h.eq]; rfl, by simp, fun x hx => by
    rcases List.mem_cons.1 hx with rfl | hx
    · rfl
    · exact h.da x hx, h.db, h.len⟩
  have hnu := h2.nu [] (.inl rfl)
  rw [List.append_nil] at hnu
  rw [lexR_step tx nu (by simp), st_num (by rfl), hnu]
  simp only [List.take_length, hn, or_true, if_true]
end Go.Proofs.YtpfiejmhnkcjbaaGreatDoor
