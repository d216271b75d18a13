/-
  Words of statements: what stands behind, blanks between, small and great letters. · The program's lex, over lists of bytes: classes of bytes, blanks and remarks, what next answers.
-/
import Derived.Test.YtpfiejmhnkcjbaaGreatDoorELxa
namespace Go.Proofs.YtpfiejmhnkcjbaaGreatDoor.Lx
set_option linter.unusedVariables false
set_option linter.unusedSimpArgs false
theorem lexR_skip {tx nu : List Nat → Bool} {r : List Nat} {p n : Nat} (hr : r ≠ []) (h : step tx nu r = .skip n) : lexR tx nu r p = lexR tx nu (r.drop n) (p + n) := by
  rw [lexR_step tx nu hr p, h]
/-! ### letters -/
end Go.Proofs.YtpfiejmhnkcjbaaGreatDoor.Lx
namespace Go.Proofs.YtpfiejmhnkcjbaaGreatDoor.Lx
set_option linter.unusedVariables false
set_option linter.unusedSimpArgs false
/-- Is a byte in a class of two numbers? -/
def inC (c0 c1 b : Nat) : Bool := decide (b < 128) && ((if b < 64 then c0 else c1) / 2 ^ (b % 64) % 2 == 1)
def isS1 (c : Nat) : Bool := signs.contains [c]
def cBl : Nat := 4294977024
def cDg : Nat := 287948901175001088
def cLt : Nat := 576460745995190270
def cS0 : Nat := 8935281298679791616
def cS1 : Nat := 2882303762188206080
theorem inC_bl : ∀ b, b < 256 → inC cBl 0 b = isBl b := by
  have h : ∀ b : Fin 256, inC cBl 0 b.val = isBl b.val := by decide +kernel
  exact fun b hb => h ⟨b, hb⟩
theorem inC_dg : ∀ b, b < 256 → inC cDg 0 b = isDg b := by
  have h : ∀ b : Fin 256, inC cDg 0 b.val = isDg b.val := by decide +kernel
  exact fun b hb => h ⟨b, hb⟩
theorem inC_lt : ∀ b, b < 256 → inC 0 cLt b = isLt b := by
  have h : ∀ b : Fin 256, inC 0 cLt b.val = isLt b.val := by decide +kernel
  exact fun b hb => h ⟨b, hb⟩
theorem inC_nm : ∀ b, b < 256 → inC cDg cLt b = isNm b := by
  have h : ∀ b : Fin 256, inC cDg cLt b.val = isNm b.val := by decide +kernel
  exact fun b hb => h ⟨b, hb⟩
theorem inC_sg : ∀ b, b < 256 → inC cS0 cS1 b = isS1 b := by
  have h : ∀ b : Fin 256, inC cS0 cS1 b.val = isS1 b.val := by decide +kernel
  exact fun b hb => h ⟨b, hb⟩
/-! ### blanks and remarks -/
def Skp (l : List Nat) (n : Nat) : Prop := n ≤ l.length ∧ ∀ tx nu p, lexR tx nu l p = lexR tx nu (l.drop n) (p + n)
theorem Skp.zero (l : List Nat) : Skp l 0 := ⟨Nat.zero_le _, fun _ _ _ => rfl⟩
theorem Skp.add {l : List Nat} {n m : Nat} (h : Skp l n) (k : Skp (l.drop n) m) : Skp l (n + m) := by
  refine ⟨?_, fun tx nu p => ?_⟩
  · have h1 := h.1
    have h2 := k.1
    rw [List.length_drop] at h2
    omega
  · rw [h.2, k.2, List.drop_drop]
    congr 1
    omega
theorem skp_bl : ∀ l : List Nat, Skp l (l.takeWhile isBl).length
  | [] => Skp.zero _
  | c :: q => by
    rw [List.takeWhile_cons]
    split
    · rename_i h
      have h1 : Skp (c :: q) 1 := ⟨by simp, fun tx nu p => lexR_skip (by simp) (by unfold step; simp only [h, if_true])⟩
      have h2 := h1.add (m := (q.takeWhile isBl).length) (skp_bl q)
      rw [List.length_cons, Nat.add_comm]
      exact h2
    · exact Skp.zero _
theorem skp_rem {q : List Nat} : Skp (45 :: 45 :: q) ((45 :: 45 :: q).takeWhile (· != 10)).length := by
  refine ⟨tw_le _ _, fun tx nu p => lexR_skip (by simp) ?_⟩
  unfold step
  simp only [show isBl 45 = false from rfl, Bool.false_eq_true, if_false, List.head?_cons, and_self, if_true]
/-- Nothing to skip. -/
def NoSk (l : List Nat) : Prop := ∀ c q, l = c :: q → isBl c = false ∧ ¬ (c = 45 ∧ q.head? = some 45)
theorem dw_hd {f : Nat → Bool} : ∀ (l : List Nat) {c : Nat} {q : List Nat}, l.drop (l.takeWhile f).length = c :: q → f c = false
  | [], c, q, h => by simp at h
  | x :: l, c, q, h => by
    rw [List.takeWhile_cons] at h
    split at h
    · rw [List.length_cons, List.drop_succ_cons] at h
      exact dw_hd l h
    · rename_i hx
      simp only [List.length_nil, List.drop_zero, List.cons.injEq] at h
      rw [← h.1]
      simpa using hx
/-! ### what next answers -/
def ans : St → Nat × List Nat × Nat
  | .tok k t n => (k, t, n)
  | _ => (0, [], 0)
theorem step_ns {tx nu : List Nat → Bool} {l : List Nat} (hl : l ≠ []) (h : NoSk l) : ∀ n, step tx nu l ≠ .skip n := by
  cases l with
  | nil => exact absurd rfl hl
  | cons c q =>
    obtain ⟨h1, h2⟩ := h c q rfl
    intro n
    unfold step
    simp only [h1, Bool.false_eq_true, if_false, h2]
    split
    · split <;> simp
    split
    · split <;> simp
    split
    · split <;> simp
    split
    · split
      · simp
      · split <;> simp
    split
    · simp
    split <;> simp
end Go.Proofs.YtpfiejmhnkcjbaaGreatDoor.Lx
