/-
  The document's lex: texts.
-/
import Derived.Test.YtpfiejmhnkcjbaaGreatDoorALxg
namespace Go.Proofs.YtpfiejmhnkcjbaaGreatDoor
open Go.RowKit Lx
set_option linter.unusedVariables false
set_option linter.unusedSimpArgs false
theorem tx_skip {c : Nat} {q : List Nat} (h : c ≠ 39) : txE (c :: q) = (txE q).map (· + 1) := by
  cases q with
  | nil => simp [txE, h]
  | cons d q => simp [txE, h]
theorem tx_two {q : List Nat} : txE (39 :: 39 :: q) = (txE q).map (· + 2) := by simp [txE]
theorem tx_end {q : List Nat} (h : q.head? ≠ some 39) : txE (39 :: q) = some 1 := by
  cases q with
  | nil => simp [txE]
  | cons d q => simp [txE]; intro hd; exact absurd (by rw [hd]; rfl) h
end Go.Proofs.YtpfiejmhnkcjbaaGreatDoor
