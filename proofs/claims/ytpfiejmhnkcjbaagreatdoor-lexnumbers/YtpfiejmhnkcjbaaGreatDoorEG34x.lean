/-
  Is it a number? value.Check and the document's own Check of values whose kind is Int or Decimal. · isNumber; the document's own Check and Is of numbers. · decimal's reckon, Make, Neg. · decimal's Add, Sub, Mul, Neg, Make: what they answer. · strings.Repeat of noughts; decimal.dotted. · decimal.Text. · The document's own wide numbers: of, ten. · The document's own least. · strconv.FormatUint of any number, base ten. · decimal.Text, where FormatUint is known of the worlds that grow from the first one.
-/
import Derived.Test.YtpfiejmhnkcjbaaGreatDoorED6Le
import Derived.Test.YtpfiejmhnkcjbaaGreatDoorED6Va
import Derived.Test.YtpfiejmhnkcjbaaGreatDoorED6Shz
import Derived.Lib.ItoaMem
import Derived.Lib.Walk
import Derived.Lib.AppendIntMem
namespace Go.Proofs.YtpfiejmhnkcjbaaGreatDoor.D6
open Go.RowKit
set_option linter.unusedVariables false
/-- Int or Decimal, formed as such. -/
def isNum (k n s : Int) (t : ByteArray) (nl kl : Nat) : Bool :=
  (decide (k = 3) && decide (s = 0) || decide (k = 4) && decide (1 ≤ s) && decide (s ≤ 18) && !decide (n.tmod 10 = 0)) && t.toList.isEmpty && decide (nl = 0) && decide (kl = 0)
theorem bytes_nil {t : ByteArray} (h : t.toList.isEmpty = true) : t = ⟨#[]⟩ := by
  rw [ByteArray.toList_eq] at h
  cases t with
  | mk d =>
    have : d.toList = [] := by simpa using h
    simp only [ByteArray.mk.injEq]
    exact Array.toList_inj.1 (by simpa using this)
/-- What a number is. -/
theorem isNum_yes {k n s : Int} {t : ByteArray} {nl kl : Nat} (h : isNum k n s t nl kl = true) : t = ⟨#[]⟩ ∧ nl = 0 ∧ kl = 0 ∧ ((k = 3 ∧ s = 0) ∨ (k = 4 ∧ 1 ≤ s ∧ s ≤ 18 ∧ n.tmod 10 ≠ 0)) := by
  simp only [isNum, Bool.and_eq_true, Bool.or_eq_true, decide_eq_true_eq, Bool.not_eq_true', decide_eq_false_iff_not] at h
  obtain ⟨⟨⟨h1, h2⟩, h3⟩, h4⟩ := h
  refine ⟨bytes_nil h2, h3, h4, ?_⟩
  rcases h1 with h1 | ⟨⟨⟨a, b⟩, c⟩, d⟩
  · exact .inl h1
  · exact .inr ⟨a, b, c, d⟩
def chkN (b : Bool) : Int := if b then 0 else 3
end Go.Proofs.YtpfiejmhnkcjbaaGreatDoor.D6
namespace Go.Proofs.YtpfiejmhnkcjbaaGreatDoor.D6
open Go.RowKit
set_option linter.unusedVariables false
end Go.Proofs.YtpfiejmhnkcjbaaGreatDoor.D6
namespace Go.Proofs.YtpfiejmhnkcjbaaGreatDoor.D6
open Go.RowKit
set_option linter.unusedVariables false
end Go.Proofs.YtpfiejmhnkcjbaaGreatDoor.D6
namespace Go.Proofs.YtpfiejmhnkcjbaaGreatDoor.D6
open Go.RowKit
set_option linter.unusedVariables false
/-- A value that is handed in, without what is below it. -/
structure Vv where
  k : Int
  n : Int
  s : Int
  t : ByteArray
  na : Option Addr
  nl : Nat
  nc : Nat
  ka : Option Addr
  kl : Nat
  kc : Nat
def Vv.num (v : Vv) : Bool := isNum v.k v.n v.s v.t v.nl v.kl
/-- Its number is one. -/
def Vv.fit (v : Vv) : Prop := -9223372036854775808 ≤ v.n ∧ v.n < 9223372036854775808
theorem sgn_abs (n : Int) : sgn (decide (n < 0)) n.natAbs = n := by
  unfold sgn
  by_cases h : n < 0
  · simp [h]; omega
  · simp [h]; omega
end Go.Proofs.YtpfiejmhnkcjbaaGreatDoor.D6
namespace Go.Proofs.YtpfiejmhnkcjbaaGreatDoor.D6
open Go.RowKit
set_option linter.unusedVariables false
def zeros (n : Nat) : ByteArray := ⟨(List.replicate n 48).toArray⟩
/-- A text with a dot ahead of its last so many. -/
def dotAt (t : ByteArray) (p : Nat) : ByteArray := t.extract 0 p ++ ⟨#[46]⟩ ++ t.extract p t.size
theorem zeros_size (d : Nat) : (zeros d).size = d := by
  show (zeros d).data.size = d
  simp [zeros]
end Go.Proofs.YtpfiejmhnkcjbaaGreatDoor.D6
namespace Go.Proofs.YtpfiejmhnkcjbaaGreatDoor.D6
open Go.RowKit
set_option linter.unusedVariables false
/-- Digits with a dot ahead of the last so many, and noughts ahead of them. -/
def dotN (D : ByteArray) (s : Nat) : ByteArray := if D.size ≤ s then dotAt (zeros (s + 1 - D.size) ++ D) 1 else dotAt D (D.size - s)
theorem dotAt_size (t : ByteArray) (p : Nat) (hp : p ≤ t.size) : (dotAt t p).size = t.size + 1 := by
  unfold dotAt
  rw [ByteArray.size_append, ByteArray.size_append, ByteArray.size_extract, ByteArray.size_extract]
  have : (⟨#[46]⟩ : ByteArray).size = 1 := rfl
  omega
/-- A number as text. -/
def txt (n : Int) (s : Nat) (D : ByteArray) : ByteArray := if n < 0 then ⟨#[45]⟩ ++ (if s = 0 then D else dotN D s) else (if s = 0 then D else dotN D s)
end Go.Proofs.YtpfiejmhnkcjbaaGreatDoor.D6
namespace Go.Proofs.YtpfiejmhnkcjbaaGreatDoor.D6
open Go.RowKit
set_option linter.unusedVariables false
end Go.Proofs.YtpfiejmhnkcjbaaGreatDoor.D6
namespace Go.Proofs.YtpfiejmhnkcjbaaGreatDoor.D6
open Go.RowKit
set_option linter.unusedVariables false
theorem st_pre {P : Program} {ops : Array Oper} {Q : Exit → Act → World → Prop} {dst} {ty t : TypeId} {p} {af} {rest : List Oper} {a : Act} {w : World} (x y : Operand)
    (h : wpList P ops Q ({ dst := dst, op := .store ty x y, type := t, pos := p, after := af, guard := none } :: rest) a w) :
    wpList P ops Q ({ dst := dst, op := .store ty x y, type := t, pos := p, after := af, guard := none } :: rest) a w := h
end Go.Proofs.YtpfiejmhnkcjbaaGreatDoor.D6
namespace Go.Proofs.YtpfiejmhnkcjbaaGreatDoor.D6
open Go.RowKit Go.Sort
set_option linter.unusedVariables false
end Go.Proofs.YtpfiejmhnkcjbaaGreatDoor.D6
namespace Go.Proofs.YtpfiejmhnkcjbaaGreatDoor.D6
open Go.RowKit
set_option linter.unusedVariables false
theorem dig_size (u : Nat) (hu : u < 18446744073709551616) : 0 < (⟨(Lib.decDigits u).toArray⟩ : ByteArray).size ∧ (⟨(Lib.decDigits u).toArray⟩ : ByteArray).size ≤ 20 := by
  have e : (⟨(Lib.decDigits u).toArray⟩ : ByteArray).size = (Lib.decDigits u).length := by simp [ByteArray.size]
  rw [e]
  by_cases h : u = 0
  · subst h
    rw [Lib.decDigits_one (by omega)]
    simp
  · rw [Lib.decDigits_length]
    have h3 := Lib.lt_pow_nDigits u
    have h4 : Lib.nDigits u ≠ 0 := by
      intro e
      rw [e] at h3
      simp at h3
      omega
    have := Lib.numDigits_eq u (by omega) hu
    split at this <;> omega
end Go.Proofs.YtpfiejmhnkcjbaaGreatDoor.D6
