/-
  The program's lex: strings.Cut at a quote. · The document's lex: texts.
-/
import Derived.Test.YtpfiejmhnkcjbaaGreatDoorELyc
import Derived.Test.YtpfiejmhnkcjbaaGreatDoorED6Sh2
import Derived.OwnWalk
import Derived.Test.YtpfiejmhnkcjbaaGreatDoorEG7x
namespace Go.Proofs.YtpfiejmhnkcjbaaGreatDoor
open Go.RowKit Lx
set_option linter.unusedVariables false
set_option linter.unusedSimpArgs false
theorem quoIx (R : ByteArray) (w : World) : Calls Tryz.prog 102 #[.string R, .string ⟨#[34]⟩] w fun e w' => e = .returned (.int .i64 (if ((bts R).takeWhile (· != 34)).length < R.size then ((((bts R).takeWhile (· != 34)).length : Nat) : Int) else -1)) ∧ w' = w := by
  have K : Calls Tryz.prog 102 _ _ _ := Any.stringslite_Index_one Tryz.lays219 R 34 w
  refine K.mono ?_
  rintro e w' ⟨rfl, rfl⟩
  refine ⟨?_, rfl⟩
  rw [ix_tw]
  have e2 : R.data.toList.length = R.size := Array.length_toList ..
  rw [e2]
  rfl
set_option maxRecDepth 8000 in
theorem qcut_no (R : ByteArray) (K : Hid (∀ W, Calls Tryz.prog 102 #[.string R, .string ⟨#[34]⟩] W fun e w' => e = .returned (.int .i64 (-1)) ∧ w' = W)) (w : World) :
    Calls Tryz.prog 78 #[.string R, .string ⟨#[34]⟩] w fun e w' => e = .returned (.tuple #[.string R, .string ⟨#[]⟩, .bool false]) ∧ Below w.heap.size w w' := by
  go_enter Tryz.func78, Tryz.ntmps78
  go_wp2_with fail
  refine (K.out _).mono ?_
  rintro e w2 ⟨rfl, rfl⟩
  go_wp2
  go_ret3
  exact ⟨rfl, Below.refl _ _⟩
set_option maxRecDepth 8000 in
theorem qcut_yes (R : ByteArray) (i j : Nat) (hj : i + 1 = j) (hi : j ≤ R.size) (hR : R.size ≤ 1000000) (K : Hid (∀ W, Calls Tryz.prog 102 #[.string R, .string ⟨#[34]⟩] W fun e w' => e = .returned (.int .i64 (i : Int)) ∧ w' = W)) (w : World) :
    Calls Tryz.prog 78 #[.string R, .string ⟨#[34]⟩] w fun e w' => e = .returned (.tuple #[.string (R.extract 0 i),   .string (R.extract j R.size), .bool true]) ∧ Below w.heap.size w w' := by
  have e1 : (i : Int) + 1 = (j : Int) := by omega
  have e2 : i ≤ R.size := by omega
  clear hj
  go_enter Tryz.func78, Tryz.ntmps78
  go_wp2_with fail
  refine (K.out _).mono ?_
  rintro e w2 ⟨rfl, rfl⟩
  go_wp2
  go_quiet (fail)
  go_wp2
  go_ret3
  exact ⟨rfl, below_dq _ _⟩
theorem qcut_s (R A B : ByteArray) (d : Bool) (K : Hid (∀ W, Calls Tryz.prog 78 #[.string R, .string ⟨#[34]⟩] W fun e w' => e = .returned (.tuple #[.string A, .string B, .bool d]) ∧ Below W.heap.size W w')) (w : World) :
    Calls Tryz.prog 54 #[.string R, .string ⟨#[34]⟩] w fun e w' => e = .returned (.tuple #[.string A, .string B, .bool d]) ∧ Below w.heap.size w w' := by
  go_enter Tryz.func54, Tryz.ntmps54
  go_wp2_with fail
  refine (K.out _).mono ?_
  rintro e w2 ⟨rfl, g⟩
  have G : Hid (Below w.heap.size w w2) := g
  clear g
  go_wp2
  go_ret3
  exact ⟨rfl, G.out⟩
/-- What stands ahead of the first quote. -/
theorem qcut_any (R : ByteArray) (hR : R.size ≤ 1000000) (T : Nat) (hT : ((bts R).takeWhile (· != 34)).length = T) :
    (T < R.size ∧ ∀ W, Calls Tryz.prog 54 #[.string R, .string ⟨#[34]⟩] W fun e w' => e = .returned (.tuple #[.string (R.extract 0 T), .string (R.extract (T + 1) R.size), .bool true]) ∧ Below W.heap.size W w') ∨
    (¬ T < R.size ∧ ∀ W, Calls Tryz.prog 54 #[.string R, .string ⟨#[34]⟩] W fun e w' => e = .returned (.tuple #[.string R, .string ⟨#[]⟩, .bool false]) ∧ Below W.heap.size W w') := by
  by_cases h : T < R.size
  · refine .inl ⟨h, fun W => qcut_s _ _ _ _ (fun W => qcut_yes R T (T + 1) rfl (by omega) hR (fun W => ?_) W) W⟩
    have := quoIx R W
    rw [hT, if_pos h] at this
    exact this
  · refine .inr ⟨h, fun W => qcut_s _ _ _ _ (fun W => qcut_no R (fun W => ?_) W) W⟩
    have := quoIx R W
    rw [hT, if_neg h] at this
    exact this
end Go.Proofs.YtpfiejmhnkcjbaaGreatDoor
namespace Go.Proofs.YtpfiejmhnkcjbaaGreatDoor
open Go.RowKit Lx
set_option linter.unusedVariables false
set_option linter.unusedSimpArgs false
theorem tx_skip {c : Nat} {q : List Nat} (h : c ≠ 39) : txE (c :: q) = (txE q).map (· + 1) := by
  cases q with
  | nil => simp [txE, h]
  | cons d q => simp [txE, h]
theorem tx_two {q : List Nat} : txE (39 :: 39 :: q) = (txE q).map (· + 2) := by simp [txE]
theorem tx_end {q : List Nat} (h : q.head? ≠ some 39) : txE (39 :: q) = some 1 := by
  cases q with
  | nil => simp [txE]
  | cons d q => simp [txE]; intro hd; exact absurd (by rw [hd]; rfl) h
end Go.Proofs.YtpfiejmhnkcjbaaGreatDoor
