/-
  Both Texts, of any value: they answer alike. · Digits: what a number's digits are, and back.
-/
import Derived.Test.YtpfiejmhnkcjbaaGreatDoorED6Rt
import Derived.Test.YtpfiejmhnkcjbaaGreatDoorED6Pd
namespace Go.Proofs.YtpfiejmhnkcjbaaGreatDoor.D6
open Go.RowKit
set_option linter.unusedVariables false
theorem rText_num (k n : Int) (s : Nat) (hN : isNum k n s ⟨#[]⟩ 0 0 = true) (f : -9223372036854775808 ≤ n ∧ n < 9223372036854775808) (na : Option Addr) (nc : Nat) (ka : Option Addr) (kc : Nat) (w : World) :
    Calls Tryz.prog 16 #[.agg #[.int .i64 k, .int .i64 n, .int .i64 (s : Int), .string ⟨#[]⟩, .slice na 0 nc, .slice ka 0 kc]] w fun e w' => e = .returned (.tuple #[.string (txt n s ⟨(Lib.decDigits n.natAbs).toArray⟩), .int .i64 0]) ∧ Grow w w' := by
  have q := dig_size n.natAbs (by omega)
  have K1 := fun W => isR_yes k n s na nc ka kc hN W
  have K2 := fun W => absG n f.1 f.2 W
  have K3 := fun W => decR n.natAbs (by omega) W
  have hs : s ≤ 18 := by
    obtain ⟨_, _, _, h⟩ := isNum_yes hN
    omega
  generalize (⟨(Lib.decDigits n.natAbs).toArray⟩ : ByteArray) = D at *
  unfold txt
  by_cases hn : n < 0
  · rw [if_pos hn]
    by_cases s0 : s = 0
    · subst s0
      exact rText_i_n k n na nc ka kc n.natAbs D q.2 hn K1 K2 K3 w
    · rw [if_neg s0]
      exact rText_d_n k n s na nc ka kc (by omega) hs n.natAbs D q.1 q.2 hn K1 K2 K3 w
  · rw [if_neg hn]
    by_cases s0 : s = 0
    · subst s0
      exact rText_i_p k n na nc ka kc n.natAbs D q.2 (by omega) K1 K2 K3 w
    · rw [if_neg s0]
      exact rText_d_p k n s na nc ka kc (by omega) hs n.natAbs D q.1 q.2 (by omega) K1 K2 K3 w
def txE (v : Vv) : Int := if v.num then 0 else 11
end Go.Proofs.YtpfiejmhnkcjbaaGreatDoor.D6
namespace Go.Proofs.YtpfiejmhnkcjbaaGreatDoor.D6
open Go.RowKit
set_option linter.unusedVariables false
theorem fold_shift : ∀ (b : List UInt8) (n : Nat), b.foldl (fun n b => n * 10 + (b.toNat - 48)) n = n * 10 ^ b.length + b.foldl (fun n b => n * 10 + (b.toNat - 48)) 0
  | [], n => by simp
  | x :: r, n => by
    rw [List.foldl_cons, List.foldl_cons, fold_shift r (n * 10 + (x.toNat - 48)), fold_shift r (0 * 10 + (x.toNat - 48)), List.length_cons, Nat.pow_succ]
    generalize List.foldl (fun n b => n * 10 + (b.toNat - 48)) 0 r = F
    generalize x.toNat - 48 = d
    generalize 10 ^ r.length = T
    grind
theorem numL_app (a b : List UInt8) : numL (a ++ b) = numL a * 10 ^ b.length + numL b := by
  unfold numL
  rw [List.foldl_append, fold_shift b]
theorem u8_of (m : Nat) (h : m < 256) : (UInt8.ofNat m).toNat = m := by
  rw [UInt8.toNat_ofNat']
  omega
theorem dec_num : ∀ (k u : Nat), u ≤ k → numL (Lib.decDigits u) = u ∧ (Lib.decDigits u).all dig10 = true ∧ (Lib.decDigits u ≠ [] ∧ (0 < u → (Lib.decDigits u).head? ≠ some 48)) := by
  intro k
  induction k with
  | zero =>
    intro u hu
    obtain rfl : u = 0 := by omega
    rw [Lib.decDigits_one (by omega)]
    exact ⟨rfl, rfl, by simp, fun h => by omega⟩
  | succ k ih =>
    intro u hu
    by_cases h : u < 10
    · rw [Lib.decDigits_one h]
      have e := u8_of (48 + u) (by omega)
      refine ⟨?_, ?_, by simp, fun h0 => ?_⟩
      · show 0 * 10 + ((UInt8.ofNat (48 + u)).toNat - 48) = u
        rw [e]; omega
      · simp only [List.all_cons, List.all_nil, Bool.and_true, dig10, e, decide_eq_true_eq]
        omega
      · intro hh
        injection hh with hh
        have := congrArg UInt8.toNat hh
        rw [e] at this
        have h48 : (48 : UInt8).toNat = 48 := rfl
        omega
    · rw [dec_step (by omega)]
      obtain ⟨i1, i2, i3, i4⟩ := ih (u / 10) (by omega)
      have e := u8_of (48 + u % 10) (by omega)
      refine ⟨?_, ?_, by simp, fun _ => ?_⟩
      · rw [numL_snoc, i1, e]; omega
      · rw [List.all_append, i2]
        simp only [List.all_cons, List.all_nil, Bool.and_true, Bool.true_and, dig10, e, decide_eq_true_eq]
        omega
      · have i5 := i4 (by omega)
        cases hh : Lib.decDigits (u / 10) with
        | nil => exact absurd hh i3
        | cons a r =>
          rw [hh] at i5
          exact i5
end Go.Proofs.YtpfiejmhnkcjbaaGreatDoor.D6
