/-
  Both Texts, of any value: they answer alike.
-/
import Derived.Test.YtbafmdjlnmeofaaGreatDoorRt
namespace Go.Proofs.YtbafmdjlnmeofaaGreatDoor
open Go.RowKit
set_option linter.unusedVariables false
theorem rText_num (k n : Int) (s : Nat) (hN : isNum k n s ⟨#[]⟩ 0 0 = true) (f : -9223372036854775808 ≤ n ∧ n < 9223372036854775808) (na : Option Addr) (nc : Nat) (ka : Option Addr) (kc : Nat) (w : World) :
    Calls Tryz.prog 19 #[.agg #[.int .i64 k, .int .i64 n, .int .i64 (s : Int), .string ⟨#[]⟩, .slice na 0 nc, .slice ka 0 kc]] w fun e w' => e = .returned (.tuple #[.string (txt n s ⟨(Lib.decDigits n.natAbs).toArray⟩), .int .i64 0]) ∧ Grow w w' := by
  have q := dig_size n.natAbs (by omega)
  have K1 := fun W => isR_yes k n s na nc ka kc hN W
  have K2 := fun W => absG n f.1 f.2 W
  have K3 := fun W => decR n.natAbs (by omega) W
  have hs : s ≤ 18 := by
    obtain ⟨_, _, _, h⟩ := isNum_yes hN
    omega
  generalize (⟨(Lib.decDigits n.natAbs).toArray⟩ : ByteArray) = D at *
  unfold txt
  by_cases hn : n < 0
  · rw [if_pos hn]
    by_cases s0 : s = 0
    · subst s0
      exact rText_i_n k n na nc ka kc n.natAbs D q.2 hn K1 K2 K3 w
    · rw [if_neg s0]
      exact rText_d_n k n s na nc ka kc (by omega) hs n.natAbs D q.1 q.2 hn K1 K2 K3 w
  · rw [if_neg hn]
    by_cases s0 : s = 0
    · subst s0
      exact rText_i_p k n na nc ka kc n.natAbs D q.2 (by omega) K1 K2 K3 w
    · rw [if_neg s0]
      exact rText_d_p k n s na nc ka kc (by omega) hs n.natAbs D q.1 q.2 (by omega) K1 K2 K3 w
/-- What Text answers, and its error. -/
def txV (v : Vv) : ByteArray := if v.num then txt v.n v.s.toNat ⟨(Lib.decDigits v.n.natAbs).toArray⟩ else ⟨#[]⟩
def txE (v : Vv) : Int := if v.num then 0 else 11
theorem texts_any (v : Vv) (f : v.fit) (w : World) (ht : Ptab w) :
    (Calls Tryz.prog 18 #[.agg #[.int .i64 v.k, .int .i64 v.n, .int .i64 v.s, .string v.t, .slice v.na v.nl v.nc, .slice v.ka v.kl v.kc]] w fun e w' => e = .returned (.tuple #[.string (txV v), .int .i64 (txE v)]) ∧ Grow w w') ∧
    (Calls Tryz.prog 19 #[.agg #[.int .i64 v.k, .int .i64 v.n, .int .i64 v.s, .string v.t, .slice v.na v.nl v.nc, .slice v.ka v.kl v.kc]] w fun e w' => e = .returned (.tuple #[.string (txV v), .int .i64 (txE v)]) ∧ Grow w w') := by
  cases h : v.num with
  | false =>
    have e1 : txV v = ⟨#[]⟩ := by simp [txV, h]
    have e2 : txE v = 11 := by simp [txE, h]
    rw [e1, e2]
    refine ⟨text_no v.k v.n v.s v.t v.na v.nl v.nc v.ka v.kl v.kc h w, rText_no v (fun W => ?_) w⟩
    have := isR_any v.k v.n v.s v.t v.na v.nl v.nc v.ka v.kl v.kc W
    rw [show isNum v.k v.n v.s v.t v.nl v.kl = false from h] at this
    exact this
  | true =>
    have e1 : txV v = txt v.n v.s.toNat ⟨(Lib.decDigits v.n.natAbs).toArray⟩ := by simp [txV, h]
    have e2 : txE v = 0 := by simp [txE, h]
    rw [e1, e2]
    obtain ⟨x1, x2, x3, x4, x5, _, _⟩ := v.is h
    obtain ⟨k1, n1, s1, t1, na1, nl1, nc1, ka1, kl1, kc1⟩ := v
    simp only at x1 x2 x3 x4 x5 ⊢
    simp only [Vv.num] at h
    subst x1 x2 x3
    generalize s1.toNat = q1 at *
    subst x4
    exact ⟨dText_num k1 n1 q1 h f na1 nc1 ka1 kc1 w ht, rText_num k1 n1 q1 h f na1 nc1 ka1 kc1 w⟩
end Go.Proofs.YtbafmdjlnmeofaaGreatDoor
