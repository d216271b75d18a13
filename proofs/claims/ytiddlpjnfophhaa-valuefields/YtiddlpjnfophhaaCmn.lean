/-
  value.classOf, value.compareNumbers.
-/
import Derived.Test.YtiddlpjnfophhaaNum
import Derived.Test.YtiddlpjnfophhaaHvy
namespace Go.Proofs.Ytiddlpjnfophhaa
open Go.RowKit
set_option linter.unusedVariables false
def cls (k : Int) : Int := if k ≤ 3 then k else k - 1
set_option maxRecDepth 8000 in
theorem cls40 (h : Hd) (na : Option Addr) (nc : Nat) (ka : Option Addr) (kl kc : Nat) (hk : h.k = 1 ∨ h.k = 2 ∨ h.k = 3 ∨ h.k = 4 ∨ h.k = 5 ∨ h.k = 6 ∨ h.k = 7 ∨ h.k = 8 ∨ h.k = 9) (w : World) :
    Calls Try.prog 40 #[.agg #[.int .i64 h.k, .int .i64 h.n, .int .i64 h.s, .string h.t, .slice na h.ns.length nc, .slice ka kl kc]] w fun e w' => e = .returned (.int .u64 (cls h.k)) ∧ Below w.heap.size w w' := by
  rcases hk with hk | hk | hk | hk | hk | hk | hk | hk | hk
  all_goals
    go_enter Try.func40, Try.ntmps40
    go_wp2
    go_ret
    exact ⟨ret_num (by rw [hk]; decide), (Below.refl _ _).alloc (Nat.le_refl _) _⟩
theorem q_int {C : World → Prop} {a : Act} {o : Oper} {K : Act → Prop} (x : Operand) (ho : o.op = .load 3 x) (b k : Nat) (hx : a.eval x = .pointer (some ⟨b, k, none⟩)) (n : Int) (hS : ∀ w, C w → w.cell? ⟨b, k, none⟩ = some (.int .i64 n))
    (hk : K (a.put o.dst (.int .i64 n))) : o.quiet Try.prog a C K :=
  ⟨_, fun w hw => by
    have h := hS w hw
    unfold Oper.quietAt execOp
    simp only [ho, hx]
    go_simp, hk⟩
/-- Two numbers in their order. -/
def nm (a b : Hd) : Int := sg (a.n * 10 ^ b.s.toNat) (b.n * 10 ^ a.s.toNat)
theorem sg_lex (x y : Nat) : (if sg ((x / 18446744073709551616 : Nat) : Int) ((y / 18446744073709551616 : Nat) : Int) ≠ 0 then sg ((x / 18446744073709551616 : Nat) : Int) ((y / 18446744073709551616 : Nat) : Int) else sg ((x % 18446744073709551616 : Nat) : Int) ((y % 18446744073709551616 : Nat) : Int)) = sg (x : Int) (y : Int) := by
  have h1 := Nat.div_add_mod x 18446744073709551616
  have h2 := Nat.div_add_mod y 18446744073709551616
  have h3 := Nat.mod_lt x (show 0 < 18446744073709551616 by decide)
  have h4 := Nat.mod_lt y (show 0 < 18446744073709551616 by decide)
  generalize x / 18446744073709551616 = a at *
  generalize y / 18446744073709551616 = b at *
  generalize x % 18446744073709551616 = c at *
  generalize y % 18446744073709551616 = d at *
  simp only [sg]
  (repeat' split) <;> omega
theorem pos_mul {a : Int} {t : Nat} (ha : 0 < a) (ht : 0 < t) : 0 < a * (t : Int) := Int.mul_pos ha (by omega)
theorem neg_mul {a : Int} {t : Nat} (ha : a < 0) (ht : 0 < t) : a * (t : Int) < 0 := Int.mul_neg_of_neg_of_pos ha (by omega)
theorem sg_lt {a b : Int} (h : a < b) : sg a b = -1 := by simp [sg, h]
theorem sg_gt {a b : Int} (h : b < a) : sg a b = 1 := by
  have : ¬ a < b := by omega
  simp [sg, h, this]
theorem sg_self (a : Int) : sg a a = 0 := by simp [sg]
theorem sg_neg (a b : Int) : sg (-a) (-b) * -1 = sg a b := by
  simp only [sg]
  (repeat' split) <;> omega
/-- What both ways of comparing numbers come to. -/
theorem nm_eq (a b : Hd) : nm a b = if sg (sg a.n 0) (sg b.n 0) ≠ 0 then sg (sg a.n 0) (sg b.n 0) else sg ((a.n.natAbs * 10 ^ b.s.toNat : Nat) : Int) ((b.n.natAbs * 10 ^ a.s.toNat : Nat) : Int) * sg a.n 0 := by
  unfold nm
  have hp : 0 < 10 ^ b.s.toNat := Nat.pow_pos (by decide)
  have hq : 0 < 10 ^ a.s.toNat := Nat.pow_pos (by decide)
  have e1 : (10 : Int) ^ b.s.toNat = ((10 ^ b.s.toNat : Nat) : Int) := by simp
  have e2 : (10 : Int) ^ a.s.toNat = ((10 ^ a.s.toNat : Nat) : Int) := by simp
  rw [e1, e2]
  generalize 10 ^ b.s.toNat = P at *
  generalize 10 ^ a.s.toNat = Q at *
  generalize a.n = x at *
  generalize b.n = y at *
  have key : ∀ z : Int, ∀ T : Nat, 0 < T → ((z.natAbs * T : Nat) : Int) = (if z < 0 then -(z * (T : Int)) else z * (T : Int)) := by
    intro z T hT
    rw [Int.natCast_mul]
    split
    · rw [show ((z.natAbs : Nat) : Int) = -z by omega, Int.neg_mul]
    · rw [show ((z.natAbs : Nat) : Int) = z by omega]
  rw [key x P hp, key y Q hq]
  rcases Int.lt_trichotomy x 0 with hx | hx | hx
  · have hxp := neg_mul hx hp
    rcases Int.lt_trichotomy y 0 with hy | hy | hy
    · rw [if_pos hx, if_pos hy, sg_lt hx, sg_lt hy, sg_self, if_neg (by simp), sg_neg]
    · subst hy
      rw [Int.zero_mul, sg_lt hx, sg_lt hxp, sg_self, sg_lt (show (-1 : Int) < 0 by decide), if_pos (by decide)]
    · have hyq := pos_mul hy hq
      rw [sg_lt hx, sg_gt hy, sg_lt (show x * (P : Int) < y * (Q : Int) by omega), sg_lt (show (-1 : Int) < 1 by decide), if_pos (by decide)]
  · subst hx
    rw [Int.zero_mul]
    rcases Int.lt_trichotomy y 0 with hy | hy | hy
    · have hyq := neg_mul hy hq
      rw [sg_gt hyq, sg_self, sg_lt hy, sg_gt (show (-1 : Int) < 0 by decide), if_pos (by decide)]
    · subst hy
      rw [Int.zero_mul]
      simp [sg]
    · have hyq := pos_mul hy hq
      rw [sg_lt hyq, sg_self, sg_gt hy, sg_lt (show (0 : Int) < 1 by decide), if_pos (by decide)]
  · have hxp := pos_mul hx hp
    rcases Int.lt_trichotomy y 0 with hy | hy | hy
    · have hyq := neg_mul hy hq
      rw [sg_gt hx, sg_lt hy, sg_gt (show y * (Q : Int) < x * (P : Int) by omega), sg_gt (show (-1 : Int) < 1 by decide), if_pos (by decide)]
    · subst hy
      rw [Int.zero_mul, sg_gt hx, sg_gt hxp, sg_self, sg_gt (show (0 : Int) < 1 by decide), if_pos (by decide)]
    · rw [if_neg (show ¬ x < 0 by omega), if_neg (show ¬ y < 0 by omega), sg_gt hx, sg_gt hy, sg_self, if_neg (by simp), Int.mul_one]
end Go.Proofs.Ytiddlpjnfophhaa
