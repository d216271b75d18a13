/-
  Numbers and texts in their order; the document's own sign, Abs, Ten, texts, class.
-/
import Derived.Test.YtoggcabenjmnoaaDoorEql
import Derived.Lib.Mul64
import Derived.Laws.Bits64b
import Derived.Lib.Bytealg
namespace Go.Proofs.YtoggcabenjmnoaaDoor
open Go.RowKit
set_option linter.unusedVariables false
/-- -1, 0 or 1. -/
def sg (a b : Int) : Int := if a < b then -1 else if b < a then 1 else 0
theorem ret_num {k : IntKind} {a b : Int} (h : a = b) : Ending.returned (.int k a) = .returned (.int k b) := by rw [h]
theorem ret_sg {k : IntKind} {a b c : Int} (h : a = sg b c) : Ending.returned (.int k a) = .returned (.int k (sg b c)) := by rw [h]
theorem sign47 (x y : Int) (w : World) : Calls Tryd.prog 18 #[.int .i64 x, .int .i64 y] w fun e w' => e = .returned (.int .i64 (sg x y)) ∧ w' = w := by
  go_enter Tryd.func18, Tryd.ntmps18
  go_wp2
  all_goals
    go_ret
    refine ⟨ret_sg ?_, rfl⟩
    simp only [sg]
    split <;> (try split) <;> omega
theorem abs65 (x : Int) (h0 : -9223372036854775808 ≤ x) (h1 : x < 9223372036854775808) (w : World) : Calls Tryd.prog 29 #[.int .i64 x] w fun e w' => e = .returned (.int .u64 (x.natAbs : Int)) ∧ w' = w := by
  go_enter Tryd.func29, Tryd.ntmps29
  go_wp2
  all_goals
    go_ret
    refine ⟨ret_num ?_, rfl⟩
    try simp only [IntKind.wrap_u64]
    omega
theorem pow_le {k n : Nat} (h : k ≤ n) : 10 ^ k ≤ 10 ^ n := Nat.pow_le_pow_right (by decide) h
theorem ten66 (n : Nat) (hn : n ≤ 18) (w : World) : Calls Tryd.prog 30 #[.int .i64 (n : Int)] w fun e w' => e = .returned (.int .u64 ((10 ^ n : Nat) : Int)) ∧ w' = w := by
  go_enter Tryd.func30, Tryd.ntmps30
  go_wp2
  go_loopw [3, 4] (fun p i wr => ∃ k v : Nat, k ≤ n ∧ i = .int .i64 (k : Int) ∧ p = .int .u64 (v : Int) ∧ wr = w ∧ Hid (v = 10 ^ k)) (fun _ i _ => n - (intOf i).toNat)
  case atStart => exact ⟨0, 1, by omega, rfl, rfl, rfl, rfl⟩
  case round =>
    obtain ⟨k, v, hk, rfl, rfl, rfl, HV⟩ := hrel
    by_cases hlt : k < n
    case neg =>
      go_wp2
      go_ret
      exact ⟨ret_num (by rw [HV.out, show k = n by omega]), rfl⟩
    have hv : v * 10 < 18446744073709551616 := by
      have h1 := pow_le (k := k + 1) (n := 18) (by omega)
      rw [Nat.pow_succ, ← HV.out] at h1
      omega
    go_wp2
    go_roundw
    case rel => exact ⟨k + 1, v * 10, by omega, by go_num, by go_num, trivial, show v * 10 = 10 ^ (k + 1) by rw [Nat.pow_succ, HV.out]⟩
    case measure => simp [intOf]; omega
namespace Mul
theorem maskN (a : Nat) (ha : a < 18446744073709551616) : bits .and .u64 (a : Int) 4294967295 = ((a % 4294967296 : Nat) : Int) := by
  have h := bits_and_u64_nat a 4294967295 ha (by omega)
  have e : a &&& 4294967295 = a % 4294967296 := Nat.and_two_pow_sub_one_eq_mod a 32
  rw [e] at h
  exact h
theorem divN (a : Nat) : (a : Int) / 4294967296 = ((a / 4294967296 : Nat) : Int) := by omega
theorem mulN (a b : Nat) : (a : Int) * (b : Int) = ((a * b : Nat) : Int) := (Int.natCast_mul a b).symm
theorem addN (a b : Nat) : (a : Int) + (b : Int) = ((a + b : Nat) : Int) := (Int.natCast_add a b).symm
theorem wrapN (a : Nat) (ha : a < 18446744073709551616) : IntKind.u64.wrap (a : Int) = (a : Int) := by rw [IntKind.wrap_u64]; omega
theorem wrapM (a : Nat) : IntKind.u64.wrap (a : Int) = ((a % 18446744073709551616 : Nat) : Int) := by rw [IntKind.wrap_u64]; omega
end Mul
set_option maxHeartbeats 1000000 in
theorem mul60 (x y : Nat) (hx : x < 18446744073709551616) (hy : y < 18446744073709551616) (w : World) :
    Calls Tryd.prog 28 #[.int .u64 x, .int .u64 y] w fun e w' => e = .returned (.tuple #[.int .u64 ((x * y / 18446744073709551616 : Nat) : Int), .int .u64 ((x * y % 18446744073709551616 : Nat) : Int)]) ∧ w' = w := by
  obtain ⟨bd, bt, bw, hhi⟩ := Lib.mul64_hi x y hx hy
  have ba := Lib.half_mul_le (a := x / 4294967296) (b := y / 4294967296) (by omega) (by omega)
  have bb := Lib.half_mul_le (a := x / 4294967296) (b := y % 4294967296) (by omega) (by omega)
  have bc := Lib.half_mul_le (a := x % 4294967296) (b := y / 4294967296) (by omega) (by omega)
  have ba' : x / 4294967296 * (y / 4294967296) < 18446744073709551616 := by omega
  have bb' : x / 4294967296 * (y % 4294967296) < 18446744073709551616 := by omega
  have bc' : x % 4294967296 * (y / 4294967296) < 18446744073709551616 := by omega
  have hlt : x * y / 18446744073709551616 < 18446744073709551616 := by
    apply Nat.div_lt_of_lt_mul
    exact Nat.mul_lt_mul'' hx hy
  have bh : x / 4294967296 * (y / 4294967296) + (x / 4294967296 * (y % 4294967296) + x % 4294967296 * (y % 4294967296) / 4294967296) / 4294967296 + ((x / 4294967296 * (y % 4294967296) + x % 4294967296 * (y % 4294967296) / 4294967296) % 4294967296 + x % 4294967296 * (y / 4294967296)) / 4294967296 < 18446744073709551616 := by rw [hhi]; exact hlt
  have bh1 : x / 4294967296 * (y / 4294967296) + (x / 4294967296 * (y % 4294967296) + x % 4294967296 * (y % 4294967296) / 4294967296) / 4294967296 < 18446744073709551616 := by omega
  go_enter Tryd.func28, Tryd.ntmps28
  go_wp2
  simp only [Mul.maskN x hx, Mul.maskN y hy, Mul.divN, Mul.mulN, Mul.addN, Mul.wrapN _ bd, Mul.wrapN _ bb', Mul.wrapN _ bt, Mul.maskN _ bt, Mul.wrapN _ bc', Mul.wrapN _ bw, Mul.wrapN _ ba', Mul.wrapN _ bh1, Mul.wrapN _ bh, Mul.wrapM (x * y)]
  rw [hhi]
  go_ret2
  exact ⟨rfl, rfl⟩
theorem texts49 (a b : ByteArray) (w : World) : Calls Tryd.prog 20 #[.string a, .string b] w fun e w' => e = .returned (.int .i64 (if Op.bytesLess a.toList b.toList then -1 else if a.toList == b.toList then 0 else 1)) ∧ w' = w := by
  cases h1 : Op.bytesLess a.toList b.toList <;> cases h2 : (a.toList == b.toList)
  all_goals
    go_enter Tryd.func20, Tryd.ntmps20
    go_wp2
    go_ret
    exact ⟨ret_num (by simp), rfl⟩
theorem class46 (k : Int) (w : World) : Calls Tryd.prog 17 #[.int .i64 k] w fun e w' => e = .returned (.int .i64 (if k = 4 then 3 else k)) ∧ w' = w := by
  go_enter Tryd.func17, Tryd.ntmps17
  go_wp2
  all_goals
    go_ret
    exact ⟨ret_num (by simp_all), rfl⟩
/-- Two texts in their order. -/
def tx (a b : ByteArray) : Int := if Op.bytesLess a.toList b.toList then -1 else if a.toList == b.toList then 0 else 1
def cls (k : Int) : Int := if k ≤ 3 then k else k - 1
theorem q_int {C : World → Prop} {a : Act} {o : Oper} {K : Act → Prop} (x : Operand) (ho : o.op = .load 3 x) (b k : Nat) (hx : a.eval x = .pointer (some ⟨b, k, none⟩)) (n : Int) (hS : ∀ w, C w → w.cell? ⟨b, k, none⟩ = some (.int .i64 n))
    (hk : K (a.put o.dst (.int .i64 n))) : o.quiet Tryd.prog a C K :=
  ⟨_, fun w hw => by
    have h := hS w hw
    unfold Oper.quietAt execOp
    simp only [ho, hx]
    go_simp, hk⟩
/-- Two numbers in their order. -/
def nm (a b : Hd) : Int := sg (a.n * 10 ^ b.s.toNat) (b.n * 10 ^ a.s.toNat)
theorem sg_lex (x y : Nat) : (if sg ((x / 18446744073709551616 : Nat) : Int) ((y / 18446744073709551616 : Nat) : Int) ≠ 0 then sg ((x / 18446744073709551616 : Nat) : Int) ((y / 18446744073709551616 : Nat) : Int) else sg ((x % 18446744073709551616 : Nat) : Int) ((y % 18446744073709551616 : Nat) : Int)) = sg (x : Int) (y : Int) := by
  have h1 := Nat.div_add_mod x 18446744073709551616
  have h2 := Nat.div_add_mod y 18446744073709551616
  have h3 := Nat.mod_lt x (show 0 < 18446744073709551616 by decide)
  have h4 := Nat.mod_lt y (show 0 < 18446744073709551616 by decide)
  generalize x / 18446744073709551616 = a at *
  generalize y / 18446744073709551616 = b at *
  generalize x % 18446744073709551616 = c at *
  generalize y % 18446744073709551616 = d at *
  simp only [sg]
  (repeat' split) <;> omega
theorem pos_mul {a : Int} {t : Nat} (ha : 0 < a) (ht : 0 < t) : 0 < a * (t : Int) := Int.mul_pos ha (by omega)
theorem neg_mul {a : Int} {t : Nat} (ha : a < 0) (ht : 0 < t) : a * (t : Int) < 0 := Int.mul_neg_of_neg_of_pos ha (by omega)
theorem sg_lt {a b : Int} (h : a < b) : sg a b = -1 := by simp [sg, h]
theorem sg_gt {a b : Int} (h : b < a) : sg a b = 1 := by
  have : ¬ a < b := by omega
  simp [sg, h, this]
theorem sg_self (a : Int) : sg a a = 0 := by simp [sg]
theorem sg_neg (a b : Int) : sg (-a) (-b) * -1 = sg a b := by
  simp only [sg]
  (repeat' split) <;> omega
/-- What both ways of comparing numbers come to. -/
theorem nm_eq (a b : Hd) : nm a b = if sg (sg a.n 0) (sg b.n 0) ≠ 0 then sg (sg a.n 0) (sg b.n 0) else sg ((a.n.natAbs * 10 ^ b.s.toNat : Nat) : Int) ((b.n.natAbs * 10 ^ a.s.toNat : Nat) : Int) * sg a.n 0 := by
  unfold nm
  have hp : 0 < 10 ^ b.s.toNat := Nat.pow_pos (by decide)
  have hq : 0 < 10 ^ a.s.toNat := Nat.pow_pos (by decide)
  have e1 : (10 : Int) ^ b.s.toNat = ((10 ^ b.s.toNat : Nat) : Int) := by simp
  have e2 : (10 : Int) ^ a.s.toNat = ((10 ^ a.s.toNat : Nat) : Int) := by simp
  rw [e1, e2]
  generalize 10 ^ b.s.toNat = P at *
  generalize 10 ^ a.s.toNat = Q at *
  generalize a.n = x at *
  generalize b.n = y at *
  have key : ∀ z : Int, ∀ T : Nat, 0 < T → ((z.natAbs * T : Nat) : Int) = (if z < 0 then -(z * (T : Int)) else z * (T : Int)) := by
    intro z T hT
    rw [Int.natCast_mul]
    split
    · rw [show ((z.natAbs : Nat) : Int) = -z by omega, Int.neg_mul]
    · rw [show ((z.natAbs : Nat) : Int) = z by omega]
  rw [key x P hp, key y Q hq]
  rcases Int.lt_trichotomy x 0 with hx | hx | hx
  · have hxp := neg_mul hx hp
    rcases Int.lt_trichotomy y 0 with hy | hy | hy
    · rw [if_pos hx, if_pos hy, sg_lt hx, sg_lt hy, sg_self, if_neg (by simp), sg_neg]
    · subst hy
      rw [Int.zero_mul, sg_lt hx, sg_lt hxp, sg_self, sg_lt (show (-1 : Int) < 0 by decide), if_pos (by decide)]
    · have hyq := pos_mul hy hq
      rw [sg_lt hx, sg_gt hy, sg_lt (show x * (P : Int) < y * (Q : Int) by omega), sg_lt (show (-1 : Int) < 1 by decide), if_pos (by decide)]
  · subst hx
    rw [Int.zero_mul]
    rcases Int.lt_trichotomy y 0 with hy | hy | hy
    · have hyq := neg_mul hy hq
      rw [sg_gt hyq, sg_self, sg_lt hy, sg_gt (show (-1 : Int) < 0 by decide), if_pos (by decide)]
    · subst hy
      rw [Int.zero_mul]
      simp [sg]
    · have hyq := pos_mul hy hq
      rw [sg_lt hyq, sg_self, sg_gt hy, sg_lt (show (0 : Int) < 1 by decide), if_pos (by decide)]
  · have hxp := pos_mul hx hp
    rcases Int.lt_trichotomy y 0 with hy | hy | hy
    · have hyq := neg_mul hy hq
      rw [sg_gt hx, sg_lt hy, sg_gt (show y * (Q : Int) < x * (P : Int) by omega), sg_gt (show (-1 : Int) < 1 by decide), if_pos (by decide)]
    · subst hy
      rw [Int.zero_mul, sg_gt hx, sg_gt hxp, sg_self, sg_gt (show (0 : Int) < 1 by decide), if_pos (by decide)]
    · rw [if_neg (show ¬ x < 0 by omega), if_neg (show ¬ y < 0 by omega), sg_gt hx, sg_gt hy, sg_self, if_neg (by simp), Int.mul_one]

theorem keep {C : World → Prop} {F : Nat} {args : Array Value} {v : Value} (h : ∀ W, Calls Tryd.prog F args W fun e w' => e = .returned v ∧ w' = W) : ∀ W, C W → Calls Tryd.prog F args W fun e w' => e = .returned v ∧ C w' := fun W hW => (h W).mono fun e w' ⟨he, hw⟩ => ⟨he, by rw [hw]; exact hW⟩
theorem sg_three (a b : Int) : sg a b = -1 ∨ sg a b = 0 ∨ sg a b = 1 := by
  simp only [sg]
  (repeat' split) <;> simp
end Go.Proofs.YtoggcabenjmnoaaDoor
