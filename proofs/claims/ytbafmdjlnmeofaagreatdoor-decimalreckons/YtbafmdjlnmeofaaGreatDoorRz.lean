/-
  The document's own sums, differences, products, and turned round: what they answer.
-/
import Derived.Test.YtbafmdjlnmeofaaGreatDoorRq
namespace Go.Proofs.YtbafmdjlnmeofaaGreatDoor
open Go.RowKit
set_option linter.unusedVariables false
/-- Two wide numbers of any signs, added. -/
theorem addR_gen (b1 b2 : Bool) (h1 l1 m1 h2 l2 m2 : Nat) (a1 : Wd h1 l1 m1) (a2 : Wd h2 l2 m2) (q : m1 + m2 < 340282366920938463463374607431768211456) :
    ∃ (b : Bool) (h l m : Nat), Wd h l m ∧ sgn b m = sgn b1 m1 + sgn b2 m2 ∧ ∀ W, Calls Tryz.prog 29 #[.agg #[.int .u64 (h1 : Int), .int .u64 (l1 : Int), .bool b1], .agg #[.int .u64 (h2 : Int), .int .u64 (l2 : Int), .bool b2]] W fun e w' => e = .returned (.tuple #[.agg #[.int .u64 (h : Int), .int .u64 (l : Int), .bool b], .bool true]) ∧ Grow W w' := by
  by_cases hb : b1 = b2
  · subst hb
    obtain ⟨h, l, s⟩ := wd_of (m1 + m2) q
    refine ⟨b1, h, l, _, s, ?_, fun W => addR_same h1 l1 m1 h2 l2 m2 h l b1 true a1 a2 (by rw [Nat.mod_eq_of_lt q]; exact s) (by simpa using q) W⟩
    cases b1 <;> simp [sgn] <;> omega
  · by_cases hle : m2 ≤ m1
    · obtain ⟨h, l, s⟩ := wd_of (m1 - m2) (by omega)
      refine ⟨b1, h, l, _, s, ?_, fun W => addR_ge h1 l1 m1 h2 l2 m2 h l b1 b2 hb a1 a2 hle s W⟩
      cases b1 <;> cases b2 <;> simp_all [sgn] <;> omega
    · obtain ⟨h, l, s⟩ := wd_of (m2 - m1) (by omega)
      refine ⟨b2, h, l, _, s, ?_, fun W => addR_lt h1 l1 m1 h2 l2 m2 h l b1 b2 hb a1 a2 (by omega) s W⟩
      cases b1 <;> cases b2 <;> simp_all [sgn] <;> omega
theorem byR_fit (l p h' l' : Nat) (b : Bool) (hl : l < 18446744073709551616) (hp : p < 18446744073709551616) (s : Wd h' l' (l * p)) (w : World) :
    Calls Tryz.prog 27 #[.agg #[.int .u64 0, .int .u64 (l : Int), .bool b], .int .u64 (p : Int)] w fun e w' => e = .returned (.tuple #[.agg #[.int .u64 (h' : Int), .int .u64 (l' : Int), .bool b], .bool true]) ∧ Grow w w' := by
  have hq : l * p < 340282366920938463463374607431768211456 := Nat.lt_of_lt_of_le (Nat.mul_lt_mul'' hl hp) (by decide)
  exact byR 0 l l p h' l' b true ⟨by omega, hl, by omega⟩ hp (by rw [Nat.mod_eq_of_lt hq]; exact s) (by simpa using hq) w
theorem tenG (n : Nat) (hn : n ≤ 18) (z : Int) (hz : z = (n : Int)) (w : World) : Calls Tryz.prog 28 #[.int .i64 z] w fun e w' => e = .returned (.int .u64 ((10 ^ n : Nat) : Int)) ∧ Grow w w' := by
  subst hz
  exact (ten66 n hn w).mono fun e w' ⟨he, hw⟩ => ⟨he, by rw [hw]; exact Grow.refl _⟩
theorem absG (x : Int) (h0 : -9223372036854775808 ≤ x) (h1 : x < 9223372036854775808) (w : World) : Calls Tryz.prog 34 #[.int .i64 x] w fun e w' => e = .returned (.int .u64 (x.natAbs : Int)) ∧ Grow w w' :=
  (abs65 x h0 h1 w).mono fun e w' ⟨he, hw⟩ => ⟨he, by rw [hw]; exact Grow.refl _⟩
theorem maxR (s1 s2 : Nat) (ats : Array TypeId) (ty : TypeId) (W : World) : (Builtin.max_ ats ty #[.int .i64 (s1 : Int), .int .i64 (s2 : Int)]).run Tryz.prog W = .ok (.int .i64 ((max s1 s2 : Nat) : Int)) W := by
  rw [run_max]
  congr 2
  split <;> omega
section
variable (k1 n1 : Int) (s1 : Nat) (na1 : Option Addr) (nc1 : Nat) (ka1 : Option Addr) (kc1 : Nat) (k2 n2 : Int) (s2 : Nat) (na2 : Option Addr) (nc2 : Nat) (ka2 : Option Addr) (kc2 : Nat)
  (i1 : isNum k1 n1 s1 ⟨#[]⟩ 0 0 = true) (i2 : isNum k2 n2 s2 ⟨#[]⟩ 0 0 = true) (f1 : -9223372036854775808 ≤ n1 ∧ n1 < 9223372036854775808) (f2 : -9223372036854775808 ≤ n2 ∧ n2 < 9223372036854775808) (q1 : s1 ≤ 18) (q2 : s2 ≤ 18)
include i1 in
theorem isR_yes (w : World) : Calls Tryz.prog 25 #[.agg #[.int .i64 k1, .int .i64 n1, .int .i64 (s1 : Int), .string ⟨#[]⟩, .slice na1 0 nc1, .slice ka1 0 kc1]] w fun e w' => e = .returned (.bool true) ∧ Grow w w' := by
  have := isR_any k1 n1 s1 ⟨#[]⟩ na1 0 nc1 ka1 0 kc1 w
  rw [i1] at this
  exact this
include i1 i2 f1 f2 q1 q2
theorem rAdd_num (w : World) :
    Calls Tryz.prog 7 #[.agg #[.int .i64 k1, .int .i64 n1, .int .i64 (s1 : Int), .string ⟨#[]⟩, .slice na1 0 nc1, .slice ka1 0 kc1], .agg #[.int .i64 k2, .int .i64 n2, .int .i64 (s2 : Int), .string ⟨#[]⟩, .slice na2 0 nc2, .slice ka2 0 kc2]] w fun e w' => e = .returned (.tuple #[.agg #[.int .i64 (rs (addZ n1 s1 n2 s2) (max s1 s2)).k, .int .i64 (rs (addZ n1 s1 n2 s2) (max s1 s2)).n, .int .i64 (rs (addZ n1 s1 n2 s2) (max s1 s2)).s, .string ⟨#[]⟩, .slice none 0 0, .slice none 0 0], .int .i64 (rs (addZ n1 s1 n2 s2) (max s1 s2)).e]) ∧ Grow w w' := by
  have g1 := sgn_abs n1
  have g2 := sgn_abs n2
  have l1 : n1.natAbs ≤ 9223372036854775808 := by omega
  have l2 : n2.natAbs ≤ 9223372036854775808 := by omega
  obtain ⟨r, hr⟩ : ∃ r, rs (addZ n1 s1 n2 s2) (max s1 s2) = r := ⟨_, rfl⟩
  rw [hr]
  unfold addZ at hr
  obtain ⟨S, hS⟩ : ∃ S, max s1 s2 = S := ⟨_, rfl⟩
  have hm : ∀ ats ty W, _ := fun ats ty W => maxR s1 s2 ats ty W
  rw [hS] at hr hm
  obtain ⟨d1, hd1⟩ : ∃ d1, S - s1 = d1 := ⟨_, rfl⟩
  obtain ⟨d2, hd2⟩ : ∃ d2, S - s2 = d2 := ⟨_, rfl⟩
  rw [hd1, hd2] at hr
  have p1 := pow_le (k := d1) (n := 18) (by omega)
  have p2 := pow_le (k := d2) (n := 18) (by omega)
  have m1 : n1.natAbs * 10 ^ d1 ≤ 9223372036854775808 * 10 ^ 18 := Nat.mul_le_mul l1 p1
  have m2 : n2.natAbs * 10 ^ d2 ≤ 9223372036854775808 * 10 ^ 18 := Nat.mul_le_mul l2 p2
  have p1' : 10 ^ d1 < 18446744073709551616 := Nat.lt_of_le_of_lt p1 (by decide)
  have p2' : 10 ^ d2 < 18446744073709551616 := Nat.lt_of_le_of_lt p2 (by decide)
  obtain ⟨ha, la, Wa⟩ := wd_of (n1.natAbs * 10 ^ d1) (Nat.lt_of_le_of_lt m1 (by decide))
  obtain ⟨hb, lb, Wb⟩ := wd_of (n2.natAbs * 10 ^ d2) (Nat.lt_of_le_of_lt m2 (by decide))
  obtain ⟨b, h, l, m, Ws, e2, e3⟩ := addR_gen (decide (n1 < 0)) (decide (n2 < 0)) ha la _ hb lb _ Wa Wb (Nat.lt_of_le_of_lt (Nat.add_le_add m1 m2) (by decide))
  rw [sgn_mul, sgn_mul, g1, g2] at e2
  exact addR_yes k1 n1 s1 na1 nc1 ka1 kc1 k2 n2 s2 na2 nc2 ka2 kc2 S n1.natAbs n2.natAbs (10 ^ d1) (10 ^ d2) ha la hb lb h l (decide (n1 < 0)) (decide (n2 < 0)) b r (by omega) (by omega) (by omega) hm
    (fun W => isR_yes k1 n1 s1 na1 nc1 ka1 kc1 i1 W) (fun W => isR_yes k2 n2 s2 na2 nc2 ka2 kc2 i2 W) (fun W => ofR_any n1 _ rfl _ rfl f1.1 f1.2 W) (fun W => tenG d1 (by omega) _ (by omega) W) (fun W => byR_fit _ _ _ _ _ (by omega) p1' Wa W)
    (fun W => tenG d2 (by omega) _ (by omega) W) (fun W => byR_fit _ _ _ _ _ (by omega) p2' Wb W) e3 (fun W => leastR_any b h l m S (by omega) Ws r (by rw [e2]; exact hr) W) (fun W => ofR_any n2 _ rfl _ rfl f2.1 f2.2 W) w
theorem rSub_num (w : World) :
    Calls Tryz.prog 9 #[.agg #[.int .i64 k1, .int .i64 n1, .int .i64 (s1 : Int), .string ⟨#[]⟩, .slice na1 0 nc1, .slice ka1 0 kc1], .agg #[.int .i64 k2, .int .i64 n2, .int .i64 (s2 : Int), .string ⟨#[]⟩, .slice na2 0 nc2, .slice ka2 0 kc2]] w fun e w' => e = .returned (.tuple #[.agg #[.int .i64 (rs (addZ n1 s1 (-n2) s2) (max s1 s2)).k, .int .i64 (rs (addZ n1 s1 (-n2) s2) (max s1 s2)).n, .int .i64 (rs (addZ n1 s1 (-n2) s2) (max s1 s2)).s, .string ⟨#[]⟩, .slice none 0 0, .slice none 0 0], .int .i64 (rs (addZ n1 s1 (-n2) s2) (max s1 s2)).e]) ∧ Grow w w' := by
  have g1 := sgn_abs n1
  have g2 := sgn_abs n2
  have l1 : n1.natAbs ≤ 9223372036854775808 := by omega
  have l2 : n2.natAbs ≤ 9223372036854775808 := by omega
  obtain ⟨r, hr⟩ : ∃ r, rs (addZ n1 s1 (-n2) s2) (max s1 s2) = r := ⟨_, rfl⟩
  rw [hr]
  unfold addZ at hr
  obtain ⟨S, hS⟩ : ∃ S, max s1 s2 = S := ⟨_, rfl⟩
  have hm : ∀ ats ty W, _ := fun ats ty W => maxR s1 s2 ats ty W
  rw [hS] at hr hm
  obtain ⟨d1, hd1⟩ : ∃ d1, S - s1 = d1 := ⟨_, rfl⟩
  obtain ⟨d2, hd2⟩ : ∃ d2, S - s2 = d2 := ⟨_, rfl⟩
  rw [hd1, hd2] at hr
  have p1 := pow_le (k := d1) (n := 18) (by omega)
  have p2 := pow_le (k := d2) (n := 18) (by omega)
  have m1 : n1.natAbs * 10 ^ d1 ≤ 9223372036854775808 * 10 ^ 18 := Nat.mul_le_mul l1 p1
  have m2 : n2.natAbs * 10 ^ d2 ≤ 9223372036854775808 * 10 ^ 18 := Nat.mul_le_mul l2 p2
  have p1' : 10 ^ d1 < 18446744073709551616 := Nat.lt_of_le_of_lt p1 (by decide)
  have p2' : 10 ^ d2 < 18446744073709551616 := Nat.lt_of_le_of_lt p2 (by decide)
  obtain ⟨ha, la, Wa⟩ := wd_of (n1.natAbs * 10 ^ d1) (Nat.lt_of_le_of_lt m1 (by decide))
  obtain ⟨hb, lb, Wb⟩ := wd_of (n2.natAbs * 10 ^ d2) (Nat.lt_of_le_of_lt m2 (by decide))
  obtain ⟨b, h, l, m, Ws, e2, e3⟩ := addR_gen (decide (n1 < 0)) (!decide (n2 < 0)) ha la _ hb lb _ Wa Wb (Nat.lt_of_le_of_lt (Nat.add_le_add m1 m2) (by decide))
  rw [sgn_mul, sgn_mul, sgn_not, g1, g2] at e2
  exact subR_yes k1 n1 s1 na1 nc1 ka1 kc1 k2 n2 s2 na2 nc2 ka2 kc2 S n1.natAbs n2.natAbs (10 ^ d1) (10 ^ d2) ha la hb lb h l (decide (n1 < 0)) (decide (n2 < 0)) (!decide (n2 < 0)) b r (by omega) (by omega) (by omega) hm
    (fun W => isR_yes k1 n1 s1 na1 nc1 ka1 kc1 i1 W) (fun W => isR_yes k2 n2 s2 na2 nc2 ka2 kc2 i2 W) (fun W => ofR_any n1 _ rfl _ rfl f1.1 f1.2 W) (fun W => tenG d1 (by omega) _ (by omega) W) (fun W => byR_fit _ _ _ _ _ (by omega) p1' Wa W)
    (fun W => tenG d2 (by omega) _ (by omega) W) (fun W => byR_fit _ _ _ _ _ (by omega) p2' Wb W) e3 (fun W => leastR_any b h l m S (by omega) Ws r (by rw [e2]; exact hr) W) (fun W => negR k2 n2 s2 na2 nc2 ka2 kc2 n2.natAbs (decide (n2 < 0)) (fun W => ofR_any n2 _ rfl _ rfl f2.1 f2.2 W) W) w
theorem rMul_num (w : World) :
    Calls Tryz.prog 11 #[.agg #[.int .i64 k1, .int .i64 n1, .int .i64 (s1 : Int), .string ⟨#[]⟩, .slice na1 0 nc1, .slice ka1 0 kc1], .agg #[.int .i64 k2, .int .i64 n2, .int .i64 (s2 : Int), .string ⟨#[]⟩, .slice na2 0 nc2, .slice ka2 0 kc2]] w fun e w' => e = .returned (.tuple #[.agg #[.int .i64 (rs (n1 * n2) (s1 + s2)).k, .int .i64 (rs (n1 * n2) (s1 + s2)).n, .int .i64 (rs (n1 * n2) (s1 + s2)).s, .string ⟨#[]⟩, .slice none 0 0, .slice none 0 0], .int .i64 (rs (n1 * n2) (s1 + s2)).e]) ∧ Grow w w' := by
  have g1 := sgn_abs n1
  have g2 := sgn_abs n2
  have l1 : n1.natAbs ≤ 9223372036854775808 := by omega
  have l2 : n2.natAbs ≤ 9223372036854775808 := by omega
  obtain ⟨r, hr⟩ : ∃ r, rs (n1 * n2) (s1 + s2) = r := ⟨_, rfl⟩
  rw [hr]
  have m1 : n1.natAbs * n2.natAbs ≤ 9223372036854775808 * 9223372036854775808 := Nat.mul_le_mul l1 l2
  obtain ⟨h, l, Ws⟩ := wd_of (n1.natAbs * n2.natAbs) (Nat.lt_of_le_of_lt m1 (by decide))
  have e2 : sgn (decide (n1 < 0) != decide (n2 < 0)) (n1.natAbs * n2.natAbs) = n1 * n2 := by rw [sgn_mulI, g1, g2]
  have L : ∀ W, _ := fun W => leastR_any (decide (n1 < 0) != decide (n2 < 0)) h l (n1.natAbs * n2.natAbs) (s1 + s2) (by omega) Ws r (by rw [e2]; exact hr) W
  rw [Int.natCast_add] at L
  exact mulR_yes k1 n1 s1 na1 nc1 ka1 kc1 k2 n2 s2 na2 nc2 ka2 kc2 n1.natAbs n2.natAbs h l (decide (n1 < 0)) r q1 q2
    (fun W => isR_yes k1 n1 s1 na1 nc1 ka1 kc1 i1 W) (fun W => isR_yes k2 n2 s2 na2 nc2 ka2 kc2 i2 W) (fun W => ofR_any n1 _ rfl _ rfl f1.1 f1.2 W) (fun W => absG n2 f2.1 f2.2 W) (fun W => byR_fit _ _ _ _ _ (by omega) (by omega) Ws W) L w
omit i2 f2 q2 in
theorem rNeg_num (w : World) :
    Calls Tryz.prog 13 #[.agg #[.int .i64 k1, .int .i64 n1, .int .i64 (s1 : Int), .string ⟨#[]⟩, .slice na1 0 nc1, .slice ka1 0 kc1]] w fun e w' => e = .returned (.tuple #[.agg #[.int .i64 (rs (-n1) s1).k, .int .i64 (rs (-n1) s1).n, .int .i64 (rs (-n1) s1).s, .string ⟨#[]⟩, .slice none 0 0, .slice none 0 0], .int .i64 (rs (-n1) s1).e]) ∧ Grow w w' := by
  have g1 := sgn_abs n1
  have l1 : n1.natAbs ≤ 9223372036854775808 := by omega
  exact negR_yes k1 n1 s1 na1 nc1 ka1 kc1 n1.natAbs (!decide (n1 < 0)) (rs (-n1) s1) (fun W => isR_yes k1 n1 s1 na1 nc1 ka1 kc1 i1 W) (fun W => negR k1 n1 s1 na1 nc1 ka1 kc1 n1.natAbs (decide (n1 < 0)) (fun W => ofR_any n1 _ rfl _ rfl f1.1 f1.2 W) W)
    (fun W => leastR_any (!decide (n1 < 0)) 0 n1.natAbs n1.natAbs s1 (by omega) ⟨by omega, by omega, by omega⟩ _ (by rw [sgn_not, g1]) W) w
end
end Go.Proofs.YtbafmdjlnmeofaaGreatDoor
