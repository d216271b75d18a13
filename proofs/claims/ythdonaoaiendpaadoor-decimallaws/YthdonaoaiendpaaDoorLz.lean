/-
  DecimalLaws, DecimalSpreads, DecimalOrder, DecimalSmall: what they answer.
-/
import Derived.Test.YthdonaoaiendpaaDoorMx
import Derived.Test.YthdonaoaiendpaaDoorLs
import Derived.Test.YthdonaoaiendpaaDoorLo
namespace Go.Proofs.YthdonaoaiendpaaDoor
open Go.RowKit
set_option linter.unusedVariables false
theorem isV (v : Vv) (b : Bool) (h : v.num = b) (W : World) : Calls Tryd.prog 12 #[.agg #[.int .i64 v.k, .int .i64 v.n, .int .i64 v.s, .string v.t, .slice v.na v.nl v.nc, .slice v.ka v.kl v.kc]] W fun e w' => e = .returned (.bool b) ∧ Grow W w' := by
  have := isR_any v.k v.n v.s v.t v.na v.nl v.nc v.ka v.kl v.kc W
  rw [show isNum v.k v.n v.s v.t v.nl v.kl = b from h] at this
  exact this
theorem addV (v1 v2 : Vv) (f1 : v1.fit) (f2 : v2.fit) (r : Rs) (h : wayR .add v1 v2 = r) (W : World) : Calls Tryd.prog 13 #[.agg #[.int .i64 v1.k, .int .i64 v1.n, .int .i64 v1.s, .string v1.t, .slice v1.na v1.nl v1.nc, .slice v1.ka v1.kl v1.kc], .agg #[.int .i64 v2.k, .int .i64 v2.n, .int .i64 v2.s, .string v2.t, .slice v2.na v2.nl v2.nc, .slice v2.ka v2.kl v2.kc]] W fun e w' => e = .returned (.tuple #[.agg #[.int .i64 r.k, .int .i64 r.n, .int .i64 r.s, .string ⟨#[]⟩, .slice none 0 0, .slice none 0 0], .int .i64 r.e]) ∧ Grow W w' := by
  have := add_any v1 v2 f1 f2 W
  rw [h] at this
  exact this
theorem subV (v1 v2 : Vv) (f1 : v1.fit) (f2 : v2.fit) (r : Rs) (h : wayR .sub v1 v2 = r) (W : World) : Calls Tryd.prog 16 #[.agg #[.int .i64 v1.k, .int .i64 v1.n, .int .i64 v1.s, .string v1.t, .slice v1.na v1.nl v1.nc, .slice v1.ka v1.kl v1.kc], .agg #[.int .i64 v2.k, .int .i64 v2.n, .int .i64 v2.s, .string v2.t, .slice v2.na v2.nl v2.nc, .slice v2.ka v2.kl v2.kc]] W fun e w' => e = .returned (.tuple #[.agg #[.int .i64 r.k, .int .i64 r.n, .int .i64 r.s, .string ⟨#[]⟩, .slice none 0 0, .slice none 0 0], .int .i64 r.e]) ∧ Grow W w' := by
  have := sub_any v1 v2 f1 f2 W
  rw [h] at this
  exact this
theorem mulV (v1 v2 : Vv) (f1 : v1.fit) (f2 : v2.fit) (r : Rs) (h : wayR .mul v1 v2 = r) (W : World) : Calls Tryd.prog 14 #[.agg #[.int .i64 v1.k, .int .i64 v1.n, .int .i64 v1.s, .string v1.t, .slice v1.na v1.nl v1.nc, .slice v1.ka v1.kl v1.kc], .agg #[.int .i64 v2.k, .int .i64 v2.n, .int .i64 v2.s, .string v2.t, .slice v2.na v2.nl v2.nc, .slice v2.ka v2.kl v2.kc]] W fun e w' => e = .returned (.tuple #[.agg #[.int .i64 r.k, .int .i64 r.n, .int .i64 r.s, .string ⟨#[]⟩, .slice none 0 0, .slice none 0 0], .int .i64 r.e]) ∧ Grow W w' := by
  have := mul_any v1 v2 f1 f2 W
  rw [h] at this
  exact this
/-- A number's parts. -/
theorem Vv.form {v : Vv} (h : v.num = true) : ∃ (k n : Int) (q : Nat) (na : Option Addr) (nc : Nat) (ka : Option Addr) (kc : Nat), v = ⟨k, n, (q : Int), ⟨#[]⟩, na, 0, nc, ka, 0, kc⟩ ∧ k = kd q := by
  obtain ⟨x1, x2, x3, x4, x5, x6, x7⟩ := v.is h
  obtain ⟨k1, n1, s1, t1, na1, nl1, nc1, ka1, kl1, kc1⟩ := v
  simp only at x1 x2 x3 x4 x5 x6 x7
  exact ⟨k1, n1, s1.toNat, na1, nc1, ka1, kc1, by simp only [Vv.mk.injEq, true_and, x1, x2, x3, and_true]; exact x4, x7⟩
theorem laws_walk (v1 v2 : Vv) (f1 : v1.fit) (f2 : v2.fit) (w : World) :
    Calls Tryd.prog 4 #[.agg #[.int .i64 v1.k, .int .i64 v1.n, .int .i64 v1.s, .string v1.t, .slice v1.na v1.nl v1.nc, .slice v1.ka v1.kl v1.kc], .agg #[.int .i64 v2.k, .int .i64 v2.n, .int .i64 v2.s, .string v2.t, .slice v2.na v2.nl v2.nc, .slice v2.ka v2.kl v2.kc]] w fun e w' => e = .returned (.bool true) ∧ Grow w w' := by
  cases h1 : v1.num with
  | false => exact laws_no1 v1 v2 (isV v1 false h1) w
  | true =>
    cases h2 : v2.num with
    | false => exact laws_no2 v1 v2 (isV v1 true h1) (isV v2 false h2) w
    | true =>
      have K1 := isV v1 true h1
      have K2 := isV v2 true h2
      obtain ⟨rm, hrm⟩ : ∃ r, wayR .mul v1 v2 = r := ⟨_, rfl⟩
      have M1 := mulV v1 v2 f1 f2 rm hrm
      have M2 := mulV v2 v1 f2 f1 rm (by rw [← mul_turn h1 h2]; exact hrm)
      obtain ⟨r, hr⟩ : ∃ r, wayR .add v1 v2 = r := ⟨_, rfl⟩
      have A1 := addV v1 v2 f1 f2 r hr
      have A2 := addV v2 v1 f2 f1 r (by rw [← add_turn h1 h2]; exact hr)
      cases r with
      | ty => rw [wayR_num h1 h2] at hr; exact absurd hr rs_not
      | rg =>
        obtain ⟨k1, n1, q1, na1, nc1, ka1, kc1, rfl, _⟩ := Vv.form h1
        obtain ⟨k2, n2, q2, na2, nc2, ka2, kc2, rfl, _⟩ := Vv.form h2
        exact laws_rg k1 n1 q1 na1 nc1 ka1 kc1 k2 n2 q2 na2 nc2 ka2 kc2 _ _ _ _ _ _ _ K1 K2 A1 A2 M1 M2 w
      | ok y t =>
        have hn : Nu y t := by
          have h := hr
          rw [wayR_num h1 h2] at h
          exact (rs_some h).1
        have S1 := subV (Rs.ok y t).vv v2 hn.fit f2 _ (sub_back h1 h2 f1 hr)
        obtain ⟨k1, n1, q1, na1, nc1, ka1, kc1, rfl, e1⟩ := Vv.form h1
        obtain ⟨k2, n2, q2, na2, nc2, ka2, kc2, rfl, e2⟩ := Vv.form h2
        subst e1
        exact laws_ok (kd q1) n1 q1 na1 nc1 ka1 kc1 k2 n2 q2 na2 nc2 ka2 kc2 _ _ _ _ _ _ _ K1 K2 A1 A2 M1 M2 S1 w
theorem spreads_walk (v1 v2 v3 : Vv) (f1 : v1.fit) (f2 : v2.fit) (f3 : v3.fit) (w : World) :
    Calls Tryd.prog 7 #[.agg #[.int .i64 v1.k, .int .i64 v1.n, .int .i64 v1.s, .string v1.t, .slice v1.na v1.nl v1.nc, .slice v1.ka v1.kl v1.kc], .agg #[.int .i64 v2.k, .int .i64 v2.n, .int .i64 v2.s, .string v2.t, .slice v2.na v2.nl v2.nc, .slice v2.ka v2.kl v2.kc], .agg #[.int .i64 v3.k, .int .i64 v3.n, .int .i64 v3.s, .string v3.t, .slice v3.na v3.nl v3.nc, .slice v3.ka v3.kl v3.kc]] w fun e w' => e = .returned (.bool true) ∧ Grow w w' := by
  cases h1 : v1.num with
  | false => exact spreads_no1 v1 v2 v3 (isV v1 false h1) w
  | true =>
    cases h2 : v2.num with
    | false => exact spreads_no2 v1 v2 v3 (isV v1 true h1) (isV v2 false h2) w
    | true =>
      cases h3 : v3.num with
      | false => exact spreads_no3 v1 v2 v3 (isV v1 true h1) (isV v2 true h2) (isV v3 false h3) w
      | true =>
        have K1 := isV v1 true h1
        have K2 := isV v2 true h2
        have K3 := isV v3 true h3
        obtain ⟨r4, h4⟩ : ∃ r, wayR .add v2 v3 = r := ⟨_, rfl⟩
        obtain ⟨r5, h5⟩ : ∃ r, wayR .mul v1 v2 = r := ⟨_, rfl⟩
        obtain ⟨r6, h6⟩ : ∃ r, wayR .mul v1 v3 = r := ⟨_, rfl⟩
        have A1 := addV v2 v3 f2 f3 r4 h4
        have M1 := mulV v1 v2 f1 f2 r5 h5
        have M2 := mulV v1 v3 f1 f3 r6 h6
        cases r4 with
        | ty => rw [wayR_num h2 h3] at h4; exact absurd h4 rs_not
        | rg =>
          obtain ⟨k1, n1, q1, na1, nc1, ka1, kc1, rfl, _⟩ := Vv.form h1
          obtain ⟨k2, n2, q2, na2, nc2, ka2, kc2, rfl, _⟩ := Vv.form h2
          obtain ⟨k3, n3, q3, na3, nc3, ka3, kc3, rfl, _⟩ := Vv.form h3
          exact spreads_s1 k1 n1 q1 na1 nc1 ka1 kc1 k2 n2 q2 na2 nc2 ka2 kc2 k3 n3 q3 na3 nc3 ka3 kc3 _ _ _ _ _ _ _ _ _ _ _ K1 K2 K3 A1 M1 M2 w
        | ok y4 t4 =>
          cases r5 with
          | ty => rw [wayR_num h1 h2] at h5; exact absurd h5 rs_not
          | rg =>
            obtain ⟨k1, n1, q1, na1, nc1, ka1, kc1, rfl, _⟩ := Vv.form h1
            obtain ⟨k2, n2, q2, na2, nc2, ka2, kc2, rfl, _⟩ := Vv.form h2
            obtain ⟨k3, n3, q3, na3, nc3, ka3, kc3, rfl, _⟩ := Vv.form h3
            exact spreads_s2 k1 n1 q1 na1 nc1 ka1 kc1 k2 n2 q2 na2 nc2 ka2 kc2 k3 n3 q3 na3 nc3 ka3 kc3 _ _ _ _ _ _ _ _ _ 0 _ K1 K2 K3 A1 M1 M2 w
          | ok y5 t5 =>
            cases r6 with
            | ty => rw [wayR_num h1 h3] at h6; exact absurd h6 rs_not
            | rg =>
              obtain ⟨k1, n1, q1, na1, nc1, ka1, kc1, rfl, _⟩ := Vv.form h1
              obtain ⟨k2, n2, q2, na2, nc2, ka2, kc2, rfl, _⟩ := Vv.form h2
              obtain ⟨k3, n3, q3, na3, nc3, ka3, kc3, rfl, _⟩ := Vv.form h3
              exact spreads_s3 k1 n1 q1 na1 nc1 ka1 kc1 k2 n2 q2 na2 nc2 ka2 kc2 k3 n3 q3 na3 nc3 ka3 kc3 _ _ _ _ _ _ _ _ _ 0 0 K1 K2 K3 A1 M1 M2 w
            | ok y6 t6 =>
              have g4 := h4
              have g5 := h5
              have g6 := h6
              rw [wayR_num h2 h3] at g4
              rw [wayR_num h1 h2] at g5
              rw [wayR_num h1 h3] at g6
              have n4 := (rs_some g4).1
              have n5 := (rs_some g5).1
              have n6 := (rs_some g6).1
              obtain ⟨r7, h7⟩ : ∃ r, wayR .mul v1 (Rs.ok y4 t4).vv = r := ⟨_, rfl⟩
              have M3 := mulV v1 (Rs.ok y4 t4).vv f1 n4.fit r7 h7
              have A2 := addV (Rs.ok y5 t5).vv (Rs.ok y6 t6).vv n5.fit n6.fit r7 (by rw [← spread h1 h2 h3 h4 h5 h6]; exact h7)
              obtain ⟨k1, n1, q1, na1, nc1, ka1, kc1, rfl, _⟩ := Vv.form h1
              obtain ⟨k2, n2, q2, na2, nc2, ka2, kc2, rfl, _⟩ := Vv.form h2
              obtain ⟨k3, n3, q3, na3, nc3, ka3, kc3, rfl, _⟩ := Vv.form h3
              cases r7 with
              | ty => rw [wayR_num h1 n4.num] at h7; exact absurd h7 rs_not
              | rg => exact spreads_s5 k1 n1 q1 na1 nc1 ka1 kc1 k2 n2 q2 na2 nc2 ka2 kc2 k3 n3 q3 na3 nc3 ka3 kc3 _ _ _ _ _ _ _ _ _ 0 0 _ _ _ K1 K2 K3 A1 M1 M2 M3 A2 w
              | ok y7 t7 => exact spreads_s4 k1 n1 q1 na1 nc1 ka1 kc1 k2 n2 q2 na2 nc2 ka2 kc2 k3 n3 q3 na3 nc3 ka3 kc3 _ _ _ _ _ _ _ _ _ 0 0 _ _ _ K1 K2 K3 A1 M1 M2 M3 A2 w
theorem cmpV (v1 v2 : Vv) (h1 : v1.num = true) (h2 : v2.num = true) (f1 : v1.fit) (f2 : v2.fit) (c : Int) (h : nmI v1.n v1.s.toNat v2.n v2.s.toNat = c) (W : World) : Calls Tryd.prog 17 #[.agg #[.int .i64 v1.k, .int .i64 v1.n, .int .i64 v1.s, .string v1.t, .slice v1.na v1.nl v1.nc, .slice v1.ka v1.kl v1.kc], .agg #[.int .i64 v2.k, .int .i64 v2.n, .int .i64 v2.s, .string v2.t, .slice v2.na v2.nl v2.nc, .slice v2.ka v2.kl v2.kc]] W fun e w' => e = .returned (.tuple #[.int .i64 c, .int .i64 0]) ∧ Grow W w' := by
  have := dCompare_any v1 v2 f1 f2 W
  rw [show cmpC v1 v2 = c by simp [cmpC, h1, h2, h], show cmpE v1 v2 = 0 by simp [cmpE, h1, h2]] at this
  exact this
theorem nu0 : Nu 0 0 := ⟨by omega, by omega, by omega, .inl rfl⟩
theorem order_walk (v1 v2 : Vv) (f1 : v1.fit) (f2 : v2.fit) (w : World) :
    Calls Tryd.prog 6 #[.agg #[.int .i64 v1.k, .int .i64 v1.n, .int .i64 v1.s, .string v1.t, .slice v1.na v1.nl v1.nc, .slice v1.ka v1.kl v1.kc], .agg #[.int .i64 v2.k, .int .i64 v2.n, .int .i64 v2.s, .string v2.t, .slice v2.na v2.nl v2.nc, .slice v2.ka v2.kl v2.kc]] w fun e w' => e = .returned (.bool true) ∧ Grow w w' := by
  cases h1 : v1.num with
  | false => exact order_no1 v1 v2 (isV v1 false h1) w
  | true =>
    cases h2 : v2.num with
    | false => exact order_no2 v1 v2 (isV v1 true h1) (isV v2 false h2) w
    | true =>
      have K1 := isV v1 true h1
      have K2 := isV v2 true h2
      have C1 := cmpV v1 v2 h1 h2 f1 f2 _ rfl
      obtain ⟨r, hr⟩ : ∃ r, wayR .sub v1 v2 = r := ⟨_, rfl⟩
      have S1 := subV v1 v2 f1 f2 r hr
      cases r with
      | ty => rw [wayR_num h1 h2] at hr; exact absurd hr rs_not
      | rg =>
        obtain ⟨k1, n1, q1, na1, nc1, ka1, kc1, rfl, _⟩ := Vv.form h1
        obtain ⟨k2, n2, q2, na2, nc2, ka2, kc2, rfl, _⟩ := Vv.form h2
        exact order_rg k1 n1 q1 na1 nc1 ka1 kc1 k2 n2 q2 na2 nc2 ka2 kc2 _ _ _ _ K1 K2 C1 S1 w
      | ok y t =>
        have hn : Nu y t := by
          have h := hr
          rw [wayR_num h1 h2] at h
          exact (rs_some h).1
        have C2 := cmpV (Rs.ok y t).vv (Rs.ok 0 0).vv hn.num nu0.num hn.fit nu0.fit _ (order_eq h1 h2 hr)
        obtain ⟨k1, n1, q1, na1, nc1, ka1, kc1, rfl, e1⟩ := Vv.form h1
        obtain ⟨k2, n2, q2, na2, nc2, ka2, kc2, rfl, e2⟩ := Vv.form h2
        exact order_ok k1 n1 q1 na1 nc1 ka1 kc1 k2 n2 q2 na2 nc2 ka2 kc2 _ _ _ _ K1 K2 C1 S1 C2 w
theorem makeV (n : Int) (s : Nat) (f : -9223372036854775808 ≤ n ∧ n < 9223372036854775808) (hs : s ≤ 18) (r : Rs) (h : rs n s = r) (W : World) : Calls Tryd.prog 8 #[.int .i64 n, .int .i64 (s : Int)] W fun e w' => e = .returned (.tuple #[.agg #[.int .i64 r.k, .int .i64 r.n, .int .i64 r.s, .string ⟨#[]⟩, .slice none 0 0, .slice none 0 0], .int .i64 r.e]) ∧ Grow W w' := make_yes n s (by omega) f r h W
theorem small_walk (a b s : Int) (w : World) :
    Calls Tryd.prog 5 #[.int .i64 a, .int .i64 b, .int .i64 s] w fun e w' => e = .returned (.bool true) ∧ Grow w w' := by
  by_cases h : -1073741824 ≤ a ∧ a ≤ 1073741824 ∧ -1073741824 ≤ b ∧ b ≤ 1073741824 ∧ 0 ≤ s ∧ s ≤ 9
  · obtain ⟨a0, a1, b0, b1, s0, s1⟩ := h
    obtain ⟨q, rfl⟩ : ∃ q : Nat, s = (q : Int) := ⟨s.toNat, by omega⟩
    have hq : q ≤ 9 := by omega
    have hab : -1152921504606846976 ≤ a * b ∧ a * b ≤ 1152921504606846976 := by
      have h1 : (a * b).natAbs ≤ 1073741824 * 1073741824 := by
        rw [Int.natAbs_mul]
        exact Nat.mul_le_mul (by omega) (by omega)
      omega
    obtain ⟨y1, t1, h1⟩ := rs_small (z := a) (s := q) (by omega) (by omega) (by omega) (by omega)
    obtain ⟨y2, t2, h2⟩ := rs_small (z := b) (s := q) (by omega) (by omega) (by omega) (by omega)
    obtain ⟨y3, t3, h3⟩ := rs_small (z := a + b) (s := q) (by omega) (by omega) (by omega) (by omega)
    obtain ⟨y4, t4, h4⟩ := rs_small (z := a * b) (s := q + q) (by omega) (by omega) (by omega) (by omega)
    have n1 := (rs_some h1).1
    have n2 := (rs_some h2).1
    have M1 := makeV a q (by omega) (by omega) _ h1
    have M2 := makeV b q (by omega) (by omega) _ h2
    have M3 := makeV (a + b) q (by omega) (by omega) _ h3
    have M4 := makeV (a * b) (q + q) (by omega) (by omega) _ h4
    rw [show ((q + q : Nat) : Int) = 2 * (q : Int) by omega] at M4
    have A1 := addV (Rs.ok y1 t1).vv (Rs.ok y2 t2).vv n1.fit n2.fit _ ((small_add h1 h2).trans h3)
    have P1 := mulV (Rs.ok y1 t1).vv (Rs.ok y2 t2).vv n1.fit n2.fit _ ((small_mul h1 h2).trans h4)
    have C1 := cmpV (Rs.ok y1 t1).vv (Rs.ok y2 t2).vv n1.num n2.num n1.fit n2.fit (sg a b) (small_cmp h1 h2)
    refine small_in a b q a0 a1 b0 b1 s0 s1 _ _ _ _ _ _ _ _ _ _ _ _ (sg a b) (a * b) ⟨rfl, hab⟩ ?_ ?_ M1 M2 A1 P1 M3 M4 C1 w
    · show _ = _
      unfold sg
      by_cases h : a < b
      · simp [h]
      · by_cases h' : b < a
        · simp [h, h']
        · simp [h, h']
    · show _ = _
      unfold sg
      by_cases h : a < b
      · have : ¬ a = b := by omega
        simp [h, this]
      · by_cases h' : b < a
        · have : ¬ a = b := by omega
          simp [h, h', this]
        · have : a = b := by omega
          simp [this]
  · exact small_out a b s (by omega) w
end Go.Proofs.YthdonaoaiendpaaDoor
