/-
  The document's own reckoning of any two values; DecimalReckons of any two values.
-/
import Derived.Test.YtbafmdjlnmeofaaGreatDoorRo
namespace Go.Proofs.YtbafmdjlnmeofaaGreatDoor
open Go.RowKit
set_option linter.unusedVariables false
/-- What Neg answers. -/
def ngR (v : Vv) : Rs := if v.num then rs (-v.n) v.s.toNat else .ty
theorem radd_any (v1 v2 : Vv) (f1 : v1.fit) (f2 : v2.fit) (w : World) :
    Calls Tryz.prog 7 #[.agg #[.int .i64 v1.k, .int .i64 v1.n, .int .i64 v1.s, .string v1.t, .slice v1.na v1.nl v1.nc, .slice v1.ka v1.kl v1.kc], .agg #[.int .i64 v2.k, .int .i64 v2.n, .int .i64 v2.s, .string v2.t, .slice v2.na v2.nl v2.nc, .slice v2.ka v2.kl v2.kc]] w fun e w' => e = .returned (.tuple #[.agg #[.int .i64 (wayR .add v1 v2).k, .int .i64 (wayR .add v1 v2).n, .int .i64 (wayR .add v1 v2).s, .string ⟨#[]⟩, .slice none 0 0, .slice none 0 0], .int .i64 (wayR .add v1 v2).e]) ∧ Grow w w' := by
  have N1 : ∀ W, Calls Tryz.prog 25 #[.agg #[.int .i64 v1.k, .int .i64 v1.n, .int .i64 v1.s, .string v1.t, .slice v1.na v1.nl v1.nc, .slice v1.ka v1.kl v1.kc]] W fun e w' => e = .returned (.bool v1.num) ∧ Grow W w' := fun W => isR_any v1.k v1.n v1.s v1.t v1.na v1.nl v1.nc v1.ka v1.kl v1.kc W
  have N2 : ∀ W, Calls Tryz.prog 25 #[.agg #[.int .i64 v2.k, .int .i64 v2.n, .int .i64 v2.s, .string v2.t, .slice v2.na v2.nl v2.nc, .slice v2.ka v2.kl v2.kc]] W fun e w' => e = .returned (.bool v2.num) ∧ Grow W w' := fun W => isR_any v2.k v2.n v2.s v2.t v2.na v2.nl v2.nc v2.ka v2.kl v2.kc W
  cases h1 : v1.num with
  | false =>
    rw [h1] at N1
    have e : wayR .add v1 v2 = .ty := by simp [wayR, h1]
    rw [e]
    exact addR_no1 v1 v2 N1 w
  | true =>
    rw [h1] at N1
    cases h2 : v2.num with
    | false =>
      rw [h2] at N2
      have e : wayR .add v1 v2 = .ty := by simp [wayR, h2]
      rw [e]
      exact addR_no2 v1 v2 N1 N2 w
    | true =>
      have e : wayR .add v1 v2 = rs (Way.z .add v1.n v1.s.toNat v2.n v2.s.toNat) (Way.s .add v1.s.toNat v2.s.toNat) := by simp [wayR, h1, h2]
      rw [e]
      clear e N1 N2
      obtain ⟨x1, x2, x3, x4, x5, _, _⟩ := v1.is h1
      obtain ⟨y1, y2, y3, y4, y5, _, _⟩ := v2.is h2
      obtain ⟨k1, n1, s1, t1, na1, nl1, nc1, ka1, kl1, kc1⟩ := v1
      obtain ⟨k2, n2, s2, t2, na2, nl2, nc2, ka2, kl2, kc2⟩ := v2
      simp only at x1 x2 x3 x4 x5 y1 y2 y3 y4 y5 ⊢
      simp only [Vv.num] at h1 h2
      subst x1 x2 x3 y1 y2 y3
      generalize s1.toNat = q1 at *
      generalize s2.toNat = q2 at *
      subst x4 y4
      exact rAdd_num k1 n1 q1 na1 nc1 ka1 kc1 k2 n2 q2 na2 nc2 ka2 kc2 h1 h2 f1 f2 x5 y5 w
theorem rsub_any (v1 v2 : Vv) (f1 : v1.fit) (f2 : v2.fit) (w : World) :
    Calls Tryz.prog 9 #[.agg #[.int .i64 v1.k, .int .i64 v1.n, .int .i64 v1.s, .string v1.t, .slice v1.na v1.nl v1.nc, .slice v1.ka v1.kl v1.kc], .agg #[.int .i64 v2.k, .int .i64 v2.n, .int .i64 v2.s, .string v2.t, .slice v2.na v2.nl v2.nc, .slice v2.ka v2.kl v2.kc]] w fun e w' => e = .returned (.tuple #[.agg #[.int .i64 (wayR .sub v1 v2).k, .int .i64 (wayR .sub v1 v2).n, .int .i64 (wayR .sub v1 v2).s, .string ⟨#[]⟩, .slice none 0 0, .slice none 0 0], .int .i64 (wayR .sub v1 v2).e]) ∧ Grow w w' := by
  have N1 : ∀ W, Calls Tryz.prog 25 #[.agg #[.int .i64 v1.k, .int .i64 v1.n, .int .i64 v1.s, .string v1.t, .slice v1.na v1.nl v1.nc, .slice v1.ka v1.kl v1.kc]] W fun e w' => e = .returned (.bool v1.num) ∧ Grow W w' := fun W => isR_any v1.k v1.n v1.s v1.t v1.na v1.nl v1.nc v1.ka v1.kl v1.kc W
  have N2 : ∀ W, Calls Tryz.prog 25 #[.agg #[.int .i64 v2.k, .int .i64 v2.n, .int .i64 v2.s, .string v2.t, .slice v2.na v2.nl v2.nc, .slice v2.ka v2.kl v2.kc]] W fun e w' => e = .returned (.bool v2.num) ∧ Grow W w' := fun W => isR_any v2.k v2.n v2.s v2.t v2.na v2.nl v2.nc v2.ka v2.kl v2.kc W
  cases h1 : v1.num with
  | false =>
    rw [h1] at N1
    have e : wayR .sub v1 v2 = .ty := by simp [wayR, h1]
    rw [e]
    exact subR_no1 v1 v2 N1 w
  | true =>
    rw [h1] at N1
    cases h2 : v2.num with
    | false =>
      rw [h2] at N2
      have e : wayR .sub v1 v2 = .ty := by simp [wayR, h2]
      rw [e]
      exact subR_no2 v1 v2 N1 N2 w
    | true =>
      have e : wayR .sub v1 v2 = rs (Way.z .sub v1.n v1.s.toNat v2.n v2.s.toNat) (Way.s .sub v1.s.toNat v2.s.toNat) := by simp [wayR, h1, h2]
      rw [e]
      clear e N1 N2
      obtain ⟨x1, x2, x3, x4, x5, _, _⟩ := v1.is h1
      obtain ⟨y1, y2, y3, y4, y5, _, _⟩ := v2.is h2
      obtain ⟨k1, n1, s1, t1, na1, nl1, nc1, ka1, kl1, kc1⟩ := v1
      obtain ⟨k2, n2, s2, t2, na2, nl2, nc2, ka2, kl2, kc2⟩ := v2
      simp only at x1 x2 x3 x4 x5 y1 y2 y3 y4 y5 ⊢
      simp only [Vv.num] at h1 h2
      subst x1 x2 x3 y1 y2 y3
      generalize s1.toNat = q1 at *
      generalize s2.toNat = q2 at *
      subst x4 y4
      exact rSub_num k1 n1 q1 na1 nc1 ka1 kc1 k2 n2 q2 na2 nc2 ka2 kc2 h1 h2 f1 f2 x5 y5 w
theorem rmul_any (v1 v2 : Vv) (f1 : v1.fit) (f2 : v2.fit) (w : World) :
    Calls Tryz.prog 11 #[.agg #[.int .i64 v1.k, .int .i64 v1.n, .int .i64 v1.s, .string v1.t, .slice v1.na v1.nl v1.nc, .slice v1.ka v1.kl v1.kc], .agg #[.int .i64 v2.k, .int .i64 v2.n, .int .i64 v2.s, .string v2.t, .slice v2.na v2.nl v2.nc, .slice v2.ka v2.kl v2.kc]] w fun e w' => e = .returned (.tuple #[.agg #[.int .i64 (wayR .mul v1 v2).k, .int .i64 (wayR .mul v1 v2).n, .int .i64 (wayR .mul v1 v2).s, .string ⟨#[]⟩, .slice none 0 0, .slice none 0 0], .int .i64 (wayR .mul v1 v2).e]) ∧ Grow w w' := by
  have N1 : ∀ W, Calls Tryz.prog 25 #[.agg #[.int .i64 v1.k, .int .i64 v1.n, .int .i64 v1.s, .string v1.t, .slice v1.na v1.nl v1.nc, .slice v1.ka v1.kl v1.kc]] W fun e w' => e = .returned (.bool v1.num) ∧ Grow W w' := fun W => isR_any v1.k v1.n v1.s v1.t v1.na v1.nl v1.nc v1.ka v1.kl v1.kc W
  have N2 : ∀ W, Calls Tryz.prog 25 #[.agg #[.int .i64 v2.k, .int .i64 v2.n, .int .i64 v2.s, .string v2.t, .slice v2.na v2.nl v2.nc, .slice v2.ka v2.kl v2.kc]] W fun e w' => e = .returned (.bool v2.num) ∧ Grow W w' := fun W => isR_any v2.k v2.n v2.s v2.t v2.na v2.nl v2.nc v2.ka v2.kl v2.kc W
  cases h1 : v1.num with
  | false =>
    rw [h1] at N1
    have e : wayR .mul v1 v2 = .ty := by simp [wayR, h1]
    rw [e]
    exact mulR_no1 v1 v2 N1 w
  | true =>
    rw [h1] at N1
    cases h2 : v2.num with
    | false =>
      rw [h2] at N2
      have e : wayR .mul v1 v2 = .ty := by simp [wayR, h2]
      rw [e]
      exact mulR_no2 v1 v2 N1 N2 w
    | true =>
      have e : wayR .mul v1 v2 = rs (Way.z .mul v1.n v1.s.toNat v2.n v2.s.toNat) (Way.s .mul v1.s.toNat v2.s.toNat) := by simp [wayR, h1, h2]
      rw [e]
      clear e N1 N2
      obtain ⟨x1, x2, x3, x4, x5, _, _⟩ := v1.is h1
      obtain ⟨y1, y2, y3, y4, y5, _, _⟩ := v2.is h2
      obtain ⟨k1, n1, s1, t1, na1, nl1, nc1, ka1, kl1, kc1⟩ := v1
      obtain ⟨k2, n2, s2, t2, na2, nl2, nc2, ka2, kl2, kc2⟩ := v2
      simp only at x1 x2 x3 x4 x5 y1 y2 y3 y4 y5 ⊢
      simp only [Vv.num] at h1 h2
      subst x1 x2 x3 y1 y2 y3
      generalize s1.toNat = q1 at *
      generalize s2.toNat = q2 at *
      subst x4 y4
      exact rMul_num k1 n1 q1 na1 nc1 ka1 kc1 k2 n2 q2 na2 nc2 ka2 kc2 h1 h2 f1 f2 x5 y5 w
theorem rneg_any (v1 : Vv) (f1 : v1.fit) (w : World) :
    Calls Tryz.prog 13 #[.agg #[.int .i64 v1.k, .int .i64 v1.n, .int .i64 v1.s, .string v1.t, .slice v1.na v1.nl v1.nc, .slice v1.ka v1.kl v1.kc]] w fun e w' => e = .returned (.tuple #[.agg #[.int .i64 (ngR v1).k, .int .i64 (ngR v1).n, .int .i64 (ngR v1).s, .string ⟨#[]⟩, .slice none 0 0, .slice none 0 0], .int .i64 (ngR v1).e]) ∧ Grow w w' := by
  have N1 : ∀ W, Calls Tryz.prog 25 #[.agg #[.int .i64 v1.k, .int .i64 v1.n, .int .i64 v1.s, .string v1.t, .slice v1.na v1.nl v1.nc, .slice v1.ka v1.kl v1.kc]] W fun e w' => e = .returned (.bool v1.num) ∧ Grow W w' := fun W => isR_any v1.k v1.n v1.s v1.t v1.na v1.nl v1.nc v1.ka v1.kl v1.kc W
  cases h1 : v1.num with
  | false =>
    rw [h1] at N1
    have e : ngR v1 = .ty := by simp [ngR, h1]
    rw [e]
    exact negRR_no1 v1 N1 w
  | true =>
    have e : ngR v1 = rs (-v1.n) v1.s.toNat := by simp [ngR, h1]
    rw [e]
    clear e N1
    obtain ⟨x1, x2, x3, x4, x5, _, _⟩ := v1.is h1
    obtain ⟨k1, n1, s1, t1, na1, nl1, nc1, ka1, kl1, kc1⟩ := v1
    simp only at x1 x2 x3 x4 x5 ⊢
    simp only [Vv.num] at h1
    subst x1 x2 x3
    generalize s1.toNat = q1 at *
    subst x4
    exact rNeg_num k1 n1 q1 na1 nc1 ka1 kc1 h1 f1 x5 w
theorem dneg_any (v1 : Vv) (f1 : v1.fit) (w : World) :
    Calls Tryz.prog 12 #[.agg #[.int .i64 v1.k, .int .i64 v1.n, .int .i64 v1.s, .string v1.t, .slice v1.na v1.nl v1.nc, .slice v1.ka v1.kl v1.kc]] w fun e w' => e = .returned (.tuple #[.agg #[.int .i64 (ngR v1).k, .int .i64 (ngR v1).n, .int .i64 (ngR v1).s, .string ⟨#[]⟩, .slice none 0 0, .slice none 0 0], .int .i64 (ngR v1).e]) ∧ Grow w w' := by
  have N1 : ∀ W, Calls Tryz.prog 35 #[.agg #[.int .i64 v1.k, .int .i64 v1.n, .int .i64 v1.s, .string v1.t, .slice v1.na v1.nl v1.nc, .slice v1.ka v1.kl v1.kc]] W fun e w' => e = .returned (.bool v1.num) ∧ Grow W w' := fun W => isNumber_any v1.k v1.n v1.s v1.t v1.na v1.nl v1.nc v1.ka v1.kl v1.kc W
  cases h1 : v1.num with
  | false =>
    rw [h1] at N1
    have e : ngR v1 = .ty := by simp [ngR, h1]
    rw [e]
    exact dNeg_no v1 N1 w
  | true =>
    rw [h1] at N1
    have e : ngR v1 = rs (-v1.n) v1.s.toNat := by simp [ngR, h1]
    rw [e]
    clear e
    obtain ⟨x1, x2, x3, x4, x5, _, _⟩ := v1.is h1
    obtain ⟨k1, n1, s1, t1, na1, nl1, nc1, ka1, kl1, kc1⟩ := v1
    simp only at x1 x2 x3 x4 x5 N1 ⊢
    simp only [Vv.num] at h1
    subst x1 x2 x3
    generalize s1.toNat = q1 at *
    subst x4
    have g1 := sgn_abs n1
    have l1 : n1.natAbs ≤ 9223372036854775808 := by have := f1.1; have := f1.2; simp only at *; omega
    exact dNeg_yes k1 n1 q1 na1 nc1 ka1 kc1 n1.natAbs (decide (n1 < 0)) (!decide (n1 < 0)) (rs (-n1) q1) N1 (fun W => numberOf_any n1 q1 _ rfl _ rfl f1.1 f1.2 W) (fun W => turned_any _ 0 _ _ W)
      (fun W => value_any (!decide (n1 < 0)) 0 n1.natAbs n1.natAbs q1 (by omega) ⟨by omega, by omega, by omega⟩ _ (by rw [sgn_not, g1]) W) w
theorem rCompare_any (v1 v2 : Vv) (f1 : v1.fit) (f2 : v2.fit) (w : World) :
    Calls Tryz.prog 15 #[.agg #[.int .i64 v1.k, .int .i64 v1.n, .int .i64 v1.s, .string v1.t, .slice v1.na v1.nl v1.nc, .slice v1.ka v1.kl v1.kc], .agg #[.int .i64 v2.k, .int .i64 v2.n, .int .i64 v2.s, .string v2.t, .slice v2.na v2.nl v2.nc, .slice v2.ka v2.kl v2.kc]] w fun e w' => e = .returned (.tuple #[.int .i64 (cmpC v1 v2), .int .i64 (cmpE v1 v2)]) ∧ Grow w w' := by
  have N1 : ∀ W, Calls Tryz.prog 25 #[.agg #[.int .i64 v1.k, .int .i64 v1.n, .int .i64 v1.s, .string v1.t, .slice v1.na v1.nl v1.nc, .slice v1.ka v1.kl v1.kc]] W fun e w' => e = .returned (.bool v1.num) ∧ Grow W w' := fun W => isR_any v1.k v1.n v1.s v1.t v1.na v1.nl v1.nc v1.ka v1.kl v1.kc W
  have N2 : ∀ W, Calls Tryz.prog 25 #[.agg #[.int .i64 v2.k, .int .i64 v2.n, .int .i64 v2.s, .string v2.t, .slice v2.na v2.nl v2.nc, .slice v2.ka v2.kl v2.kc]] W fun e w' => e = .returned (.bool v2.num) ∧ Grow W w' := fun W => isR_any v2.k v2.n v2.s v2.t v2.na v2.nl v2.nc v2.ka v2.kl v2.kc W
  cases h1 : v1.num with
  | false =>
    rw [h1] at N1
    have e1 : cmpC v1 v2 = 0 := by simp [cmpC, h1]
    have e2 : cmpE v1 v2 = 11 := by simp [cmpE, h1]
    rw [e1, e2]
    exact rCompare_no1 v1 v2 N1 w
  | true =>
    rw [h1] at N1
    cases h2 : v2.num with
    | false =>
      rw [h2] at N2
      have e1 : cmpC v1 v2 = 0 := by simp [cmpC, h2]
      have e2 : cmpE v1 v2 = 11 := by simp [cmpE, h2]
      rw [e1, e2]
      exact rCompare_no2 v1 v2 N1 N2 w
    | true =>
      rw [h2] at N2
      have e1 : cmpC v1 v2 = nmI v1.n v1.s.toNat v2.n v2.s.toNat := by simp [cmpC, h1, h2]
      have e2 : cmpE v1 v2 = 0 := by simp [cmpE, h1, h2]
      rw [e1, e2]
      have hk1 := Vv.kind h1
      have hk2 := Vv.kind h2
      obtain ⟨x1, x2, x3, x4, x5, _, _⟩ := v1.is h1
      obtain ⟨y1, y2, y3, y4, y5, _, _⟩ := v2.is h2
      obtain ⟨k1, n1, s1, t1, na1, nl1, nc1, ka1, kl1, kc1⟩ := v1
      obtain ⟨k2, n2, s2, t2, na2, nl2, nc2, ka2, kl2, kc2⟩ := v2
      simp only at x1 x2 x3 x4 x5 y1 y2 y3 y4 y5 hk1 hk2 N1 N2 ⊢
      simp only [Vv.num] at h1 h2
      subst x1 x2 x3 y1 y2 y3
      generalize s1.toNat = q1 at *
      generalize s2.toNat = q2 at *
      subst x4 y4
      exact rCompare_of k1 n1 q1 na1 nc1 ka1 kc1 k2 n2 q2 na2 nc2 ka2 kc2 _ N1 N2 (fun W => orderR_num k1 n1 q1 na1 nc1 ka1 kc1 k2 n2 q2 na2 nc2 ka2 kc2 hk1 hk2 f1 f2 x5 y5 W) w
theorem reckons_walk (v1 v2 : Vv) (f1 : v1.fit) (f2 : v2.fit) (w : World) :
    Calls Tryz.prog 3 #[.agg #[.int .i64 v1.k, .int .i64 v1.n, .int .i64 v1.s, .string v1.t, .slice v1.na v1.nl v1.nc, .slice v1.ka v1.kl v1.kc], .agg #[.int .i64 v2.k, .int .i64 v2.n, .int .i64 v2.s, .string v2.t, .slice v2.na v2.nl v2.nc, .slice v2.ka v2.kl v2.kc]] w fun e w' => e = .returned (.bool true) ∧ Grow w w' := by
  have P1 : ∀ W, _ := fun W => plain_any v1 W
  have P2 : ∀ W, _ := fun W => plain_any v2 W
  cases h1 : pln v1 with
  | false =>
    rw [h1] at P1
    exact reckons_no1 v1 v2 P1 w
  | true =>
    rw [h1] at P1
    cases h2 : pln v2 with
    | false =>
      rw [h2] at P2
      exact reckons_no2 v1 v2 P1 P2 w
    | true =>
      rw [h2] at P2
      exact reckons_in v1 v2 (wayR .add v1 v2) (wayR .sub v1 v2) (wayR .mul v1 v2) (ngR v1) (cmpC v1 v2) (cmpE v1 v2) P1 P2 (fun W => add_any v1 v2 f1 f2 W) (fun W => radd_any v1 v2 f1 f2 W) (fun W => sub_any v1 v2 f1 f2 W) (fun W => rsub_any v1 v2 f1 f2 W) (fun W => mul_any v1 v2 f1 f2 W) (fun W => rmul_any v1 v2 f1 f2 W)
        (fun W => dneg_any v1 f1 W) (fun W => rneg_any v1 f1 W) (fun W => dCompare_any v1 v2 f1 f2 W) (fun W => rCompare_any v1 v2 f1 f2 W) w
end Go.Proofs.YtbafmdjlnmeofaaGreatDoor
