/-
  decimal's Add, Sub, Mul, Neg, Make: what they answer.
-/
import Derived.Test.YtbafmdjlnmeofaaGreatDoorOp
namespace Go.Proofs.YtbafmdjlnmeofaaGreatDoor
open Go.RowKit
set_option linter.unusedVariables false
/-- A value that is handed in, without what is below it. -/
structure Vv where
  k : Int
  n : Int
  s : Int
  t : ByteArray
  na : Option Addr
  nl : Nat
  nc : Nat
  ka : Option Addr
  kl : Nat
  kc : Nat
def Vv.num (v : Vv) : Bool := isNum v.k v.n v.s v.t v.nl v.kl
/-- Its number is one. -/
def Vv.fit (v : Vv) : Prop := -9223372036854775808 ≤ v.n ∧ v.n < 9223372036854775808
inductive Way where
  | add : Way
  | sub : Way
  | mul : Way
def addZ (n1 : Int) (s1 : Nat) (n2 : Int) (s2 : Nat) : Int := n1 * ((10 ^ (max s1 s2 - s1) : Nat) : Int) + n2 * ((10 ^ (max s1 s2 - s2) : Nat) : Int)
def Way.z : Way → Int → Nat → Int → Nat → Int
  | .add, n1, s1, n2, s2 => addZ n1 s1 n2 s2
  | .sub, n1, s1, n2, s2 => addZ n1 s1 (-n2) s2
  | .mul, n1, _, n2, _ => n1 * n2
def Way.s : Way → Nat → Nat → Nat
  | .mul, s1, s2 => s1 + s2
  | _, s1, s2 => max s1 s2
def wayR (o : Way) (v1 v2 : Vv) : Rs := if v1.num && v2.num then rs (o.z v1.n v1.s.toNat v2.n v2.s.toNat) (o.s v1.s.toNat v2.s.toNat) else .ty
theorem Vv.is {v : Vv} (h : v.num = true) : v.t = ⟨#[]⟩ ∧ v.nl = 0 ∧ v.kl = 0 ∧ v.s = (v.s.toNat : Int) ∧ v.s.toNat ≤ 18 ∧ (v.s.toNat = 0 ∨ v.n % 10 ≠ 0) ∧ v.k = kd v.s.toNat := by
  obtain ⟨h1, h2, h3, h4⟩ := isNum_yes h
  refine ⟨h1, h2, h3, ?_⟩
  rcases h4 with ⟨hk, hs⟩ | ⟨hk, a, b, c⟩
  · rw [hs, hk]
    exact ⟨rfl, by decide, .inl rfl, rfl⟩
  · refine ⟨by omega, by omega, .inr ?_, ?_⟩
    · intro e
      apply c
      rw [Int.tmod_eq_emod]
      split <;> omega
    · rw [hk]
      unfold kd
      rw [if_neg (by omega)]
theorem sgn_abs (n : Int) : sgn (decide (n < 0)) n.natAbs = n := by
  unfold sgn
  by_cases h : n < 0
  · simp [h]; omega
  · simp [h]; omega
theorem sgn_mul (b : Bool) (l p : Nat) : sgn b (l * p) = sgn b l * (p : Int) := by
  cases b <;> simp [sgn, Int.neg_mul]
/-- The sum of two numbers with their signs apart. -/
theorem plus_gen (b1 b2 : Bool) (l1 l2 s1 s2 : Nat) (a1 : l1 ≤ 9223372036854775808) (a2 : l2 ≤ 9223372036854775808) (q1 : s1 ≤ 18) (q2 : s2 ≤ 18) :
    ∃ (b : Bool) (h l m : Nat), Wd h l m ∧ sgn b m = addZ (sgn b1 l1) s1 (sgn b2 l2) s2 ∧ ∀ W, Calls Tryz.prog 24 #[.agg #[.bool b1, .int .u64 0, .int .u64 (l1 : Int), .int .i64 (s1 : Int)], .agg #[.bool b2, .int .u64 0, .int .u64 (l2 : Int), .int .i64 (s2 : Int)]] W fun e w' => e = .returned (.agg #[.bool b, .int .u64 (h : Int), .int .u64 (l : Int), .int .i64 ((max s1 s2 : Nat) : Int)]) ∧ Grow W w' := by
  unfold addZ
  rw [← sgn_mul, ← sgn_mul]
  obtain ⟨S, hS⟩ : ∃ S, max s1 s2 = S := ⟨_, rfl⟩
  rw [hS]
  obtain ⟨d1, hd1⟩ : ∃ d1, S - s1 = d1 := ⟨_, rfl⟩
  obtain ⟨d2, hd2⟩ : ∃ d2, S - s2 = d2 := ⟨_, rfl⟩
  rw [hd1, hd2]
  have e1 : S = s1 + d1 := by omega
  have e2 : S = s2 + d2 := by omega
  have mx : d1 = 0 ∨ d2 = 0 := by omega
  have p1 := pow_le (k := d1) (n := 18) (by omega)
  have p2 := pow_le (k := d2) (n := 18) (by omega)
  have m1 : l1 * 10 ^ d1 ≤ 9223372036854775808 * 10 ^ 18 := Nat.mul_le_mul a1 p1
  have m2 : l2 * 10 ^ d2 ≤ 9223372036854775808 * 10 ^ 18 := Nat.mul_le_mul a2 p2
  obtain ⟨ha, la, Wa⟩ := wd_of (l1 * 10 ^ d1) (Nat.lt_of_le_of_lt m1 (by decide))
  obtain ⟨hb, lb, Wb⟩ := wd_of (l2 * 10 ^ d2) (Nat.lt_of_le_of_lt m2 (by decide))
  by_cases hbb : b2 = b1
  · obtain ⟨h, l, Ws⟩ := wd_of (l1 * 10 ^ d1 + l2 * 10 ^ d2) (Nat.lt_of_le_of_lt (Nat.add_le_add m1 m2) (by decide))
    refine ⟨b1, h, l, _, Ws, ?_, fun W => plus_same b1 b2 0 l1 s1 0 l2 s2 S d1 d2 ha la hb lb h l e1 e2 mx (by omega) (by omega) (by omega) (by omega) (by omega) Wa Wb hbb Ws W⟩
    subst hbb
    cases b2 <;> simp [sgn] <;> omega
  · by_cases hle : l2 * 10 ^ d2 ≤ l1 * 10 ^ d1
    · obtain ⟨h, l, Ws⟩ := wd_of (l1 * 10 ^ d1 - l2 * 10 ^ d2) (Nat.lt_of_le_of_lt (Nat.sub_le _ _) (Nat.lt_of_le_of_lt m1 (by decide)))
      refine ⟨b1, h, l, _, Ws, ?_, fun W => plus_ge b1 b2 0 l1 s1 0 l2 s2 S d1 d2 ha la hb lb h l e1 e2 mx (by omega) (by omega) (by omega) (by omega) (by omega) Wa Wb (fun e => hbb e.symm) hle Ws W⟩
      generalize l1 * 10 ^ d1 = x at *
      generalize l2 * 10 ^ d2 = y at *
      cases b1 <;> cases b2 <;> simp_all [sgn] <;> omega
    · obtain ⟨h, l, Ws⟩ := wd_of (l2 * 10 ^ d2 - l1 * 10 ^ d1) (Nat.lt_of_le_of_lt (Nat.sub_le _ _) (Nat.lt_of_le_of_lt m2 (by decide)))
      refine ⟨b2, h, l, _, Ws, ?_, fun W => plus_lt b1 b2 0 l1 s1 0 l2 s2 S d1 d2 ha la hb lb h l e1 e2 mx (by omega) (by omega) (by omega) (by omega) (by omega) Wa Wb (fun e => hbb e.symm) (by omega) Ws W⟩
      generalize l1 * 10 ^ d1 = x at *
      generalize l2 * 10 ^ d2 = y at *
      cases b1 <;> cases b2 <;> simp_all [sgn] <;> omega
theorem sgn_not (b : Bool) (l : Nat) : sgn (!b) l = - sgn b l := by
  cases b <;> simp [sgn]
theorem sgn_mulI (b1 b2 : Bool) (l1 l2 : Nat) : sgn (b1 != b2) (l1 * l2) = sgn b1 l1 * sgn b2 l2 := by
  cases b1 <;> cases b2 <;> simp [sgn, Int.neg_mul, Int.mul_neg]
def Way.f : Way → Nat
  | .add => 24
  | .sub => 31
  | .mul => 33
/-- Each way to reckon, of two numbers. -/
theorem way_gen (o : Way) (n1 n2 : Int) (s1 s2 : Nat) (f1 : -9223372036854775808 ≤ n1 ∧ n1 < 9223372036854775808) (f2 : -9223372036854775808 ≤ n2 ∧ n2 < 9223372036854775808) (q1 : s1 ≤ 18) (q2 : s2 ≤ 18) :
    ∃ (b : Bool) (h l m : Nat), Wd h l m ∧ sgn b m = o.z n1 s1 n2 s2 ∧ ∀ W, Calls Tryz.prog o.f #[.agg #[.bool (decide (n1 < 0)), .int .u64 0, .int .u64 (n1.natAbs : Int), .int .i64 (s1 : Int)], .agg #[.bool (decide (n2 < 0)), .int .u64 0, .int .u64 (n2.natAbs : Int), .int .i64 (s2 : Int)]] W fun e w' => e = .returned (.agg #[.bool b, .int .u64 (h : Int), .int .u64 (l : Int), .int .i64 ((o.s s1 s2 : Nat) : Int)]) ∧ Grow W w' := by
  have g1 := sgn_abs n1
  have g2 := sgn_abs n2
  have l1 : n1.natAbs ≤ 9223372036854775808 := by omega
  have l2 : n2.natAbs ≤ 9223372036854775808 := by omega
  cases o
  · obtain ⟨b, h, l, m, e1, e2, e3⟩ := plus_gen (decide (n1 < 0)) (decide (n2 < 0)) n1.natAbs n2.natAbs s1 s2 l1 l2 q1 q2
    rw [g1, g2] at e2
    exact ⟨b, h, l, m, e1, e2, e3⟩
  · obtain ⟨b, h, l, m, e1, e2, e3⟩ := plus_gen (decide (n1 < 0)) (!decide (n2 < 0)) n1.natAbs n2.natAbs s1 s2 l1 l2 q1 q2
    rw [g1, sgn_not, g2] at e2
    exact ⟨b, h, l, m, e1, e2, fun W => minus_of (decide (n1 < 0)) (decide (n2 < 0)) b 0 n1.natAbs s1 0 n2.natAbs s2 h l (max s1 s2) e3 W⟩
  · have m1 : n1.natAbs * n2.natAbs ≤ 9223372036854775808 * 9223372036854775808 := Nat.mul_le_mul l1 l2
    obtain ⟨h, l, Ws⟩ := wd_of (n1.natAbs * n2.natAbs) (Nat.lt_of_le_of_lt m1 (by decide))
    refine ⟨decide (n1 < 0) != decide (n2 < 0), h, l, _, Ws, ?_, fun W => ?_⟩
    · rw [sgn_mulI, g1, g2]; rfl
    · have := times_any (decide (n1 < 0)) (decide (n2 < 0)) 0 n1.natAbs s1 0 n2.natAbs s2 h l (by omega) (by omega) (by omega) (by omega) Ws W
      rw [← Int.natCast_add] at this
      exact this
theorem way_enters (o : Way) : ∀ (args : Array Value) (w : World), (callFunc o.f args).run Tryz.prog w = .ok (.enter o.f args) w := by
  cases o
  · exact enters Tryz.func24 (by kernel_rfl) rfl
  · exact enters Tryz.func31 (by kernel_rfl) rfl
  · exact enters Tryz.func33 (by kernel_rfl) rfl
theorem reckon_any (o : Way) (v1 v2 : Vv) (f1 : v1.fit) (f2 : v2.fit) (w : World) :
    Calls Tryz.prog 23 #[.agg #[.int .i64 v1.k, .int .i64 v1.n, .int .i64 v1.s, .string v1.t, .slice v1.na v1.nl v1.nc, .slice v1.ka v1.kl v1.kc], .agg #[.int .i64 v2.k, .int .i64 v2.n, .int .i64 v2.s, .string v2.t, .slice v2.na v2.nl v2.nc, .slice v2.ka v2.kl v2.kc], .func (.func o.f) #[] #[]] w fun e w' => e = .returned (.tuple #[.agg #[.int .i64 (wayR o v1 v2).k, .int .i64 (wayR o v1 v2).n, .int .i64 (wayR o v1 v2).s, .string ⟨#[]⟩, .slice none 0 0, .slice none 0 0], .int .i64 (wayR o v1 v2).e]) ∧ Grow w w' := by
  cases h1 : v1.num with
  | false =>
    have e : wayR o v1 v2 = .ty := by simp [wayR, h1]
    rw [e]
    exact reckon_no_a v1.k v1.n v1.s v1.t v1.na v1.nl v1.nc v1.ka v1.kl v1.kc v2.k v2.n v2.s v2.t v2.na v2.nl v2.nc v2.ka v2.kl v2.kc h1 _ w
  | true =>
    cases h2 : v2.num with
    | false =>
      have e : wayR o v1 v2 = .ty := by simp [wayR, h2]
      rw [e]
      exact reckon_no_b v1.k v1.n v1.s v1.t v1.na v1.nl v1.nc v1.ka v1.kl v1.kc v2.k v2.n v2.s v2.t v2.na v2.nl v2.nc v2.ka v2.kl v2.kc h1 h2 _ w
    | true =>
      obtain ⟨r, hr⟩ : ∃ r, wayR o v1 v2 = r := ⟨_, rfl⟩
      have hr2 : rs (o.z v1.n v1.s.toNat v2.n v2.s.toNat) (o.s v1.s.toNat v2.s.toNat) = r := by rw [← hr]; simp [wayR, h1, h2]
      rw [hr]
      obtain ⟨x1, x2, x3, x4, x5, _, _⟩ := v1.is h1
      obtain ⟨y1, y2, y3, y4, y5, _, _⟩ := v2.is h2
      obtain ⟨b, h, l, m, e1, e2, e3⟩ := way_gen o v1.n v2.n v1.s.toNat v2.s.toNat f1 f2 x5 y5
      obtain ⟨k1, n1, s1, t1, na1, nl1, nc1, ka1, kl1, kc1⟩ := v1
      obtain ⟨k2, n2, s2, t2, na2, nl2, nc2, ka2, kl2, kc2⟩ := v2
      simp only at x1 x2 x3 x4 x5 y1 y2 y3 y4 y5 e2 e3 hr2 ⊢
      simp only [Vv.num] at h1 h2
      subst x1 x2 x3 y1 y2 y3
      generalize s1.toNat = q1 at *
      generalize s2.toNat = q2 at *
      subst x4 y4
      have hS : o.s q1 q2 < 9223372036854775808 := by
        cases o <;> simp only [Way.s] <;> omega
      exact reckon_yes k1 n1 q1 na1 nc1 ka1 kc1 k2 n2 q2 na2 nc2 ka2 kc2 h1 h2 o.f (way_enters o) (decide (n1 < 0)) (decide (n2 < 0)) b n1.natAbs n2.natAbs h l (o.s q1 q2) r (fun W => numberOf_any n1 q1 _ rfl _ rfl f1.1 f1.2 W) (fun W => numberOf_any n2 q2 _ rfl _ rfl f2.1 f2.2 W) e3 (fun W => value_any b h l m (o.s q1 q2) hS e1 r (by rw [e2]; exact hr2) W) w
set_option maxRecDepth 8000 in
theorem add_any (v1 v2 : Vv) (f1 : v1.fit) (f2 : v2.fit) (w : World) :
    Calls Tryz.prog 6 #[.agg #[.int .i64 v1.k, .int .i64 v1.n, .int .i64 v1.s, .string v1.t, .slice v1.na v1.nl v1.nc, .slice v1.ka v1.kl v1.kc], .agg #[.int .i64 v2.k, .int .i64 v2.n, .int .i64 v2.s, .string v2.t, .slice v2.na v2.nl v2.nc, .slice v2.ka v2.kl v2.kc]] w fun e w' => e = .returned (.tuple #[.agg #[.int .i64 (wayR .add v1 v2).k, .int .i64 (wayR .add v1 v2).n, .int .i64 (wayR .add v1 v2).s, .string ⟨#[]⟩, .slice none 0 0, .slice none 0 0], .int .i64 (wayR .add v1 v2).e]) ∧ Grow w w' := by
  have K : Hid (∀ W, Calls Tryz.prog 23 #[.agg #[.int .i64 v1.k, .int .i64 v1.n, .int .i64 v1.s, .string v1.t, .slice v1.na v1.nl v1.nc, .slice v1.ka v1.kl v1.kc], .agg #[.int .i64 v2.k, .int .i64 v2.n, .int .i64 v2.s, .string v2.t, .slice v2.na v2.nl v2.nc, .slice v2.ka v2.kl v2.kc], .func (.func 24) #[] #[]] W fun e w' => e = .returned (.tuple #[.agg #[.int .i64 (wayR .add v1 v2).k, .int .i64 (wayR .add v1 v2).n, .int .i64 (wayR .add v1 v2).s, .string ⟨#[]⟩, .slice none 0 0, .slice none 0 0], .int .i64 (wayR .add v1 v2).e]) ∧ Grow W w') := fun W => reckon_any .add v1 v2 f1 f2 W
  generalize wayR .add v1 v2 = r at *
  clear f1 f2
  go_enter Tryz.func6, Tryz.ntmps6
  go_wp2_with fail
  obtain ⟨w1, HW1⟩ : ∃ w1, (((w.alloc (Obj.cells #[.int .i64 v1.k, .int .i64 v1.n, .int .i64 v1.s, .string v1.t, .slice v1.na v1.nl v1.nc, .slice v1.ka v1.kl v1.kc] 25)).alloc (Obj.cells #[.int .i64 v2.k, .int .i64 v2.n, .int .i64 v2.s, .string v2.t, .slice v2.na v2.nl v2.nc, .slice v2.ka v2.kl v2.kc] 25)).alloc (Obj.cells #[.int .i64 0, .int .i64 0, .int .i64 0, .string ⟨#[]⟩, .slice none 0 0, .slice none 0 0] 25)) = w1 := ⟨_, rfl⟩
  obtain ⟨C, hC⟩ : ∃ C : World → Prop, C = fun W => Grow w1 W := ⟨_, rfl⟩
  have GW : Hid (∀ W, C W → Grow w W) := fun W hW => by rw [hC, ← HW1] at hW; exact Grow.trans ((((Grow.refl _).alloc _).alloc _).alloc _) hW
  have B0 : Hid (∀ W, C W → Blk W (w.heap.size) 25 [.int .i64 v1.k, .int .i64 v1.n, .int .i64 v1.s, .string v1.t, .slice v1.na v1.nl v1.nc, .slice v1.ka v1.kl v1.kc]) := fun W hW => by rw [hC, ← HW1] at hW; exact Blk.grow (Blk.alloc (Blk.alloc (blk_at rfl) _) _) hW
  have B1 : Hid (∀ W, C W → Blk W (w.heap.size + 1) 25 [.int .i64 v2.k, .int .i64 v2.n, .int .i64 v2.s, .string v2.t, .slice v2.na v2.nl v2.nc, .slice v2.ka v2.kl v2.kc]) := fun W hW => by rw [hC, ← HW1] at hW; exact Blk.grow (Blk.alloc (blk_at (by simp)) _) hW
  have B2 : Hid (∀ W, C W → Blk W (w.heap.size + 2) 25 [.int .i64 0, .int .i64 0, .int .i64 0, .string ⟨#[]⟩, .slice none 0 0, .slice none 0 0]) := fun W hW => by rw [hC, ← HW1] at hW; exact Blk.grow (blk_at (by simp)) hW
  have CG : Hid (∀ W W', C W → Grow W W' → C W') := fun W W' h1 h2 => by rw [hC] at h1 ⊢; exact h1.trans h2
  have CW : Hid (C w1) := by rw [hC]; exact Grow.refl _
  rw [HW1]
  clear HW1 hC
  refine (K.out _).mono ?_
  rintro e w2 ⟨rfl, g2⟩
  have HB : Hid (Blk w2 (w.heap.size + 2) 25 [.int .i64 0, .int .i64 0, .int .i64 0, .string ⟨#[]⟩, .slice none 0 0, .slice none 0 0] ∧ Grow w w2) := ⟨(B2.out _ CW.out).grow g2, (GW.out _ CW.out).trans g2⟩
  clear B0 B1 B2 GW CG CW g2 K
  go_wp2_with (refine st_all rfl 25 (.tmp 4) (.tmp 9) rfl (w.heap.size + 2) 25 [.int .i64 0, .int .i64 0, .int .i64 0, .string ⟨#[]⟩, .slice none 0 0, .slice none 0 0] [.int .i64 r.k, .int .i64 r.n, .int .i64 r.s, .string ⟨#[]⟩, .slice none 0 0, .slice none 0 0] rfl rfl HB.out.1 rfl sV (ones rfl) ?_)
  intro w5 b5 g5
  have HB5 : Hid (Blk w5 (w.heap.size + 2) 25 [.int .i64 r.k, .int .i64 r.n, .int .i64 r.s, .string ⟨#[]⟩, .slice none 0 0, .slice none 0 0]) := b5
  have HG5 : Hid (Grow w w5) := Below.grown HB.out.2 g5 HB.out.2.size (by intro e he; injection he with he; omega)
  clear b5 g5 HB
  go_wp2
  exact bodyPost_ret (res_two rfl _ (w.heap.size + 2) 25 _ _ rfl HB5.out Tryz.underlying25 rfl sV) rfl ⟨rfl, HG5.out⟩
set_option maxRecDepth 8000 in
theorem sub_any (v1 v2 : Vv) (f1 : v1.fit) (f2 : v2.fit) (w : World) :
    Calls Tryz.prog 8 #[.agg #[.int .i64 v1.k, .int .i64 v1.n, .int .i64 v1.s, .string v1.t, .slice v1.na v1.nl v1.nc, .slice v1.ka v1.kl v1.kc], .agg #[.int .i64 v2.k, .int .i64 v2.n, .int .i64 v2.s, .string v2.t, .slice v2.na v2.nl v2.nc, .slice v2.ka v2.kl v2.kc]] w fun e w' => e = .returned (.tuple #[.agg #[.int .i64 (wayR .sub v1 v2).k, .int .i64 (wayR .sub v1 v2).n, .int .i64 (wayR .sub v1 v2).s, .string ⟨#[]⟩, .slice none 0 0, .slice none 0 0], .int .i64 (wayR .sub v1 v2).e]) ∧ Grow w w' := by
  have K : Hid (∀ W, Calls Tryz.prog 23 #[.agg #[.int .i64 v1.k, .int .i64 v1.n, .int .i64 v1.s, .string v1.t, .slice v1.na v1.nl v1.nc, .slice v1.ka v1.kl v1.kc], .agg #[.int .i64 v2.k, .int .i64 v2.n, .int .i64 v2.s, .string v2.t, .slice v2.na v2.nl v2.nc, .slice v2.ka v2.kl v2.kc], .func (.func 31) #[] #[]] W fun e w' => e = .returned (.tuple #[.agg #[.int .i64 (wayR .sub v1 v2).k, .int .i64 (wayR .sub v1 v2).n, .int .i64 (wayR .sub v1 v2).s, .string ⟨#[]⟩, .slice none 0 0, .slice none 0 0], .int .i64 (wayR .sub v1 v2).e]) ∧ Grow W w') := fun W => reckon_any .sub v1 v2 f1 f2 W
  generalize wayR .sub v1 v2 = r at *
  clear f1 f2
  go_enter Tryz.func8, Tryz.ntmps8
  go_wp2_with fail
  obtain ⟨w1, HW1⟩ : ∃ w1, (((w.alloc (Obj.cells #[.int .i64 v1.k, .int .i64 v1.n, .int .i64 v1.s, .string v1.t, .slice v1.na v1.nl v1.nc, .slice v1.ka v1.kl v1.kc] 25)).alloc (Obj.cells #[.int .i64 v2.k, .int .i64 v2.n, .int .i64 v2.s, .string v2.t, .slice v2.na v2.nl v2.nc, .slice v2.ka v2.kl v2.kc] 25)).alloc (Obj.cells #[.int .i64 0, .int .i64 0, .int .i64 0, .string ⟨#[]⟩, .slice none 0 0, .slice none 0 0] 25)) = w1 := ⟨_, rfl⟩
  obtain ⟨C, hC⟩ : ∃ C : World → Prop, C = fun W => Grow w1 W := ⟨_, rfl⟩
  have GW : Hid (∀ W, C W → Grow w W) := fun W hW => by rw [hC, ← HW1] at hW; exact Grow.trans ((((Grow.refl _).alloc _).alloc _).alloc _) hW
  have B0 : Hid (∀ W, C W → Blk W (w.heap.size) 25 [.int .i64 v1.k, .int .i64 v1.n, .int .i64 v1.s, .string v1.t, .slice v1.na v1.nl v1.nc, .slice v1.ka v1.kl v1.kc]) := fun W hW => by rw [hC, ← HW1] at hW; exact Blk.grow (Blk.alloc (Blk.alloc (blk_at rfl) _) _) hW
  have B1 : Hid (∀ W, C W → Blk W (w.heap.size + 1) 25 [.int .i64 v2.k, .int .i64 v2.n, .int .i64 v2.s, .string v2.t, .slice v2.na v2.nl v2.nc, .slice v2.ka v2.kl v2.kc]) := fun W hW => by rw [hC, ← HW1] at hW; exact Blk.grow (Blk.alloc (blk_at (by simp)) _) hW
  have B2 : Hid (∀ W, C W → Blk W (w.heap.size + 2) 25 [.int .i64 0, .int .i64 0, .int .i64 0, .string ⟨#[]⟩, .slice none 0 0, .slice none 0 0]) := fun W hW => by rw [hC, ← HW1] at hW; exact Blk.grow (blk_at (by simp)) hW
  have CG : Hid (∀ W W', C W → Grow W W' → C W') := fun W W' h1 h2 => by rw [hC] at h1 ⊢; exact h1.trans h2
  have CW : Hid (C w1) := by rw [hC]; exact Grow.refl _
  rw [HW1]
  clear HW1 hC
  refine (K.out _).mono ?_
  rintro e w2 ⟨rfl, g2⟩
  have HB : Hid (Blk w2 (w.heap.size + 2) 25 [.int .i64 0, .int .i64 0, .int .i64 0, .string ⟨#[]⟩, .slice none 0 0, .slice none 0 0] ∧ Grow w w2) := ⟨(B2.out _ CW.out).grow g2, (GW.out _ CW.out).trans g2⟩
  clear B0 B1 B2 GW CG CW g2 K
  go_wp2_with (refine st_all rfl 25 (.tmp 4) (.tmp 9) rfl (w.heap.size + 2) 25 [.int .i64 0, .int .i64 0, .int .i64 0, .string ⟨#[]⟩, .slice none 0 0, .slice none 0 0] [.int .i64 r.k, .int .i64 r.n, .int .i64 r.s, .string ⟨#[]⟩, .slice none 0 0, .slice none 0 0] rfl rfl HB.out.1 rfl sV (ones rfl) ?_)
  intro w5 b5 g5
  have HB5 : Hid (Blk w5 (w.heap.size + 2) 25 [.int .i64 r.k, .int .i64 r.n, .int .i64 r.s, .string ⟨#[]⟩, .slice none 0 0, .slice none 0 0]) := b5
  have HG5 : Hid (Grow w w5) := Below.grown HB.out.2 g5 HB.out.2.size (by intro e he; injection he with he; omega)
  clear b5 g5 HB
  go_wp2
  exact bodyPost_ret (res_two rfl _ (w.heap.size + 2) 25 _ _ rfl HB5.out Tryz.underlying25 rfl sV) rfl ⟨rfl, HG5.out⟩
set_option maxRecDepth 8000 in
theorem mul_any (v1 v2 : Vv) (f1 : v1.fit) (f2 : v2.fit) (w : World) :
    Calls Tryz.prog 10 #[.agg #[.int .i64 v1.k, .int .i64 v1.n, .int .i64 v1.s, .string v1.t, .slice v1.na v1.nl v1.nc, .slice v1.ka v1.kl v1.kc], .agg #[.int .i64 v2.k, .int .i64 v2.n, .int .i64 v2.s, .string v2.t, .slice v2.na v2.nl v2.nc, .slice v2.ka v2.kl v2.kc]] w fun e w' => e = .returned (.tuple #[.agg #[.int .i64 (wayR .mul v1 v2).k, .int .i64 (wayR .mul v1 v2).n, .int .i64 (wayR .mul v1 v2).s, .string ⟨#[]⟩, .slice none 0 0, .slice none 0 0], .int .i64 (wayR .mul v1 v2).e]) ∧ Grow w w' := by
  have K : Hid (∀ W, Calls Tryz.prog 23 #[.agg #[.int .i64 v1.k, .int .i64 v1.n, .int .i64 v1.s, .string v1.t, .slice v1.na v1.nl v1.nc, .slice v1.ka v1.kl v1.kc], .agg #[.int .i64 v2.k, .int .i64 v2.n, .int .i64 v2.s, .string v2.t, .slice v2.na v2.nl v2.nc, .slice v2.ka v2.kl v2.kc], .func (.func 33) #[] #[]] W fun e w' => e = .returned (.tuple #[.agg #[.int .i64 (wayR .mul v1 v2).k, .int .i64 (wayR .mul v1 v2).n, .int .i64 (wayR .mul v1 v2).s, .string ⟨#[]⟩, .slice none 0 0, .slice none 0 0], .int .i64 (wayR .mul v1 v2).e]) ∧ Grow W w') := fun W => reckon_any .mul v1 v2 f1 f2 W
  generalize wayR .mul v1 v2 = r at *
  clear f1 f2
  go_enter Tryz.func10, Tryz.ntmps10
  go_wp2_with fail
  obtain ⟨w1, HW1⟩ : ∃ w1, (((w.alloc (Obj.cells #[.int .i64 v1.k, .int .i64 v1.n, .int .i64 v1.s, .string v1.t, .slice v1.na v1.nl v1.nc, .slice v1.ka v1.kl v1.kc] 25)).alloc (Obj.cells #[.int .i64 v2.k, .int .i64 v2.n, .int .i64 v2.s, .string v2.t, .slice v2.na v2.nl v2.nc, .slice v2.ka v2.kl v2.kc] 25)).alloc (Obj.cells #[.int .i64 0, .int .i64 0, .int .i64 0, .string ⟨#[]⟩, .slice none 0 0, .slice none 0 0] 25)) = w1 := ⟨_, rfl⟩
  obtain ⟨C, hC⟩ : ∃ C : World → Prop, C = fun W => Grow w1 W := ⟨_, rfl⟩
  have GW : Hid (∀ W, C W → Grow w W) := fun W hW => by rw [hC, ← HW1] at hW; exact Grow.trans ((((Grow.refl _).alloc _).alloc _).alloc _) hW
  have B0 : Hid (∀ W, C W → Blk W (w.heap.size) 25 [.int .i64 v1.k, .int .i64 v1.n, .int .i64 v1.s, .string v1.t, .slice v1.na v1.nl v1.nc, .slice v1.ka v1.kl v1.kc]) := fun W hW => by rw [hC, ← HW1] at hW; exact Blk.grow (Blk.alloc (Blk.alloc (blk_at rfl) _) _) hW
  have B1 : Hid (∀ W, C W → Blk W (w.heap.size + 1) 25 [.int .i64 v2.k, .int .i64 v2.n, .int .i64 v2.s, .string v2.t, .slice v2.na v2.nl v2.nc, .slice v2.ka v2.kl v2.kc]) := fun W hW => by rw [hC, ← HW1] at hW; exact Blk.grow (Blk.alloc (blk_at (by simp)) _) hW
  have B2 : Hid (∀ W, C W → Blk W (w.heap.size + 2) 25 [.int .i64 0, .int .i64 0, .int .i64 0, .string ⟨#[]⟩, .slice none 0 0, .slice none 0 0]) := fun W hW => by rw [hC, ← HW1] at hW; exact Blk.grow (blk_at (by simp)) hW
  have CG : Hid (∀ W W', C W → Grow W W' → C W') := fun W W' h1 h2 => by rw [hC] at h1 ⊢; exact h1.trans h2
  have CW : Hid (C w1) := by rw [hC]; exact Grow.refl _
  rw [HW1]
  clear HW1 hC
  refine (K.out _).mono ?_
  rintro e w2 ⟨rfl, g2⟩
  have HB : Hid (Blk w2 (w.heap.size + 2) 25 [.int .i64 0, .int .i64 0, .int .i64 0, .string ⟨#[]⟩, .slice none 0 0, .slice none 0 0] ∧ Grow w w2) := ⟨(B2.out _ CW.out).grow g2, (GW.out _ CW.out).trans g2⟩
  clear B0 B1 B2 GW CG CW g2 K
  go_wp2_with (refine st_all rfl 25 (.tmp 4) (.tmp 9) rfl (w.heap.size + 2) 25 [.int .i64 0, .int .i64 0, .int .i64 0, .string ⟨#[]⟩, .slice none 0 0, .slice none 0 0] [.int .i64 r.k, .int .i64 r.n, .int .i64 r.s, .string ⟨#[]⟩, .slice none 0 0, .slice none 0 0] rfl rfl HB.out.1 rfl sV (ones rfl) ?_)
  intro w5 b5 g5
  have HB5 : Hid (Blk w5 (w.heap.size + 2) 25 [.int .i64 r.k, .int .i64 r.n, .int .i64 r.s, .string ⟨#[]⟩, .slice none 0 0, .slice none 0 0]) := b5
  have HG5 : Hid (Grow w w5) := Below.grown HB.out.2 g5 HB.out.2.size (by intro e he; injection he with he; omega)
  clear b5 g5 HB
  go_wp2
  exact bodyPost_ret (res_two rfl _ (w.heap.size + 2) 25 _ _ rfl HB5.out Tryz.underlying25 rfl sV) rfl ⟨rfl, HG5.out⟩
set_option maxRecDepth 8000 in
theorem make_no (n s : Int) (hs : s < 0) (w : World) :
    Calls Tryz.prog 41 #[.int .i64 n, .int .i64 s] w fun e w' => e = .returned (.tuple #[.agg #[.int .i64 0, .int .i64 0, .int .i64 0, .string ⟨#[]⟩, .slice none 0 0, .slice none 0 0], .int .i64 10]) ∧ Grow w w' := by
  go_enter Tryz.func41, Tryz.ntmps41
  go_wp2
  exact bodyPost_ret (res_two rfl _ w.heap.size 25 _ _ rfl (blk_at rfl) Tryz.underlying25 rfl sV) rfl ⟨rfl, (Grow.refl _).alloc _⟩
set_option maxRecDepth 8000 in
theorem make_yes (n : Int) (s : Nat) (hs : s < 9223372036854775808) (f : -9223372036854775808 ≤ n ∧ n < 9223372036854775808) (r : Rs) (hr : rs n s = r) (w : World) :
    Calls Tryz.prog 41 #[.int .i64 n, .int .i64 (s : Int)] w fun e w' => e = .returned (.tuple #[.agg #[.int .i64 r.k, .int .i64 r.n, .int .i64 r.s, .string ⟨#[]⟩, .slice none 0 0, .slice none 0 0], .int .i64 r.e]) ∧ Grow w w' := by
  have g := sgn_abs n
  have K1 : Hid (∀ W, Calls Tryz.prog 36 #[.int .i64 n, .int .i64 (s : Int)] W fun e w' => e = .returned (.agg #[.bool (decide (n < 0)), .int .u64 0, .int .u64 (n.natAbs : Int), .int .i64 (s : Int)]) ∧ Grow W w') := fun W => numberOf_any n s _ rfl _ rfl f.1 f.2 W
  have K2 : Hid (∀ W, Calls Tryz.prog 38 #[.agg #[.bool (decide (n < 0)), .int .u64 0, .int .u64 (n.natAbs : Int), .int .i64 (s : Int)]] W fun e w' => e = .returned (.tuple #[.agg #[.int .i64 r.k, .int .i64 r.n, .int .i64 r.s, .string ⟨#[]⟩, .slice none 0 0, .slice none 0 0], .int .i64 r.e]) ∧ Grow W w') := fun W => value_any (decide (n < 0)) 0 n.natAbs n.natAbs s hs ⟨by omega, by omega, by omega⟩ r (by rw [g]; exact hr) W
  generalize n.natAbs = A at *
  generalize decide (n < 0) = B at *
  clear g f hr
  go_enter Tryz.func41, Tryz.ntmps41
  go_wp2_with fail
  obtain ⟨w1, HW1⟩ : ∃ w1, (w.alloc (Obj.cells #[.int .i64 0, .int .i64 0, .int .i64 0, .string ⟨#[]⟩, .slice none 0 0, .slice none 0 0] 25)) = w1 := ⟨_, rfl⟩
  obtain ⟨C, hC⟩ : ∃ C : World → Prop, C = fun W => Grow w1 W := ⟨_, rfl⟩
  have GW : Hid (∀ W, C W → Grow w W) := fun W hW => by rw [hC, ← HW1] at hW; exact Grow.trans ((Grow.refl _).alloc _) hW
  have B0 : Hid (∀ W, C W → Blk W (w.heap.size) 25 [.int .i64 0, .int .i64 0, .int .i64 0, .string ⟨#[]⟩, .slice none 0 0, .slice none 0 0]) := fun W hW => by rw [hC, ← HW1] at hW; exact Blk.grow (blk_at rfl) hW
  have CG : Hid (∀ W W', C W → Grow W W' → C W') := fun W W' h1 h2 => by rw [hC] at h1 ⊢; exact h1.trans h2
  have CW : Hid (C w1) := by rw [hC]; exact Grow.refl _
  rw [HW1]
  clear HW1 hC
  refine (K1.out _).mono ?_
  rintro e w2 ⟨rfl, g2⟩
  go_wp2_with fail
  refine (K2.out _).mono ?_
  rintro e w3 ⟨rfl, g3⟩
  have HB : Hid (Blk w3 w.heap.size 25 [.int .i64 0, .int .i64 0, .int .i64 0, .string ⟨#[]⟩, .slice none 0 0, .slice none 0 0] ∧ Grow w w3) := ⟨((B0.out _ CW.out).grow g2).grow g3, ((GW.out _ CW.out).trans g2).trans g3⟩
  clear B0 GW CG CW g2 g3 K1 K2
  go_wp2_with (refine st_all rfl 25 (.tmp 4) (.tmp 13) rfl w.heap.size 25 [.int .i64 0, .int .i64 0, .int .i64 0, .string ⟨#[]⟩, .slice none 0 0, .slice none 0 0] [.int .i64 r.k, .int .i64 r.n, .int .i64 r.s, .string ⟨#[]⟩, .slice none 0 0, .slice none 0 0] rfl rfl HB.out.1 rfl sV (ones rfl) ?_)
  intro w5 b5 g5
  have HB5 : Hid (Blk w5 w.heap.size 25 [.int .i64 r.k, .int .i64 r.n, .int .i64 r.s, .string ⟨#[]⟩, .slice none 0 0, .slice none 0 0]) := b5
  have HG5 : Hid (Grow w w5) := Below.grown HB.out.2 g5 HB.out.2.size (by intro e he; injection he with he; omega)
  clear b5 g5 HB
  go_wp2
  exact bodyPost_ret (res_two rfl _ w.heap.size 25 _ _ rfl HB5.out Tryz.underlying25 rfl sV) rfl ⟨rfl, HG5.out⟩
/-- What Make answers. -/
def mkR (n s : Int) : Rs := if s < 0 then .rg else rs n s.toNat
theorem make_any (n s : Int) (f : -9223372036854775808 ≤ n ∧ n < 9223372036854775808) (hs : s < 9223372036854775808) (w : World) :
    Calls Tryz.prog 41 #[.int .i64 n, .int .i64 s] w fun e w' => e = .returned (.tuple #[.agg #[.int .i64 (mkR n s).k, .int .i64 (mkR n s).n, .int .i64 (mkR n s).s, .string ⟨#[]⟩, .slice none 0 0, .slice none 0 0], .int .i64 (mkR n s).e]) ∧ Grow w w' := by
  by_cases h : s < 0
  · have e : mkR n s = .rg := by simp [mkR, h]
    rw [e]
    exact make_no n s h w
  · have e : mkR n s = rs n s.toNat := by simp [mkR, h]
    rw [e]
    have := make_yes n s.toNat (by omega) f _ rfl w
    rw [show ((s.toNat : Nat) : Int) = s by omega] at this
    exact this
end Go.Proofs.YtbafmdjlnmeofaaGreatDoor
