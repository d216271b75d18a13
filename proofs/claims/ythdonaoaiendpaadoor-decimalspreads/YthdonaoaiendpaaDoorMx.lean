/-
  What the ways to reckon make, over integers.
-/
import Derived.Test.YthdonaoaiendpaaDoorCp
namespace Go.Proofs.YthdonaoaiendpaaDoor
set_option linter.unusedVariables false
theorem rs_same {z z' : Int} {s s' : Nat} (h : z * ((10 ^ s' : Nat) : Int) = z' * ((10 ^ s : Nat) : Int)) : rs z s = rs z' s' := by
  unfold rs
  rw [res_same h]
theorem rs_some {z : Int} {s : Nat} {y : Int} {t : Nat} (h : rs z s = .ok y t) : Nu y t ∧ y * ((10 ^ s : Nat) : Int) = z * ((10 ^ t : Nat) : Int) ∧ t ≤ s := by
  apply res_some
  unfold rs at h
  cases hr : res z s with
  | none => rw [hr] at h; cases h
  | some p =>
    obtain ⟨a, b⟩ := p
    rw [hr] at h
    simp only [Rs.ok.injEq] at h
    rw [h.1, h.2]
theorem rs_of {y : Int} {t : Nat} (h : Nu y t) : rs y t = .ok y t := by
  unfold rs
  rw [h.res]
theorem rs_not {z : Int} {s : Nat} : rs z s ≠ .ty := by
  unfold rs
  cases res z s with
  | none => intro h; cases h
  | some p => intro h; cases h
/-- A result as a value. -/
def Rs.vv (r : Rs) : Vv := ⟨r.k, r.n, r.s, ⟨#[]⟩, none, 0, 0, none, 0, 0⟩
theorem Nu.num {y : Int} {t : Nat} (h : Nu y t) : (Rs.ok y t).vv.num = true := by
  show isNum (kd t) y (t : Int) ⟨#[]⟩ 0 0 = true
  by_cases h0 : t = 0
  · subst h0
    simp [isNum, kd]
  · have h1 : 1 ≤ (t : Int) := by omega
    have h2 : (t : Int) ≤ 18 := by have := h.t1; omega
    have h3 : ¬ y.tmod 10 = 0 := by
      rcases h.red with h | h
      · omega
      · intro e
        apply h
        rw [Int.tmod_eq_emod] at e
        split at e <;> omega
    simp [isNum, kd, h0, h2, h3]
    omega
theorem Nu.fit {y : Int} {t : Nat} (h : Nu y t) : (Rs.ok y t).vv.fit := ⟨h.n0, h.n1⟩
theorem zero_fit : (Rs.rg).vv.fit := by
  show (-9223372036854775808 : Int) ≤ 0 ∧ (0 : Int) < 9223372036854775808
  omega
theorem Vv.nu {v : Vv} (h : v.num = true) (f : v.fit) : Nu v.n v.s.toNat := by
  obtain ⟨_, _, _, _, h5, h6, _⟩ := v.is h
  exact ⟨f.1, f.2, h5, h6⟩
theorem tenI (n : Nat) : (0 : Int) < ((10 ^ n : Nat) : Int) := by have := ten_pos n; omega
theorem pow_addI (a b : Nat) : ((10 ^ (a + b) : Nat) : Int) = ((10 ^ a : Nat) : Int) * ((10 ^ b : Nat) : Int) := by rw [Nat.pow_add, Int.natCast_mul]
theorem addZ_eq (n1 : Int) (s1 : Nat) (n2 : Int) (s2 : Nat) : addZ n1 s1 n2 s2 * (((10 ^ s1 : Nat) : Int) * ((10 ^ s2 : Nat) : Int)) = (n1 * ((10 ^ s2 : Nat) : Int) + n2 * ((10 ^ s1 : Nat) : Int)) * ((10 ^ (max s1 s2) : Nat) : Int) := by
  unfold addZ
  have e1 : ((10 ^ (max s1 s2) : Nat) : Int) = ((10 ^ (max s1 s2 - s1) : Nat) : Int) * ((10 ^ s1 : Nat) : Int) := by rw [← pow_addI]; congr 2; omega
  have e2 : ((10 ^ (max s1 s2) : Nat) : Int) = ((10 ^ (max s1 s2 - s2) : Nat) : Int) * ((10 ^ s2 : Nat) : Int) := by rw [← pow_addI]; congr 2; omega
  generalize ((10 ^ (max s1 s2 - s1) : Nat) : Int) = D1 at *
  generalize ((10 ^ (max s1 s2 - s2) : Nat) : Int) = D2 at *
  generalize ((10 ^ (max s1 s2) : Nat) : Int) = Q at *
  generalize ((10 ^ s1 : Nat) : Int) = P1 at *
  generalize ((10 ^ s2 : Nat) : Int) = P2 at *
  have h1 : n1 * P2 * Q = n1 * P2 * (D1 * P1) := by rw [e1]
  have h2 : n2 * P1 * Q = n2 * P1 * (D2 * P2) := by rw [e2]
  rw [Int.add_mul (n1 * P2), h1, h2]
  grind
theorem addZ_comm (n1 : Int) (s1 : Nat) (n2 : Int) (s2 : Nat) : addZ n1 s1 n2 s2 = addZ n2 s2 n1 s1 := by
  unfold addZ
  rw [Nat.max_comm s2 s1, Int.add_comm]
theorem wayR_num {o : Way} {v1 v2 : Vv} (h1 : v1.num = true) (h2 : v2.num = true) : wayR o v1 v2 = rs (o.z v1.n v1.s.toNat v2.n v2.s.toNat) (o.s v1.s.toNat v2.s.toNat) := by
  simp [wayR, h1, h2]
theorem add_turn {v1 v2 : Vv} (h1 : v1.num = true) (h2 : v2.num = true) : wayR .add v1 v2 = wayR .add v2 v1 := by
  rw [wayR_num h1 h2, wayR_num h2 h1]
  show rs (addZ _ _ _ _) (max _ _) = rs (addZ _ _ _ _) (max _ _)
  rw [addZ_comm, Nat.max_comm]
theorem mul_turn {v1 v2 : Vv} (h1 : v1.num = true) (h2 : v2.num = true) : wayR .mul v1 v2 = wayR .mul v2 v1 := by
  rw [wayR_num h1 h2, wayR_num h2 h1]
  show rs (_ * _) (_ + _) = rs (_ * _) (_ + _)
  rw [Int.mul_comm, Nat.add_comm]
theorem cancel {a b k : Int} (hk : 0 < k) (h : a * k = b * k) : a = b := Int.eq_of_mul_eq_mul_right (by omega) h
theorem back_eq {z z' y n1 n2 P1 P2 Q T Q' : Int} (i : z * (P1 * P2) = (n1 * P2 + n2 * P1) * Q) (ii : y * Q = z * T) (iii : z' * (T * P2) = (y * P2 + -n2 * T) * Q') : z' * P1 * (T * P2 * Q) = n1 * Q' * (T * P2 * Q) := by
  have a1 : z' * P1 * (T * P2 * Q) = z' * (T * P2) * (P1 * Q) := by grind
  rw [a1, iii]
  have a2 : (y * P2 + -n2 * T) * Q' * (P1 * Q) = (y * Q) * (P1 * P2) * Q' - n2 * T * Q' * P1 * Q := by grind
  rw [a2, ii]
  have a3 : z * T * (P1 * P2) * Q' = z * (P1 * P2) * (T * Q') := by grind
  rw [a3, i]
  grind
/-- What is added and taken away again is what it was. -/
theorem sub_back {v1 v2 : Vv} (h1 : v1.num = true) (h2 : v2.num = true) (f1 : v1.fit) {y : Int} {t : Nat} (h : wayR .add v1 v2 = .ok y t) : wayR .sub (Rs.ok y t).vv v2 = .ok v1.n v1.s.toNat := by
  rw [wayR_num h1 h2] at h
  obtain ⟨hn, he, hle⟩ := rs_some h
  rw [wayR_num hn.num h2, ← rs_of (Vv.nu h1 f1)]
  apply rs_same
  show addZ y ((t : Int).toNat) (-v2.n) v2.s.toNat * _ = _ * ((10 ^ (max (t : Int).toNat v2.s.toNat) : Nat) : Int)
  rw [Int.toNat_natCast]
  have i := addZ_eq v1.n v1.s.toNat v2.n v2.s.toNat
  have iii := addZ_eq y t (-v2.n) v2.s.toNat
  have he' : y * ((10 ^ (max v1.s.toNat v2.s.toNat) : Nat) : Int) = addZ v1.n v1.s.toNat v2.n v2.s.toNat * ((10 ^ t : Nat) : Int) := he
  have p1 := tenI t
  have p2 := tenI v2.s.toNat
  have p3 := tenI (max v1.s.toNat v2.s.toNat)
  exact cancel (Int.mul_pos (Int.mul_pos p1 p2) p3) (back_eq i he' iii)
theorem spread_eq {na nb nc y4 y5 y6 z4 Z Pa Pb Pc Q T4 T5 T6 R : Int} (a : y4 * Q = z4 * T4) (b : z4 * (Pb * Pc) = (nb * Pc + nc * Pb) * Q) (c : y5 * (Pa * Pb) = na * nb * T5) (d : y6 * (Pa * Pc) = na * nc * T6) (e : Z * (T5 * T6) = (y5 * T6 + y6 * T5) * R) :
    na * y4 * R * (Q * Pb * Pc * Pa * (T5 * T6)) = Z * (Pa * T4) * (Q * Pb * Pc * Pa * (T5 * T6)) := by
  have a1 : na * y4 * R * (Q * Pb * Pc * Pa * (T5 * T6)) = (y4 * Q) * (Pb * Pc) * (na * R * Pa * (T5 * T6)) := by grind
  have a2 : z4 * T4 * (Pb * Pc) * (na * R * Pa * (T5 * T6)) = (z4 * (Pb * Pc)) * (T4 * na * R * Pa * (T5 * T6)) := by grind
  have b1 : Z * (Pa * T4) * (Q * Pb * Pc * Pa * (T5 * T6)) = (Z * (T5 * T6)) * (Pa * T4 * Q * Pb * Pc * Pa) := by grind
  have b2 : (y5 * T6 + y6 * T5) * R * (Pa * T4 * Q * Pb * Pc * Pa) = ((y5 * (Pa * Pb)) * (T6 * Pc) + (y6 * (Pa * Pc)) * (T5 * Pb)) * (R * T4 * Q * Pa) := by grind
  rw [a1, a, a2, b, b1, e, b2, c, d]
  grind
/-- A number times a sum is the sum of the products. -/
theorem spread {a b c : Vv} (ha : a.num = true) (hb : b.num = true) (hc : c.num = true) {y4 y5 y6 : Int} {t4 t5 t6 : Nat} (h4 : wayR .add b c = .ok y4 t4) (h5 : wayR .mul a b = .ok y5 t5) (h6 : wayR .mul a c = .ok y6 t6) :
    wayR .mul a (Rs.ok y4 t4).vv = wayR .add (Rs.ok y5 t5).vv (Rs.ok y6 t6).vv := by
  rw [wayR_num hb hc] at h4
  rw [wayR_num ha hb] at h5
  rw [wayR_num ha hc] at h6
  obtain ⟨n4, e4, _⟩ := rs_some h4
  obtain ⟨n5, e5, _⟩ := rs_some h5
  obtain ⟨n6, e6, _⟩ := rs_some h6
  rw [wayR_num ha n4.num, wayR_num n5.num n6.num]
  apply rs_same
  show a.n * y4 * ((10 ^ (max (t5 : Int).toNat (t6 : Int).toNat) : Nat) : Int) = addZ y5 (t5 : Int).toNat y6 (t6 : Int).toNat * ((10 ^ (a.s.toNat + (t4 : Int).toNat) : Nat) : Int)
  rw [Int.toNat_natCast, Int.toNat_natCast, Int.toNat_natCast]
  have e4' : y4 * ((10 ^ (max b.s.toNat c.s.toNat) : Nat) : Int) = addZ b.n b.s.toNat c.n c.s.toNat * ((10 ^ t4 : Nat) : Int) := e4
  have e5' : y5 * ((10 ^ (a.s.toNat + b.s.toNat) : Nat) : Int) = a.n * b.n * ((10 ^ t5 : Nat) : Int) := e5
  have e6' : y6 * ((10 ^ (a.s.toNat + c.s.toNat) : Nat) : Int) = a.n * c.n * ((10 ^ t6 : Nat) : Int) := e6
  rw [pow_addI] at e5' e6'
  rw [pow_addI]
  have i := addZ_eq b.n b.s.toNat c.n c.s.toNat
  have iii := addZ_eq y5 t5 y6 t6
  have p1 := tenI (max b.s.toNat c.s.toNat)
  have p2 := tenI b.s.toNat
  have p3 := tenI c.s.toNat
  have p4 := tenI a.s.toNat
  have p5 := tenI t5
  have p6 := tenI t6
  exact cancel (Int.mul_pos (Int.mul_pos (Int.mul_pos (Int.mul_pos p1 p2) p3) p4) (Int.mul_pos p5 p6)) (spread_eq e4' i e5' e6' iii)
theorem sg_mul {a b k : Int} (hk : 0 < k) : sg (a * k) (b * k) = sg a b := by
  unfold sg
  have h1 : a * k < b * k ↔ a < b := ⟨fun h => Int.lt_of_mul_lt_mul_right h (by omega), fun h => Int.mul_lt_mul_of_pos_right h hk⟩
  have h2 : b * k < a * k ↔ b < a := ⟨fun h => Int.lt_of_mul_lt_mul_right h (by omega), fun h => Int.mul_lt_mul_of_pos_right h hk⟩
  simp [h1, h2]
theorem sg_sub (a b : Int) : sg (a - b) 0 = sg a b := by
  unfold sg
  (repeat' split) <;> omega
theorem nmI_eq (n1 : Int) (s1 : Nat) (n2 : Int) (s2 : Nat) : nmI n1 s1 n2 s2 = sg (n1 * ((10 ^ s2 : Nat) : Int)) (n2 * ((10 ^ s1 : Nat) : Int)) := by
  unfold nmI
  simp
/-- The order of two numbers is the sign of what is between them. -/
theorem order_eq {v1 v2 : Vv} (h1 : v1.num = true) (h2 : v2.num = true) {y : Int} {t : Nat} (h : wayR .sub v1 v2 = .ok y t) : nmI y t 0 0 = nmI v1.n v1.s.toNat v2.n v2.s.toNat := by
  rw [wayR_num h1 h2] at h
  obtain ⟨hn, he, _⟩ := rs_some h
  have he' : y * ((10 ^ (max v1.s.toNat v2.s.toNat) : Nat) : Int) = addZ v1.n v1.s.toNat (-v2.n) v2.s.toNat * ((10 ^ t : Nat) : Int) := he
  have i := addZ_eq v1.n v1.s.toNat (-v2.n) v2.s.toNat
  rw [nmI_eq, nmI_eq]
  have p1 := tenI (max v1.s.toNat v2.s.toNat)
  have p2 := tenI v1.s.toNat
  have p3 := tenI v2.s.toNat
  have p4 := tenI t
  generalize ((10 ^ (max v1.s.toNat v2.s.toNat) : Nat) : Int) = Q at *
  generalize ((10 ^ v1.s.toNat : Nat) : Int) = P1 at *
  generalize ((10 ^ v2.s.toNat : Nat) : Int) = P2 at *
  generalize ((10 ^ t : Nat) : Int) = T at *
  generalize addZ v1.n v1.s.toNat (-v2.n) v2.s.toNat = z at *
  have q0 : ((10 ^ 0 : Nat) : Int) = 1 := rfl
  rw [q0, Int.mul_one, Int.zero_mul, ← sg_sub (v1.n * P2) (v2.n * P1)]
  rw [← sg_mul (a := y) (b := 0) (k := Q * (P1 * P2)) (Int.mul_pos p1 (Int.mul_pos p2 p3)), ← sg_mul (a := v1.n * P2 - v2.n * P1) (b := 0) (k := Q * T) (Int.mul_pos p1 p4)]
  have e : y * (Q * (P1 * P2)) = (v1.n * P2 - v2.n * P1) * (Q * T) := by
    have a1 : y * (Q * (P1 * P2)) = (y * Q) * (P1 * P2) := by grind
    have a2 : z * T * (P1 * P2) = z * (P1 * P2) * T := by grind
    rw [a1, he', a2, i]
    grind
  rw [e, Int.zero_mul, Int.zero_mul]
/-! ### small numbers -/
theorem rs_small {z : Int} {s : Nat} (hs : s ≤ 18) (h0 : -9223372036854775808 ≤ z) (h1 : z < 9223372036854775808) (h2 : -9223372036854775807 ≤ z) : ∃ y t, rs z s = .ok y t := by
  have hf : fits (dn z s) = true := by
    have a := dn_abs z s
    have b := dn_le z s
    simp only [fits, Bool.and_eq_true, decide_eq_true_eq]
    refine ⟨⟨by omega, by omega⟩, by omega⟩
  refine ⟨(dn z s).1, (dn z s).2, ?_⟩
  simp [rs, res, hf]
theorem small_add_eq {a b y1 y2 Z P T1 T2 Q : Int} (e1 : y1 * P = a * T1) (e2 : y2 * P = b * T2) (i : Z * (T1 * T2) = (y1 * T2 + y2 * T1) * Q) : Z * P * (T1 * T2) = (a + b) * Q * (T1 * T2) := by
  have a1 : Z * P * (T1 * T2) = Z * (T1 * T2) * P := by grind
  rw [a1, i]
  have a2 : (y1 * T2 + y2 * T1) * Q * P = ((y1 * P) * T2 + (y2 * P) * T1) * Q := by grind
  rw [a2, e1, e2]
  grind
theorem small_mul_eq {a b y1 y2 P T1 T2 : Int} (e1 : y1 * P = a * T1) (e2 : y2 * P = b * T2) : y1 * y2 * (P * P) = a * b * (T1 * T2) := by
  have a1 : y1 * y2 * (P * P) = (y1 * P) * (y2 * P) := by grind
  rw [a1, e1, e2]
  grind
theorem small_add {a b : Int} {s : Nat} {y1 y2 : Int} {t1 t2 : Nat} (h1 : rs a s = .ok y1 t1) (h2 : rs b s = .ok y2 t2) : wayR .add (Rs.ok y1 t1).vv (Rs.ok y2 t2).vv = rs (a + b) s := by
  obtain ⟨n1, e1, _⟩ := rs_some h1
  obtain ⟨n2, e2, _⟩ := rs_some h2
  rw [wayR_num n1.num n2.num]
  apply rs_same
  show addZ y1 (t1 : Int).toNat y2 (t2 : Int).toNat * _ = _ * ((10 ^ (max (t1 : Int).toNat (t2 : Int).toNat) : Nat) : Int)
  rw [Int.toNat_natCast, Int.toNat_natCast]
  exact cancel (Int.mul_pos (tenI t1) (tenI t2)) (small_add_eq e1 e2 (addZ_eq y1 t1 y2 t2))
theorem small_mul {a b : Int} {s : Nat} {y1 y2 : Int} {t1 t2 : Nat} (h1 : rs a s = .ok y1 t1) (h2 : rs b s = .ok y2 t2) : wayR .mul (Rs.ok y1 t1).vv (Rs.ok y2 t2).vv = rs (a * b) (s + s) := by
  obtain ⟨n1, e1, _⟩ := rs_some h1
  obtain ⟨n2, e2, _⟩ := rs_some h2
  rw [wayR_num n1.num n2.num]
  apply rs_same
  show y1 * y2 * _ = _ * ((10 ^ ((t1 : Int).toNat + (t2 : Int).toNat) : Nat) : Int)
  rw [Int.toNat_natCast, Int.toNat_natCast, pow_addI, pow_addI]
  exact small_mul_eq e1 e2
theorem small_cmp {a b : Int} {s : Nat} {y1 y2 : Int} {t1 t2 : Nat} (h1 : rs a s = .ok y1 t1) (h2 : rs b s = .ok y2 t2) : nmI y1 t1 y2 t2 = sg a b := by
  obtain ⟨n1, e1, _⟩ := rs_some h1
  obtain ⟨n2, e2, _⟩ := rs_some h2
  rw [nmI_eq]
  have p1 := tenI s
  have p2 := tenI t1
  have p3 := tenI t2
  generalize ((10 ^ s : Nat) : Int) = P at *
  generalize ((10 ^ t1 : Nat) : Int) = T1 at *
  generalize ((10 ^ t2 : Nat) : Int) = T2 at *
  rw [← sg_mul (a := y1 * T2) (b := y2 * T1) p1, ← sg_mul (a := a) (b := b) (Int.mul_pos p2 p3)]
  have a1 : y1 * T2 * P = a * (T1 * T2) := by
    have : y1 * T2 * P = (y1 * P) * T2 := by grind
    rw [this, e1]
    grind
  have a2 : y2 * T1 * P = b * (T1 * T2) := by
    have : y2 * T1 * P = (y2 * P) * T1 := by grind
    rw [this, e2]
    grind
  rw [a1, a2]
end Go.Proofs.YthdonaoaiendpaaDoor
