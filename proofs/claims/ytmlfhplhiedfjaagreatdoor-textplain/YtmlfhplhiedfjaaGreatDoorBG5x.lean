/-
  The least form of a number, over integers: no program is named. · Numbers of two words: product, plus, minus, tenth. · decimal's numbers: numberOf, turned, sizeAt, times. · decimal's numbers: times, minus. · decimal's numbers: plus.
-/
import Derived.Test.YtmlfhplhiedfjaaGreatDoorBVal
import Derived.Test.YtmlfhplhiedfjaaGreatDoorBD6Dv
namespace Go.Proofs.YtmlfhplhiedfjaaGreatDoor.D6
set_option linter.unusedVariables false
/-- The least form of m, s times divided by ten. -/
def dnN : Nat → Nat → Nat × Nat
  | m, 0 => (m, 0)
  | m, s + 1 => if m % 10 = 0 then dnN (m / 10) s else (m, s + 1)
/-- The least form of z, s times divided by ten. -/
def dn (z : Int) (s : Nat) : Int × Nat := (if z < 0 then -((dnN z.natAbs s).1 : Int) else ((dnN z.natAbs s).1 : Int), (dnN z.natAbs s).2)
theorem ten_pos (n : Nat) : 0 < 10 ^ n := Nat.pow_pos (by decide)
theorem dnN_le : ∀ (s m : Nat), (dnN m s).2 ≤ s
  | 0, m => by simp [dnN]
  | s + 1, m => by
    unfold dnN
    split
    · have := dnN_le s (m / 10); omega
    · exact Nat.le_refl _
theorem dnN_small : ∀ (s m : Nat), (dnN m s).1 ≤ m
  | 0, m => by simp [dnN]
  | s + 1, m => by
    unfold dnN
    split
    · have := dnN_small s (m / 10); omega
    · exact Nat.le_refl _
theorem dnN_val : ∀ (s m : Nat), (dnN m s).1 * 10 ^ (s - (dnN m s).2) = m
  | 0, m => by simp [dnN]
  | s + 1, m => by
    unfold dnN
    split
    · next h =>
      have h1 := dnN_val s (m / 10)
      have h2 := dnN_le s (m / 10)
      rw [show s + 1 - (dnN (m / 10) s).2 = (s - (dnN (m / 10) s).2) + 1 by omega, Nat.pow_succ, ← Nat.mul_assoc, h1]
      omega
    · simp
theorem dnN_red : ∀ (s m : Nat), (dnN m s).2 = 0 ∨ (dnN m s).1 % 10 ≠ 0
  | 0, m => by simp [dnN]
  | s + 1, m => by
    unfold dnN
    split
    · exact dnN_red s (m / 10)
    · next h => exact .inr h
theorem dnN_zero : ∀ (s : Nat), dnN 0 s = (0, 0)
  | 0 => rfl
  | s + 1 => by
    unfold dnN
    rw [if_pos (by decide), show 0 / 10 = 0 by decide]
    exact dnN_zero s
theorem dnN_up : ∀ (d y t : Nat), (t = 0 ∨ y % 10 ≠ 0) → dnN (y * 10 ^ d) (t + d) = (y, t)
  | 0, y, t, h => by
    cases t with
    | zero => simp [dnN]
    | succ t =>
      have h : y % 10 ≠ 0 := by
        rcases h with h | h
        · cases h
        · exact h
      simp [dnN, h]
  | d + 1, y, t, h => by
    rw [← Nat.add_assoc]
    unfold dnN
    rw [if_pos (by rw [Nat.pow_succ, ← Nat.mul_assoc]; omega), show y * 10 ^ (d + 1) / 10 = y * 10 ^ d by rw [Nat.pow_succ, ← Nat.mul_assoc]; omega]
    exact dnN_up d y t h
theorem pow_split {a b : Nat} (h : a ≤ b) : 10 ^ b = 10 ^ (b - a) * 10 ^ a := by rw [← Nat.pow_add]; congr 1; omega
/-- The least form is one alone. -/
theorem dnN_uni {y t m s : Nat} (h : y * 10 ^ s = m * 10 ^ t) (hr : t = 0 ∨ y % 10 ≠ 0) (hts : t ≤ s) : dnN m s = (y, t) := by
  have e : m = y * 10 ^ (s - t) := by
    rw [pow_split hts, ← Nat.mul_assoc] at h
    exact (Nat.eq_of_mul_eq_mul_right (ten_pos t) h).symm
  rw [e, show s = t + (s - t) by omega, show t + (s - t) - t = s - t by omega]
  exact dnN_up _ _ _ hr
/-! ### with a sign -/
theorem dn_le (z : Int) (s : Nat) : (dn z s).2 ≤ s := dnN_le _ _
theorem dn_red (z : Int) (s : Nat) : (dn z s).2 = 0 ∨ (dn z s).1 % 10 ≠ 0 := by
  have h := dnN_red s z.natAbs
  unfold dn
  rcases h with h | h
  · exact .inl h
  · right
    simp only
    split <;> omega
theorem dn_val (z : Int) (s : Nat) : (dn z s).1 * ((10 ^ (s - (dn z s).2) : Nat) : Int) = z := by
  have h := dnN_val s z.natAbs
  unfold dn
  simp only
  generalize hP : 10 ^ (s - (dnN z.natAbs s).2) = P at *
  generalize (dnN z.natAbs s).1 = y at *
  have h2 : (y : Int) * (P : Int) = (z.natAbs : Int) := by rw [← h]; simp
  split
  · rw [Int.neg_mul, h2]; omega
  · rw [h2]; omega
theorem dn_of {y : Int} {t : Nat} (hr : t = 0 ∨ y % 10 ≠ 0) : dn y t = (y, t) := by
  have h : dnN y.natAbs t = (y.natAbs, t) := dnN_uni rfl (by rcases hr with h | h; exact .inl h; right; omega) (Nat.le_refl _)
  unfold dn
  rw [h]
  simp only [Prod.mk.injEq, and_true]
  split <;> omega
/-- What is answered: the number, or nothing where it leaves its digits. -/
def fits (d : Int × Nat) : Bool := decide (d.2 ≤ 18) && decide (-9223372036854775808 ≤ d.1) && decide (d.1 < 9223372036854775808)
def res (z : Int) (s : Nat) : Option (Int × Nat) := if fits (dn z s) then some (dn z s) else none
/-- A number: of Int, or of Decimal. -/
structure Nu (y : Int) (t : Nat) : Prop where
  n0 : -9223372036854775808 ≤ y
  n1 : y < 9223372036854775808
  t1 : t ≤ 18
  red : t = 0 ∨ y % 10 ≠ 0
theorem Nu.res {y : Int} {t : Nat} (h : Nu y t) : res y t = some (y, t) := by
  unfold Go.Proofs.YtmlfhplhiedfjaaGreatDoor.D6.res
  rw [dn_of h.red]
  have : fits (y, t) = true := by
    simp only [fits, Bool.and_eq_true, decide_eq_true_eq]
    exact ⟨⟨h.t1, h.n0⟩, h.n1⟩
  rw [if_pos this]
theorem res_some {z : Int} {s : Nat} {y : Int} {t : Nat} (h : res z s = some (y, t)) : Nu y t ∧ y * ((10 ^ s : Nat) : Int) = z * ((10 ^ t : Nat) : Int) ∧ t ≤ s := by
  unfold res at h
  split at h
  · next hf =>
    have hd : dn z s = (y, t) := by simpa using h
    have h1 := dn_val z s
    have h2 := dn_le z s
    have h3 := dn_red z s
    rw [hd] at hf h1 h2 h3
    simp only [fits, Bool.and_eq_true, decide_eq_true_eq] at hf
    simp only at h1 h2 h3
    refine ⟨⟨hf.1.2, hf.2, hf.1.1, h3⟩, ?_, h2⟩
    rw [← h1, Int.mul_assoc, ← Int.natCast_mul, ← pow_split h2]
  · cases h
end Go.Proofs.YtmlfhplhiedfjaaGreatDoor.D6
namespace Go.Proofs.YtmlfhplhiedfjaaGreatDoor.D6
open Go.RowKit
set_option linter.unusedVariables false
theorem blk_at {X : World} {t : TypeId} {vs : List Value} {b : Nat} (hb : X.heap.size = b) : Blk (X.alloc (.cells vs.toArray t)) b t vs := hb ▸ blk_new X t vs
theorem ones {l : List Value} (h : l.all Value.oneCell' = true) : ∀ v ∈ l, v.oneCell' = true := List.all_eq_true.1 h
theorem sW : (Tryz.prog.info? 121).map (·.size) = some 2 := by kernel_rfl
theorem sN : (Tryz.prog.info? 123).map (·.size) = some 4 := by kernel_rfl
theorem sV : (Tryz.prog.info? 38).map (·.size) = some 6 := by kernel_rfl
/-- A number in two words. -/
structure Wd (h l m : Nat) : Prop where
  eq : h * 18446744073709551616 + l = m
  l1 : l < 18446744073709551616
  h1 : h < 18446744073709551616
theorem wd_of (m : Nat) (hm : m < 340282366920938463463374607431768211456) : ∃ h l, Wd h l m := ⟨m / 18446744073709551616, m % 18446744073709551616, by omega, by omega, by omega⟩
set_option maxRecDepth 8000 in
theorem product_any (a b h l : Nat) (ha : a < 18446744073709551616) (hb : b < 18446744073709551616) (hw : Wd h l (a * b)) (w : World) :
    Calls Tryz.prog 145 #[.int .u64 (a : Int), .int .u64 (b : Int)] w fun e w' => e = .returned (.agg #[.int .u64 (h : Int), .int .u64 (l : Int)]) ∧ Grow w w' := by
  have k := fun W => mul60 a b ha hb W
  rw [show a * b / 18446744073709551616 = h by rw [← hw.eq]; have := hw.l1; omega, show a * b % 18446744073709551616 = l by rw [← hw.eq]; have := hw.l1; omega] at k
  have HK : Hid (∀ W, Calls Tryz.prog 152 #[.int .u64 (a : Int), .int .u64 (b : Int)] W fun e w' => e = .returned (.tuple #[.int .u64 (h : Int), .int .u64 (l : Int)]) ∧ w' = W) := k
  clear k hw ha hb
  go_enter Tryz.func145, Tryz.ntmps145
  go_wp2_with (go_at_call 152; refine (HK.out _).mono ?_; rintro e w' ⟨rfl, rfl⟩)
  exact bodyPost_ret (res_row rfl _ w.heap.size 121 _ _ rfl (blk_at rfl) Tryz.underlying121 rfl sW) rfl ⟨rfl, (Grow.refl _).alloc _⟩
theorem run_add {h1 l1 h2 l2 h l m1 m2 : Nat} (a : Wd h1 l1 m1) (b : Wd h2 l2 m2) (s : Wd h l (m1 + m2)) : ∃ c : Nat, c ≤ 1 ∧ l1 + l2 = c * 18446744073709551616 + l ∧ h1 + h2 + c = h := by
  obtain ⟨a1, a2, a3⟩ := a
  obtain ⟨b1, b2, b3⟩ := b
  obtain ⟨s1, s2, s3⟩ := s
  by_cases e : l1 + l2 < 18446744073709551616
  · exact ⟨0, by omega, by omega, by omega⟩
  · exact ⟨1, by omega, by omega, by omega⟩
set_option maxRecDepth 8000 in
theorem plusW (h1 l1 m1 h2 l2 m2 h l : Nat) (a : Wd h1 l1 m1) (b : Wd h2 l2 m2) (s : Wd h l (m1 + m2)) (w : World) :
    Calls Tryz.prog 148 #[.agg #[.int .u64 (h1 : Int), .int .u64 (l1 : Int)], .agg #[.int .u64 (h2 : Int), .int .u64 (l2 : Int)]] w fun e w' => e = .returned (.agg #[.int .u64 (h : Int), .int .u64 (l : Int)]) ∧ Grow w w' := by
  obtain ⟨c, hc, e1, e2⟩ := run_add a b s
  have k1 : ∀ W, (callFunc 153 #[.int .u64 (l1 : Int), .int .u64 (l2 : Int), .int .u64 0]).run Tryz.prog W = .ok (.value (.tuple #[.int .u64 (l : Int), .int .u64 (c : Int)])) W := fun W => by
    have := add64 l1 l2 0 a.l1 b.l1 (by omega) W
    rw [show (l1 + l2 + 0) % 18446744073709551616 = l by have := s.l1; omega, show (l1 + l2 + 0) / 18446744073709551616 = c by have := s.l1; omega] at this
    exact this
  have k2 : ∀ W, (callFunc 153 #[.int .u64 (h1 : Int), .int .u64 (h2 : Int), .int .u64 (c : Int)]).run Tryz.prog W = .ok (.value (.tuple #[.int .u64 (h : Int), .int .u64 0])) W := fun W => by
    have := add64 h1 h2 c a.h1 b.h1 hc W
    rw [show (h1 + h2 + c) % 18446744073709551616 = h by have := s.h1; omega, show (h1 + h2 + c) / 18446744073709551616 = 0 by have := s.h1; omega] at this
    exact this
  clear a b s hc e1 e2
  go_enter Tryz.func148, Tryz.ntmps148
  go_wp2
  exact bodyPost_ret (res_row rfl _ (w.heap.size + 2) 121 _ _ rfl (blk_at (by simp)) Tryz.underlying121 rfl sW) rfl ⟨rfl, (((Grow.refl _).alloc _).alloc _).alloc _⟩
theorem tenth_split {h l m : Nat} (a : Wd h l m) : (h / 10) * 18446744073709551616 + ((h % 10) * 18446744073709551616 + l) / 10 = m / 10 ∧ ((h % 10) * 18446744073709551616 + l) / 10 < 18446744073709551616 ∧ ((h % 10) * 18446744073709551616 + l) % 10 = m % 10 := by
  obtain ⟨a1, a2, a3⟩ := a
  subst a1
  refine ⟨?_, ?_, ?_⟩ <;> omega
set_option maxRecDepth 8000 in
theorem tenthW (h l m h' l' : Nat) (a : Wd h l m) (s : Wd h' l' (m / 10)) (r : Nat) (hr : m % 10 = r) (w : World) :
    Calls Tryz.prog 204 #[.agg #[.int .u64 (h : Int), .int .u64 (l : Int)]] w fun e w' => e = .returned (.tuple #[.agg #[.int .u64 (h' : Int), .int .u64 (l' : Int)], .int .u64 (r : Int)]) ∧ Grow w w' := by
  obtain ⟨t1, t2, t3⟩ := tenth_split a
  have eh : h / 10 = h' := by have := s.eq; have := s.l1; omega
  have el : ((h % 10) * 18446744073709551616 + l) / 10 = l' := by have := s.eq; have := s.l1; omega
  obtain ⟨g, hg⟩ : ∃ g, h % 10 = g := ⟨_, rfl⟩
  have k := fun W => div_ten g l (by omega) a.l1 W
  rw [← hg, el, t3, hr, hg] at k
  have HK : Hid (∀ W, Calls Tryz.prog 182 #[.int .u64 (g : Int), .int .u64 (l : Int), .int .u64 10] W fun e w' => e = .returned (.tuple #[.int .u64 (l' : Int), .int .u64 (r : Int)]) ∧ Grow W w') := k
  have f1 : (h : Int) / 10 = (h' : Int) := by omega
  have f2 : (h : Int) % 10 = (g : Int) := by omega
  have hb : h < 18446744073709551616 := a.h1
  clear k t1 t2 t3 eh el hg a s hr
  go_enter Tryz.func204, Tryz.ntmps204
  go_wp2
  go_quiet (fail)
  go_wp2_with fail
  obtain ⟨w1, HG1, HB1⟩ : ∃ w1, Hid (Grow w w1 ∧ Blk w1 (w.heap.size + 1) 121 [.int .u64 0, .int .u64 0]) ∧ ((w.alloc (Obj.cells #[Value.int IntKind.u64 (h : Int), Value.int IntKind.u64 (l : Int)] 121)).alloc (Obj.cells #[Value.int IntKind.u64 0, Value.int IntKind.u64 0] 121)).drewN nq = w1 :=
    ⟨_, ⟨(((Grow.refl _).alloc _).alloc _).trans (grow_dq _ _), (blk_at (by simp)).grow (grow_dq _ _)⟩, rfl⟩
  rw [HB1]
  refine (HK.out _).mono ?_
  rintro e w2 ⟨rfl, hg⟩
  have HB2 : Hid (Blk w2 (w.heap.size + 1) 121 [.int .u64 0, .int .u64 0]) := HG1.out.2.grow hg
  have HG2 : Hid (Grow w w2) := HG1.out.1.trans hg
  clear HB1 HG1 HK hg
  go_wp2_with (refine st_all rfl 121 (.tmp 2) (.tmp 22) rfl (w.heap.size + 1) 121 [.int .u64 0, .int .u64 0] [.int .u64 (h' : Int), .int .u64 (l' : Int)] rfl rfl HB2.out rfl sW (ones rfl) ?_)
  intro w3 b3 g3
  have HB3 : Hid (Blk w3 (w.heap.size + 1) 121 [.int .u64 (h' : Int), .int .u64 (l' : Int)]) := b3
  have HG3 : Hid (Grow w w3) := Below.grown HG2.out g3 HG2.out.size (by intro k hk; injection hk with hk; omega)
  clear b3 g3
  go_wp2
  exact bodyPost_ret (res_two rfl _ (w.heap.size + 1) 121 _ _ rfl HB3.out Tryz.underlying121 rfl sW) rfl ⟨rfl, HG3.out⟩
end Go.Proofs.YtmlfhplhiedfjaaGreatDoor.D6
namespace Go.Proofs.YtmlfhplhiedfjaaGreatDoor.D6
open Go.RowKit
set_option linter.unusedVariables false
set_option maxRecDepth 8000 in
theorem numberOf_any (n s : Int) (A : Nat) (hA : n.natAbs = A) (b : Bool) (hb : decide (n < 0) = b) (h0 : -9223372036854775808 ≤ n) (h1 : n < 9223372036854775808) (w : World) :
    Calls Tryz.prog 102 #[.int .i64 n, .int .i64 s] w fun e w' => e = .returned (.agg #[.bool b, .int .u64 0, .int .u64 (A : Int), .int .i64 s]) ∧ Grow w w' := by
  cases b
  · have hn : ¬ n < 0 := by simpa using hb
    have e : n = (A : Int) := by omega
    subst e
    clear hb hA
    go_enter Tryz.func102, Tryz.ntmps102
    go_wp2
    exact bodyPost_ret (res_row rfl _ w.heap.size 123 _ _ rfl (blk_at rfl) Tryz.underlying123 rfl sN) rfl ⟨rfl, (Grow.refl _).alloc _⟩
  · have hn : n < 0 := by simpa using hb
    have e : IntKind.u64.wrap (-IntKind.u64.wrap n) = (A : Int) := by simp only [IntKind.wrap_u64]; omega
    clear hb hA
    go_enter Tryz.func102, Tryz.ntmps102
    go_wp2
    exact bodyPost_ret (res_row rfl _ w.heap.size 123 _ _ rfl (blk_at rfl) Tryz.underlying123 rfl sN) rfl ⟨rfl, (Grow.refl _).alloc _⟩
/-- A load of one cell. -/
theorem q_one {C : World → Prop} {a : Act} {o : Oper} {K : Act → Prop} (T : TypeId) (hT : T = 3 ∨ T = 82 ∨ T = 4) (x : Operand) (ho : o.op = .load T x) (b k : Nat) (hx : a.eval x = .pointer (some ⟨b, k, none⟩)) (v : Value) (hS : ∀ w, C w → w.cell? ⟨b, k, none⟩ = some v)
    (hk : K (a.put o.dst v)) : o.quiet Tryz.prog a C K :=
  ⟨_, fun w hw => by
    have h := hS w hw
    unfold Oper.quietAt execOp
    rcases hT with rfl | rfl | rfl <;> simp only [ho, hx] <;> go_simp, hk⟩
end Go.Proofs.YtmlfhplhiedfjaaGreatDoor.D6
namespace Go.Proofs.YtmlfhplhiedfjaaGreatDoor.D6
open Go.RowKit
set_option linter.unusedVariables false
end Go.Proofs.YtmlfhplhiedfjaaGreatDoor.D6
namespace Go.Proofs.YtmlfhplhiedfjaaGreatDoor.D6
open Go.RowKit
set_option linter.unusedVariables false
theorem zW : (Tryz.prog.info? 121).map (fun i => i.zero.map (·.cells)) = some (some (List.toArray [.int .u64 0, .int .u64 0])) := by kernel_rfl
end Go.Proofs.YtmlfhplhiedfjaaGreatDoor.D6
