/-
  value.compareNumbers.
-/
import Derived.Test.YtbafmdjlnmeofaaGreatDoorOq
namespace Go.Proofs.YtbafmdjlnmeofaaGreatDoor
open Go.RowKit
set_option linter.unusedVariables false
set_option linter.unusedVariables false
theorem box_get {w w' : World} (vs : List Value) (t : TypeId) (hb : Below (w.alloc (.cells vs.toArray t)).heap.size (w.alloc (.cells vs.toArray t)) w') (j : Nat) (v : Value) (hv : vs[j]? = some v) : w'.cell? ⟨w.heap.size, j, none⟩ = some v := by
  rw [hb.cell (p := ⟨w.heap.size, j, none⟩) (by simp), World.cell?_alloc_new, List.getElem?_toArray, hv]
theorem box_nd {w W : World} {h : Hd} {na ka : Option Addr} {nc kl kc : Nat} (hb : Below (w.alloc (.cells #[.int .i64 h.k, .int .i64 h.n, .int .i64 h.s, .string h.t, .slice na h.ns.length nc, .slice ka kl kc] 25)).heap.size (w.alloc (.cells #[.int .i64 h.k, .int .i64 h.n, .int .i64 h.s, .string h.t, .slice na h.ns.length nc, .slice ka kl kc] 25)) W) : Nd W w.heap.size 0 h na nc ka kl kc :=
  ⟨box_get (six h na nc ka kl kc) 25 hb 0 _ rfl, box_get (six h na nc ka kl kc) 25 hb 1 _ rfl, box_get (six h na nc ka kl kc) 25 hb 2 _ rfl, box_get (six h na nc ka kl kc) 25 hb 3 _ rfl, box_get (six h na nc ka kl kc) 25 hb 4 _ rfl, box_get (six h na nc ka kl kc) 25 hb 5 _ rfl⟩
theorem q_int {C : World → Prop} {a : Act} {o : Oper} {K : Act → Prop} (x : Operand) (ho : o.op = .load 3 x) (b k : Nat) (hx : a.eval x = .pointer (some ⟨b, k, none⟩)) (n : Int) (hS : ∀ w, C w → w.cell? ⟨b, k, none⟩ = some (.int .i64 n))
    (hk : K (a.put o.dst (.int .i64 n))) : o.quiet Tryz.prog a C K :=
  ⟨_, fun w hw => by
    have h := hS w hw
    unfold Oper.quietAt execOp
    simp only [ho, hx]
    go_simp, hk⟩
/-- Two numbers in their order. -/
def nm (a b : Hd) : Int := sg (a.n * 10 ^ b.s.toNat) (b.n * 10 ^ a.s.toNat)
theorem sg_lex (x y : Nat) : (if sg ((x / 18446744073709551616 : Nat) : Int) ((y / 18446744073709551616 : Nat) : Int) ≠ 0 then sg ((x / 18446744073709551616 : Nat) : Int) ((y / 18446744073709551616 : Nat) : Int) else sg ((x % 18446744073709551616 : Nat) : Int) ((y % 18446744073709551616 : Nat) : Int)) = sg (x : Int) (y : Int) := by
  have h1 := Nat.div_add_mod x 18446744073709551616
  have h2 := Nat.div_add_mod y 18446744073709551616
  have h3 := Nat.mod_lt x (show 0 < 18446744073709551616 by decide)
  have h4 := Nat.mod_lt y (show 0 < 18446744073709551616 by decide)
  generalize x / 18446744073709551616 = a at *
  generalize y / 18446744073709551616 = b at *
  generalize x % 18446744073709551616 = c at *
  generalize y % 18446744073709551616 = d at *
  simp only [sg]
  (repeat' split) <;> omega
theorem pos_mul {a : Int} {t : Nat} (ha : 0 < a) (ht : 0 < t) : 0 < a * (t : Int) := Int.mul_pos ha (by omega)
theorem neg_mul {a : Int} {t : Nat} (ha : a < 0) (ht : 0 < t) : a * (t : Int) < 0 := Int.mul_neg_of_neg_of_pos ha (by omega)
theorem sg_lt {a b : Int} (h : a < b) : sg a b = -1 := by simp [sg, h]
theorem sg_gt {a b : Int} (h : b < a) : sg a b = 1 := by
  have : ¬ a < b := by omega
  simp [sg, h, this]
theorem sg_self (a : Int) : sg a a = 0 := by simp [sg]
theorem sg_neg (a b : Int) : sg (-a) (-b) * -1 = sg a b := by
  simp only [sg]
  (repeat' split) <;> omega
/-- What both ways of comparing numbers come to. -/
theorem nm_eq (a b : Hd) : nm a b = if sg (sg a.n 0) (sg b.n 0) ≠ 0 then sg (sg a.n 0) (sg b.n 0) else sg ((a.n.natAbs * 10 ^ b.s.toNat : Nat) : Int) ((b.n.natAbs * 10 ^ a.s.toNat : Nat) : Int) * sg a.n 0 := by
  unfold nm
  have hp : 0 < 10 ^ b.s.toNat := Nat.pow_pos (by decide)
  have hq : 0 < 10 ^ a.s.toNat := Nat.pow_pos (by decide)
  have e1 : (10 : Int) ^ b.s.toNat = ((10 ^ b.s.toNat : Nat) : Int) := by simp
  have e2 : (10 : Int) ^ a.s.toNat = ((10 ^ a.s.toNat : Nat) : Int) := by simp
  rw [e1, e2]
  generalize 10 ^ b.s.toNat = P at *
  generalize 10 ^ a.s.toNat = Q at *
  generalize a.n = x at *
  generalize b.n = y at *
  have key : ∀ z : Int, ∀ T : Nat, 0 < T → ((z.natAbs * T : Nat) : Int) = (if z < 0 then -(z * (T : Int)) else z * (T : Int)) := by
    intro z T hT
    rw [Int.natCast_mul]
    split
    · rw [show ((z.natAbs : Nat) : Int) = -z by omega, Int.neg_mul]
    · rw [show ((z.natAbs : Nat) : Int) = z by omega]
  rw [key x P hp, key y Q hq]
  rcases Int.lt_trichotomy x 0 with hx | hx | hx
  · have hxp := neg_mul hx hp
    rcases Int.lt_trichotomy y 0 with hy | hy | hy
    · rw [if_pos hx, if_pos hy, sg_lt hx, sg_lt hy, sg_self, if_neg (by simp), sg_neg]
    · subst hy
      rw [Int.zero_mul, sg_lt hx, sg_lt hxp, sg_self, sg_lt (show (-1 : Int) < 0 by decide), if_pos (by decide)]
    · have hyq := pos_mul hy hq
      rw [sg_lt hx, sg_gt hy, sg_lt (show x * (P : Int) < y * (Q : Int) by omega), sg_lt (show (-1 : Int) < 1 by decide), if_pos (by decide)]
  · subst hx
    rw [Int.zero_mul]
    rcases Int.lt_trichotomy y 0 with hy | hy | hy
    · have hyq := neg_mul hy hq
      rw [sg_gt hyq, sg_self, sg_lt hy, sg_gt (show (-1 : Int) < 0 by decide), if_pos (by decide)]
    · subst hy
      rw [Int.zero_mul]
      simp [sg]
    · have hyq := pos_mul hy hq
      rw [sg_lt hyq, sg_self, sg_gt hy, sg_lt (show (0 : Int) < 1 by decide), if_pos (by decide)]
  · have hxp := pos_mul hx hp
    rcases Int.lt_trichotomy y 0 with hy | hy | hy
    · have hyq := neg_mul hy hq
      rw [sg_gt hx, sg_lt hy, sg_gt (show y * (Q : Int) < x * (P : Int) by omega), sg_gt (show (-1 : Int) < 1 by decide), if_pos (by decide)]
    · subst hy
      rw [Int.zero_mul, sg_gt hx, sg_gt hxp, sg_self, sg_gt (show (0 : Int) < 1 by decide), if_pos (by decide)]
    · rw [if_neg (show ¬ x < 0 by omega), if_neg (show ¬ y < 0 by omega), sg_gt hx, sg_gt hy, sg_self, if_neg (by simp), Int.mul_one]
theorem keep {C : World → Prop} {F : Nat} {args : Array Value} {v : Value} (h : ∀ W, Calls Tryz.prog F args W fun e w' => e = .returned v ∧ w' = W) : ∀ W, C W → Calls Tryz.prog F args W fun e w' => e = .returned v ∧ C w' := fun W hW => (h W).mono fun e w' ⟨he, hw⟩ => ⟨he, by rw [hw]; exact hW⟩
theorem sg_three (a b : Int) : sg a b = -1 ∨ sg a b = 0 ∨ sg a b = 1 := by
  simp only [sg]
  (repeat' split) <;> simp
set_option maxRecDepth 8000 in
set_option maxHeartbeats 4000000 in
theorem nums_v (a b : Hd) (na : Option Addr) (nc : Nat) (ka : Option Addr) (kl kc : Nat) (na2 : Option Addr) (nc2 : Nat) (ka2 : Option Addr) (kl2 kc2 : Nat) (ha : Hok a) (hb : Hok b) (sa : Nat) (hsa : a.s = (sa : Int)) (hsa2 : sa ≤ 18) (sb : Nat) (hsb : b.s = (sb : Int)) (hsb2 : sb ≤ 18) (w : World) :
    Calls Tryz.prog 82 #[.agg #[.int .i64 a.k, .int .i64 a.n, .int .i64 a.s, .string a.t, .slice na a.ns.length nc, .slice ka kl kc], .agg #[.int .i64 b.k, .int .i64 b.n, .int .i64 b.s, .string b.t, .slice na2 b.ns.length nc2, .slice ka2 kl2 kc2]] w fun e w' => e = .returned (.int .i64 (nm a b)) ∧ Below w.heap.size w w' := by
  obtain ⟨w1, HW1⟩ : ∃ w1, Hid (((w.alloc (.cells #[.int .i64 a.k, .int .i64 a.n, .int .i64 a.s, .string a.t, .slice na a.ns.length nc, .slice ka kl kc] 25)).alloc (.cells #[.int .i64 b.k, .int .i64 b.n, .int .i64 b.s, .string b.t, .slice na2 b.ns.length nc2, .slice ka2 kl2 kc2] 25)) = w1) := ⟨_, rfl⟩
  have b0 : Below w.heap.size w w1 := by rw [← HW1.out]; exact ((Below.refl _ _).alloc (Nat.le_refl _) _).alloc (by simp) _
  have HC : Hid (∀ W, Below w1.heap.size w1 W → Nd W w.heap.size 0 a na nc ka kl kc ∧ Nd W (w.heap.size + 1) 0 b na2 nc2 ka2 kl2 kc2) := fun W hb => by
    rw [← HW1.out] at hb
    have e1 : Below (w.alloc (.cells #[.int .i64 a.k, .int .i64 a.n, .int .i64 a.s, .string a.t, .slice na a.ns.length nc, .slice ka kl kc] 25)).heap.size (w.alloc (.cells #[.int .i64 a.k, .int .i64 a.n, .int .i64 a.s, .string a.t, .slice na a.ns.length nc, .slice ka kl kc] 25)) W := ((Below.refl _ _).alloc (Nat.le_refl _) _).trans (hb.mono (by simp))
    have g2 := box_nd hb
    have e2 : (w.alloc (.cells #[.int .i64 a.k, .int .i64 a.n, .int .i64 a.s, .string a.t, .slice na a.ns.length nc, .slice ka kl kc] 25)).heap.size = w.heap.size + 1 := by simp
    rw [e2] at g2
    exact ⟨box_nd e1, g2⟩
  obtain ⟨C, hC⟩ : ∃ C : World → Prop, C = fun W => Below w1.heap.size w1 W := ⟨_, rfl⟩
  have CD : Hid (∀ W, C W → C { W with drawn := W.drawn + 1 }) := fun W h => by rw [hC] at h ⊢; exact h.drew
  have CA : Hid (∀ W o, C W → C (W.alloc o)) := fun W o h => by rw [hC] at h ⊢; exact h.alloc h.size _
  have CE : Hid (∀ W, C W → Below w.heap.size w W) := fun W h => by rw [hC] at h; exact b0.trans (h.mono b0.size)
  have HCw : Hid (C w1) := by rw [hC]; exact Below.refl _ _
  have n1 : Hid (∀ W, C W → W.cell? ⟨w.heap.size, 1, none⟩ = some (.int .i64 a.n)) := fun W h => by rw [hC] at h; exact (HC.out W h).1.c1
  have n2 : Hid (∀ W, C W → W.cell? ⟨w.heap.size + 1, 1, none⟩ = some (.int .i64 b.n)) := fun W h => by rw [hC] at h; exact (HC.out W h).2.c1
  have s1 : Hid (∀ W, C W → W.cell? ⟨w.heap.size, 2, none⟩ = some (.int .i64 (sa : Int))) := fun W h => by rw [hC] at h; rw [← hsa]; exact (HC.out W h).1.c2
  have s2 : Hid (∀ W, C W → W.cell? ⟨w.heap.size + 1, 2, none⟩ = some (.int .i64 (sb : Int))) := fun W h => by rw [hC] at h; rw [← hsb]; exact (HC.out W h).2.c2
  have k1 : Hid (∀ W, C W → Calls Tryz.prog 110 #[.int .i64 a.n] W fun e w' => e = .returned (.int .i64 (sg a.n 0)) ∧ C w') := keep fun W => sign59 _ W
  have k2 : Hid (∀ W, C W → Calls Tryz.prog 110 #[.int .i64 b.n] W fun e w' => e = .returned (.int .i64 (sg b.n 0)) ∧ C w') := keep fun W => sign59 _ W
  have k3 : Hid (∀ W, C W → Calls Tryz.prog 81 #[.int .i64 (sg a.n 0), .int .i64 (sg b.n 0)] W fun e w' => e = .returned (.int .i64 (sg (sg a.n 0) (sg b.n 0))) ∧ C w') := keep fun W => cmp41 _ _ W
  have k4 : Hid (∀ W, C W → Calls Tryz.prog 111 #[.int .i64 a.n] W fun e w' => e = .returned (.int .u64 (a.n.natAbs : Int)) ∧ C w') := keep fun W => mag61 _ ha.n0 ha.n1 W
  have k5 : Hid (∀ W, C W → Calls Tryz.prog 111 #[.int .i64 b.n] W fun e w' => e = .returned (.int .u64 (b.n.natAbs : Int)) ∧ C w') := keep fun W => mag61 _ hb.n0 hb.n1 W
  have k6 : Hid (∀ W, C W → Calls Tryz.prog 112 #[.int .i64 (sa : Int)] W fun e w' => e = .returned (.int .u64 ((10 ^ sa : Nat) : Int)) ∧ C w') := keep fun W => tens62 sa hsa2 W
  have k7 : Hid (∀ W, C W → Calls Tryz.prog 112 #[.int .i64 (sb : Int)] W fun e w' => e = .returned (.int .u64 ((10 ^ sb : Nat) : Int)) ∧ C w') := keep fun W => tens62 sb hsb2 W
  have t1 : (10 ^ sa : Nat) < 18446744073709551616 := Nat.lt_of_le_of_lt (pow_le hsa2) (by decide)
  have t2 : (10 ^ sb : Nat) < 18446744073709551616 := Nat.lt_of_le_of_lt (pow_le hsb2) (by decide)
  have a1 : a.n.natAbs < 18446744073709551616 := by have := ha.n0; have := ha.n1; omega
  have a2 : b.n.natAbs < 18446744073709551616 := by have := hb.n0; have := hb.n1; omega
  have k8 : Hid (∀ W, C W → Calls Tryz.prog 57 #[.int .u64 (a.n.natAbs : Int), .int .u64 ((10 ^ sb : Nat) : Int)] W fun e w' => e = .returned (.tuple #[.int .u64 ((a.n.natAbs * 10 ^ sb / 18446744073709551616 : Nat) : Int), .int .u64 ((a.n.natAbs * 10 ^ sb % 18446744073709551616 : Nat) : Int)]) ∧ C w') := keep fun W => mul60 _ _ a1 t2 W
  have k9 : Hid (∀ W, C W → Calls Tryz.prog 57 #[.int .u64 (b.n.natAbs : Int), .int .u64 ((10 ^ sa : Nat) : Int)] W fun e w' => e = .returned (.tuple #[.int .u64 ((b.n.natAbs * 10 ^ sa / 18446744073709551616 : Nat) : Int), .int .u64 ((b.n.natAbs * 10 ^ sa % 18446744073709551616 : Nat) : Int)]) ∧ C w') := keep fun W => mul60 _ _ a2 t1 W
  have HR : Hid (nm a b = if sg (sg a.n 0) (sg b.n 0) ≠ 0 then sg (sg a.n 0) (sg b.n 0) else sg ((a.n.natAbs * 10 ^ sb : Nat) : Int) ((b.n.natAbs * 10 ^ sa : Nat) : Int) * sg a.n 0) := by
    have h := nm_eq a b
    rw [hsa, hsb] at h
    exact h
  have HX := sg_lex (a.n.natAbs * 10 ^ sb) (b.n.natAbs * 10 ^ sa)
  rw [show (sg ((a.n.natAbs * 10 ^ sb : Nat) : Int) ((b.n.natAbs * 10 ^ sa : Nat) : Int)) = _ from HX.symm] at HR
  generalize a.n.natAbs * 10 ^ sb / 18446744073709551616 = h1 at *
  generalize a.n.natAbs * 10 ^ sb % 18446744073709551616 = l1 at *
  generalize b.n.natAbs * 10 ^ sa / 18446744073709551616 = h2 at *
  generalize b.n.natAbs * 10 ^ sa % 18446744073709551616 = l2 at *
  generalize 10 ^ sa = T1 at *
  generalize 10 ^ sb = T2 at *
  generalize a.n.natAbs = A1 at *
  generalize b.n.natAbs = A2 at *
  generalize nm a b = R at *
  have S1 : Hid (sg a.n 0 = -1 ∨ sg a.n 0 = 0 ∨ sg a.n 0 = 1) := sg_three _ _
  generalize hSA : sg a.n 0 = SA at *
  generalize sg b.n 0 = SB at *
  generalize sg SA SB = SS at *
  have hCp : ∀ p : Prop, (∀ W, C W → p) ↔ p := fun p => ⟨fun h => h _ HCw.out, fun h _ _ => h⟩
  clear hC HC b0 HX t1 t2 a1 a2 ha hb hSA hsa hsb
  go_enter Tryz.func82, Tryz.ntmps82
  go_wp2
  generalize hWW : World.alloc (World.alloc w _) _ = W9
  obtain rfl : w1 = W9 := by rw [← hWW, ← HW1.out]
  clear hWW HW1
  refine q_region (C := C) (by kernel_rfl) (by kernel_rfl) (CD.out _ HCw.out) ?_
  repeat (first
    | go_big_quiet_skip
    | (go_big_quiet_want
       first
       | (refine q_int (.tmp 11) rfl (w.heap.size) 1 rfl _ n1.out ?_
          simp only [Act.put, List.setIfInBounds_toArray, List.set_cons_zero, List.set_cons_succ]
          go_big_quiet_on)
       | (refine q_int (.tmp 14) rfl (w.heap.size + 1) 1 rfl _ n2.out ?_
          simp only [Act.put, List.setIfInBounds_toArray, List.set_cons_zero, List.set_cons_succ]
          go_big_quiet_on)
       | (go_big_quiet_op
          first
          | go_big_quiet_on
          | (apply Exists.intro
             refine ⟨?_, ?_⟩
             · first
               | exact k1.out
               | exact k2.out
               | exact k3.out
             go_big_quiet_on))))
  refine wpQuiet_nil ?_
  clear HCw
  intro W hW
  have HCw : Hid (C W) := hW
  clear hW
  by_cases hSS : SS = 0
  case neg =>
    go_wp2
    go_ret
    exact ⟨ret_num (by rw [HR.out, if_pos hSS]), CE.out _ HCw.out⟩
  have HR2 : Hid (R = (if sg (h1 : Int) (h2 : Int) ≠ 0 then sg (h1 : Int) (h2 : Int) else sg (l1 : Int) (l2 : Int)) * SA) := by
    show _ = _
    rw [HR.out, if_neg (by simp [hSS])]
  clear HR k3
  go_wp2
  refine q_region (C := C) (by kernel_rfl) (by kernel_rfl) (CD.out _ HCw.out) ?_
  repeat (first
    | go_big_quiet_skip
    | (go_big_quiet_want
       first
       | (refine q_int (.tmp 22) rfl (w.heap.size) 1 rfl _ n1.out ?_
          simp only [Act.put, List.setIfInBounds_toArray, List.set_cons_zero, List.set_cons_succ]
          go_big_quiet_on)
       | (refine q_int (.tmp 25) rfl (w.heap.size + 1) 2 rfl _ s2.out ?_
          simp only [Act.put, List.setIfInBounds_toArray, List.set_cons_zero, List.set_cons_succ]
          go_big_quiet_on)
       | (go_big_quiet_op
          first
          | go_big_quiet_on
          | (apply Exists.intro
             refine ⟨?_, ?_⟩
             · first
               | exact k4.out
               | exact k7.out
               | exact k8.out
             go_big_quiet_on))))
  refine wpQuiet_nil ?_
  clear HCw
  intro W hW
  have HCw : Hid (C W) := hW
  clear hW
  go_wp2
  refine q_region (C := C) (by kernel_rfl) (by kernel_rfl) (CD.out _ HCw.out) ?_
  repeat (first
    | go_big_quiet_skip
    | (go_big_quiet_want
       first
       | (refine q_int (.tmp 32) rfl (w.heap.size + 1) 1 rfl _ n2.out ?_
          simp only [Act.put, List.setIfInBounds_toArray, List.set_cons_zero, List.set_cons_succ]
          go_big_quiet_on)
       | (refine q_int (.tmp 35) rfl (w.heap.size) 2 rfl _ s1.out ?_
          simp only [Act.put, List.setIfInBounds_toArray, List.set_cons_zero, List.set_cons_succ]
          go_big_quiet_on)
       | (go_big_quiet_op
          first
          | go_big_quiet_on
          | (apply Exists.intro
             refine ⟨?_, ?_⟩
             · first
               | exact k5.out
               | exact k6.out
               | exact k9.out
             go_big_quiet_on))))
  refine wpQuiet_nil ?_
  clear HCw
  intro W hW
  have HCw : Hid (C W) := hW
  clear hW
  clear k2 k4 k5 k6 k7 k8 k9 n2 s1 s2
  go_wp2_with (go_at_call 79; refine (cmp39 _ _ _).mono ?_; rintro e w' ⟨rfl, rfl⟩)
  have X3 : Hid ((if sg (h1 : Int) (h2 : Int) ≠ 0 then sg (h1 : Int) (h2 : Int) else sg (l1 : Int) (l2 : Int)) = -1 ∨ (if sg (h1 : Int) (h2 : Int) ≠ 0 then sg (h1 : Int) (h2 : Int) else sg (l1 : Int) (l2 : Int)) = 0 ∨ (if sg (h1 : Int) (h2 : Int) ≠ 0 then sg (h1 : Int) (h2 : Int) else sg (l1 : Int) (l2 : Int)) = 1) := by
    show _ ∨ _
    split
    · exact sg_three _ _
    · exact sg_three _ _
  have HCa : Hid (C (w'.alloc (Obj.cells #[Value.int IntKind.i64 (sg (h1 : Int) (h2 : Int)), Value.int IntKind.i64 (sg (l1 : Int) (l2 : Int))] 3))) := CA.out _ _ HCw.out
  have HO := or63 0 (sg (h1 : Int) (h2 : Int)) (sg (l1 : Int) (l2 : Int)) w'.heap.size 2 (w'.alloc (Obj.cells #[Value.int IntKind.i64 (sg (h1 : Int) (h2 : Int)), Value.int IntKind.i64 (sg (l1 : Int) (l2 : Int))] 3)) (by rw [World.cell?_alloc_new]; rfl) (by rw [World.cell?_alloc_new]; rfl)
  generalize (if sg (h1 : Int) (h2 : Int) ≠ 0 then sg (h1 : Int) (h2 : Int) else sg (l1 : Int) (l2 : Int)) = X at *
  refine HO.mono ?_
  rintro e w5 ⟨rfl, rfl⟩
  clear HO
  generalize (w'.alloc (Obj.cells #[Value.int IntKind.i64 (sg (h1 : Int) (h2 : Int)), Value.int IntKind.i64 (sg (l1 : Int) (l2 : Int))] 3)) = w6 at *
  have cn := n1.out w6 HCa.out
  have hk := k1.out w6 HCa.out
  clear HCw k1 n1
  go_wp2_with fail
  refine hk.mono ?_
  rintro e w7 ⟨rfl, hC7⟩
  have HE : Hid (Below w.heap.size w w7) := CE.out _ hC7
  clear hk hC7 cn HCa
  rcases S1.out with rfl | rfl | rfl <;> rcases X3.out with rfl | rfl | rfl
  all_goals
    go_wp2
    go_ret
    exact ⟨ret_num (by rw [HR2.out]; decide), HE.out⟩
end Go.Proofs.YtbafmdjlnmeofaaGreatDoor
