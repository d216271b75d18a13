/-
  The document's own numbers.
-/
import Derived.Test.YtoggcabenjmnoaaDoorPn
namespace Go.Proofs.YtoggcabenjmnoaaDoor
open Go.RowKit
set_option linter.unusedVariables false
set_option maxRecDepth 8000 in
set_option maxHeartbeats 4000000 in
theorem nums_r (a b : Hd) (na : Option Addr) (nc : Nat) (ka : Option Addr) (kl kc : Nat) (na2 : Option Addr) (nc2 : Nat) (ka2 : Option Addr) (kl2 kc2 : Nat) (ha : Hok a) (hb : Hok b) (sa : Nat) (hsa : a.s = (sa : Int)) (hsa2 : sa ≤ 18) (sb : Nat) (hsb : b.s = (sb : Int)) (hsb2 : sb ≤ 18) (w : World) :
    Calls Tryd.prog 19 #[.agg #[.int .i64 a.k, .int .i64 a.n, .int .i64 a.s, .string a.t, .slice na a.ns.length nc, .slice ka kl kc], .agg #[.int .i64 b.k, .int .i64 b.n, .int .i64 b.s, .string b.t, .slice na2 b.ns.length nc2, .slice ka2 kl2 kc2]] w fun e w' => e = .returned (.int .i64 (nm a b)) ∧ Below w.heap.size w w' := by
  obtain ⟨w1, HW1⟩ : ∃ w1, Hid (((w.alloc (.cells #[.int .i64 a.k, .int .i64 a.n, .int .i64 a.s, .string a.t, .slice na a.ns.length nc, .slice ka kl kc] 34)).alloc (.cells #[.int .i64 b.k, .int .i64 b.n, .int .i64 b.s, .string b.t, .slice na2 b.ns.length nc2, .slice ka2 kl2 kc2] 34)) = w1) := ⟨_, rfl⟩
  have b0 : Below w.heap.size w w1 := by rw [← HW1.out]; exact ((Below.refl _ _).alloc (Nat.le_refl _) _).alloc (by simp) _
  have HC : Hid (∀ W, Below w1.heap.size w1 W → Nd W w.heap.size 0 a na nc ka kl kc ∧ Nd W (w.heap.size + 1) 0 b na2 nc2 ka2 kl2 kc2) := fun W hb => by
    rw [← HW1.out] at hb
    have e1 : Below (w.alloc (.cells #[.int .i64 a.k, .int .i64 a.n, .int .i64 a.s, .string a.t, .slice na a.ns.length nc, .slice ka kl kc] 34)).heap.size (w.alloc (.cells #[.int .i64 a.k, .int .i64 a.n, .int .i64 a.s, .string a.t, .slice na a.ns.length nc, .slice ka kl kc] 34)) W := ((Below.refl _ _).alloc (Nat.le_refl _) _).trans (hb.mono (by simp))
    have g2 := box_nd hb
    have e2 : (w.alloc (.cells #[.int .i64 a.k, .int .i64 a.n, .int .i64 a.s, .string a.t, .slice na a.ns.length nc, .slice ka kl kc] 34)).heap.size = w.heap.size + 1 := by simp
    rw [e2] at g2
    exact ⟨box_nd e1, g2⟩
  obtain ⟨C, hC⟩ : ∃ C : World → Prop, C = fun W => Below w1.heap.size w1 W := ⟨_, rfl⟩
  have CD : Hid (∀ W, C W → C { W with drawn := W.drawn + 1 }) := fun W h => by rw [hC] at h ⊢; exact h.drew
  have CA : Hid (∀ W o, C W → C (W.alloc o)) := fun W o h => by rw [hC] at h ⊢; exact h.alloc h.size _
  have CE : Hid (∀ W, C W → Below w.heap.size w W) := fun W h => by rw [hC] at h; exact b0.trans (h.mono b0.size)
  have HCw : Hid (C w1) := by rw [hC]; exact Below.refl _ _
  have n1 : Hid (∀ W, C W → W.cell? ⟨w.heap.size, 1, none⟩ = some (.int .i64 a.n)) := fun W h => by rw [hC] at h; exact (HC.out W h).1.c1
  have n2 : Hid (∀ W, C W → W.cell? ⟨w.heap.size + 1, 1, none⟩ = some (.int .i64 b.n)) := fun W h => by rw [hC] at h; exact (HC.out W h).2.c1
  have s1 : Hid (∀ W, C W → W.cell? ⟨w.heap.size, 2, none⟩ = some (.int .i64 (sa : Int))) := fun W h => by rw [hC] at h; rw [← hsa]; exact (HC.out W h).1.c2
  have s2 : Hid (∀ W, C W → W.cell? ⟨w.heap.size + 1, 2, none⟩ = some (.int .i64 (sb : Int))) := fun W h => by rw [hC] at h; rw [← hsb]; exact (HC.out W h).2.c2
  have k1 : Hid (∀ W, C W → Calls Tryd.prog 18 #[.int .i64 a.n, .int .i64 0] W fun e w' => e = .returned (.int .i64 (sg a.n 0)) ∧ C w') := keep fun W => sign47 _ _ W
  have k2 : Hid (∀ W, C W → Calls Tryd.prog 18 #[.int .i64 b.n, .int .i64 0] W fun e w' => e = .returned (.int .i64 (sg b.n 0)) ∧ C w') := keep fun W => sign47 _ _ W
  have k3 : Hid (∀ W, C W → Calls Tryd.prog 18 #[.int .i64 (sg a.n 0), .int .i64 (sg b.n 0)] W fun e w' => e = .returned (.int .i64 (sg (sg a.n 0) (sg b.n 0))) ∧ C w') := keep fun W => sign47 _ _ W
  have k4 : Hid (∀ W, C W → Calls Tryd.prog 29 #[.int .i64 a.n] W fun e w' => e = .returned (.int .u64 (a.n.natAbs : Int)) ∧ C w') := keep fun W => abs65 _ ha.n0 ha.n1 W
  have k5 : Hid (∀ W, C W → Calls Tryd.prog 29 #[.int .i64 b.n] W fun e w' => e = .returned (.int .u64 (b.n.natAbs : Int)) ∧ C w') := keep fun W => abs65 _ hb.n0 hb.n1 W
  have k6 : Hid (∀ W, C W → Calls Tryd.prog 30 #[.int .i64 (sa : Int)] W fun e w' => e = .returned (.int .u64 ((10 ^ sa : Nat) : Int)) ∧ C w') := keep fun W => ten66 sa hsa2 W
  have k7 : Hid (∀ W, C W → Calls Tryd.prog 30 #[.int .i64 (sb : Int)] W fun e w' => e = .returned (.int .u64 ((10 ^ sb : Nat) : Int)) ∧ C w') := keep fun W => ten66 sb hsb2 W
  have t1 : (10 ^ sa : Nat) < 18446744073709551616 := Nat.lt_of_le_of_lt (pow_le hsa2) (by decide)
  have t2 : (10 ^ sb : Nat) < 18446744073709551616 := Nat.lt_of_le_of_lt (pow_le hsb2) (by decide)
  have a1 : a.n.natAbs < 18446744073709551616 := by have := ha.n0; have := ha.n1; omega
  have a2 : b.n.natAbs < 18446744073709551616 := by have := hb.n0; have := hb.n1; omega
  have k8 : Hid (∀ W, C W → Calls Tryd.prog 28 #[.int .u64 (a.n.natAbs : Int), .int .u64 ((10 ^ sb : Nat) : Int)] W fun e w' => e = .returned (.tuple #[.int .u64 ((a.n.natAbs * 10 ^ sb / 18446744073709551616 : Nat) : Int), .int .u64 ((a.n.natAbs * 10 ^ sb % 18446744073709551616 : Nat) : Int)]) ∧ C w') := keep fun W => mul60 _ _ a1 t2 W
  have k9 : Hid (∀ W, C W → Calls Tryd.prog 28 #[.int .u64 (b.n.natAbs : Int), .int .u64 ((10 ^ sa : Nat) : Int)] W fun e w' => e = .returned (.tuple #[.int .u64 ((b.n.natAbs * 10 ^ sa / 18446744073709551616 : Nat) : Int), .int .u64 ((b.n.natAbs * 10 ^ sa % 18446744073709551616 : Nat) : Int)]) ∧ C w') := keep fun W => mul60 _ _ a2 t1 W
  have HR : Hid (nm a b = if sg (sg a.n 0) (sg b.n 0) ≠ 0 then sg (sg a.n 0) (sg b.n 0) else sg ((a.n.natAbs * 10 ^ sb : Nat) : Int) ((b.n.natAbs * 10 ^ sa : Nat) : Int) * sg a.n 0) := by
    have h := nm_eq a b
    rw [hsa, hsb] at h
    exact h
  have HX := sg_lex (a.n.natAbs * 10 ^ sb) (b.n.natAbs * 10 ^ sa)
  rw [show (sg ((a.n.natAbs * 10 ^ sb : Nat) : Int) ((b.n.natAbs * 10 ^ sa : Nat) : Int)) = _ from HX.symm] at HR
  generalize a.n.natAbs * 10 ^ sb / 18446744073709551616 = h1 at *
  generalize a.n.natAbs * 10 ^ sb % 18446744073709551616 = l1 at *
  generalize b.n.natAbs * 10 ^ sa / 18446744073709551616 = h2 at *
  generalize b.n.natAbs * 10 ^ sa % 18446744073709551616 = l2 at *
  generalize 10 ^ sa = T1 at *
  generalize 10 ^ sb = T2 at *
  generalize a.n.natAbs = A1 at *
  generalize b.n.natAbs = A2 at *
  generalize nm a b = R at *
  have S1 : Hid (sg a.n 0 = -1 ∨ sg a.n 0 = 0 ∨ sg a.n 0 = 1) := sg_three _ _
  generalize hSA : sg a.n 0 = SA at *
  generalize sg b.n 0 = SB at *
  have hCp : ∀ p : Prop, (∀ W, C W → p) ↔ p := fun p => ⟨fun h => h _ HCw.out, fun h _ _ => h⟩
  clear hC HC b0 HX t1 t2 a1 a2 ha hb hSA hsa hsb
  go_enter Tryd.func19, Tryd.ntmps19
  go_wp2
  generalize hWW : World.alloc (World.alloc w _) _ = W9
  obtain rfl : w1 = W9 := by rw [← hWW, ← HW1.out]
  clear hWW HW1
  refine q_region (C := C) (by kernel_rfl) (by kernel_rfl) (CD.out _ HCw.out) ?_
  repeat (first
    | go_big_quiet_skip
    | (go_big_quiet_want
       first
       | (refine q_int (.tmp 12) rfl (w.heap.size) 1 rfl _ n1.out ?_
          simp only [Act.put, List.setIfInBounds_toArray, List.set_cons_zero, List.set_cons_succ]
          go_big_quiet_on)
       | (refine q_int (.tmp 15) rfl (w.heap.size + 1) 1 rfl _ n2.out ?_
          simp only [Act.put, List.setIfInBounds_toArray, List.set_cons_zero, List.set_cons_succ]
          go_big_quiet_on)
       | (go_big_quiet_op
          first
          | go_big_quiet_on
          | (apply Exists.intro
             refine ⟨?_, ?_⟩
             · first
               | exact k1.out
               | exact k2.out
             go_big_quiet_on))))
  refine wpQuiet_nil ?_
  clear HCw
  intro W hW
  have HCw : Hid (C W) := hW
  clear hW
  by_cases hSS : SA = SB
  case neg =>
    have h0 : sg SA SB ≠ 0 := by
      simp only [sg]
      (repeat' split) <;> omega
    have hb : (SA != SB) = true := by simp [hSS]
    have HR2 : Hid (R = sg SA SB) := by
      show _ = _
      rw [HR.out, if_pos h0]
    have hk := k3.out W HCw.out
    generalize sg SA SB = SS at *
    go_wp2_with fail
    refine hk.mono ?_
    rintro e w7 ⟨rfl, hC7⟩
    have HE : Hid (Below w.heap.size w w7) := CE.out _ hC7
    clear hk hC7
    go_wp2
    go_ret
    exact ⟨ret_num HR2.out.symm, HE.out⟩
  subst hSS
  have HR2 : Hid (R = (if sg (h1 : Int) (h2 : Int) ≠ 0 then sg (h1 : Int) (h2 : Int) else sg (l1 : Int) (l2 : Int)) * SA) := by
    show _ = _
    rw [HR.out, if_neg (by simp [sg_self])]
  clear HR k3 k1 k2
  go_wp2
  refine q_region (C := C) (by kernel_rfl) (by kernel_rfl) (CD.out _ HCw.out) ?_
  repeat (first
    | go_big_quiet_skip
    | (go_big_quiet_want
       first
       | (refine q_int (.tmp 25) rfl (w.heap.size) 1 rfl _ n1.out ?_
          simp only [Act.put, List.setIfInBounds_toArray, List.set_cons_zero, List.set_cons_succ]
          go_big_quiet_on)
       | (refine q_int (.tmp 28) rfl (w.heap.size + 1) 2 rfl _ s2.out ?_
          simp only [Act.put, List.setIfInBounds_toArray, List.set_cons_zero, List.set_cons_succ]
          go_big_quiet_on)
       | (go_big_quiet_op
          first
          | go_big_quiet_on
          | (apply Exists.intro
             refine ⟨?_, ?_⟩
             · first
               | exact k4.out
               | exact k7.out
               | exact k8.out
             go_big_quiet_on))))
  refine wpQuiet_nil ?_
  clear HCw
  intro W hW
  have HCw : Hid (C W) := hW
  clear hW
  go_wp2
  refine q_region (C := C) (by kernel_rfl) (by kernel_rfl) (CD.out _ HCw.out) ?_
  repeat (first
    | go_big_quiet_skip
    | (go_big_quiet_want
       first
       | (refine q_int (.tmp 35) rfl (w.heap.size + 1) 1 rfl _ n2.out ?_
          simp only [Act.put, List.setIfInBounds_toArray, List.set_cons_zero, List.set_cons_succ]
          go_big_quiet_on)
       | (refine q_int (.tmp 38) rfl (w.heap.size) 2 rfl _ s1.out ?_
          simp only [Act.put, List.setIfInBounds_toArray, List.set_cons_zero, List.set_cons_succ]
          go_big_quiet_on)
       | (go_big_quiet_op
          first
          | go_big_quiet_on
          | (apply Exists.intro
             refine ⟨?_, ?_⟩
             · first
               | exact k5.out
               | exact k6.out
               | exact k9.out
             go_big_quiet_on))))
  refine wpQuiet_nil ?_
  clear HCw
  intro W hW
  have HCw : Hid (C W) := hW
  clear hW
  clear k4 k5 k6 k7 k8 k9 n1 n2 s1 s2
  have HE : Hid (Below w.heap.size w W) := CE.out _ HCw.out
  clear HCw hCp
  rcases S1.out with rfl | rfl | rfl <;> rcases Nat.lt_trichotomy h1 h2 with q1 | q1 | q1 <;> rcases Nat.lt_trichotomy l1 l2 with q2 | q2 | q2
  all_goals
    go_wp2
    go_ret
    refine ⟨ret_num ?_, HE.out⟩
    rw [HR2.out]
    simp only [sg]
    (repeat' split) <;> omega
end Go.Proofs.YtoggcabenjmnoaaDoor
