/-
  decimal.Compare.
-/
import Derived.Test.YtbafmdjlnmeofaaGreatDoorCmo
namespace Go.Proofs.YtbafmdjlnmeofaaGreatDoor
open Go.RowKit
set_option linter.unusedVariables false
set_option maxRecDepth 8000 in
theorem class3 (n1 s1 : Int) (na1 : Option Addr) (nc1 : Nat) (ka1 : Option Addr) (kc1 : Nat) (w : World) : Calls Tryz.prog 80 #[.agg #[.int .i64 3, .int .i64 n1, .int .i64 s1, .string ⟨#[]⟩, .slice na1 0 nc1, .slice ka1 0 kc1]] w fun e w' => e = .returned (.int .u64 3) ∧ Grow w w' := by
  go_enter Tryz.func80, Tryz.ntmps80
  go_wp2
  go_ret
  exact ⟨ret_num (by decide), (Grow.refl _).alloc _⟩
set_option maxRecDepth 8000 in
theorem class4 (n1 s1 : Int) (na1 : Option Addr) (nc1 : Nat) (ka1 : Option Addr) (kc1 : Nat) (w : World) : Calls Tryz.prog 80 #[.agg #[.int .i64 4, .int .i64 n1, .int .i64 s1, .string ⟨#[]⟩, .slice na1 0 nc1, .slice ka1 0 kc1]] w fun e w' => e = .returned (.int .u64 3) ∧ Grow w w' := by
  go_enter Tryz.func80, Tryz.ntmps80
  go_wp2
  go_ret
  exact ⟨ret_num (by decide), (Grow.refl _).alloc _⟩
set_option maxRecDepth 8000 in
theorem vcmp3 (n1 s1 : Int) (na1 : Option Addr) (nc1 : Nat) (ka1 : Option Addr) (kc1 : Nat) (k2 n2 s2 : Int) (na2 : Option Addr) (nc2 : Nat) (ka2 : Option Addr) (kc2 : Nat) (c : Int) (K2 : Hid (∀ W, Calls Tryz.prog 80 #[.agg #[.int .i64 k2, .int .i64 n2, .int .i64 s2, .string ⟨#[]⟩, .slice na2 0 nc2, .slice ka2 0 kc2]] W fun e w' => e = .returned (.int .u64 3) ∧ Grow W w')) (KN : Hid (∀ W, Calls Tryz.prog 82 #[.agg #[.int .i64 3, .int .i64 n1, .int .i64 s1, .string ⟨#[]⟩, .slice na1 0 nc1, .slice ka1 0 kc1], .agg #[.int .i64 k2, .int .i64 n2, .int .i64 s2, .string ⟨#[]⟩, .slice na2 0 nc2, .slice ka2 0 kc2]] W fun e w' => e = .returned (.int .i64 c) ∧ Grow W w')) (w : World) :
    Calls Tryz.prog 64 #[.agg #[.int .i64 3, .int .i64 n1, .int .i64 s1, .string ⟨#[]⟩, .slice na1 0 nc1, .slice ka1 0 kc1], .agg #[.int .i64 k2, .int .i64 n2, .int .i64 s2, .string ⟨#[]⟩, .slice na2 0 nc2, .slice ka2 0 kc2]] w fun e w' => e = .returned (.int .i64 c) ∧ Grow w w' := by
  go_enter Tryz.func64, Tryz.ntmps64
  go_wp2
  obtain ⟨w1, HW1⟩ : ∃ w1, ((w.alloc (Obj.cells #[.int .i64 3, .int .i64 n1, .int .i64 s1, .string ⟨#[]⟩, .slice na1 0 nc1, .slice ka1 0 kc1] 25)).alloc (Obj.cells #[.int .i64 k2, .int .i64 n2, .int .i64 s2, .string ⟨#[]⟩, .slice na2 0 nc2, .slice ka2 0 kc2] 25)) = w1 := ⟨_, rfl⟩
  obtain ⟨C, hC⟩ : ∃ C : World → Prop, C = fun W => Grow w1 W := ⟨_, rfl⟩
  have GW : Hid (∀ W, C W → Grow w W) := fun W hW => by rw [hC, ← HW1] at hW; exact Grow.trans (((Grow.refl _).alloc _).alloc _) hW
  have B0 : Hid (∀ W, C W → Blk W (w.heap.size) 25 [.int .i64 3, .int .i64 n1, .int .i64 s1, .string ⟨#[]⟩, .slice na1 0 nc1, .slice ka1 0 kc1]) := fun W hW => by rw [hC, ← HW1] at hW; exact Blk.grow (Blk.alloc (blk_at rfl) _) hW
  have B1 : Hid (∀ W, C W → Blk W (w.heap.size + 1) 25 [.int .i64 k2, .int .i64 n2, .int .i64 s2, .string ⟨#[]⟩, .slice na2 0 nc2, .slice ka2 0 kc2]) := fun W hW => by rw [hC, ← HW1] at hW; exact Blk.grow (blk_at (by simp)) hW
  have CG : Hid (∀ W W', C W → Grow W W' → C W') := fun W W' h1 h2 => by rw [hC] at h1 ⊢; exact h1.trans h2
  have CW : Hid (C { w1 with drawn := w1.drawn + 1 }) := by rw [hC]; exact (Grow.refl _).drew
  rw [HW1]
  clear HW1 hC
  refine region_grow [] (by kernel_rfl) ?_
  generalize ({ w1 with drawn := w1.drawn + 1 } : World) = v0 at *
  have hCp : ∀ p : Prop, (∀ W, C W → p) ↔ p := fun p => ⟨fun h => h _ CW.out, fun h _ _ => h⟩
  refine segR 4 [0, 2] rfl (by kernel_rfl) whole_blind CG.out CW.out (by kernel_rfl) ?_
  change wpQuiet _ _ _ _ (_ :: _ :: []) _
  repeat (first
    | go_big_quiet_skip
    | (go_big_quiet_want
       first
       | (refine q_load 25 (.tmp 2) rfl (w.heap.size) 0 rfl _ _ (fun W hW => (B0.out W hW).all) Tryz.underlying25 rfl sV ?_
          simp only [Act.put, List.setIfInBounds_toArray, List.set_cons_zero, List.set_cons_succ]
          go_big_quiet_on)
       | (refine q_load 25 (.tmp 3) rfl (w.heap.size + 1) 0 rfl _ _ (fun W hW => (B1.out W hW).all) Tryz.underlying25 rfl sV ?_
          simp only [Act.put, List.setIfInBounds_toArray, List.set_cons_zero, List.set_cons_succ]
          go_big_quiet_on)
       | (go_big_quiet_op
          go_big_quiet_on)))
  refine wpQuiet_nil ?_
  refine callR (i := 1) 3 rfl (by kernel_rfl) whole_blind CG.out CW.out rfl (by kernel_rfl) rfl 80 _ _ _ rfl rfl #[.agg #[.int .i64 3, .int .i64 n1, .int .i64 s1, .string ⟨#[]⟩, .slice na1 0 nc1, .slice ka1 0 kc1]] (by rw [List.map_toArray]; rfl) (enters Tryz.func80 (by kernel_rfl) rfl) _ (fun W _ => class3 n1 s1 na1 nc1 ka1 kc1 W) ?_
  simp only [Act.put, List.setIfInBounds_toArray, List.set_cons_zero, List.set_cons_succ]
  refine callR (i := 3) 2 rfl (by kernel_rfl) whole_blind CG.out CW.out rfl (by kernel_rfl) rfl 80 _ _ _ rfl rfl #[.agg #[.int .i64 k2, .int .i64 n2, .int .i64 s2, .string ⟨#[]⟩, .slice na2 0 nc2, .slice ka2 0 kc2]] (by rw [List.map_toArray]; rfl) (enters Tryz.func80 (by kernel_rfl) rfl) _ (fun W _ => K2.out W) ?_
  simp only [Act.put, List.setIfInBounds_toArray, List.set_cons_zero, List.set_cons_succ]
  refine callR (i := 4) 1 rfl (by kernel_rfl) whole_blind CG.out CW.out rfl (by kernel_rfl) rfl 79 _ _ _ rfl rfl #[.int .u64 3, .int .u64 3] (by rw [List.map_toArray]; rfl) (enters Tryz.func79 (by kernel_rfl) rfl) _ (fun W _ => (cmp39 3 3 W).mono fun e w' ⟨he, hw⟩ => ⟨he, by rw [hw]; exact Grow.refl _⟩) ?_
  simp only [Act.put, List.setIfInBounds_toArray, List.set_cons_zero, List.set_cons_succ]
  refine loneR (C := Grow v0) (i := 5) 0 rfl (by kernel_rfl) rfl rfl (fun _ _ a b => Grow.trans a b) (Grow.refl _) ?_
  repeat (first | go_big_quiet_skip | (go_big_quiet_want; go_big_quiet_op; go_big_quiet_on))
  refine wpQuiet_nil ?_
  refine doneR (by kernel_rfl) ?_
  intro w4 g4
  have HC : Hid (C w4) := CG.out _ _ CW.out g4
  clear CW g4 hCp
  have e0 : sg 3 3 = 0 := by decide
  rw [e0]
  clear e0
  have y0 : w4.cell? ⟨w.heap.size, 0, none⟩ = some (.int .i64 3) := (B0.out _ HC.out).cell 0
  have y1 : w4.cell? ⟨w.heap.size, 1, none⟩ = some (.int .i64 n1) := (B0.out _ HC.out).cell 1
  have y2 : w4.cell? ⟨w.heap.size, 2, none⟩ = some (.int .i64 s1) := (B0.out _ HC.out).cell 2
  have y3 : w4.cell? ⟨w.heap.size, 3, none⟩ = some (.string ⟨#[]⟩) := (B0.out _ HC.out).cell 3
  have y4 : w4.cell? ⟨w.heap.size, 4, none⟩ = some (.slice na1 0 nc1) := (B0.out _ HC.out).cell 4
  have y5 : w4.cell? ⟨w.heap.size, 5, none⟩ = some (.slice ka1 0 kc1) := (B0.out _ HC.out).cell 5
  have z0 : w4.cell? ⟨w.heap.size + 1, 0, none⟩ = some (.int .i64 k2) := (B1.out _ HC.out).cell 0
  have z1 : w4.cell? ⟨w.heap.size + 1, 1, none⟩ = some (.int .i64 n2) := (B1.out _ HC.out).cell 1
  have z2 : w4.cell? ⟨w.heap.size + 1, 2, none⟩ = some (.int .i64 s2) := (B1.out _ HC.out).cell 2
  have z3 : w4.cell? ⟨w.heap.size + 1, 3, none⟩ = some (.string ⟨#[]⟩) := (B1.out _ HC.out).cell 3
  have z4 : w4.cell? ⟨w.heap.size + 1, 4, none⟩ = some (.slice na2 0 nc2) := (B1.out _ HC.out).cell 4
  have z5 : w4.cell? ⟨w.heap.size + 1, 5, none⟩ = some (.slice ka2 0 kc2) := (B1.out _ HC.out).cell 5
  go_wp2_with fail
  clear y0 y1 y2 y3 y4 y5 z0 z1 z2 z3 z4 z5
  refine (KN.out _).mono ?_
  rintro e w5 ⟨rfl, g5⟩
  have G : Hid (Grow w w5) := (GW.out _ HC.out).trans g5
  clear g5 HC CG GW B0 B1 KN K2
  go_wp2
  go_ret
  exact ⟨rfl, G.out⟩
set_option maxRecDepth 8000 in
theorem vcmp4 (n1 s1 : Int) (na1 : Option Addr) (nc1 : Nat) (ka1 : Option Addr) (kc1 : Nat) (k2 n2 s2 : Int) (na2 : Option Addr) (nc2 : Nat) (ka2 : Option Addr) (kc2 : Nat) (c : Int) (K2 : Hid (∀ W, Calls Tryz.prog 80 #[.agg #[.int .i64 k2, .int .i64 n2, .int .i64 s2, .string ⟨#[]⟩, .slice na2 0 nc2, .slice ka2 0 kc2]] W fun e w' => e = .returned (.int .u64 3) ∧ Grow W w')) (KN : Hid (∀ W, Calls Tryz.prog 82 #[.agg #[.int .i64 4, .int .i64 n1, .int .i64 s1, .string ⟨#[]⟩, .slice na1 0 nc1, .slice ka1 0 kc1], .agg #[.int .i64 k2, .int .i64 n2, .int .i64 s2, .string ⟨#[]⟩, .slice na2 0 nc2, .slice ka2 0 kc2]] W fun e w' => e = .returned (.int .i64 c) ∧ Grow W w')) (w : World) :
    Calls Tryz.prog 64 #[.agg #[.int .i64 4, .int .i64 n1, .int .i64 s1, .string ⟨#[]⟩, .slice na1 0 nc1, .slice ka1 0 kc1], .agg #[.int .i64 k2, .int .i64 n2, .int .i64 s2, .string ⟨#[]⟩, .slice na2 0 nc2, .slice ka2 0 kc2]] w fun e w' => e = .returned (.int .i64 c) ∧ Grow w w' := by
  go_enter Tryz.func64, Tryz.ntmps64
  go_wp2
  obtain ⟨w1, HW1⟩ : ∃ w1, ((w.alloc (Obj.cells #[.int .i64 4, .int .i64 n1, .int .i64 s1, .string ⟨#[]⟩, .slice na1 0 nc1, .slice ka1 0 kc1] 25)).alloc (Obj.cells #[.int .i64 k2, .int .i64 n2, .int .i64 s2, .string ⟨#[]⟩, .slice na2 0 nc2, .slice ka2 0 kc2] 25)) = w1 := ⟨_, rfl⟩
  obtain ⟨C, hC⟩ : ∃ C : World → Prop, C = fun W => Grow w1 W := ⟨_, rfl⟩
  have GW : Hid (∀ W, C W → Grow w W) := fun W hW => by rw [hC, ← HW1] at hW; exact Grow.trans (((Grow.refl _).alloc _).alloc _) hW
  have B0 : Hid (∀ W, C W → Blk W (w.heap.size) 25 [.int .i64 4, .int .i64 n1, .int .i64 s1, .string ⟨#[]⟩, .slice na1 0 nc1, .slice ka1 0 kc1]) := fun W hW => by rw [hC, ← HW1] at hW; exact Blk.grow (Blk.alloc (blk_at rfl) _) hW
  have B1 : Hid (∀ W, C W → Blk W (w.heap.size + 1) 25 [.int .i64 k2, .int .i64 n2, .int .i64 s2, .string ⟨#[]⟩, .slice na2 0 nc2, .slice ka2 0 kc2]) := fun W hW => by rw [hC, ← HW1] at hW; exact Blk.grow (blk_at (by simp)) hW
  have CG : Hid (∀ W W', C W → Grow W W' → C W') := fun W W' h1 h2 => by rw [hC] at h1 ⊢; exact h1.trans h2
  have CW : Hid (C { w1 with drawn := w1.drawn + 1 }) := by rw [hC]; exact (Grow.refl _).drew
  rw [HW1]
  clear HW1 hC
  refine region_grow [] (by kernel_rfl) ?_
  generalize ({ w1 with drawn := w1.drawn + 1 } : World) = v0 at *
  have hCp : ∀ p : Prop, (∀ W, C W → p) ↔ p := fun p => ⟨fun h => h _ CW.out, fun h _ _ => h⟩
  refine segR 4 [0, 2] rfl (by kernel_rfl) whole_blind CG.out CW.out (by kernel_rfl) ?_
  change wpQuiet _ _ _ _ (_ :: _ :: []) _
  repeat (first
    | go_big_quiet_skip
    | (go_big_quiet_want
       first
       | (refine q_load 25 (.tmp 2) rfl (w.heap.size) 0 rfl _ _ (fun W hW => (B0.out W hW).all) Tryz.underlying25 rfl sV ?_
          simp only [Act.put, List.setIfInBounds_toArray, List.set_cons_zero, List.set_cons_succ]
          go_big_quiet_on)
       | (refine q_load 25 (.tmp 3) rfl (w.heap.size + 1) 0 rfl _ _ (fun W hW => (B1.out W hW).all) Tryz.underlying25 rfl sV ?_
          simp only [Act.put, List.setIfInBounds_toArray, List.set_cons_zero, List.set_cons_succ]
          go_big_quiet_on)
       | (go_big_quiet_op
          go_big_quiet_on)))
  refine wpQuiet_nil ?_
  refine callR (i := 1) 3 rfl (by kernel_rfl) whole_blind CG.out CW.out rfl (by kernel_rfl) rfl 80 _ _ _ rfl rfl #[.agg #[.int .i64 4, .int .i64 n1, .int .i64 s1, .string ⟨#[]⟩, .slice na1 0 nc1, .slice ka1 0 kc1]] (by rw [List.map_toArray]; rfl) (enters Tryz.func80 (by kernel_rfl) rfl) _ (fun W _ => class4 n1 s1 na1 nc1 ka1 kc1 W) ?_
  simp only [Act.put, List.setIfInBounds_toArray, List.set_cons_zero, List.set_cons_succ]
  refine callR (i := 3) 2 rfl (by kernel_rfl) whole_blind CG.out CW.out rfl (by kernel_rfl) rfl 80 _ _ _ rfl rfl #[.agg #[.int .i64 k2, .int .i64 n2, .int .i64 s2, .string ⟨#[]⟩, .slice na2 0 nc2, .slice ka2 0 kc2]] (by rw [List.map_toArray]; rfl) (enters Tryz.func80 (by kernel_rfl) rfl) _ (fun W _ => K2.out W) ?_
  simp only [Act.put, List.setIfInBounds_toArray, List.set_cons_zero, List.set_cons_succ]
  refine callR (i := 4) 1 rfl (by kernel_rfl) whole_blind CG.out CW.out rfl (by kernel_rfl) rfl 79 _ _ _ rfl rfl #[.int .u64 3, .int .u64 3] (by rw [List.map_toArray]; rfl) (enters Tryz.func79 (by kernel_rfl) rfl) _ (fun W _ => (cmp39 3 3 W).mono fun e w' ⟨he, hw⟩ => ⟨he, by rw [hw]; exact Grow.refl _⟩) ?_
  simp only [Act.put, List.setIfInBounds_toArray, List.set_cons_zero, List.set_cons_succ]
  refine loneR (C := Grow v0) (i := 5) 0 rfl (by kernel_rfl) rfl rfl (fun _ _ a b => Grow.trans a b) (Grow.refl _) ?_
  repeat (first | go_big_quiet_skip | (go_big_quiet_want; go_big_quiet_op; go_big_quiet_on))
  refine wpQuiet_nil ?_
  refine doneR (by kernel_rfl) ?_
  intro w4 g4
  have HC : Hid (C w4) := CG.out _ _ CW.out g4
  clear CW g4 hCp
  have e0 : sg 3 3 = 0 := by decide
  rw [e0]
  clear e0
  have y0 : w4.cell? ⟨w.heap.size, 0, none⟩ = some (.int .i64 4) := (B0.out _ HC.out).cell 0
  have y1 : w4.cell? ⟨w.heap.size, 1, none⟩ = some (.int .i64 n1) := (B0.out _ HC.out).cell 1
  have y2 : w4.cell? ⟨w.heap.size, 2, none⟩ = some (.int .i64 s1) := (B0.out _ HC.out).cell 2
  have y3 : w4.cell? ⟨w.heap.size, 3, none⟩ = some (.string ⟨#[]⟩) := (B0.out _ HC.out).cell 3
  have y4 : w4.cell? ⟨w.heap.size, 4, none⟩ = some (.slice na1 0 nc1) := (B0.out _ HC.out).cell 4
  have y5 : w4.cell? ⟨w.heap.size, 5, none⟩ = some (.slice ka1 0 kc1) := (B0.out _ HC.out).cell 5
  have z0 : w4.cell? ⟨w.heap.size + 1, 0, none⟩ = some (.int .i64 k2) := (B1.out _ HC.out).cell 0
  have z1 : w4.cell? ⟨w.heap.size + 1, 1, none⟩ = some (.int .i64 n2) := (B1.out _ HC.out).cell 1
  have z2 : w4.cell? ⟨w.heap.size + 1, 2, none⟩ = some (.int .i64 s2) := (B1.out _ HC.out).cell 2
  have z3 : w4.cell? ⟨w.heap.size + 1, 3, none⟩ = some (.string ⟨#[]⟩) := (B1.out _ HC.out).cell 3
  have z4 : w4.cell? ⟨w.heap.size + 1, 4, none⟩ = some (.slice na2 0 nc2) := (B1.out _ HC.out).cell 4
  have z5 : w4.cell? ⟨w.heap.size + 1, 5, none⟩ = some (.slice ka2 0 kc2) := (B1.out _ HC.out).cell 5
  go_wp2_with fail
  clear y0 y1 y2 y3 y4 y5 z0 z1 z2 z3 z4 z5
  refine (KN.out _).mono ?_
  rintro e w5 ⟨rfl, g5⟩
  have G : Hid (Grow w w5) := (GW.out _ HC.out).trans g5
  clear g5 HC CG GW B0 B1 KN K2
  go_wp2
  go_ret
  exact ⟨rfl, G.out⟩
theorem class_any (k n s : Int) (hk : k = 3 ∨ k = 4) (na : Option Addr) (nc : Nat) (ka : Option Addr) (kc : Nat) (w : World) : Calls Tryz.prog 80 #[.agg #[.int .i64 k, .int .i64 n, .int .i64 s, .string ⟨#[]⟩, .slice na 0 nc, .slice ka 0 kc]] w fun e w' => e = .returned (.int .u64 3) ∧ Grow w w' := by
  rcases hk with rfl | rfl
  · exact class3 n s na nc ka kc w
  · exact class4 n s na nc ka kc w
/-- Two numbers in their order. -/
def nmI (n1 : Int) (s1 : Nat) (n2 : Int) (s2 : Nat) : Int := sg (n1 * 10 ^ s2) (n2 * 10 ^ s1)
theorem vcompare_num (k1 n1 : Int) (s1 : Nat) (na1 : Option Addr) (nc1 : Nat) (ka1 : Option Addr) (kc1 : Nat) (k2 n2 : Int) (s2 : Nat) (na2 : Option Addr) (nc2 : Nat) (ka2 : Option Addr) (kc2 : Nat) (hk1 : k1 = 3 ∨ k1 = 4) (hk2 : k2 = 3 ∨ k2 = 4) (f1 : -9223372036854775808 ≤ n1 ∧ n1 < 9223372036854775808) (f2 : -9223372036854775808 ≤ n2 ∧ n2 < 9223372036854775808) (q1 : s1 ≤ 18) (q2 : s2 ≤ 18) (w : World) :
    Calls Tryz.prog 64 #[.agg #[.int .i64 k1, .int .i64 n1, .int .i64 (s1 : Int), .string ⟨#[]⟩, .slice na1 0 nc1, .slice ka1 0 kc1], .agg #[.int .i64 k2, .int .i64 n2, .int .i64 (s2 : Int), .string ⟨#[]⟩, .slice na2 0 nc2, .slice ka2 0 kc2]] w fun e w' => e = .returned (.int .i64 (nmI n1 s1 n2 s2)) ∧ Grow w w' := by
  have KN : ∀ W, Calls Tryz.prog 82 #[.agg #[.int .i64 k1, .int .i64 n1, .int .i64 (s1 : Int), .string ⟨#[]⟩, .slice na1 0 nc1, .slice ka1 0 kc1], .agg #[.int .i64 k2, .int .i64 n2, .int .i64 (s2 : Int), .string ⟨#[]⟩, .slice na2 0 nc2, .slice ka2 0 kc2]] W fun e w' => e = .returned (.int .i64 (nmI n1 s1 n2 s2)) ∧ Grow W w' := fun W =>
    nums_v ⟨k1, n1, s1, ⟨#[]⟩, []⟩ ⟨k2, n2, s2, ⟨#[]⟩, []⟩ na1 nc1 ka1 0 kc1 na2 nc2 ka2 0 kc2 ⟨by simp only; omega, by simp only; omega, f1.1, f1.2, by simp only; omega, by simp only; omega, Nat.zero_le _, Nat.zero_le _, by simp⟩ ⟨by simp only; omega, by simp only; omega, f2.1, f2.2, by simp only; omega, by simp only; omega, Nat.zero_le _, Nat.zero_le _, by simp⟩ s1 rfl q1 s2 rfl q2 W
  rcases hk1 with rfl | rfl
  · exact vcmp3 n1 s1 na1 nc1 ka1 kc1 k2 n2 s2 na2 nc2 ka2 kc2 _ (fun W => class_any k2 n2 s2 hk2 na2 nc2 ka2 kc2 W) KN w
  · exact vcmp4 n1 s1 na1 nc1 ka1 kc1 k2 n2 s2 na2 nc2 ka2 kc2 _ (fun W => class_any k2 n2 s2 hk2 na2 nc2 ka2 kc2 W) KN w
set_option maxRecDepth 8000 in
theorem isValue_num (k n s : Int) (hk : k = 3 ∨ k = 4) (t : ByteArray) (na : Option Addr) (nl nc : Nat) (ka : Option Addr) (kl kc : Nat) (hN : isNum k n s t nl kl = true) (w : World) :
    Calls Tryz.prog 63 #[.agg #[.int .i64 k, .int .i64 n, .int .i64 s, .string t, .slice na nl nc, .slice ka kl kc]] w fun e w' => e = .returned (.bool true) ∧ Grow w w' := by
  have K : Hid (∀ W, Calls Tryz.prog 61 #[.agg #[.int .i64 k, .int .i64 n, .int .i64 s, .string t, .slice na nl nc, .slice ka kl kc]] W fun e w' => e = .returned (.int .i64 0) ∧ Grow W w') := fun W => by
    have := vCheck_num k n s hk t na nl nc ka kl kc W
    rw [hN] at this
    exact this
  clear hN hk
  go_enter Tryz.func63, Tryz.ntmps63
  go_wp2_with fail
  refine (K.out _).mono ?_
  rintro e w2 ⟨rfl, g2⟩
  have G : Hid (Grow w w2) := Grow.trans ((Grow.refl _).alloc _) g2
  clear g2 K
  go_wp2
  go_ret
  exact ⟨rfl, G.out⟩
set_option maxRecDepth 8000 in
theorem vCompare_of (k1 n1 s1 : Int) (na1 : Option Addr) (nc1 : Nat) (ka1 : Option Addr) (kc1 : Nat) (k2 n2 s2 : Int) (na2 : Option Addr) (nc2 : Nat) (ka2 : Option Addr) (kc2 : Nat) (c : Int) (K1 : Hid (∀ W, Calls Tryz.prog 63 #[.agg #[.int .i64 k1, .int .i64 n1, .int .i64 s1, .string ⟨#[]⟩, .slice na1 0 nc1, .slice ka1 0 kc1]] W fun e w' => e = .returned (.bool true) ∧ Grow W w')) (K2 : Hid (∀ W, Calls Tryz.prog 63 #[.agg #[.int .i64 k2, .int .i64 n2, .int .i64 s2, .string ⟨#[]⟩, .slice na2 0 nc2, .slice ka2 0 kc2]] W fun e w' => e = .returned (.bool true) ∧ Grow W w')) (K3 : Hid (∀ W, Calls Tryz.prog 64 #[.agg #[.int .i64 k1, .int .i64 n1, .int .i64 s1, .string ⟨#[]⟩, .slice na1 0 nc1, .slice ka1 0 kc1], .agg #[.int .i64 k2, .int .i64 n2, .int .i64 s2, .string ⟨#[]⟩, .slice na2 0 nc2, .slice ka2 0 kc2]] W fun e w' => e = .returned (.int .i64 c) ∧ Grow W w')) (w : World) :
    Calls Tryz.prog 39 #[.agg #[.int .i64 k1, .int .i64 n1, .int .i64 s1, .string ⟨#[]⟩, .slice na1 0 nc1, .slice ka1 0 kc1], .agg #[.int .i64 k2, .int .i64 n2, .int .i64 s2, .string ⟨#[]⟩, .slice na2 0 nc2, .slice ka2 0 kc2]] w fun e w' => e = .returned (.int .i64 c) ∧ Grow w w' := by
  go_enter Tryz.func39, Tryz.ntmps39
  go_wp2_with fail
  obtain ⟨w1, HW1, H0⟩ : ∃ w1, ((w.alloc (Obj.cells #[.int .i64 k1, .int .i64 n1, .int .i64 s1, .string ⟨#[]⟩, .slice na1 0 nc1, .slice ka1 0 kc1] 25)).alloc (Obj.cells #[.int .i64 k2, .int .i64 n2, .int .i64 s2, .string ⟨#[]⟩, .slice na2 0 nc2, .slice ka2 0 kc2] 25)) = w1 ∧ Hid (Blk w1 (w.heap.size) 25 [.int .i64 k1, .int .i64 n1, .int .i64 s1, .string ⟨#[]⟩, .slice na1 0 nc1, .slice ka1 0 kc1] ∧ Blk w1 (w.heap.size + 1) 25 [.int .i64 k2, .int .i64 n2, .int .i64 s2, .string ⟨#[]⟩, .slice na2 0 nc2, .slice ka2 0 kc2] ∧ Grow w w1) := ⟨_, rfl, (Blk.alloc (blk_at rfl) _), (blk_at (by simp)), (((Grow.refl _).alloc _).alloc _)⟩
  rw [HW1]
  clear HW1
  refine (K1.out _).mono ?_
  rintro e w2 ⟨rfl, g0⟩
  have H1 : Hid (Blk w2 (w.heap.size) 25 [.int .i64 k1, .int .i64 n1, .int .i64 s1, .string ⟨#[]⟩, .slice na1 0 nc1, .slice ka1 0 kc1] ∧ Blk w2 (w.heap.size + 1) 25 [.int .i64 k2, .int .i64 n2, .int .i64 s2, .string ⟨#[]⟩, .slice na2 0 nc2, .slice ka2 0 kc2] ∧ Grow w w2) := ⟨(H0.out.1).grow g0, (H0.out.2.1).grow g0, Grow.trans (H0.out.2.2) g0⟩
  clear H0 g0
  have q1_0 : w2.cell? ⟨w.heap.size + 1, 0, none⟩ = some (.int .i64 k2) := (H1.out.2.1).cell 0
  have q1_1 : w2.cell? ⟨w.heap.size + 1, 1, none⟩ = some (.int .i64 n2) := (H1.out.2.1).cell 1
  have q1_2 : w2.cell? ⟨w.heap.size + 1, 2, none⟩ = some (.int .i64 s2) := (H1.out.2.1).cell 2
  have q1_3 : w2.cell? ⟨w.heap.size + 1, 3, none⟩ = some (.string ⟨#[]⟩) := (H1.out.2.1).cell 3
  have q1_4 : w2.cell? ⟨w.heap.size + 1, 4, none⟩ = some (.slice na2 0 nc2) := (H1.out.2.1).cell 4
  have q1_5 : w2.cell? ⟨w.heap.size + 1, 5, none⟩ = some (.slice ka2 0 kc2) := (H1.out.2.1).cell 5
  go_wp2_with fail
  clear q1_0 q1_1 q1_2 q1_3 q1_4 q1_5
  refine (K2.out _).mono ?_
  rintro e w3 ⟨rfl, g1⟩
  have H2 : Hid (Blk w3 (w.heap.size) 25 [.int .i64 k1, .int .i64 n1, .int .i64 s1, .string ⟨#[]⟩, .slice na1 0 nc1, .slice ka1 0 kc1] ∧ Blk w3 (w.heap.size + 1) 25 [.int .i64 k2, .int .i64 n2, .int .i64 s2, .string ⟨#[]⟩, .slice na2 0 nc2, .slice ka2 0 kc2] ∧ Grow w w3) := ⟨(H1.out.1).grow g1, (H1.out.2.1).grow g1, Grow.trans (H1.out.2.2) g1⟩
  clear H1 g1
  have q0_0 : w3.cell? ⟨w.heap.size, 0, none⟩ = some (.int .i64 k1) := (H2.out.1).cell 0
  have q0_1 : w3.cell? ⟨w.heap.size, 1, none⟩ = some (.int .i64 n1) := (H2.out.1).cell 1
  have q0_2 : w3.cell? ⟨w.heap.size, 2, none⟩ = some (.int .i64 s1) := (H2.out.1).cell 2
  have q0_3 : w3.cell? ⟨w.heap.size, 3, none⟩ = some (.string ⟨#[]⟩) := (H2.out.1).cell 3
  have q0_4 : w3.cell? ⟨w.heap.size, 4, none⟩ = some (.slice na1 0 nc1) := (H2.out.1).cell 4
  have q0_5 : w3.cell? ⟨w.heap.size, 5, none⟩ = some (.slice ka1 0 kc1) := (H2.out.1).cell 5
  have q1_0 : w3.cell? ⟨w.heap.size + 1, 0, none⟩ = some (.int .i64 k2) := (H2.out.2.1).cell 0
  have q1_1 : w3.cell? ⟨w.heap.size + 1, 1, none⟩ = some (.int .i64 n2) := (H2.out.2.1).cell 1
  have q1_2 : w3.cell? ⟨w.heap.size + 1, 2, none⟩ = some (.int .i64 s2) := (H2.out.2.1).cell 2
  have q1_3 : w3.cell? ⟨w.heap.size + 1, 3, none⟩ = some (.string ⟨#[]⟩) := (H2.out.2.1).cell 3
  have q1_4 : w3.cell? ⟨w.heap.size + 1, 4, none⟩ = some (.slice na2 0 nc2) := (H2.out.2.1).cell 4
  have q1_5 : w3.cell? ⟨w.heap.size + 1, 5, none⟩ = some (.slice ka2 0 kc2) := (H2.out.2.1).cell 5
  go_wp2_with fail
  clear q0_0 q0_1 q0_2 q0_3 q0_4 q0_5 q1_0 q1_1 q1_2 q1_3 q1_4 q1_5
  refine (K3.out _).mono ?_
  rintro e w4 ⟨rfl, g2⟩
  have H3 : Hid (Blk w4 (w.heap.size) 25 [.int .i64 k1, .int .i64 n1, .int .i64 s1, .string ⟨#[]⟩, .slice na1 0 nc1, .slice ka1 0 kc1] ∧ Blk w4 (w.heap.size + 1) 25 [.int .i64 k2, .int .i64 n2, .int .i64 s2, .string ⟨#[]⟩, .slice na2 0 nc2, .slice ka2 0 kc2] ∧ Grow w w4) := ⟨(H2.out.1).grow g2, (H2.out.2.1).grow g2, Grow.trans (H2.out.2.2) g2⟩
  clear H2 g2
  go_wp2
  go_ret
  exact ⟨rfl, H3.out.2.2⟩
set_option maxRecDepth 8000 in
theorem dCompare_of (k1 n1 s1 : Int) (na1 : Option Addr) (nc1 : Nat) (ka1 : Option Addr) (kc1 : Nat) (k2 n2 s2 : Int) (na2 : Option Addr) (nc2 : Nat) (ka2 : Option Addr) (kc2 : Nat) (c : Int) (K1 : Hid (∀ W, Calls Tryz.prog 35 #[.agg #[.int .i64 k1, .int .i64 n1, .int .i64 s1, .string ⟨#[]⟩, .slice na1 0 nc1, .slice ka1 0 kc1]] W fun e w' => e = .returned (.bool true) ∧ Grow W w')) (K2 : Hid (∀ W, Calls Tryz.prog 35 #[.agg #[.int .i64 k2, .int .i64 n2, .int .i64 s2, .string ⟨#[]⟩, .slice na2 0 nc2, .slice ka2 0 kc2]] W fun e w' => e = .returned (.bool true) ∧ Grow W w')) (K3 : Hid (∀ W, Calls Tryz.prog 39 #[.agg #[.int .i64 k1, .int .i64 n1, .int .i64 s1, .string ⟨#[]⟩, .slice na1 0 nc1, .slice ka1 0 kc1], .agg #[.int .i64 k2, .int .i64 n2, .int .i64 s2, .string ⟨#[]⟩, .slice na2 0 nc2, .slice ka2 0 kc2]] W fun e w' => e = .returned (.int .i64 c) ∧ Grow W w')) (w : World) :
    Calls Tryz.prog 14 #[.agg #[.int .i64 k1, .int .i64 n1, .int .i64 s1, .string ⟨#[]⟩, .slice na1 0 nc1, .slice ka1 0 kc1], .agg #[.int .i64 k2, .int .i64 n2, .int .i64 s2, .string ⟨#[]⟩, .slice na2 0 nc2, .slice ka2 0 kc2]] w fun e w' => e = .returned (.tuple #[.int .i64 c, .int .i64 0]) ∧ Grow w w' := by
  go_enter Tryz.func14, Tryz.ntmps14
  go_wp2_with fail
  obtain ⟨w1, HW1, H0⟩ : ∃ w1, ((w.alloc (Obj.cells #[.int .i64 k1, .int .i64 n1, .int .i64 s1, .string ⟨#[]⟩, .slice na1 0 nc1, .slice ka1 0 kc1] 25)).alloc (Obj.cells #[.int .i64 k2, .int .i64 n2, .int .i64 s2, .string ⟨#[]⟩, .slice na2 0 nc2, .slice ka2 0 kc2] 25)) = w1 ∧ Hid (Blk w1 (w.heap.size) 25 [.int .i64 k1, .int .i64 n1, .int .i64 s1, .string ⟨#[]⟩, .slice na1 0 nc1, .slice ka1 0 kc1] ∧ Blk w1 (w.heap.size + 1) 25 [.int .i64 k2, .int .i64 n2, .int .i64 s2, .string ⟨#[]⟩, .slice na2 0 nc2, .slice ka2 0 kc2] ∧ Grow w w1) := ⟨_, rfl, (Blk.alloc (blk_at rfl) _), (blk_at (by simp)), (((Grow.refl _).alloc _).alloc _)⟩
  rw [HW1]
  clear HW1
  refine (K1.out _).mono ?_
  rintro e w2 ⟨rfl, g0⟩
  have H1 : Hid (Blk w2 (w.heap.size) 25 [.int .i64 k1, .int .i64 n1, .int .i64 s1, .string ⟨#[]⟩, .slice na1 0 nc1, .slice ka1 0 kc1] ∧ Blk w2 (w.heap.size + 1) 25 [.int .i64 k2, .int .i64 n2, .int .i64 s2, .string ⟨#[]⟩, .slice na2 0 nc2, .slice ka2 0 kc2] ∧ Grow w w2) := ⟨(H0.out.1).grow g0, (H0.out.2.1).grow g0, Grow.trans (H0.out.2.2) g0⟩
  clear H0 g0
  have q1_0 : w2.cell? ⟨w.heap.size + 1, 0, none⟩ = some (.int .i64 k2) := (H1.out.2.1).cell 0
  have q1_1 : w2.cell? ⟨w.heap.size + 1, 1, none⟩ = some (.int .i64 n2) := (H1.out.2.1).cell 1
  have q1_2 : w2.cell? ⟨w.heap.size + 1, 2, none⟩ = some (.int .i64 s2) := (H1.out.2.1).cell 2
  have q1_3 : w2.cell? ⟨w.heap.size + 1, 3, none⟩ = some (.string ⟨#[]⟩) := (H1.out.2.1).cell 3
  have q1_4 : w2.cell? ⟨w.heap.size + 1, 4, none⟩ = some (.slice na2 0 nc2) := (H1.out.2.1).cell 4
  have q1_5 : w2.cell? ⟨w.heap.size + 1, 5, none⟩ = some (.slice ka2 0 kc2) := (H1.out.2.1).cell 5
  go_wp2_with fail
  clear q1_0 q1_1 q1_2 q1_3 q1_4 q1_5
  refine (K2.out _).mono ?_
  rintro e w3 ⟨rfl, g1⟩
  have H2 : Hid (Blk w3 (w.heap.size) 25 [.int .i64 k1, .int .i64 n1, .int .i64 s1, .string ⟨#[]⟩, .slice na1 0 nc1, .slice ka1 0 kc1] ∧ Blk w3 (w.heap.size + 1) 25 [.int .i64 k2, .int .i64 n2, .int .i64 s2, .string ⟨#[]⟩, .slice na2 0 nc2, .slice ka2 0 kc2] ∧ Grow w w3) := ⟨(H1.out.1).grow g1, (H1.out.2.1).grow g1, Grow.trans (H1.out.2.2) g1⟩
  clear H1 g1
  have q0_0 : w3.cell? ⟨w.heap.size, 0, none⟩ = some (.int .i64 k1) := (H2.out.1).cell 0
  have q0_1 : w3.cell? ⟨w.heap.size, 1, none⟩ = some (.int .i64 n1) := (H2.out.1).cell 1
  have q0_2 : w3.cell? ⟨w.heap.size, 2, none⟩ = some (.int .i64 s1) := (H2.out.1).cell 2
  have q0_3 : w3.cell? ⟨w.heap.size, 3, none⟩ = some (.string ⟨#[]⟩) := (H2.out.1).cell 3
  have q0_4 : w3.cell? ⟨w.heap.size, 4, none⟩ = some (.slice na1 0 nc1) := (H2.out.1).cell 4
  have q0_5 : w3.cell? ⟨w.heap.size, 5, none⟩ = some (.slice ka1 0 kc1) := (H2.out.1).cell 5
  have q1_0 : w3.cell? ⟨w.heap.size + 1, 0, none⟩ = some (.int .i64 k2) := (H2.out.2.1).cell 0
  have q1_1 : w3.cell? ⟨w.heap.size + 1, 1, none⟩ = some (.int .i64 n2) := (H2.out.2.1).cell 1
  have q1_2 : w3.cell? ⟨w.heap.size + 1, 2, none⟩ = some (.int .i64 s2) := (H2.out.2.1).cell 2
  have q1_3 : w3.cell? ⟨w.heap.size + 1, 3, none⟩ = some (.string ⟨#[]⟩) := (H2.out.2.1).cell 3
  have q1_4 : w3.cell? ⟨w.heap.size + 1, 4, none⟩ = some (.slice na2 0 nc2) := (H2.out.2.1).cell 4
  have q1_5 : w3.cell? ⟨w.heap.size + 1, 5, none⟩ = some (.slice ka2 0 kc2) := (H2.out.2.1).cell 5
  go_wp2_with fail
  clear q0_0 q0_1 q0_2 q0_3 q0_4 q0_5 q1_0 q1_1 q1_2 q1_3 q1_4 q1_5
  refine (K3.out _).mono ?_
  rintro e w4 ⟨rfl, g2⟩
  have H3 : Hid (Blk w4 (w.heap.size) 25 [.int .i64 k1, .int .i64 n1, .int .i64 s1, .string ⟨#[]⟩, .slice na1 0 nc1, .slice ka1 0 kc1] ∧ Blk w4 (w.heap.size + 1) 25 [.int .i64 k2, .int .i64 n2, .int .i64 s2, .string ⟨#[]⟩, .slice na2 0 nc2, .slice ka2 0 kc2] ∧ Grow w w4) := ⟨(H2.out.1).grow g2, (H2.out.2.1).grow g2, Grow.trans (H2.out.2.2) g2⟩
  clear H2 g2
  go_wp2
  go_ret2
  exact ⟨rfl, H3.out.2.2⟩
set_option maxRecDepth 8000 in
theorem dCompare_no1 (v1 v2 : Vv) (K1 : Hid (∀ W, Calls Tryz.prog 35 #[.agg #[.int .i64 v1.k, .int .i64 v1.n, .int .i64 v1.s, .string v1.t, .slice v1.na v1.nl v1.nc, .slice v1.ka v1.kl v1.kc]] W fun e w' => e = .returned (.bool false) ∧ Grow W w')) (w : World) :
    Calls Tryz.prog 14 #[.agg #[.int .i64 v1.k, .int .i64 v1.n, .int .i64 v1.s, .string v1.t, .slice v1.na v1.nl v1.nc, .slice v1.ka v1.kl v1.kc], .agg #[.int .i64 v2.k, .int .i64 v2.n, .int .i64 v2.s, .string v2.t, .slice v2.na v2.nl v2.nc, .slice v2.ka v2.kl v2.kc]] w fun e w' => e = .returned (.tuple #[.int .i64 0, .int .i64 11]) ∧ Grow w w' := by
  go_enter Tryz.func14, Tryz.ntmps14
  go_wp2_with fail
  obtain ⟨w1, HW1, H0⟩ : ∃ w1, ((w.alloc (Obj.cells #[.int .i64 v1.k, .int .i64 v1.n, .int .i64 v1.s, .string v1.t, .slice v1.na v1.nl v1.nc, .slice v1.ka v1.kl v1.kc] 25)).alloc (Obj.cells #[.int .i64 v2.k, .int .i64 v2.n, .int .i64 v2.s, .string v2.t, .slice v2.na v2.nl v2.nc, .slice v2.ka v2.kl v2.kc] 25)) = w1 ∧ Hid (Blk w1 (w.heap.size) 25 [.int .i64 v1.k, .int .i64 v1.n, .int .i64 v1.s, .string v1.t, .slice v1.na v1.nl v1.nc, .slice v1.ka v1.kl v1.kc] ∧ Blk w1 (w.heap.size + 1) 25 [.int .i64 v2.k, .int .i64 v2.n, .int .i64 v2.s, .string v2.t, .slice v2.na v2.nl v2.nc, .slice v2.ka v2.kl v2.kc] ∧ Grow w w1) := ⟨_, rfl, (Blk.alloc (blk_at rfl) _), (blk_at (by simp)), (((Grow.refl _).alloc _).alloc _)⟩
  rw [HW1]
  clear HW1
  refine (K1.out _).mono ?_
  rintro e w2 ⟨rfl, g0⟩
  have H1 : Hid (Blk w2 (w.heap.size) 25 [.int .i64 v1.k, .int .i64 v1.n, .int .i64 v1.s, .string v1.t, .slice v1.na v1.nl v1.nc, .slice v1.ka v1.kl v1.kc] ∧ Blk w2 (w.heap.size + 1) 25 [.int .i64 v2.k, .int .i64 v2.n, .int .i64 v2.s, .string v2.t, .slice v2.na v2.nl v2.nc, .slice v2.ka v2.kl v2.kc] ∧ Grow w w2) := ⟨(H0.out.1).grow g0, (H0.out.2.1).grow g0, Grow.trans (H0.out.2.2) g0⟩
  clear H0 g0
  go_wp2
  go_ret2
  exact ⟨rfl, H1.out.2.2⟩
set_option maxRecDepth 8000 in
theorem dCompare_no2 (v1 v2 : Vv) (K1 : Hid (∀ W, Calls Tryz.prog 35 #[.agg #[.int .i64 v1.k, .int .i64 v1.n, .int .i64 v1.s, .string v1.t, .slice v1.na v1.nl v1.nc, .slice v1.ka v1.kl v1.kc]] W fun e w' => e = .returned (.bool true) ∧ Grow W w')) (K2 : Hid (∀ W, Calls Tryz.prog 35 #[.agg #[.int .i64 v2.k, .int .i64 v2.n, .int .i64 v2.s, .string v2.t, .slice v2.na v2.nl v2.nc, .slice v2.ka v2.kl v2.kc]] W fun e w' => e = .returned (.bool false) ∧ Grow W w')) (w : World) :
    Calls Tryz.prog 14 #[.agg #[.int .i64 v1.k, .int .i64 v1.n, .int .i64 v1.s, .string v1.t, .slice v1.na v1.nl v1.nc, .slice v1.ka v1.kl v1.kc], .agg #[.int .i64 v2.k, .int .i64 v2.n, .int .i64 v2.s, .string v2.t, .slice v2.na v2.nl v2.nc, .slice v2.ka v2.kl v2.kc]] w fun e w' => e = .returned (.tuple #[.int .i64 0, .int .i64 11]) ∧ Grow w w' := by
  go_enter Tryz.func14, Tryz.ntmps14
  go_wp2_with fail
  obtain ⟨w1, HW1, H0⟩ : ∃ w1, ((w.alloc (Obj.cells #[.int .i64 v1.k, .int .i64 v1.n, .int .i64 v1.s, .string v1.t, .slice v1.na v1.nl v1.nc, .slice v1.ka v1.kl v1.kc] 25)).alloc (Obj.cells #[.int .i64 v2.k, .int .i64 v2.n, .int .i64 v2.s, .string v2.t, .slice v2.na v2.nl v2.nc, .slice v2.ka v2.kl v2.kc] 25)) = w1 ∧ Hid (Blk w1 (w.heap.size) 25 [.int .i64 v1.k, .int .i64 v1.n, .int .i64 v1.s, .string v1.t, .slice v1.na v1.nl v1.nc, .slice v1.ka v1.kl v1.kc] ∧ Blk w1 (w.heap.size + 1) 25 [.int .i64 v2.k, .int .i64 v2.n, .int .i64 v2.s, .string v2.t, .slice v2.na v2.nl v2.nc, .slice v2.ka v2.kl v2.kc] ∧ Grow w w1) := ⟨_, rfl, (Blk.alloc (blk_at rfl) _), (blk_at (by simp)), (((Grow.refl _).alloc _).alloc _)⟩
  rw [HW1]
  clear HW1
  refine (K1.out _).mono ?_
  rintro e w2 ⟨rfl, g0⟩
  have H1 : Hid (Blk w2 (w.heap.size) 25 [.int .i64 v1.k, .int .i64 v1.n, .int .i64 v1.s, .string v1.t, .slice v1.na v1.nl v1.nc, .slice v1.ka v1.kl v1.kc] ∧ Blk w2 (w.heap.size + 1) 25 [.int .i64 v2.k, .int .i64 v2.n, .int .i64 v2.s, .string v2.t, .slice v2.na v2.nl v2.nc, .slice v2.ka v2.kl v2.kc] ∧ Grow w w2) := ⟨(H0.out.1).grow g0, (H0.out.2.1).grow g0, Grow.trans (H0.out.2.2) g0⟩
  clear H0 g0
  have q1_0 : w2.cell? ⟨w.heap.size + 1, 0, none⟩ = some (.int .i64 v2.k) := (H1.out.2.1).cell 0
  have q1_1 : w2.cell? ⟨w.heap.size + 1, 1, none⟩ = some (.int .i64 v2.n) := (H1.out.2.1).cell 1
  have q1_2 : w2.cell? ⟨w.heap.size + 1, 2, none⟩ = some (.int .i64 v2.s) := (H1.out.2.1).cell 2
  have q1_3 : w2.cell? ⟨w.heap.size + 1, 3, none⟩ = some (.string v2.t) := (H1.out.2.1).cell 3
  have q1_4 : w2.cell? ⟨w.heap.size + 1, 4, none⟩ = some (.slice v2.na v2.nl v2.nc) := (H1.out.2.1).cell 4
  have q1_5 : w2.cell? ⟨w.heap.size + 1, 5, none⟩ = some (.slice v2.ka v2.kl v2.kc) := (H1.out.2.1).cell 5
  go_wp2_with fail
  clear q1_0 q1_1 q1_2 q1_3 q1_4 q1_5
  refine (K2.out _).mono ?_
  rintro e w3 ⟨rfl, g1⟩
  have H2 : Hid (Blk w3 (w.heap.size) 25 [.int .i64 v1.k, .int .i64 v1.n, .int .i64 v1.s, .string v1.t, .slice v1.na v1.nl v1.nc, .slice v1.ka v1.kl v1.kc] ∧ Blk w3 (w.heap.size + 1) 25 [.int .i64 v2.k, .int .i64 v2.n, .int .i64 v2.s, .string v2.t, .slice v2.na v2.nl v2.nc, .slice v2.ka v2.kl v2.kc] ∧ Grow w w3) := ⟨(H1.out.1).grow g1, (H1.out.2.1).grow g1, Grow.trans (H1.out.2.2) g1⟩
  clear H1 g1
  go_wp2
  go_ret2
  exact ⟨rfl, H2.out.2.2⟩
/-- What Compare answers, and its error. -/
def cmpC (v1 v2 : Vv) : Int := if v1.num && v2.num then nmI v1.n v1.s.toNat v2.n v2.s.toNat else 0
def cmpE (v1 v2 : Vv) : Int := if v1.num && v2.num then 0 else 11
theorem Vv.kind {v : Vv} (h : v.num = true) : v.k = 3 ∨ v.k = 4 := by
  rcases (isNum_yes h).2.2.2 with h | h
  · exact .inl h.1
  · exact .inr h.1
theorem dCompare_any (v1 v2 : Vv) (f1 : v1.fit) (f2 : v2.fit) (w : World) :
    Calls Tryz.prog 14 #[.agg #[.int .i64 v1.k, .int .i64 v1.n, .int .i64 v1.s, .string v1.t, .slice v1.na v1.nl v1.nc, .slice v1.ka v1.kl v1.kc], .agg #[.int .i64 v2.k, .int .i64 v2.n, .int .i64 v2.s, .string v2.t, .slice v2.na v2.nl v2.nc, .slice v2.ka v2.kl v2.kc]] w fun e w' => e = .returned (.tuple #[.int .i64 (cmpC v1 v2), .int .i64 (cmpE v1 v2)]) ∧ Grow w w' := by
  have N1 : ∀ W, Calls Tryz.prog 35 #[.agg #[.int .i64 v1.k, .int .i64 v1.n, .int .i64 v1.s, .string v1.t, .slice v1.na v1.nl v1.nc, .slice v1.ka v1.kl v1.kc]] W fun e w' => e = .returned (.bool v1.num) ∧ Grow W w' := fun W => isNumber_any v1.k v1.n v1.s v1.t v1.na v1.nl v1.nc v1.ka v1.kl v1.kc W
  have N2 : ∀ W, Calls Tryz.prog 35 #[.agg #[.int .i64 v2.k, .int .i64 v2.n, .int .i64 v2.s, .string v2.t, .slice v2.na v2.nl v2.nc, .slice v2.ka v2.kl v2.kc]] W fun e w' => e = .returned (.bool v2.num) ∧ Grow W w' := fun W => isNumber_any v2.k v2.n v2.s v2.t v2.na v2.nl v2.nc v2.ka v2.kl v2.kc W
  cases h1 : v1.num with
  | false =>
    rw [h1] at N1
    have e1 : cmpC v1 v2 = 0 := by simp [cmpC, h1]
    have e2 : cmpE v1 v2 = 11 := by simp [cmpE, h1]
    rw [e1, e2]
    exact dCompare_no1 v1 v2 N1 w
  | true =>
    rw [h1] at N1
    cases h2 : v2.num with
    | false =>
      rw [h2] at N2
      have e1 : cmpC v1 v2 = 0 := by simp [cmpC, h2]
      have e2 : cmpE v1 v2 = 11 := by simp [cmpE, h2]
      rw [e1, e2]
      exact dCompare_no2 v1 v2 N1 N2 w
    | true =>
      rw [h2] at N2
      have e1 : cmpC v1 v2 = nmI v1.n v1.s.toNat v2.n v2.s.toNat := by simp [cmpC, h1, h2]
      have e2 : cmpE v1 v2 = 0 := by simp [cmpE, h1, h2]
      rw [e1, e2]
      have hk1 := Vv.kind h1
      have hk2 := Vv.kind h2
      obtain ⟨x1, x2, x3, x4, x5, _, _⟩ := v1.is h1
      obtain ⟨y1, y2, y3, y4, y5, _, _⟩ := v2.is h2
      obtain ⟨k1, n1, s1, t1, na1, nl1, nc1, ka1, kl1, kc1⟩ := v1
      obtain ⟨k2, n2, s2, t2, na2, nl2, nc2, ka2, kl2, kc2⟩ := v2
      simp only at x1 x2 x3 x4 x5 y1 y2 y3 y4 y5 hk1 hk2 N1 N2 ⊢
      simp only [Vv.num] at h1 h2
      subst x1 x2 x3 y1 y2 y3
      generalize s1.toNat = q1 at *
      generalize s2.toNat = q2 at *
      subst x4 y4
      exact dCompare_of k1 n1 q1 na1 nc1 ka1 kc1 k2 n2 q2 na2 nc2 ka2 kc2 _ N1 N2 (fun W => vCompare_of k1 n1 q1 na1 nc1 ka1 kc1 k2 n2 q2 na2 nc2 ka2 kc2 _ (fun W => isValue_num k1 n1 q1 hk1 _ na1 0 nc1 ka1 0 kc1 h1 W) (fun W => isValue_num k2 n2 q2 hk2 _ na2 0 nc2 ka2 0 kc2 h2 W) (fun W => vcompare_num k1 n1 q1 na1 nc1 ka1 kc1 k2 n2 q2 na2 nc2 ka2 kc2 hk1 hk2 f1 f2 x5 y5 W) W) w
end Go.Proofs.YtbafmdjlnmeofaaGreatDoor
