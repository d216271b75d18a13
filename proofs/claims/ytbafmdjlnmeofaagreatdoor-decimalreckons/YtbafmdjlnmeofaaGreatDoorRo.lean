/-
  The document's own order of two numbers; decimal.Neg; plain; DecimalReckons' walk.
-/
import Derived.Test.YtbafmdjlnmeofaaGreatDoorRz
import Derived.Test.YtbafmdjlnmeofaaGreatDoorCmr
import Derived.Test.YtbafmdjlnmeofaaGreatDoorCp
namespace Go.Proofs.YtbafmdjlnmeofaaGreatDoor
open Go.RowKit
set_option linter.unusedVariables false
theorem classR (k : Int) (hk : k = 3 ∨ k = 4) (w : World) : Calls Tryz.prog 65 #[.int .i64 k] w fun e w' => e = .returned (.int .i64 3) ∧ Grow w w' := by
  rcases hk with rfl | rfl
  all_goals
    go_enter Tryz.func65, Tryz.ntmps65
    go_wp2
    go_ret
    exact ⟨rfl, Grow.refl _⟩
set_option maxRecDepth 8000 in
set_option maxHeartbeats 1000000 in
theorem orderR (k1 n1 : Int) (s1 : Nat) (na1 : Option Addr) (nc1 : Nat) (ka1 : Option Addr) (kc1 : Nat) (k2 n2 : Int) (s2 : Nat) (na2 : Option Addr) (nc2 : Nat) (ka2 : Option Addr) (kc2 : Nat) (c : Int) (C1 : Hid (∀ W, Calls Tryz.prog 65 #[.int .i64 k1] W fun e w' => e = .returned (.int .i64 3) ∧ Grow W w')) (C2 : Hid (∀ W, Calls Tryz.prog 65 #[.int .i64 k2] W fun e w' => e = .returned (.int .i64 3) ∧ Grow W w')) (N : Hid (∀ W, Calls Tryz.prog 67 #[.agg #[.int .i64 k1, .int .i64 n1, .int .i64 (s1 : Int), .string ⟨#[]⟩, .slice na1 0 nc1, .slice ka1 0 kc1], .agg #[.int .i64 k2, .int .i64 n2, .int .i64 (s2 : Int), .string ⟨#[]⟩, .slice na2 0 nc2, .slice ka2 0 kc2]] W fun e w' => e = .returned (.int .i64 c) ∧ Grow W w')) (w : World) :
    Calls Tryz.prog 40 #[.agg #[.int .i64 k1, .int .i64 n1, .int .i64 (s1 : Int), .string ⟨#[]⟩, .slice na1 0 nc1, .slice ka1 0 kc1], .agg #[.int .i64 k2, .int .i64 n2, .int .i64 (s2 : Int), .string ⟨#[]⟩, .slice na2 0 nc2, .slice ka2 0 kc2]] w fun e w' => e = .returned (.int .i64 c) ∧ Grow w w' := by
  go_enter Tryz.func40, Tryz.ntmps40
  go_wp2
  obtain ⟨w1, HW1⟩ : ∃ w1, ((w.alloc (Obj.cells #[.int .i64 k1, .int .i64 n1, .int .i64 (s1 : Int), .string ⟨#[]⟩, .slice na1 0 nc1, .slice ka1 0 kc1] 25)).alloc (Obj.cells #[.int .i64 k2, .int .i64 n2, .int .i64 (s2 : Int), .string ⟨#[]⟩, .slice na2 0 nc2, .slice ka2 0 kc2] 25)) = w1 := ⟨_, rfl⟩
  obtain ⟨C, hC⟩ : ∃ C : World → Prop, C = fun W => Grow w1 W := ⟨_, rfl⟩
  have GW : Hid (∀ W, C W → Grow w W) := fun W hW => by rw [hC, ← HW1] at hW; exact Grow.trans (((Grow.refl _).alloc _).alloc _) hW
  have B0 : Hid (∀ W, C W → Blk W (w.heap.size) 25 [.int .i64 k1, .int .i64 n1, .int .i64 (s1 : Int), .string ⟨#[]⟩, .slice na1 0 nc1, .slice ka1 0 kc1]) := fun W hW => by rw [hC, ← HW1] at hW; exact Blk.grow (Blk.alloc (blk_at rfl) _) hW
  have B1 : Hid (∀ W, C W → Blk W (w.heap.size + 1) 25 [.int .i64 k2, .int .i64 n2, .int .i64 (s2 : Int), .string ⟨#[]⟩, .slice na2 0 nc2, .slice ka2 0 kc2]) := fun W hW => by rw [hC, ← HW1] at hW; exact Blk.grow (blk_at (by simp)) hW
  have CG : Hid (∀ W W', C W → Grow W W' → C W') := fun W W' h1 h2 => by rw [hC] at h1 ⊢; exact h1.trans h2
  have CW : Hid (C { w1 with drawn := w1.drawn + 1 }) := by rw [hC]; exact (Grow.refl _).drew
  rw [HW1]
  clear HW1 hC
  refine region_grow [] (by kernel_rfl) ?_
  generalize ({ w1 with drawn := w1.drawn + 1 } : World) = v0 at *
  have hCp : ∀ p : Prop, (∀ W, C W → p) ↔ p := fun p => ⟨fun h => h _ CW.out, fun h _ _ => h⟩
  refine segR 4 [0, 1, 3, 4] rfl (by kernel_rfl) whole_blind CG.out CW.out (by kernel_rfl) ?_
  change wpQuiet _ _ _ _ (_ :: _ :: _ :: _ :: []) _
  repeat (first
    | go_big_quiet_skip
    | (go_big_quiet_want
       first
       | (refine q_one 3 (.inl rfl) (.tmp 10) rfl (w.heap.size) 0 rfl _ (fun W hW => by rw [(B0.out W hW).cell]; rfl) ?_
          simp only [Act.put, List.setIfInBounds_toArray, List.set_cons_zero, List.set_cons_succ]
          go_big_quiet_on)
       | (refine q_one 3 (.inl rfl) (.tmp 13) rfl (w.heap.size + 1) 0 rfl _ (fun W hW => by rw [(B1.out W hW).cell]; rfl) ?_
          simp only [Act.put, List.setIfInBounds_toArray, List.set_cons_zero, List.set_cons_succ]
          go_big_quiet_on)
       | (go_big_quiet_op
          go_big_quiet_on)))
  refine wpQuiet_nil ?_
  refine callR (i := 2) 3 rfl (by kernel_rfl) whole_blind CG.out CW.out rfl (by kernel_rfl) rfl 65 _ _ _ rfl rfl #[.int .i64 k1] (by rw [List.map_toArray]; rfl) (enters Tryz.func65 (by kernel_rfl) rfl) _ (fun W _ => C1.out W) ?_
  simp only [Act.put, List.setIfInBounds_toArray, List.set_cons_zero, List.set_cons_succ]
  refine callR (i := 5) 2 rfl (by kernel_rfl) whole_blind CG.out CW.out rfl (by kernel_rfl) rfl 65 _ _ _ rfl rfl #[.int .i64 k2] (by rw [List.map_toArray]; rfl) (enters Tryz.func65 (by kernel_rfl) rfl) _ (fun W _ => C2.out W) ?_
  simp only [Act.put, List.setIfInBounds_toArray, List.set_cons_zero, List.set_cons_succ]
  refine loneR (C := Grow v0) (i := 6) 1 rfl (by kernel_rfl) rfl rfl (fun _ _ a b => Grow.trans a b) (Grow.refl _) ?_
  repeat (first | go_big_quiet_skip | (go_big_quiet_want; go_big_quiet_op; go_big_quiet_on))
  refine wpQuiet_nil ?_
  refine loneR (C := Grow v0) (i := 7) 0 rfl (by kernel_rfl) rfl rfl (fun _ _ a b => Grow.trans a b) (Grow.refl _) ?_
  repeat (first | go_big_quiet_skip | (go_big_quiet_want; go_big_quiet_op; go_big_quiet_on))
  refine wpQuiet_nil ?_
  refine doneR (by kernel_rfl) ?_
  intro w4 g4
  have HC : Hid (C w4) := CG.out _ _ CW.out g4
  clear CW g4 hCp
  have y0 : w4.cell? ⟨w.heap.size, 0, none⟩ = some (.int .i64 k1) := (B0.out _ HC.out).cell 0
  have y1 : w4.cell? ⟨w.heap.size, 1, none⟩ = some (.int .i64 n1) := (B0.out _ HC.out).cell 1
  have y2 : w4.cell? ⟨w.heap.size, 2, none⟩ = some (.int .i64 (s1 : Int)) := (B0.out _ HC.out).cell 2
  have y3 : w4.cell? ⟨w.heap.size, 3, none⟩ = some (.string ⟨#[]⟩) := (B0.out _ HC.out).cell 3
  have y4 : w4.cell? ⟨w.heap.size, 4, none⟩ = some (.slice na1 0 nc1) := (B0.out _ HC.out).cell 4
  have y5 : w4.cell? ⟨w.heap.size, 5, none⟩ = some (.slice ka1 0 kc1) := (B0.out _ HC.out).cell 5
  have z0 : w4.cell? ⟨w.heap.size + 1, 0, none⟩ = some (.int .i64 k2) := (B1.out _ HC.out).cell 0
  have z1 : w4.cell? ⟨w.heap.size + 1, 1, none⟩ = some (.int .i64 n2) := (B1.out _ HC.out).cell 1
  have z2 : w4.cell? ⟨w.heap.size + 1, 2, none⟩ = some (.int .i64 (s2 : Int)) := (B1.out _ HC.out).cell 2
  have z3 : w4.cell? ⟨w.heap.size + 1, 3, none⟩ = some (.string ⟨#[]⟩) := (B1.out _ HC.out).cell 3
  have z4 : w4.cell? ⟨w.heap.size + 1, 4, none⟩ = some (.slice na2 0 nc2) := (B1.out _ HC.out).cell 4
  have z5 : w4.cell? ⟨w.heap.size + 1, 5, none⟩ = some (.slice ka2 0 kc2) := (B1.out _ HC.out).cell 5
  go_wp2_with fail
  clear y0 y1 y2 y3 y4 y5 z0 z1 z2 z3 z4 z5
  refine (N.out _).mono ?_
  rintro e w5 ⟨rfl, g5⟩
  have G : Hid (Grow w w5) := (GW.out _ HC.out).trans g5
  clear g5 HC CG GW B0 B1 N C1 C2
  go_wp2
  go_ret
  exact ⟨rfl, G.out⟩
theorem orderR_num (k1 n1 : Int) (s1 : Nat) (na1 : Option Addr) (nc1 : Nat) (ka1 : Option Addr) (kc1 : Nat) (k2 n2 : Int) (s2 : Nat) (na2 : Option Addr) (nc2 : Nat) (ka2 : Option Addr) (kc2 : Nat) (hk1 : k1 = 3 ∨ k1 = 4) (hk2 : k2 = 3 ∨ k2 = 4) (f1 : -9223372036854775808 ≤ n1 ∧ n1 < 9223372036854775808) (f2 : -9223372036854775808 ≤ n2 ∧ n2 < 9223372036854775808) (q1 : s1 ≤ 18) (q2 : s2 ≤ 18) (w : World) :
    Calls Tryz.prog 40 #[.agg #[.int .i64 k1, .int .i64 n1, .int .i64 (s1 : Int), .string ⟨#[]⟩, .slice na1 0 nc1, .slice ka1 0 kc1], .agg #[.int .i64 k2, .int .i64 n2, .int .i64 (s2 : Int), .string ⟨#[]⟩, .slice na2 0 nc2, .slice ka2 0 kc2]] w fun e w' => e = .returned (.int .i64 (nmI n1 s1 n2 s2)) ∧ Grow w w' :=
  orderR k1 n1 s1 na1 nc1 ka1 kc1 k2 n2 s2 na2 nc2 ka2 kc2 _ (fun W => classR k1 hk1 W) (fun W => classR k2 hk2 W)
    (fun W => nums_r ⟨k1, n1, s1, ⟨#[]⟩, []⟩ ⟨k2, n2, s2, ⟨#[]⟩, []⟩ na1 nc1 ka1 0 kc1 na2 nc2 ka2 0 kc2 ⟨by simp only; omega, by simp only; omega, f1.1, f1.2, by simp only; omega, by simp only; omega, Nat.zero_le _, Nat.zero_le _, by simp⟩ ⟨by simp only; omega, by simp only; omega, f2.1, f2.2, by simp only; omega, by simp only; omega, Nat.zero_le _, Nat.zero_le _, by simp⟩ s1 rfl q1 s2 rfl q2 W) w
set_option maxRecDepth 8000 in
set_option maxHeartbeats 1000000 in
theorem rCompare_of (k1 n1 : Int) (s1 : Nat) (na1 : Option Addr) (nc1 : Nat) (ka1 : Option Addr) (kc1 : Nat) (k2 n2 : Int) (s2 : Nat) (na2 : Option Addr) (nc2 : Nat) (ka2 : Option Addr) (kc2 : Nat) (c : Int) (K1 : Hid (∀ W, Calls Tryz.prog 25 #[.agg #[.int .i64 k1, .int .i64 n1, .int .i64 (s1 : Int), .string ⟨#[]⟩, .slice na1 0 nc1, .slice ka1 0 kc1]] W fun e w' => e = .returned (.bool true) ∧ Grow W w')) (K2 : Hid (∀ W, Calls Tryz.prog 25 #[.agg #[.int .i64 k2, .int .i64 n2, .int .i64 (s2 : Int), .string ⟨#[]⟩, .slice na2 0 nc2, .slice ka2 0 kc2]] W fun e w' => e = .returned (.bool true) ∧ Grow W w')) (K3 : Hid (∀ W, Calls Tryz.prog 40 #[.agg #[.int .i64 k1, .int .i64 n1, .int .i64 (s1 : Int), .string ⟨#[]⟩, .slice na1 0 nc1, .slice ka1 0 kc1], .agg #[.int .i64 k2, .int .i64 n2, .int .i64 (s2 : Int), .string ⟨#[]⟩, .slice na2 0 nc2, .slice ka2 0 kc2]] W fun e w' => e = .returned (.int .i64 c) ∧ Grow W w')) (w : World) :
    Calls Tryz.prog 15 #[.agg #[.int .i64 k1, .int .i64 n1, .int .i64 (s1 : Int), .string ⟨#[]⟩, .slice na1 0 nc1, .slice ka1 0 kc1], .agg #[.int .i64 k2, .int .i64 n2, .int .i64 (s2 : Int), .string ⟨#[]⟩, .slice na2 0 nc2, .slice ka2 0 kc2]] w fun e w' => e = .returned (.tuple #[.int .i64 c, .int .i64 0]) ∧ Grow w w' := by
  go_enter Tryz.func15, Tryz.ntmps15
  go_wp2_with fail
  obtain ⟨w1, HW1, H0⟩ : ∃ w1, ((w.alloc (Obj.cells #[.int .i64 k1, .int .i64 n1, .int .i64 (s1 : Int), .string ⟨#[]⟩, .slice na1 0 nc1, .slice ka1 0 kc1] 25)).alloc (Obj.cells #[.int .i64 k2, .int .i64 n2, .int .i64 (s2 : Int), .string ⟨#[]⟩, .slice na2 0 nc2, .slice ka2 0 kc2] 25)) = w1 ∧ Hid (Blk w1 (w.heap.size) 25 [.int .i64 k1, .int .i64 n1, .int .i64 (s1 : Int), .string ⟨#[]⟩, .slice na1 0 nc1, .slice ka1 0 kc1] ∧ Blk w1 (w.heap.size + 1) 25 [.int .i64 k2, .int .i64 n2, .int .i64 (s2 : Int), .string ⟨#[]⟩, .slice na2 0 nc2, .slice ka2 0 kc2] ∧ Grow w w1) := ⟨_, rfl, (Blk.alloc (blk_at rfl) _), (blk_at (by simp)), (((Grow.refl _).alloc _).alloc _)⟩
  rw [HW1]
  clear HW1
  refine (K1.out _).mono ?_
  rintro e w2 ⟨rfl, g0⟩
  have H1 : Hid (Blk w2 (w.heap.size) 25 [.int .i64 k1, .int .i64 n1, .int .i64 (s1 : Int), .string ⟨#[]⟩, .slice na1 0 nc1, .slice ka1 0 kc1] ∧ Blk w2 (w.heap.size + 1) 25 [.int .i64 k2, .int .i64 n2, .int .i64 (s2 : Int), .string ⟨#[]⟩, .slice na2 0 nc2, .slice ka2 0 kc2] ∧ Grow w w2) := ⟨(H0.out.1).grow g0, (H0.out.2.1).grow g0, Grow.trans (H0.out.2.2) g0⟩
  clear H0 g0
  have q1_0 : w2.cell? ⟨w.heap.size + 1, 0, none⟩ = some (.int .i64 k2) := (H1.out.2.1).cell 0
  have q1_1 : w2.cell? ⟨w.heap.size + 1, 1, none⟩ = some (.int .i64 n2) := (H1.out.2.1).cell 1
  have q1_2 : w2.cell? ⟨w.heap.size + 1, 2, none⟩ = some (.int .i64 (s2 : Int)) := (H1.out.2.1).cell 2
  have q1_3 : w2.cell? ⟨w.heap.size + 1, 3, none⟩ = some (.string ⟨#[]⟩) := (H1.out.2.1).cell 3
  have q1_4 : w2.cell? ⟨w.heap.size + 1, 4, none⟩ = some (.slice na2 0 nc2) := (H1.out.2.1).cell 4
  have q1_5 : w2.cell? ⟨w.heap.size + 1, 5, none⟩ = some (.slice ka2 0 kc2) := (H1.out.2.1).cell 5
  go_wp2_with fail
  clear q1_0 q1_1 q1_2 q1_3 q1_4 q1_5
  refine (K2.out _).mono ?_
  rintro e w3 ⟨rfl, g1⟩
  have H2 : Hid (Blk w3 (w.heap.size) 25 [.int .i64 k1, .int .i64 n1, .int .i64 (s1 : Int), .string ⟨#[]⟩, .slice na1 0 nc1, .slice ka1 0 kc1] ∧ Blk w3 (w.heap.size + 1) 25 [.int .i64 k2, .int .i64 n2, .int .i64 (s2 : Int), .string ⟨#[]⟩, .slice na2 0 nc2, .slice ka2 0 kc2] ∧ Grow w w3) := ⟨(H1.out.1).grow g1, (H1.out.2.1).grow g1, Grow.trans (H1.out.2.2) g1⟩
  clear H1 g1
  have q0_0 : w3.cell? ⟨w.heap.size, 0, none⟩ = some (.int .i64 k1) := (H2.out.1).cell 0
  have q0_1 : w3.cell? ⟨w.heap.size, 1, none⟩ = some (.int .i64 n1) := (H2.out.1).cell 1
  have q0_2 : w3.cell? ⟨w.heap.size, 2, none⟩ = some (.int .i64 (s1 : Int)) := (H2.out.1).cell 2
  have q0_3 : w3.cell? ⟨w.heap.size, 3, none⟩ = some (.string ⟨#[]⟩) := (H2.out.1).cell 3
  have q0_4 : w3.cell? ⟨w.heap.size, 4, none⟩ = some (.slice na1 0 nc1) := (H2.out.1).cell 4
  have q0_5 : w3.cell? ⟨w.heap.size, 5, none⟩ = some (.slice ka1 0 kc1) := (H2.out.1).cell 5
  have q1_0 : w3.cell? ⟨w.heap.size + 1, 0, none⟩ = some (.int .i64 k2) := (H2.out.2.1).cell 0
  have q1_1 : w3.cell? ⟨w.heap.size + 1, 1, none⟩ = some (.int .i64 n2) := (H2.out.2.1).cell 1
  have q1_2 : w3.cell? ⟨w.heap.size + 1, 2, none⟩ = some (.int .i64 (s2 : Int)) := (H2.out.2.1).cell 2
  have q1_3 : w3.cell? ⟨w.heap.size + 1, 3, none⟩ = some (.string ⟨#[]⟩) := (H2.out.2.1).cell 3
  have q1_4 : w3.cell? ⟨w.heap.size + 1, 4, none⟩ = some (.slice na2 0 nc2) := (H2.out.2.1).cell 4
  have q1_5 : w3.cell? ⟨w.heap.size + 1, 5, none⟩ = some (.slice ka2 0 kc2) := (H2.out.2.1).cell 5
  go_wp2_with fail
  clear q0_0 q0_1 q0_2 q0_3 q0_4 q0_5 q1_0 q1_1 q1_2 q1_3 q1_4 q1_5
  refine (K3.out _).mono ?_
  rintro e w4 ⟨rfl, g2⟩
  have H3 : Hid (Blk w4 (w.heap.size) 25 [.int .i64 k1, .int .i64 n1, .int .i64 (s1 : Int), .string ⟨#[]⟩, .slice na1 0 nc1, .slice ka1 0 kc1] ∧ Blk w4 (w.heap.size + 1) 25 [.int .i64 k2, .int .i64 n2, .int .i64 (s2 : Int), .string ⟨#[]⟩, .slice na2 0 nc2, .slice ka2 0 kc2] ∧ Grow w w4) := ⟨(H2.out.1).grow g2, (H2.out.2.1).grow g2, Grow.trans (H2.out.2.2) g2⟩
  clear H2 g2
  go_wp2
  go_ret2
  exact ⟨rfl, H3.out.2.2⟩
set_option maxRecDepth 8000 in
set_option maxHeartbeats 1000000 in
theorem rCompare_no1 (v1 v2 : Vv) (K1 : Hid (∀ W, Calls Tryz.prog 25 #[.agg #[.int .i64 v1.k, .int .i64 v1.n, .int .i64 v1.s, .string v1.t, .slice v1.na v1.nl v1.nc, .slice v1.ka v1.kl v1.kc]] W fun e w' => e = .returned (.bool false) ∧ Grow W w')) (w : World) :
    Calls Tryz.prog 15 #[.agg #[.int .i64 v1.k, .int .i64 v1.n, .int .i64 v1.s, .string v1.t, .slice v1.na v1.nl v1.nc, .slice v1.ka v1.kl v1.kc], .agg #[.int .i64 v2.k, .int .i64 v2.n, .int .i64 v2.s, .string v2.t, .slice v2.na v2.nl v2.nc, .slice v2.ka v2.kl v2.kc]] w fun e w' => e = .returned (.tuple #[.int .i64 0, .int .i64 11]) ∧ Grow w w' := by
  go_enter Tryz.func15, Tryz.ntmps15
  go_wp2_with fail
  obtain ⟨w1, HW1, H0⟩ : ∃ w1, ((w.alloc (Obj.cells #[.int .i64 v1.k, .int .i64 v1.n, .int .i64 v1.s, .string v1.t, .slice v1.na v1.nl v1.nc, .slice v1.ka v1.kl v1.kc] 25)).alloc (Obj.cells #[.int .i64 v2.k, .int .i64 v2.n, .int .i64 v2.s, .string v2.t, .slice v2.na v2.nl v2.nc, .slice v2.ka v2.kl v2.kc] 25)) = w1 ∧ Hid (Blk w1 (w.heap.size) 25 [.int .i64 v1.k, .int .i64 v1.n, .int .i64 v1.s, .string v1.t, .slice v1.na v1.nl v1.nc, .slice v1.ka v1.kl v1.kc] ∧ Blk w1 (w.heap.size + 1) 25 [.int .i64 v2.k, .int .i64 v2.n, .int .i64 v2.s, .string v2.t, .slice v2.na v2.nl v2.nc, .slice v2.ka v2.kl v2.kc] ∧ Grow w w1) := ⟨_, rfl, (Blk.alloc (blk_at rfl) _), (blk_at (by simp)), (((Grow.refl _).alloc _).alloc _)⟩
  rw [HW1]
  clear HW1
  refine (K1.out _).mono ?_
  rintro e w2 ⟨rfl, g0⟩
  have H1 : Hid (Blk w2 (w.heap.size) 25 [.int .i64 v1.k, .int .i64 v1.n, .int .i64 v1.s, .string v1.t, .slice v1.na v1.nl v1.nc, .slice v1.ka v1.kl v1.kc] ∧ Blk w2 (w.heap.size + 1) 25 [.int .i64 v2.k, .int .i64 v2.n, .int .i64 v2.s, .string v2.t, .slice v2.na v2.nl v2.nc, .slice v2.ka v2.kl v2.kc] ∧ Grow w w2) := ⟨(H0.out.1).grow g0, (H0.out.2.1).grow g0, Grow.trans (H0.out.2.2) g0⟩
  clear H0 g0
  go_wp2
  go_ret2
  exact ⟨rfl, H1.out.2.2⟩
set_option maxRecDepth 8000 in
set_option maxHeartbeats 1000000 in
theorem rCompare_no2 (v1 v2 : Vv) (K1 : Hid (∀ W, Calls Tryz.prog 25 #[.agg #[.int .i64 v1.k, .int .i64 v1.n, .int .i64 v1.s, .string v1.t, .slice v1.na v1.nl v1.nc, .slice v1.ka v1.kl v1.kc]] W fun e w' => e = .returned (.bool true) ∧ Grow W w')) (K2 : Hid (∀ W, Calls Tryz.prog 25 #[.agg #[.int .i64 v2.k, .int .i64 v2.n, .int .i64 v2.s, .string v2.t, .slice v2.na v2.nl v2.nc, .slice v2.ka v2.kl v2.kc]] W fun e w' => e = .returned (.bool false) ∧ Grow W w')) (w : World) :
    Calls Tryz.prog 15 #[.agg #[.int .i64 v1.k, .int .i64 v1.n, .int .i64 v1.s, .string v1.t, .slice v1.na v1.nl v1.nc, .slice v1.ka v1.kl v1.kc], .agg #[.int .i64 v2.k, .int .i64 v2.n, .int .i64 v2.s, .string v2.t, .slice v2.na v2.nl v2.nc, .slice v2.ka v2.kl v2.kc]] w fun e w' => e = .returned (.tuple #[.int .i64 0, .int .i64 11]) ∧ Grow w w' := by
  go_enter Tryz.func15, Tryz.ntmps15
  go_wp2_with fail
  obtain ⟨w1, HW1, H0⟩ : ∃ w1, ((w.alloc (Obj.cells #[.int .i64 v1.k, .int .i64 v1.n, .int .i64 v1.s, .string v1.t, .slice v1.na v1.nl v1.nc, .slice v1.ka v1.kl v1.kc] 25)).alloc (Obj.cells #[.int .i64 v2.k, .int .i64 v2.n, .int .i64 v2.s, .string v2.t, .slice v2.na v2.nl v2.nc, .slice v2.ka v2.kl v2.kc] 25)) = w1 ∧ Hid (Blk w1 (w.heap.size) 25 [.int .i64 v1.k, .int .i64 v1.n, .int .i64 v1.s, .string v1.t, .slice v1.na v1.nl v1.nc, .slice v1.ka v1.kl v1.kc] ∧ Blk w1 (w.heap.size + 1) 25 [.int .i64 v2.k, .int .i64 v2.n, .int .i64 v2.s, .string v2.t, .slice v2.na v2.nl v2.nc, .slice v2.ka v2.kl v2.kc] ∧ Grow w w1) := ⟨_, rfl, (Blk.alloc (blk_at rfl) _), (blk_at (by simp)), (((Grow.refl _).alloc _).alloc _)⟩
  rw [HW1]
  clear HW1
  refine (K1.out _).mono ?_
  rintro e w2 ⟨rfl, g0⟩
  have H1 : Hid (Blk w2 (w.heap.size) 25 [.int .i64 v1.k, .int .i64 v1.n, .int .i64 v1.s, .string v1.t, .slice v1.na v1.nl v1.nc, .slice v1.ka v1.kl v1.kc] ∧ Blk w2 (w.heap.size + 1) 25 [.int .i64 v2.k, .int .i64 v2.n, .int .i64 v2.s, .string v2.t, .slice v2.na v2.nl v2.nc, .slice v2.ka v2.kl v2.kc] ∧ Grow w w2) := ⟨(H0.out.1).grow g0, (H0.out.2.1).grow g0, Grow.trans (H0.out.2.2) g0⟩
  clear H0 g0
  have q1_0 : w2.cell? ⟨w.heap.size + 1, 0, none⟩ = some (.int .i64 v2.k) := (H1.out.2.1).cell 0
  have q1_1 : w2.cell? ⟨w.heap.size + 1, 1, none⟩ = some (.int .i64 v2.n) := (H1.out.2.1).cell 1
  have q1_2 : w2.cell? ⟨w.heap.size + 1, 2, none⟩ = some (.int .i64 v2.s) := (H1.out.2.1).cell 2
  have q1_3 : w2.cell? ⟨w.heap.size + 1, 3, none⟩ = some (.string v2.t) := (H1.out.2.1).cell 3
  have q1_4 : w2.cell? ⟨w.heap.size + 1, 4, none⟩ = some (.slice v2.na v2.nl v2.nc) := (H1.out.2.1).cell 4
  have q1_5 : w2.cell? ⟨w.heap.size + 1, 5, none⟩ = some (.slice v2.ka v2.kl v2.kc) := (H1.out.2.1).cell 5
  go_wp2_with fail
  clear q1_0 q1_1 q1_2 q1_3 q1_4 q1_5
  refine (K2.out _).mono ?_
  rintro e w3 ⟨rfl, g1⟩
  have H2 : Hid (Blk w3 (w.heap.size) 25 [.int .i64 v1.k, .int .i64 v1.n, .int .i64 v1.s, .string v1.t, .slice v1.na v1.nl v1.nc, .slice v1.ka v1.kl v1.kc] ∧ Blk w3 (w.heap.size + 1) 25 [.int .i64 v2.k, .int .i64 v2.n, .int .i64 v2.s, .string v2.t, .slice v2.na v2.nl v2.nc, .slice v2.ka v2.kl v2.kc] ∧ Grow w w3) := ⟨(H1.out.1).grow g1, (H1.out.2.1).grow g1, Grow.trans (H1.out.2.2) g1⟩
  clear H1 g1
  go_wp2
  go_ret2
  exact ⟨rfl, H2.out.2.2⟩
set_option maxRecDepth 8000 in
set_option maxHeartbeats 1000000 in
theorem dNeg_yes (k1 n1 : Int) (s1 : Nat) (na1 : Option Addr) (nc1 : Nat) (ka1 : Option Addr) (kc1 : Nat) (A1 : Nat) (b c : Bool) (r : Rs) (K1 : Hid (∀ W, Calls Tryz.prog 35 #[.agg #[.int .i64 k1, .int .i64 n1, .int .i64 (s1 : Int), .string ⟨#[]⟩, .slice na1 0 nc1, .slice ka1 0 kc1]] W fun e w' => e = .returned (.bool true) ∧ Grow W w')) (N : Hid (∀ W, Calls Tryz.prog 36 #[.int .i64 n1, .int .i64 (s1 : Int)] W fun e w' => e = .returned (.agg #[.bool b, .int .u64 0, .int .u64 (A1 : Int), .int .i64 (s1 : Int)]) ∧ Grow W w')) (T : Hid (∀ W, Calls Tryz.prog 37 #[.agg #[.bool b, .int .u64 0, .int .u64 (A1 : Int), .int .i64 (s1 : Int)]] W fun e w' => e = .returned (.agg #[.bool c, .int .u64 0, .int .u64 (A1 : Int), .int .i64 (s1 : Int)]) ∧ Grow W w')) (L : Hid (∀ W, Calls Tryz.prog 38 #[.agg #[.bool c, .int .u64 0, .int .u64 (A1 : Int), .int .i64 (s1 : Int)]] W fun e w' => e = .returned (.tuple #[.agg #[.int .i64 r.k, .int .i64 r.n, .int .i64 r.s, .string ⟨#[]⟩, .slice none 0 0, .slice none 0 0], .int .i64 r.e]) ∧ Grow W w')) (w : World) :
    Calls Tryz.prog 12 #[.agg #[.int .i64 k1, .int .i64 n1, .int .i64 (s1 : Int), .string ⟨#[]⟩, .slice na1 0 nc1, .slice ka1 0 kc1]] w fun e w' => e = .returned (.tuple #[.agg #[.int .i64 r.k, .int .i64 r.n, .int .i64 r.s, .string ⟨#[]⟩, .slice none 0 0, .slice none 0 0], .int .i64 r.e]) ∧ Grow w w' := by
  go_enter Tryz.func12, Tryz.ntmps12
  go_wp2_with fail
  obtain ⟨w1, HW1, H0⟩ : ∃ w1, ((w.alloc (Obj.cells #[.int .i64 k1, .int .i64 n1, .int .i64 (s1 : Int), .string ⟨#[]⟩, .slice na1 0 nc1, .slice ka1 0 kc1] 25)).alloc (Obj.cells #[.int .i64 0, .int .i64 0, .int .i64 0, .string ⟨#[]⟩, .slice none 0 0, .slice none 0 0] 25)) = w1 ∧ Hid (Blk w1 (w.heap.size) 25 [.int .i64 k1, .int .i64 n1, .int .i64 (s1 : Int), .string ⟨#[]⟩, .slice na1 0 nc1, .slice ka1 0 kc1] ∧ Blk w1 (w.heap.size + 1) 25 [.int .i64 0, .int .i64 0, .int .i64 0, .string ⟨#[]⟩, .slice none 0 0, .slice none 0 0] ∧ Grow w w1) := ⟨_, rfl, (Blk.alloc (blk_at rfl) _), (blk_at (by simp)), (((Grow.refl _).alloc _).alloc _)⟩
  rw [HW1]
  clear HW1
  refine (K1.out _).mono ?_
  rintro e w2 ⟨rfl, g0⟩
  have H1 : Hid (Blk w2 (w.heap.size) 25 [.int .i64 k1, .int .i64 n1, .int .i64 (s1 : Int), .string ⟨#[]⟩, .slice na1 0 nc1, .slice ka1 0 kc1] ∧ Blk w2 (w.heap.size + 1) 25 [.int .i64 0, .int .i64 0, .int .i64 0, .string ⟨#[]⟩, .slice none 0 0, .slice none 0 0] ∧ Grow w w2) := ⟨(H0.out.1).grow g0, (H0.out.2.1).grow g0, Grow.trans (H0.out.2.2) g0⟩
  clear H0 g0
  have q0_0 : w2.cell? ⟨w.heap.size, 0, none⟩ = some (.int .i64 k1) := (H1.out.1).cell 0
  have q0_1 : w2.cell? ⟨w.heap.size, 1, none⟩ = some (.int .i64 n1) := (H1.out.1).cell 1
  have q0_2 : w2.cell? ⟨w.heap.size, 2, none⟩ = some (.int .i64 (s1 : Int)) := (H1.out.1).cell 2
  have q0_3 : w2.cell? ⟨w.heap.size, 3, none⟩ = some (.string ⟨#[]⟩) := (H1.out.1).cell 3
  have q0_4 : w2.cell? ⟨w.heap.size, 4, none⟩ = some (.slice na1 0 nc1) := (H1.out.1).cell 4
  have q0_5 : w2.cell? ⟨w.heap.size, 5, none⟩ = some (.slice ka1 0 kc1) := (H1.out.1).cell 5
  go_wp2_with fail
  clear q0_0 q0_1 q0_2 q0_3 q0_4 q0_5
  refine (N.out _).mono ?_
  rintro e w3 ⟨rfl, g1⟩
  have H2 : Hid (Blk w3 (w.heap.size) 25 [.int .i64 k1, .int .i64 n1, .int .i64 (s1 : Int), .string ⟨#[]⟩, .slice na1 0 nc1, .slice ka1 0 kc1] ∧ Blk w3 (w.heap.size + 1) 25 [.int .i64 0, .int .i64 0, .int .i64 0, .string ⟨#[]⟩, .slice none 0 0, .slice none 0 0] ∧ Grow w w3) := ⟨(H1.out.1).grow g1, (H1.out.2.1).grow g1, Grow.trans (H1.out.2.2) g1⟩
  clear H1 g1
  go_wp2_with fail
  refine (T.out _).mono ?_
  rintro e w4 ⟨rfl, g2⟩
  have H3 : Hid (Blk w4 (w.heap.size) 25 [.int .i64 k1, .int .i64 n1, .int .i64 (s1 : Int), .string ⟨#[]⟩, .slice na1 0 nc1, .slice ka1 0 kc1] ∧ Blk w4 (w.heap.size + 1) 25 [.int .i64 0, .int .i64 0, .int .i64 0, .string ⟨#[]⟩, .slice none 0 0, .slice none 0 0] ∧ Grow w w4) := ⟨(H2.out.1).grow g2, (H2.out.2.1).grow g2, Grow.trans (H2.out.2.2) g2⟩
  clear H2 g2
  go_wp2_with fail
  refine (L.out _).mono ?_
  rintro e w5 ⟨rfl, g3⟩
  have H4 : Hid (Blk w5 (w.heap.size) 25 [.int .i64 k1, .int .i64 n1, .int .i64 (s1 : Int), .string ⟨#[]⟩, .slice na1 0 nc1, .slice ka1 0 kc1] ∧ Blk w5 (w.heap.size + 1) 25 [.int .i64 0, .int .i64 0, .int .i64 0, .string ⟨#[]⟩, .slice none 0 0, .slice none 0 0] ∧ Grow w w5) := ⟨(H3.out.1).grow g3, (H3.out.2.1).grow g3, Grow.trans (H3.out.2.2) g3⟩
  clear H3 g3
  have H5 : Hid (Blk w5 (w.heap.size + 1) 25 [.int .i64 0, .int .i64 0, .int .i64 0, .string ⟨#[]⟩, .slice none 0 0, .slice none 0 0] ∧ Grow w w5) := ⟨(H4.out.2.1), (H4.out.2.2)⟩
  clear H4
  go_wp2_with ((with_reducible refine st_pre (.tmp 2) (.tmp 15) ?_); refine st_all rfl 25 (.tmp 2) (.tmp 15) rfl (w.heap.size + 1) 25 [.int .i64 0, .int .i64 0, .int .i64 0, .string ⟨#[]⟩, .slice none 0 0, .slice none 0 0] [.int .i64 r.k, .int .i64 r.n, .int .i64 r.s, .string ⟨#[]⟩, .slice none 0 0, .slice none 0 0] rfl rfl H5.out.1 rfl sV (ones rfl) ?_)
  intro w7 yy5 mm5
  have H6 : Hid (Blk w7 (w.heap.size + 1) 25 [.int .i64 r.k, .int .i64 r.n, .int .i64 r.s, .string ⟨#[]⟩, .slice none 0 0, .slice none 0 0] ∧ Grow w w7) := ⟨yy5, (Below.grown (H5.out.2) mm5 (Below.size (H5.out.2)) (by intro e he; injection he with he; omega))⟩
  clear H5 yy5 mm5
  go_wp2
  exact bodyPost_ret (res_two rfl _ (w.heap.size + 1) 25 _ _ rfl (H6.out.1) Tryz.underlying25 rfl sV) rfl ⟨rfl, H6.out.2⟩
set_option maxRecDepth 8000 in
set_option maxHeartbeats 1000000 in
theorem dNeg_no (v1 : Vv) (K1 : Hid (∀ W, Calls Tryz.prog 35 #[.agg #[.int .i64 v1.k, .int .i64 v1.n, .int .i64 v1.s, .string v1.t, .slice v1.na v1.nl v1.nc, .slice v1.ka v1.kl v1.kc]] W fun e w' => e = .returned (.bool false) ∧ Grow W w')) (w : World) :
    Calls Tryz.prog 12 #[.agg #[.int .i64 v1.k, .int .i64 v1.n, .int .i64 v1.s, .string v1.t, .slice v1.na v1.nl v1.nc, .slice v1.ka v1.kl v1.kc]] w fun e w' => e = .returned (.tuple #[.agg #[.int .i64 0, .int .i64 0, .int .i64 0, .string ⟨#[]⟩, .slice none 0 0, .slice none 0 0], .int .i64 11]) ∧ Grow w w' := by
  go_enter Tryz.func12, Tryz.ntmps12
  go_wp2_with fail
  obtain ⟨w1, HW1, H0⟩ : ∃ w1, ((w.alloc (Obj.cells #[.int .i64 v1.k, .int .i64 v1.n, .int .i64 v1.s, .string v1.t, .slice v1.na v1.nl v1.nc, .slice v1.ka v1.kl v1.kc] 25)).alloc (Obj.cells #[.int .i64 0, .int .i64 0, .int .i64 0, .string ⟨#[]⟩, .slice none 0 0, .slice none 0 0] 25)) = w1 ∧ Hid (Blk w1 (w.heap.size) 25 [.int .i64 v1.k, .int .i64 v1.n, .int .i64 v1.s, .string v1.t, .slice v1.na v1.nl v1.nc, .slice v1.ka v1.kl v1.kc] ∧ Blk w1 (w.heap.size + 1) 25 [.int .i64 0, .int .i64 0, .int .i64 0, .string ⟨#[]⟩, .slice none 0 0, .slice none 0 0] ∧ Grow w w1) := ⟨_, rfl, (Blk.alloc (blk_at rfl) _), (blk_at (by simp)), (((Grow.refl _).alloc _).alloc _)⟩
  rw [HW1]
  clear HW1
  refine (K1.out _).mono ?_
  rintro e w2 ⟨rfl, g0⟩
  have H1 : Hid (Blk w2 (w.heap.size) 25 [.int .i64 v1.k, .int .i64 v1.n, .int .i64 v1.s, .string v1.t, .slice v1.na v1.nl v1.nc, .slice v1.ka v1.kl v1.kc] ∧ Blk w2 (w.heap.size + 1) 25 [.int .i64 0, .int .i64 0, .int .i64 0, .string ⟨#[]⟩, .slice none 0 0, .slice none 0 0] ∧ Grow w w2) := ⟨(H0.out.1).grow g0, (H0.out.2.1).grow g0, Grow.trans (H0.out.2.2) g0⟩
  clear H0 g0
  have H2 : Hid (Blk w2 (w.heap.size + 1) 25 [.int .i64 0, .int .i64 0, .int .i64 0, .string ⟨#[]⟩, .slice none 0 0, .slice none 0 0] ∧ Grow w w2) := ⟨(H1.out.2.1), (H1.out.2.2)⟩
  clear H1
  go_wp2_with ((with_reducible refine st_pre (.tmp 2) (.tmp 7) ?_); refine st_all rfl 25 (.tmp 2) (.tmp 7) rfl (w.heap.size + 1) 25 [.int .i64 0, .int .i64 0, .int .i64 0, .string ⟨#[]⟩, .slice none 0 0, .slice none 0 0] [.int .i64 0, .int .i64 0, .int .i64 0, .string ⟨#[]⟩, .slice none 0 0, .slice none 0 0] rfl rfl H2.out.1 rfl sV (ones rfl) ?_)
  intro w4 yy2 mm2
  have H3 : Hid (Blk w4 (w.heap.size + 1) 25 [.int .i64 0, .int .i64 0, .int .i64 0, .string ⟨#[]⟩, .slice none 0 0, .slice none 0 0] ∧ Grow w w4) := ⟨yy2, (Below.grown (H2.out.2) mm2 (Below.size (H2.out.2)) (by intro e he; injection he with he; omega))⟩
  clear H2 yy2 mm2
  go_wp2
  exact bodyPost_ret (res_two rfl _ (w.heap.size + 1) 25 _ _ rfl (H3.out.1) Tryz.underlying25 rfl sV) rfl ⟨rfl, H3.out.2⟩
/-- Is it plain? -/
def pln (v : Vv) : Bool := decide (v.kl = 0 ∧ v.nl = 0 ∧ v.t.size < 500)
set_option maxRecDepth 8000 in
theorem plain_any (v : Vv) (w : World) :
    Calls Tryz.prog 5 #[.agg #[.int .i64 v.k, .int .i64 v.n, .int .i64 v.s, .string v.t, .slice v.na v.nl v.nc, .slice v.ka v.kl v.kc]] w fun e w' => e = .returned (.bool (pln v)) ∧ Grow w w' := by
  obtain ⟨k, n, s, t, na, nl, nc, ka, kl, kc⟩ := v
  show Calls _ _ #[.agg #[.int .i64 k, .int .i64 n, .int .i64 s, .string t, .slice na nl nc, .slice ka kl kc]] _ _
  simp only [pln]
  generalize hR : decide (kl = 0 ∧ nl = 0 ∧ t.size < 500) = R
  have e : (kl = 0 ∧ nl = 0 ∧ t.size < 500 ∧ R = true) ∨ (¬ kl = 0 ∧ R = false) ∨ (kl = 0 ∧ ¬ nl = 0 ∧ R = false) ∨ (kl = 0 ∧ nl = 0 ∧ ¬ t.size < 500 ∧ R = false) := by
    rw [← hR]
    by_cases h1 : kl = 0 <;> by_cases h2 : nl = 0 <;> by_cases h3 : t.size < 500 <;> simp [h1, h2, h3]
  clear hR
  rcases e with ⟨rfl, rfl, h, rfl⟩ | ⟨h, rfl⟩ | ⟨rfl, h, rfl⟩ | ⟨rfl, rfl, h, rfl⟩
  all_goals
    go_enter Tryz.func5, Tryz.ntmps5
    go_wp2
    go_ret
    first
    | exact ⟨rfl, (Grow.refl _).alloc _⟩
    | (refine ⟨?_, (Grow.refl _).alloc _⟩
       show Ending.returned (.bool (decide ((t.size : Int) < 500))) = _
       congr 2
       simp only [decide_eq_true_eq, decide_eq_false_iff_not]
       omega)
set_option maxRecDepth 8000 in
set_option maxHeartbeats 1000000 in
theorem reckons_no1 (v1 v2 : Vv) (P1 : Hid (∀ W, Calls Tryz.prog 5 #[.agg #[.int .i64 v1.k, .int .i64 v1.n, .int .i64 v1.s, .string v1.t, .slice v1.na v1.nl v1.nc, .slice v1.ka v1.kl v1.kc]] W fun e w' => e = .returned (.bool false) ∧ Grow W w')) (w : World) :
    Calls Tryz.prog 3 #[.agg #[.int .i64 v1.k, .int .i64 v1.n, .int .i64 v1.s, .string v1.t, .slice v1.na v1.nl v1.nc, .slice v1.ka v1.kl v1.kc], .agg #[.int .i64 v2.k, .int .i64 v2.n, .int .i64 v2.s, .string v2.t, .slice v2.na v2.nl v2.nc, .slice v2.ka v2.kl v2.kc]] w fun e w' => e = .returned (.bool true) ∧ Grow w w' := by
  go_enter Tryz.func3, Tryz.ntmps3
  go_wp2_with fail
  obtain ⟨w1, HW1, H0⟩ : ∃ w1, ((w.alloc (Obj.cells #[.int .i64 v1.k, .int .i64 v1.n, .int .i64 v1.s, .string v1.t, .slice v1.na v1.nl v1.nc, .slice v1.ka v1.kl v1.kc] 25)).alloc (Obj.cells #[.int .i64 v2.k, .int .i64 v2.n, .int .i64 v2.s, .string v2.t, .slice v2.na v2.nl v2.nc, .slice v2.ka v2.kl v2.kc] 25)) = w1 ∧ Hid (Blk w1 (w.heap.size) 25 [.int .i64 v1.k, .int .i64 v1.n, .int .i64 v1.s, .string v1.t, .slice v1.na v1.nl v1.nc, .slice v1.ka v1.kl v1.kc] ∧ Blk w1 (w.heap.size + 1) 25 [.int .i64 v2.k, .int .i64 v2.n, .int .i64 v2.s, .string v2.t, .slice v2.na v2.nl v2.nc, .slice v2.ka v2.kl v2.kc] ∧ Grow w w1) := ⟨_, rfl, (Blk.alloc (blk_at rfl) _), (blk_at (by simp)), (((Grow.refl _).alloc _).alloc _)⟩
  rw [HW1]
  clear HW1
  refine (P1.out _).mono ?_
  rintro e w2 ⟨rfl, g0⟩
  have H1 : Hid (Blk w2 (w.heap.size) 25 [.int .i64 v1.k, .int .i64 v1.n, .int .i64 v1.s, .string v1.t, .slice v1.na v1.nl v1.nc, .slice v1.ka v1.kl v1.kc] ∧ Blk w2 (w.heap.size + 1) 25 [.int .i64 v2.k, .int .i64 v2.n, .int .i64 v2.s, .string v2.t, .slice v2.na v2.nl v2.nc, .slice v2.ka v2.kl v2.kc] ∧ Grow w w2) := ⟨(H0.out.1).grow g0, (H0.out.2.1).grow g0, Grow.trans (H0.out.2.2) g0⟩
  clear H0 g0
  go_wp2
  go_ret
  exact ⟨rfl, H1.out.2.2⟩
set_option maxRecDepth 8000 in
set_option maxHeartbeats 1000000 in
theorem reckons_no2 (v1 v2 : Vv) (P1 : Hid (∀ W, Calls Tryz.prog 5 #[.agg #[.int .i64 v1.k, .int .i64 v1.n, .int .i64 v1.s, .string v1.t, .slice v1.na v1.nl v1.nc, .slice v1.ka v1.kl v1.kc]] W fun e w' => e = .returned (.bool true) ∧ Grow W w')) (P2 : Hid (∀ W, Calls Tryz.prog 5 #[.agg #[.int .i64 v2.k, .int .i64 v2.n, .int .i64 v2.s, .string v2.t, .slice v2.na v2.nl v2.nc, .slice v2.ka v2.kl v2.kc]] W fun e w' => e = .returned (.bool false) ∧ Grow W w')) (w : World) :
    Calls Tryz.prog 3 #[.agg #[.int .i64 v1.k, .int .i64 v1.n, .int .i64 v1.s, .string v1.t, .slice v1.na v1.nl v1.nc, .slice v1.ka v1.kl v1.kc], .agg #[.int .i64 v2.k, .int .i64 v2.n, .int .i64 v2.s, .string v2.t, .slice v2.na v2.nl v2.nc, .slice v2.ka v2.kl v2.kc]] w fun e w' => e = .returned (.bool true) ∧ Grow w w' := by
  go_enter Tryz.func3, Tryz.ntmps3
  go_wp2_with fail
  obtain ⟨w1, HW1, H0⟩ : ∃ w1, ((w.alloc (Obj.cells #[.int .i64 v1.k, .int .i64 v1.n, .int .i64 v1.s, .string v1.t, .slice v1.na v1.nl v1.nc, .slice v1.ka v1.kl v1.kc] 25)).alloc (Obj.cells #[.int .i64 v2.k, .int .i64 v2.n, .int .i64 v2.s, .string v2.t, .slice v2.na v2.nl v2.nc, .slice v2.ka v2.kl v2.kc] 25)) = w1 ∧ Hid (Blk w1 (w.heap.size) 25 [.int .i64 v1.k, .int .i64 v1.n, .int .i64 v1.s, .string v1.t, .slice v1.na v1.nl v1.nc, .slice v1.ka v1.kl v1.kc] ∧ Blk w1 (w.heap.size + 1) 25 [.int .i64 v2.k, .int .i64 v2.n, .int .i64 v2.s, .string v2.t, .slice v2.na v2.nl v2.nc, .slice v2.ka v2.kl v2.kc] ∧ Grow w w1) := ⟨_, rfl, (Blk.alloc (blk_at rfl) _), (blk_at (by simp)), (((Grow.refl _).alloc _).alloc _)⟩
  rw [HW1]
  clear HW1
  refine (P1.out _).mono ?_
  rintro e w2 ⟨rfl, g0⟩
  have H1 : Hid (Blk w2 (w.heap.size) 25 [.int .i64 v1.k, .int .i64 v1.n, .int .i64 v1.s, .string v1.t, .slice v1.na v1.nl v1.nc, .slice v1.ka v1.kl v1.kc] ∧ Blk w2 (w.heap.size + 1) 25 [.int .i64 v2.k, .int .i64 v2.n, .int .i64 v2.s, .string v2.t, .slice v2.na v2.nl v2.nc, .slice v2.ka v2.kl v2.kc] ∧ Grow w w2) := ⟨(H0.out.1).grow g0, (H0.out.2.1).grow g0, Grow.trans (H0.out.2.2) g0⟩
  clear H0 g0
  have q1_0 : w2.cell? ⟨w.heap.size + 1, 0, none⟩ = some (.int .i64 v2.k) := (H1.out.2.1).cell 0
  have q1_1 : w2.cell? ⟨w.heap.size + 1, 1, none⟩ = some (.int .i64 v2.n) := (H1.out.2.1).cell 1
  have q1_2 : w2.cell? ⟨w.heap.size + 1, 2, none⟩ = some (.int .i64 v2.s) := (H1.out.2.1).cell 2
  have q1_3 : w2.cell? ⟨w.heap.size + 1, 3, none⟩ = some (.string v2.t) := (H1.out.2.1).cell 3
  have q1_4 : w2.cell? ⟨w.heap.size + 1, 4, none⟩ = some (.slice v2.na v2.nl v2.nc) := (H1.out.2.1).cell 4
  have q1_5 : w2.cell? ⟨w.heap.size + 1, 5, none⟩ = some (.slice v2.ka v2.kl v2.kc) := (H1.out.2.1).cell 5
  go_wp2_with fail
  clear q1_0 q1_1 q1_2 q1_3 q1_4 q1_5
  refine (P2.out _).mono ?_
  rintro e w3 ⟨rfl, g1⟩
  have H2 : Hid (Blk w3 (w.heap.size) 25 [.int .i64 v1.k, .int .i64 v1.n, .int .i64 v1.s, .string v1.t, .slice v1.na v1.nl v1.nc, .slice v1.ka v1.kl v1.kc] ∧ Blk w3 (w.heap.size + 1) 25 [.int .i64 v2.k, .int .i64 v2.n, .int .i64 v2.s, .string v2.t, .slice v2.na v2.nl v2.nc, .slice v2.ka v2.kl v2.kc] ∧ Grow w w3) := ⟨(H1.out.1).grow g1, (H1.out.2.1).grow g1, Grow.trans (H1.out.2.2) g1⟩
  clear H1 g1
  go_wp2
  go_ret
  exact ⟨rfl, H2.out.2.2⟩
set_option maxRecDepth 8000 in
set_option maxHeartbeats 1000000 in
theorem reckons_in (v1 v2 : Vv) (r1 r2 r3 r4 : Rs) (c ce : Int) (P1 : Hid (∀ W, Calls Tryz.prog 5 #[.agg #[.int .i64 v1.k, .int .i64 v1.n, .int .i64 v1.s, .string v1.t, .slice v1.na v1.nl v1.nc, .slice v1.ka v1.kl v1.kc]] W fun e w' => e = .returned (.bool true) ∧ Grow W w'))
    (P2 : Hid (∀ W, Calls Tryz.prog 5 #[.agg #[.int .i64 v2.k, .int .i64 v2.n, .int .i64 v2.s, .string v2.t, .slice v2.na v2.nl v2.nc, .slice v2.ka v2.kl v2.kc]] W fun e w' => e = .returned (.bool true) ∧ Grow W w'))
    (A1 : Hid (∀ W, Calls Tryz.prog 6 #[.agg #[.int .i64 v1.k, .int .i64 v1.n, .int .i64 v1.s, .string v1.t, .slice v1.na v1.nl v1.nc, .slice v1.ka v1.kl v1.kc], .agg #[.int .i64 v2.k, .int .i64 v2.n, .int .i64 v2.s, .string v2.t, .slice v2.na v2.nl v2.nc, .slice v2.ka v2.kl v2.kc]] W fun e w' => e = .returned (.tuple #[.agg #[.int .i64 r1.k, .int .i64 r1.n, .int .i64 r1.s, .string ⟨#[]⟩, .slice none 0 0, .slice none 0 0], .int .i64 r1.e]) ∧ Grow W w'))
    (A2 : Hid (∀ W, Calls Tryz.prog 7 #[.agg #[.int .i64 v1.k, .int .i64 v1.n, .int .i64 v1.s, .string v1.t, .slice v1.na v1.nl v1.nc, .slice v1.ka v1.kl v1.kc], .agg #[.int .i64 v2.k, .int .i64 v2.n, .int .i64 v2.s, .string v2.t, .slice v2.na v2.nl v2.nc, .slice v2.ka v2.kl v2.kc]] W fun e w' => e = .returned (.tuple #[.agg #[.int .i64 r1.k, .int .i64 r1.n, .int .i64 r1.s, .string ⟨#[]⟩, .slice none 0 0, .slice none 0 0], .int .i64 r1.e]) ∧ Grow W w'))
    (S1 : Hid (∀ W, Calls Tryz.prog 8 #[.agg #[.int .i64 v1.k, .int .i64 v1.n, .int .i64 v1.s, .string v1.t, .slice v1.na v1.nl v1.nc, .slice v1.ka v1.kl v1.kc], .agg #[.int .i64 v2.k, .int .i64 v2.n, .int .i64 v2.s, .string v2.t, .slice v2.na v2.nl v2.nc, .slice v2.ka v2.kl v2.kc]] W fun e w' => e = .returned (.tuple #[.agg #[.int .i64 r2.k, .int .i64 r2.n, .int .i64 r2.s, .string ⟨#[]⟩, .slice none 0 0, .slice none 0 0], .int .i64 r2.e]) ∧ Grow W w'))
    (S2 : Hid (∀ W, Calls Tryz.prog 9 #[.agg #[.int .i64 v1.k, .int .i64 v1.n, .int .i64 v1.s, .string v1.t, .slice v1.na v1.nl v1.nc, .slice v1.ka v1.kl v1.kc], .agg #[.int .i64 v2.k, .int .i64 v2.n, .int .i64 v2.s, .string v2.t, .slice v2.na v2.nl v2.nc, .slice v2.ka v2.kl v2.kc]] W fun e w' => e = .returned (.tuple #[.agg #[.int .i64 r2.k, .int .i64 r2.n, .int .i64 r2.s, .string ⟨#[]⟩, .slice none 0 0, .slice none 0 0], .int .i64 r2.e]) ∧ Grow W w'))
    (M1 : Hid (∀ W, Calls Tryz.prog 10 #[.agg #[.int .i64 v1.k, .int .i64 v1.n, .int .i64 v1.s, .string v1.t, .slice v1.na v1.nl v1.nc, .slice v1.ka v1.kl v1.kc], .agg #[.int .i64 v2.k, .int .i64 v2.n, .int .i64 v2.s, .string v2.t, .slice v2.na v2.nl v2.nc, .slice v2.ka v2.kl v2.kc]] W fun e w' => e = .returned (.tuple #[.agg #[.int .i64 r3.k, .int .i64 r3.n, .int .i64 r3.s, .string ⟨#[]⟩, .slice none 0 0, .slice none 0 0], .int .i64 r3.e]) ∧ Grow W w'))
    (M2 : Hid (∀ W, Calls Tryz.prog 11 #[.agg #[.int .i64 v1.k, .int .i64 v1.n, .int .i64 v1.s, .string v1.t, .slice v1.na v1.nl v1.nc, .slice v1.ka v1.kl v1.kc], .agg #[.int .i64 v2.k, .int .i64 v2.n, .int .i64 v2.s, .string v2.t, .slice v2.na v2.nl v2.nc, .slice v2.ka v2.kl v2.kc]] W fun e w' => e = .returned (.tuple #[.agg #[.int .i64 r3.k, .int .i64 r3.n, .int .i64 r3.s, .string ⟨#[]⟩, .slice none 0 0, .slice none 0 0], .int .i64 r3.e]) ∧ Grow W w'))
    (N1 : Hid (∀ W, Calls Tryz.prog 12 #[.agg #[.int .i64 v1.k, .int .i64 v1.n, .int .i64 v1.s, .string v1.t, .slice v1.na v1.nl v1.nc, .slice v1.ka v1.kl v1.kc]] W fun e w' => e = .returned (.tuple #[.agg #[.int .i64 r4.k, .int .i64 r4.n, .int .i64 r4.s, .string ⟨#[]⟩, .slice none 0 0, .slice none 0 0], .int .i64 r4.e]) ∧ Grow W w'))
    (N2 : Hid (∀ W, Calls Tryz.prog 13 #[.agg #[.int .i64 v1.k, .int .i64 v1.n, .int .i64 v1.s, .string v1.t, .slice v1.na v1.nl v1.nc, .slice v1.ka v1.kl v1.kc]] W fun e w' => e = .returned (.tuple #[.agg #[.int .i64 r4.k, .int .i64 r4.n, .int .i64 r4.s, .string ⟨#[]⟩, .slice none 0 0, .slice none 0 0], .int .i64 r4.e]) ∧ Grow W w'))
    (C1 : Hid (∀ W, Calls Tryz.prog 14 #[.agg #[.int .i64 v1.k, .int .i64 v1.n, .int .i64 v1.s, .string v1.t, .slice v1.na v1.nl v1.nc, .slice v1.ka v1.kl v1.kc], .agg #[.int .i64 v2.k, .int .i64 v2.n, .int .i64 v2.s, .string v2.t, .slice v2.na v2.nl v2.nc, .slice v2.ka v2.kl v2.kc]] W fun e w' => e = .returned (.tuple #[.int .i64 c, .int .i64 ce]) ∧ Grow W w'))
    (C2 : Hid (∀ W, Calls Tryz.prog 15 #[.agg #[.int .i64 v1.k, .int .i64 v1.n, .int .i64 v1.s, .string v1.t, .slice v1.na v1.nl v1.nc, .slice v1.ka v1.kl v1.kc], .agg #[.int .i64 v2.k, .int .i64 v2.n, .int .i64 v2.s, .string v2.t, .slice v2.na v2.nl v2.nc, .slice v2.ka v2.kl v2.kc]] W fun e w' => e = .returned (.tuple #[.int .i64 c, .int .i64 ce]) ∧ Grow W w')) (w : World) :
    Calls Tryz.prog 3 #[.agg #[.int .i64 v1.k, .int .i64 v1.n, .int .i64 v1.s, .string v1.t, .slice v1.na v1.nl v1.nc, .slice v1.ka v1.kl v1.kc], .agg #[.int .i64 v2.k, .int .i64 v2.n, .int .i64 v2.s, .string v2.t, .slice v2.na v2.nl v2.nc, .slice v2.ka v2.kl v2.kc]] w fun e w' => e = .returned (.bool true) ∧ Grow w w' := by
  go_enter Tryz.func3, Tryz.ntmps3
  go_wp2_with fail
  obtain ⟨w1, HW1, H0⟩ : ∃ w1, ((w.alloc (Obj.cells #[.int .i64 v1.k, .int .i64 v1.n, .int .i64 v1.s, .string v1.t, .slice v1.na v1.nl v1.nc, .slice v1.ka v1.kl v1.kc] 25)).alloc (Obj.cells #[.int .i64 v2.k, .int .i64 v2.n, .int .i64 v2.s, .string v2.t, .slice v2.na v2.nl v2.nc, .slice v2.ka v2.kl v2.kc] 25)) = w1 ∧ Hid (Blk w1 (w.heap.size) 25 [.int .i64 v1.k, .int .i64 v1.n, .int .i64 v1.s, .string v1.t, .slice v1.na v1.nl v1.nc, .slice v1.ka v1.kl v1.kc] ∧ Blk w1 (w.heap.size + 1) 25 [.int .i64 v2.k, .int .i64 v2.n, .int .i64 v2.s, .string v2.t, .slice v2.na v2.nl v2.nc, .slice v2.ka v2.kl v2.kc] ∧ Grow w w1) := ⟨_, rfl, (Blk.alloc (blk_at rfl) _), (blk_at (by simp)), (((Grow.refl _).alloc _).alloc _)⟩
  rw [HW1]
  clear HW1
  refine (P1.out _).mono ?_
  rintro e w2 ⟨rfl, g0⟩
  have H1 : Hid (Blk w2 (w.heap.size) 25 [.int .i64 v1.k, .int .i64 v1.n, .int .i64 v1.s, .string v1.t, .slice v1.na v1.nl v1.nc, .slice v1.ka v1.kl v1.kc] ∧ Blk w2 (w.heap.size + 1) 25 [.int .i64 v2.k, .int .i64 v2.n, .int .i64 v2.s, .string v2.t, .slice v2.na v2.nl v2.nc, .slice v2.ka v2.kl v2.kc] ∧ Grow w w2) := ⟨(H0.out.1).grow g0, (H0.out.2.1).grow g0, Grow.trans (H0.out.2.2) g0⟩
  clear H0 g0
  have q1_0 : w2.cell? ⟨w.heap.size + 1, 0, none⟩ = some (.int .i64 v2.k) := (H1.out.2.1).cell 0
  have q1_1 : w2.cell? ⟨w.heap.size + 1, 1, none⟩ = some (.int .i64 v2.n) := (H1.out.2.1).cell 1
  have q1_2 : w2.cell? ⟨w.heap.size + 1, 2, none⟩ = some (.int .i64 v2.s) := (H1.out.2.1).cell 2
  have q1_3 : w2.cell? ⟨w.heap.size + 1, 3, none⟩ = some (.string v2.t) := (H1.out.2.1).cell 3
  have q1_4 : w2.cell? ⟨w.heap.size + 1, 4, none⟩ = some (.slice v2.na v2.nl v2.nc) := (H1.out.2.1).cell 4
  have q1_5 : w2.cell? ⟨w.heap.size + 1, 5, none⟩ = some (.slice v2.ka v2.kl v2.kc) := (H1.out.2.1).cell 5
  go_wp2_with fail
  clear q1_0 q1_1 q1_2 q1_3 q1_4 q1_5
  refine (P2.out _).mono ?_
  rintro e w3 ⟨rfl, g1⟩
  have H2 : Hid (Blk w3 (w.heap.size) 25 [.int .i64 v1.k, .int .i64 v1.n, .int .i64 v1.s, .string v1.t, .slice v1.na v1.nl v1.nc, .slice v1.ka v1.kl v1.kc] ∧ Blk w3 (w.heap.size + 1) 25 [.int .i64 v2.k, .int .i64 v2.n, .int .i64 v2.s, .string v2.t, .slice v2.na v2.nl v2.nc, .slice v2.ka v2.kl v2.kc] ∧ Grow w w3) := ⟨(H1.out.1).grow g1, (H1.out.2.1).grow g1, Grow.trans (H1.out.2.2) g1⟩
  clear H1 g1
  have q0_0 : w3.cell? ⟨w.heap.size, 0, none⟩ = some (.int .i64 v1.k) := (H2.out.1).cell 0
  have q0_1 : w3.cell? ⟨w.heap.size, 1, none⟩ = some (.int .i64 v1.n) := (H2.out.1).cell 1
  have q0_2 : w3.cell? ⟨w.heap.size, 2, none⟩ = some (.int .i64 v1.s) := (H2.out.1).cell 2
  have q0_3 : w3.cell? ⟨w.heap.size, 3, none⟩ = some (.string v1.t) := (H2.out.1).cell 3
  have q0_4 : w3.cell? ⟨w.heap.size, 4, none⟩ = some (.slice v1.na v1.nl v1.nc) := (H2.out.1).cell 4
  have q0_5 : w3.cell? ⟨w.heap.size, 5, none⟩ = some (.slice v1.ka v1.kl v1.kc) := (H2.out.1).cell 5
  have q1_0 : w3.cell? ⟨w.heap.size + 1, 0, none⟩ = some (.int .i64 v2.k) := (H2.out.2.1).cell 0
  have q1_1 : w3.cell? ⟨w.heap.size + 1, 1, none⟩ = some (.int .i64 v2.n) := (H2.out.2.1).cell 1
  have q1_2 : w3.cell? ⟨w.heap.size + 1, 2, none⟩ = some (.int .i64 v2.s) := (H2.out.2.1).cell 2
  have q1_3 : w3.cell? ⟨w.heap.size + 1, 3, none⟩ = some (.string v2.t) := (H2.out.2.1).cell 3
  have q1_4 : w3.cell? ⟨w.heap.size + 1, 4, none⟩ = some (.slice v2.na v2.nl v2.nc) := (H2.out.2.1).cell 4
  have q1_5 : w3.cell? ⟨w.heap.size + 1, 5, none⟩ = some (.slice v2.ka v2.kl v2.kc) := (H2.out.2.1).cell 5
  go_wp2_with fail
  clear q0_0 q0_1 q0_2 q0_3 q0_4 q0_5 q1_0 q1_1 q1_2 q1_3 q1_4 q1_5
  refine (A1.out _).mono ?_
  rintro e w4 ⟨rfl, g2⟩
  have H3 : Hid (Blk w4 (w.heap.size) 25 [.int .i64 v1.k, .int .i64 v1.n, .int .i64 v1.s, .string v1.t, .slice v1.na v1.nl v1.nc, .slice v1.ka v1.kl v1.kc] ∧ Blk w4 (w.heap.size + 1) 25 [.int .i64 v2.k, .int .i64 v2.n, .int .i64 v2.s, .string v2.t, .slice v2.na v2.nl v2.nc, .slice v2.ka v2.kl v2.kc] ∧ Grow w w4) := ⟨(H2.out.1).grow g2, (H2.out.2.1).grow g2, Grow.trans (H2.out.2.2) g2⟩
  clear H2 g2
  go_wp2_with (refine al_zero rfl 25 rfl [.int .i64 0, .int .i64 0, .int .i64 0, .string ⟨#[]⟩, .slice none 0 0, .slice none 0 0] zV ?_)
  intro yA1 vv3 ss3 zz3 xx3
  go_wp2_with (refine st_all rfl 25 (.tmp 5) (.tmp 37) rfl yA1 25 [.int .i64 0, .int .i64 0, .int .i64 0, .string ⟨#[]⟩, .slice none 0 0, .slice none 0 0] [.int .i64 r1.k, .int .i64 r1.n, .int .i64 r1.s, .string ⟨#[]⟩, .slice none 0 0, .slice none 0 0] rfl rfl zz3 rfl sV (ones rfl) ?_)
  intro w5 yy3 mm3
  have H4 : Hid (Blk w5 (w.heap.size) 25 [.int .i64 v1.k, .int .i64 v1.n, .int .i64 v1.s, .string v1.t, .slice v1.na v1.nl v1.nc, .slice v1.ka v1.kl v1.kc] ∧ Blk w5 (w.heap.size + 1) 25 [.int .i64 v2.k, .int .i64 v2.n, .int .i64 v2.s, .string v2.t, .slice v2.na v2.nl v2.nc, .slice v2.ka v2.kl v2.kc] ∧ Blk w5 (yA1) 25 [.int .i64 r1.k, .int .i64 r1.n, .int .i64 r1.s, .string ⟨#[]⟩, .slice none 0 0, .slice none 0 0] ∧ Grow w w5) := ⟨(((H3.out.1).kept xx3 (by simp)).kept mm3 (by intro e; injection e with e; have := (H3.out.1).lt; omega)), (((H3.out.2.1).kept xx3 (by simp)).kept mm3 (by intro e; injection e with e; have := (H3.out.2.1).lt; omega)), yy3, (by have x1 := H3.out.2.2; have x2 : Below w.heap.size w vv3 := Below.grown x1 xx3 x1.size (by intro e he; cases he); exact Below.grown x2 mm3 x2.size (by intro e he; injection he with he; have := x1.size; omega))⟩
  clear H3 ss3 zz3 xx3 yy3 mm3
  have q0_0 : w5.cell? ⟨w.heap.size, 0, none⟩ = some (.int .i64 v1.k) := (H4.out.1).cell 0
  have q0_1 : w5.cell? ⟨w.heap.size, 1, none⟩ = some (.int .i64 v1.n) := (H4.out.1).cell 1
  have q0_2 : w5.cell? ⟨w.heap.size, 2, none⟩ = some (.int .i64 v1.s) := (H4.out.1).cell 2
  have q0_3 : w5.cell? ⟨w.heap.size, 3, none⟩ = some (.string v1.t) := (H4.out.1).cell 3
  have q0_4 : w5.cell? ⟨w.heap.size, 4, none⟩ = some (.slice v1.na v1.nl v1.nc) := (H4.out.1).cell 4
  have q0_5 : w5.cell? ⟨w.heap.size, 5, none⟩ = some (.slice v1.ka v1.kl v1.kc) := (H4.out.1).cell 5
  have q1_0 : w5.cell? ⟨w.heap.size + 1, 0, none⟩ = some (.int .i64 v2.k) := (H4.out.2.1).cell 0
  have q1_1 : w5.cell? ⟨w.heap.size + 1, 1, none⟩ = some (.int .i64 v2.n) := (H4.out.2.1).cell 1
  have q1_2 : w5.cell? ⟨w.heap.size + 1, 2, none⟩ = some (.int .i64 v2.s) := (H4.out.2.1).cell 2
  have q1_3 : w5.cell? ⟨w.heap.size + 1, 3, none⟩ = some (.string v2.t) := (H4.out.2.1).cell 3
  have q1_4 : w5.cell? ⟨w.heap.size + 1, 4, none⟩ = some (.slice v2.na v2.nl v2.nc) := (H4.out.2.1).cell 4
  have q1_5 : w5.cell? ⟨w.heap.size + 1, 5, none⟩ = some (.slice v2.ka v2.kl v2.kc) := (H4.out.2.1).cell 5
  go_wp2_with fail
  clear q0_0 q0_1 q0_2 q0_3 q0_4 q0_5 q1_0 q1_1 q1_2 q1_3 q1_4 q1_5
  refine (A2.out _).mono ?_
  rintro e w6 ⟨rfl, g4⟩
  have H5 : Hid (Blk w6 (w.heap.size) 25 [.int .i64 v1.k, .int .i64 v1.n, .int .i64 v1.s, .string v1.t, .slice v1.na v1.nl v1.nc, .slice v1.ka v1.kl v1.kc] ∧ Blk w6 (w.heap.size + 1) 25 [.int .i64 v2.k, .int .i64 v2.n, .int .i64 v2.s, .string v2.t, .slice v2.na v2.nl v2.nc, .slice v2.ka v2.kl v2.kc] ∧ Blk w6 (yA1) 25 [.int .i64 r1.k, .int .i64 r1.n, .int .i64 r1.s, .string ⟨#[]⟩, .slice none 0 0, .slice none 0 0] ∧ Grow w w6) := ⟨(H4.out.1).grow g4, (H4.out.2.1).grow g4, (H4.out.2.2.1).grow g4, Grow.trans (H4.out.2.2.2) g4⟩
  clear H4 g4
  go_wp2_with (refine al_zero rfl 25 rfl [.int .i64 0, .int .i64 0, .int .i64 0, .string ⟨#[]⟩, .slice none 0 0, .slice none 0 0] zV ?_)
  intro yA2 vv5 ss5 zz5 xx5
  go_wp2_with (refine st_all rfl 25 (.tmp 7) (.tmp 43) rfl yA2 25 [.int .i64 0, .int .i64 0, .int .i64 0, .string ⟨#[]⟩, .slice none 0 0, .slice none 0 0] [.int .i64 r1.k, .int .i64 r1.n, .int .i64 r1.s, .string ⟨#[]⟩, .slice none 0 0, .slice none 0 0] rfl rfl zz5 rfl sV (ones rfl) ?_)
  intro w7 yy5 mm5
  have H6 : Hid (Blk w7 (w.heap.size) 25 [.int .i64 v1.k, .int .i64 v1.n, .int .i64 v1.s, .string v1.t, .slice v1.na v1.nl v1.nc, .slice v1.ka v1.kl v1.kc] ∧ Blk w7 (w.heap.size + 1) 25 [.int .i64 v2.k, .int .i64 v2.n, .int .i64 v2.s, .string v2.t, .slice v2.na v2.nl v2.nc, .slice v2.ka v2.kl v2.kc] ∧ Blk w7 (yA1) 25 [.int .i64 r1.k, .int .i64 r1.n, .int .i64 r1.s, .string ⟨#[]⟩, .slice none 0 0, .slice none 0 0] ∧ Blk w7 (yA2) 25 [.int .i64 r1.k, .int .i64 r1.n, .int .i64 r1.s, .string ⟨#[]⟩, .slice none 0 0, .slice none 0 0] ∧ Grow w w7) := ⟨(((H5.out.1).kept xx5 (by simp)).kept mm5 (by intro e; injection e with e; have := (H5.out.1).lt; omega)), (((H5.out.2.1).kept xx5 (by simp)).kept mm5 (by intro e; injection e with e; have := (H5.out.2.1).lt; omega)), (((H5.out.2.2.1).kept xx5 (by simp)).kept mm5 (by intro e; injection e with e; have := (H5.out.2.2.1).lt; omega)), yy5, (by have x1 := H5.out.2.2.2; have x2 : Below w.heap.size w vv5 := Below.grown x1 xx5 x1.size (by intro e he; cases he); exact Below.grown x2 mm5 x2.size (by intro e he; injection he with he; have := x1.size; omega))⟩
  clear H5 ss5 zz5 xx5 yy5 mm5
  have q0_0 : w7.cell? ⟨w.heap.size, 0, none⟩ = some (.int .i64 v1.k) := (H6.out.1).cell 0
  have q0_1 : w7.cell? ⟨w.heap.size, 1, none⟩ = some (.int .i64 v1.n) := (H6.out.1).cell 1
  have q0_2 : w7.cell? ⟨w.heap.size, 2, none⟩ = some (.int .i64 v1.s) := (H6.out.1).cell 2
  have q0_3 : w7.cell? ⟨w.heap.size, 3, none⟩ = some (.string v1.t) := (H6.out.1).cell 3
  have q0_4 : w7.cell? ⟨w.heap.size, 4, none⟩ = some (.slice v1.na v1.nl v1.nc) := (H6.out.1).cell 4
  have q0_5 : w7.cell? ⟨w.heap.size, 5, none⟩ = some (.slice v1.ka v1.kl v1.kc) := (H6.out.1).cell 5
  have q1_0 : w7.cell? ⟨w.heap.size + 1, 0, none⟩ = some (.int .i64 v2.k) := (H6.out.2.1).cell 0
  have q1_1 : w7.cell? ⟨w.heap.size + 1, 1, none⟩ = some (.int .i64 v2.n) := (H6.out.2.1).cell 1
  have q1_2 : w7.cell? ⟨w.heap.size + 1, 2, none⟩ = some (.int .i64 v2.s) := (H6.out.2.1).cell 2
  have q1_3 : w7.cell? ⟨w.heap.size + 1, 3, none⟩ = some (.string v2.t) := (H6.out.2.1).cell 3
  have q1_4 : w7.cell? ⟨w.heap.size + 1, 4, none⟩ = some (.slice v2.na v2.nl v2.nc) := (H6.out.2.1).cell 4
  have q1_5 : w7.cell? ⟨w.heap.size + 1, 5, none⟩ = some (.slice v2.ka v2.kl v2.kc) := (H6.out.2.1).cell 5
  go_wp2_with fail
  clear q0_0 q0_1 q0_2 q0_3 q0_4 q0_5 q1_0 q1_1 q1_2 q1_3 q1_4 q1_5
  refine (S1.out _).mono ?_
  rintro e w8 ⟨rfl, g6⟩
  have H7 : Hid (Blk w8 (w.heap.size) 25 [.int .i64 v1.k, .int .i64 v1.n, .int .i64 v1.s, .string v1.t, .slice v1.na v1.nl v1.nc, .slice v1.ka v1.kl v1.kc] ∧ Blk w8 (w.heap.size + 1) 25 [.int .i64 v2.k, .int .i64 v2.n, .int .i64 v2.s, .string v2.t, .slice v2.na v2.nl v2.nc, .slice v2.ka v2.kl v2.kc] ∧ Blk w8 (yA1) 25 [.int .i64 r1.k, .int .i64 r1.n, .int .i64 r1.s, .string ⟨#[]⟩, .slice none 0 0, .slice none 0 0] ∧ Blk w8 (yA2) 25 [.int .i64 r1.k, .int .i64 r1.n, .int .i64 r1.s, .string ⟨#[]⟩, .slice none 0 0, .slice none 0 0] ∧ Grow w w8) := ⟨(H6.out.1).grow g6, (H6.out.2.1).grow g6, (H6.out.2.2.1).grow g6, (H6.out.2.2.2.1).grow g6, Grow.trans (H6.out.2.2.2.2) g6⟩
  clear H6 g6
  go_wp2_with (refine al_zero rfl 25 rfl [.int .i64 0, .int .i64 0, .int .i64 0, .string ⟨#[]⟩, .slice none 0 0, .slice none 0 0] zV ?_)
  intro yS1 vv7 ss7 zz7 xx7
  go_wp2_with (refine st_all rfl 25 (.tmp 9) (.tmp 49) rfl yS1 25 [.int .i64 0, .int .i64 0, .int .i64 0, .string ⟨#[]⟩, .slice none 0 0, .slice none 0 0] [.int .i64 r2.k, .int .i64 r2.n, .int .i64 r2.s, .string ⟨#[]⟩, .slice none 0 0, .slice none 0 0] rfl rfl zz7 rfl sV (ones rfl) ?_)
  intro w9 yy7 mm7
  have H8 : Hid (Blk w9 (w.heap.size) 25 [.int .i64 v1.k, .int .i64 v1.n, .int .i64 v1.s, .string v1.t, .slice v1.na v1.nl v1.nc, .slice v1.ka v1.kl v1.kc] ∧ Blk w9 (w.heap.size + 1) 25 [.int .i64 v2.k, .int .i64 v2.n, .int .i64 v2.s, .string v2.t, .slice v2.na v2.nl v2.nc, .slice v2.ka v2.kl v2.kc] ∧ Blk w9 (yA1) 25 [.int .i64 r1.k, .int .i64 r1.n, .int .i64 r1.s, .string ⟨#[]⟩, .slice none 0 0, .slice none 0 0] ∧ Blk w9 (yA2) 25 [.int .i64 r1.k, .int .i64 r1.n, .int .i64 r1.s, .string ⟨#[]⟩, .slice none 0 0, .slice none 0 0] ∧ Blk w9 (yS1) 25 [.int .i64 r2.k, .int .i64 r2.n, .int .i64 r2.s, .string ⟨#[]⟩, .slice none 0 0, .slice none 0 0] ∧ Grow w w9) := ⟨(((H7.out.1).kept xx7 (by simp)).kept mm7 (by intro e; injection e with e; have := (H7.out.1).lt; omega)), (((H7.out.2.1).kept xx7 (by simp)).kept mm7 (by intro e; injection e with e; have := (H7.out.2.1).lt; omega)), (((H7.out.2.2.1).kept xx7 (by simp)).kept mm7 (by intro e; injection e with e; have := (H7.out.2.2.1).lt; omega)), (((H7.out.2.2.2.1).kept xx7 (by simp)).kept mm7 (by intro e; injection e with e; have := (H7.out.2.2.2.1).lt; omega)), yy7, (by have x1 := H7.out.2.2.2.2; have x2 : Below w.heap.size w vv7 := Below.grown x1 xx7 x1.size (by intro e he; cases he); exact Below.grown x2 mm7 x2.size (by intro e he; injection he with he; have := x1.size; omega))⟩
  clear H7 ss7 zz7 xx7 yy7 mm7
  have q0_0 : w9.cell? ⟨w.heap.size, 0, none⟩ = some (.int .i64 v1.k) := (H8.out.1).cell 0
  have q0_1 : w9.cell? ⟨w.heap.size, 1, none⟩ = some (.int .i64 v1.n) := (H8.out.1).cell 1
  have q0_2 : w9.cell? ⟨w.heap.size, 2, none⟩ = some (.int .i64 v1.s) := (H8.out.1).cell 2
  have q0_3 : w9.cell? ⟨w.heap.size, 3, none⟩ = some (.string v1.t) := (H8.out.1).cell 3
  have q0_4 : w9.cell? ⟨w.heap.size, 4, none⟩ = some (.slice v1.na v1.nl v1.nc) := (H8.out.1).cell 4
  have q0_5 : w9.cell? ⟨w.heap.size, 5, none⟩ = some (.slice v1.ka v1.kl v1.kc) := (H8.out.1).cell 5
  have q1_0 : w9.cell? ⟨w.heap.size + 1, 0, none⟩ = some (.int .i64 v2.k) := (H8.out.2.1).cell 0
  have q1_1 : w9.cell? ⟨w.heap.size + 1, 1, none⟩ = some (.int .i64 v2.n) := (H8.out.2.1).cell 1
  have q1_2 : w9.cell? ⟨w.heap.size + 1, 2, none⟩ = some (.int .i64 v2.s) := (H8.out.2.1).cell 2
  have q1_3 : w9.cell? ⟨w.heap.size + 1, 3, none⟩ = some (.string v2.t) := (H8.out.2.1).cell 3
  have q1_4 : w9.cell? ⟨w.heap.size + 1, 4, none⟩ = some (.slice v2.na v2.nl v2.nc) := (H8.out.2.1).cell 4
  have q1_5 : w9.cell? ⟨w.heap.size + 1, 5, none⟩ = some (.slice v2.ka v2.kl v2.kc) := (H8.out.2.1).cell 5
  go_wp2_with fail
  clear q0_0 q0_1 q0_2 q0_3 q0_4 q0_5 q1_0 q1_1 q1_2 q1_3 q1_4 q1_5
  refine (S2.out _).mono ?_
  rintro e w10 ⟨rfl, g8⟩
  have H9 : Hid (Blk w10 (w.heap.size) 25 [.int .i64 v1.k, .int .i64 v1.n, .int .i64 v1.s, .string v1.t, .slice v1.na v1.nl v1.nc, .slice v1.ka v1.kl v1.kc] ∧ Blk w10 (w.heap.size + 1) 25 [.int .i64 v2.k, .int .i64 v2.n, .int .i64 v2.s, .string v2.t, .slice v2.na v2.nl v2.nc, .slice v2.ka v2.kl v2.kc] ∧ Blk w10 (yA1) 25 [.int .i64 r1.k, .int .i64 r1.n, .int .i64 r1.s, .string ⟨#[]⟩, .slice none 0 0, .slice none 0 0] ∧ Blk w10 (yA2) 25 [.int .i64 r1.k, .int .i64 r1.n, .int .i64 r1.s, .string ⟨#[]⟩, .slice none 0 0, .slice none 0 0] ∧ Blk w10 (yS1) 25 [.int .i64 r2.k, .int .i64 r2.n, .int .i64 r2.s, .string ⟨#[]⟩, .slice none 0 0, .slice none 0 0] ∧ Grow w w10) := ⟨(H8.out.1).grow g8, (H8.out.2.1).grow g8, (H8.out.2.2.1).grow g8, (H8.out.2.2.2.1).grow g8, (H8.out.2.2.2.2.1).grow g8, Grow.trans (H8.out.2.2.2.2.2) g8⟩
  clear H8 g8
  go_wp2_with (refine al_zero rfl 25 rfl [.int .i64 0, .int .i64 0, .int .i64 0, .string ⟨#[]⟩, .slice none 0 0, .slice none 0 0] zV ?_)
  intro yS2 vv9 ss9 zz9 xx9
  go_wp2_with (refine st_all rfl 25 (.tmp 11) (.tmp 55) rfl yS2 25 [.int .i64 0, .int .i64 0, .int .i64 0, .string ⟨#[]⟩, .slice none 0 0, .slice none 0 0] [.int .i64 r2.k, .int .i64 r2.n, .int .i64 r2.s, .string ⟨#[]⟩, .slice none 0 0, .slice none 0 0] rfl rfl zz9 rfl sV (ones rfl) ?_)
  intro w11 yy9 mm9
  have H10 : Hid (Blk w11 (w.heap.size) 25 [.int .i64 v1.k, .int .i64 v1.n, .int .i64 v1.s, .string v1.t, .slice v1.na v1.nl v1.nc, .slice v1.ka v1.kl v1.kc] ∧ Blk w11 (w.heap.size + 1) 25 [.int .i64 v2.k, .int .i64 v2.n, .int .i64 v2.s, .string v2.t, .slice v2.na v2.nl v2.nc, .slice v2.ka v2.kl v2.kc] ∧ Blk w11 (yA1) 25 [.int .i64 r1.k, .int .i64 r1.n, .int .i64 r1.s, .string ⟨#[]⟩, .slice none 0 0, .slice none 0 0] ∧ Blk w11 (yA2) 25 [.int .i64 r1.k, .int .i64 r1.n, .int .i64 r1.s, .string ⟨#[]⟩, .slice none 0 0, .slice none 0 0] ∧ Blk w11 (yS1) 25 [.int .i64 r2.k, .int .i64 r2.n, .int .i64 r2.s, .string ⟨#[]⟩, .slice none 0 0, .slice none 0 0] ∧ Blk w11 (yS2) 25 [.int .i64 r2.k, .int .i64 r2.n, .int .i64 r2.s, .string ⟨#[]⟩, .slice none 0 0, .slice none 0 0] ∧ Grow w w11) := ⟨(((H9.out.1).kept xx9 (by simp)).kept mm9 (by intro e; injection e with e; have := (H9.out.1).lt; omega)), (((H9.out.2.1).kept xx9 (by simp)).kept mm9 (by intro e; injection e with e; have := (H9.out.2.1).lt; omega)), (((H9.out.2.2.1).kept xx9 (by simp)).kept mm9 (by intro e; injection e with e; have := (H9.out.2.2.1).lt; omega)), (((H9.out.2.2.2.1).kept xx9 (by simp)).kept mm9 (by intro e; injection e with e; have := (H9.out.2.2.2.1).lt; omega)), (((H9.out.2.2.2.2.1).kept xx9 (by simp)).kept mm9 (by intro e; injection e with e; have := (H9.out.2.2.2.2.1).lt; omega)), yy9, (by have x1 := H9.out.2.2.2.2.2; have x2 : Below w.heap.size w vv9 := Below.grown x1 xx9 x1.size (by intro e he; cases he); exact Below.grown x2 mm9 x2.size (by intro e he; injection he with he; have := x1.size; omega))⟩
  clear H9 ss9 zz9 xx9 yy9 mm9
  have q0_0 : w11.cell? ⟨w.heap.size, 0, none⟩ = some (.int .i64 v1.k) := (H10.out.1).cell 0
  have q0_1 : w11.cell? ⟨w.heap.size, 1, none⟩ = some (.int .i64 v1.n) := (H10.out.1).cell 1
  have q0_2 : w11.cell? ⟨w.heap.size, 2, none⟩ = some (.int .i64 v1.s) := (H10.out.1).cell 2
  have q0_3 : w11.cell? ⟨w.heap.size, 3, none⟩ = some (.string v1.t) := (H10.out.1).cell 3
  have q0_4 : w11.cell? ⟨w.heap.size, 4, none⟩ = some (.slice v1.na v1.nl v1.nc) := (H10.out.1).cell 4
  have q0_5 : w11.cell? ⟨w.heap.size, 5, none⟩ = some (.slice v1.ka v1.kl v1.kc) := (H10.out.1).cell 5
  have q1_0 : w11.cell? ⟨w.heap.size + 1, 0, none⟩ = some (.int .i64 v2.k) := (H10.out.2.1).cell 0
  have q1_1 : w11.cell? ⟨w.heap.size + 1, 1, none⟩ = some (.int .i64 v2.n) := (H10.out.2.1).cell 1
  have q1_2 : w11.cell? ⟨w.heap.size + 1, 2, none⟩ = some (.int .i64 v2.s) := (H10.out.2.1).cell 2
  have q1_3 : w11.cell? ⟨w.heap.size + 1, 3, none⟩ = some (.string v2.t) := (H10.out.2.1).cell 3
  have q1_4 : w11.cell? ⟨w.heap.size + 1, 4, none⟩ = some (.slice v2.na v2.nl v2.nc) := (H10.out.2.1).cell 4
  have q1_5 : w11.cell? ⟨w.heap.size + 1, 5, none⟩ = some (.slice v2.ka v2.kl v2.kc) := (H10.out.2.1).cell 5
  go_wp2_with fail
  clear q0_0 q0_1 q0_2 q0_3 q0_4 q0_5 q1_0 q1_1 q1_2 q1_3 q1_4 q1_5
  refine (M1.out _).mono ?_
  rintro e w12 ⟨rfl, g10⟩
  have H11 : Hid (Blk w12 (w.heap.size) 25 [.int .i64 v1.k, .int .i64 v1.n, .int .i64 v1.s, .string v1.t, .slice v1.na v1.nl v1.nc, .slice v1.ka v1.kl v1.kc] ∧ Blk w12 (w.heap.size + 1) 25 [.int .i64 v2.k, .int .i64 v2.n, .int .i64 v2.s, .string v2.t, .slice v2.na v2.nl v2.nc, .slice v2.ka v2.kl v2.kc] ∧ Blk w12 (yA1) 25 [.int .i64 r1.k, .int .i64 r1.n, .int .i64 r1.s, .string ⟨#[]⟩, .slice none 0 0, .slice none 0 0] ∧ Blk w12 (yA2) 25 [.int .i64 r1.k, .int .i64 r1.n, .int .i64 r1.s, .string ⟨#[]⟩, .slice none 0 0, .slice none 0 0] ∧ Blk w12 (yS1) 25 [.int .i64 r2.k, .int .i64 r2.n, .int .i64 r2.s, .string ⟨#[]⟩, .slice none 0 0, .slice none 0 0] ∧ Blk w12 (yS2) 25 [.int .i64 r2.k, .int .i64 r2.n, .int .i64 r2.s, .string ⟨#[]⟩, .slice none 0 0, .slice none 0 0] ∧ Grow w w12) := ⟨(H10.out.1).grow g10, (H10.out.2.1).grow g10, (H10.out.2.2.1).grow g10, (H10.out.2.2.2.1).grow g10, (H10.out.2.2.2.2.1).grow g10, (H10.out.2.2.2.2.2.1).grow g10, Grow.trans (H10.out.2.2.2.2.2.2) g10⟩
  clear H10 g10
  go_wp2_with (refine al_zero rfl 25 rfl [.int .i64 0, .int .i64 0, .int .i64 0, .string ⟨#[]⟩, .slice none 0 0, .slice none 0 0] zV ?_)
  intro yM1 vv11 ss11 zz11 xx11
  go_wp2_with (refine st_all rfl 25 (.tmp 13) (.tmp 61) rfl yM1 25 [.int .i64 0, .int .i64 0, .int .i64 0, .string ⟨#[]⟩, .slice none 0 0, .slice none 0 0] [.int .i64 r3.k, .int .i64 r3.n, .int .i64 r3.s, .string ⟨#[]⟩, .slice none 0 0, .slice none 0 0] rfl rfl zz11 rfl sV (ones rfl) ?_)
  intro w13 yy11 mm11
  have H12 : Hid (Blk w13 (w.heap.size) 25 [.int .i64 v1.k, .int .i64 v1.n, .int .i64 v1.s, .string v1.t, .slice v1.na v1.nl v1.nc, .slice v1.ka v1.kl v1.kc] ∧ Blk w13 (w.heap.size + 1) 25 [.int .i64 v2.k, .int .i64 v2.n, .int .i64 v2.s, .string v2.t, .slice v2.na v2.nl v2.nc, .slice v2.ka v2.kl v2.kc] ∧ Blk w13 (yA1) 25 [.int .i64 r1.k, .int .i64 r1.n, .int .i64 r1.s, .string ⟨#[]⟩, .slice none 0 0, .slice none 0 0] ∧ Blk w13 (yA2) 25 [.int .i64 r1.k, .int .i64 r1.n, .int .i64 r1.s, .string ⟨#[]⟩, .slice none 0 0, .slice none 0 0] ∧ Blk w13 (yS1) 25 [.int .i64 r2.k, .int .i64 r2.n, .int .i64 r2.s, .string ⟨#[]⟩, .slice none 0 0, .slice none 0 0] ∧ Blk w13 (yS2) 25 [.int .i64 r2.k, .int .i64 r2.n, .int .i64 r2.s, .string ⟨#[]⟩, .slice none 0 0, .slice none 0 0] ∧ Blk w13 (yM1) 25 [.int .i64 r3.k, .int .i64 r3.n, .int .i64 r3.s, .string ⟨#[]⟩, .slice none 0 0, .slice none 0 0] ∧ Grow w w13) := ⟨(((H11.out.1).kept xx11 (by simp)).kept mm11 (by intro e; injection e with e; have := (H11.out.1).lt; omega)), (((H11.out.2.1).kept xx11 (by simp)).kept mm11 (by intro e; injection e with e; have := (H11.out.2.1).lt; omega)), (((H11.out.2.2.1).kept xx11 (by simp)).kept mm11 (by intro e; injection e with e; have := (H11.out.2.2.1).lt; omega)), (((H11.out.2.2.2.1).kept xx11 (by simp)).kept mm11 (by intro e; injection e with e; have := (H11.out.2.2.2.1).lt; omega)), (((H11.out.2.2.2.2.1).kept xx11 (by simp)).kept mm11 (by intro e; injection e with e; have := (H11.out.2.2.2.2.1).lt; omega)), (((H11.out.2.2.2.2.2.1).kept xx11 (by simp)).kept mm11 (by intro e; injection e with e; have := (H11.out.2.2.2.2.2.1).lt; omega)), yy11, (by have x1 := H11.out.2.2.2.2.2.2; have x2 : Below w.heap.size w vv11 := Below.grown x1 xx11 x1.size (by intro e he; cases he); exact Below.grown x2 mm11 x2.size (by intro e he; injection he with he; have := x1.size; omega))⟩
  clear H11 ss11 zz11 xx11 yy11 mm11
  have q0_0 : w13.cell? ⟨w.heap.size, 0, none⟩ = some (.int .i64 v1.k) := (H12.out.1).cell 0
  have q0_1 : w13.cell? ⟨w.heap.size, 1, none⟩ = some (.int .i64 v1.n) := (H12.out.1).cell 1
  have q0_2 : w13.cell? ⟨w.heap.size, 2, none⟩ = some (.int .i64 v1.s) := (H12.out.1).cell 2
  have q0_3 : w13.cell? ⟨w.heap.size, 3, none⟩ = some (.string v1.t) := (H12.out.1).cell 3
  have q0_4 : w13.cell? ⟨w.heap.size, 4, none⟩ = some (.slice v1.na v1.nl v1.nc) := (H12.out.1).cell 4
  have q0_5 : w13.cell? ⟨w.heap.size, 5, none⟩ = some (.slice v1.ka v1.kl v1.kc) := (H12.out.1).cell 5
  have q1_0 : w13.cell? ⟨w.heap.size + 1, 0, none⟩ = some (.int .i64 v2.k) := (H12.out.2.1).cell 0
  have q1_1 : w13.cell? ⟨w.heap.size + 1, 1, none⟩ = some (.int .i64 v2.n) := (H12.out.2.1).cell 1
  have q1_2 : w13.cell? ⟨w.heap.size + 1, 2, none⟩ = some (.int .i64 v2.s) := (H12.out.2.1).cell 2
  have q1_3 : w13.cell? ⟨w.heap.size + 1, 3, none⟩ = some (.string v2.t) := (H12.out.2.1).cell 3
  have q1_4 : w13.cell? ⟨w.heap.size + 1, 4, none⟩ = some (.slice v2.na v2.nl v2.nc) := (H12.out.2.1).cell 4
  have q1_5 : w13.cell? ⟨w.heap.size + 1, 5, none⟩ = some (.slice v2.ka v2.kl v2.kc) := (H12.out.2.1).cell 5
  go_wp2_with fail
  clear q0_0 q0_1 q0_2 q0_3 q0_4 q0_5 q1_0 q1_1 q1_2 q1_3 q1_4 q1_5
  refine (M2.out _).mono ?_
  rintro e w14 ⟨rfl, g12⟩
  have H13 : Hid (Blk w14 (w.heap.size) 25 [.int .i64 v1.k, .int .i64 v1.n, .int .i64 v1.s, .string v1.t, .slice v1.na v1.nl v1.nc, .slice v1.ka v1.kl v1.kc] ∧ Blk w14 (w.heap.size + 1) 25 [.int .i64 v2.k, .int .i64 v2.n, .int .i64 v2.s, .string v2.t, .slice v2.na v2.nl v2.nc, .slice v2.ka v2.kl v2.kc] ∧ Blk w14 (yA1) 25 [.int .i64 r1.k, .int .i64 r1.n, .int .i64 r1.s, .string ⟨#[]⟩, .slice none 0 0, .slice none 0 0] ∧ Blk w14 (yA2) 25 [.int .i64 r1.k, .int .i64 r1.n, .int .i64 r1.s, .string ⟨#[]⟩, .slice none 0 0, .slice none 0 0] ∧ Blk w14 (yS1) 25 [.int .i64 r2.k, .int .i64 r2.n, .int .i64 r2.s, .string ⟨#[]⟩, .slice none 0 0, .slice none 0 0] ∧ Blk w14 (yS2) 25 [.int .i64 r2.k, .int .i64 r2.n, .int .i64 r2.s, .string ⟨#[]⟩, .slice none 0 0, .slice none 0 0] ∧ Blk w14 (yM1) 25 [.int .i64 r3.k, .int .i64 r3.n, .int .i64 r3.s, .string ⟨#[]⟩, .slice none 0 0, .slice none 0 0] ∧ Grow w w14) := ⟨(H12.out.1).grow g12, (H12.out.2.1).grow g12, (H12.out.2.2.1).grow g12, (H12.out.2.2.2.1).grow g12, (H12.out.2.2.2.2.1).grow g12, (H12.out.2.2.2.2.2.1).grow g12, (H12.out.2.2.2.2.2.2.1).grow g12, Grow.trans (H12.out.2.2.2.2.2.2.2) g12⟩
  clear H12 g12
  go_wp2_with (refine al_zero rfl 25 rfl [.int .i64 0, .int .i64 0, .int .i64 0, .string ⟨#[]⟩, .slice none 0 0, .slice none 0 0] zV ?_)
  intro yM2 vv13 ss13 zz13 xx13
  go_wp2_with (refine st_all rfl 25 (.tmp 15) (.tmp 67) rfl yM2 25 [.int .i64 0, .int .i64 0, .int .i64 0, .string ⟨#[]⟩, .slice none 0 0, .slice none 0 0] [.int .i64 r3.k, .int .i64 r3.n, .int .i64 r3.s, .string ⟨#[]⟩, .slice none 0 0, .slice none 0 0] rfl rfl zz13 rfl sV (ones rfl) ?_)
  intro w15 yy13 mm13
  have H14 : Hid (Blk w15 (w.heap.size) 25 [.int .i64 v1.k, .int .i64 v1.n, .int .i64 v1.s, .string v1.t, .slice v1.na v1.nl v1.nc, .slice v1.ka v1.kl v1.kc] ∧ Blk w15 (w.heap.size + 1) 25 [.int .i64 v2.k, .int .i64 v2.n, .int .i64 v2.s, .string v2.t, .slice v2.na v2.nl v2.nc, .slice v2.ka v2.kl v2.kc] ∧ Blk w15 (yA1) 25 [.int .i64 r1.k, .int .i64 r1.n, .int .i64 r1.s, .string ⟨#[]⟩, .slice none 0 0, .slice none 0 0] ∧ Blk w15 (yA2) 25 [.int .i64 r1.k, .int .i64 r1.n, .int .i64 r1.s, .string ⟨#[]⟩, .slice none 0 0, .slice none 0 0] ∧ Blk w15 (yS1) 25 [.int .i64 r2.k, .int .i64 r2.n, .int .i64 r2.s, .string ⟨#[]⟩, .slice none 0 0, .slice none 0 0] ∧ Blk w15 (yS2) 25 [.int .i64 r2.k, .int .i64 r2.n, .int .i64 r2.s, .string ⟨#[]⟩, .slice none 0 0, .slice none 0 0] ∧ Blk w15 (yM1) 25 [.int .i64 r3.k, .int .i64 r3.n, .int .i64 r3.s, .string ⟨#[]⟩, .slice none 0 0, .slice none 0 0] ∧ Blk w15 (yM2) 25 [.int .i64 r3.k, .int .i64 r3.n, .int .i64 r3.s, .string ⟨#[]⟩, .slice none 0 0, .slice none 0 0] ∧ Grow w w15) := ⟨(((H13.out.1).kept xx13 (by simp)).kept mm13 (by intro e; injection e with e; have := (H13.out.1).lt; omega)), (((H13.out.2.1).kept xx13 (by simp)).kept mm13 (by intro e; injection e with e; have := (H13.out.2.1).lt; omega)), (((H13.out.2.2.1).kept xx13 (by simp)).kept mm13 (by intro e; injection e with e; have := (H13.out.2.2.1).lt; omega)), (((H13.out.2.2.2.1).kept xx13 (by simp)).kept mm13 (by intro e; injection e with e; have := (H13.out.2.2.2.1).lt; omega)), (((H13.out.2.2.2.2.1).kept xx13 (by simp)).kept mm13 (by intro e; injection e with e; have := (H13.out.2.2.2.2.1).lt; omega)), (((H13.out.2.2.2.2.2.1).kept xx13 (by simp)).kept mm13 (by intro e; injection e with e; have := (H13.out.2.2.2.2.2.1).lt; omega)), (((H13.out.2.2.2.2.2.2.1).kept xx13 (by simp)).kept mm13 (by intro e; injection e with e; have := (H13.out.2.2.2.2.2.2.1).lt; omega)), yy13, (by have x1 := H13.out.2.2.2.2.2.2.2; have x2 : Below w.heap.size w vv13 := Below.grown x1 xx13 x1.size (by intro e he; cases he); exact Below.grown x2 mm13 x2.size (by intro e he; injection he with he; have := x1.size; omega))⟩
  clear H13 ss13 zz13 xx13 yy13 mm13
  have q0_0 : w15.cell? ⟨w.heap.size, 0, none⟩ = some (.int .i64 v1.k) := (H14.out.1).cell 0
  have q0_1 : w15.cell? ⟨w.heap.size, 1, none⟩ = some (.int .i64 v1.n) := (H14.out.1).cell 1
  have q0_2 : w15.cell? ⟨w.heap.size, 2, none⟩ = some (.int .i64 v1.s) := (H14.out.1).cell 2
  have q0_3 : w15.cell? ⟨w.heap.size, 3, none⟩ = some (.string v1.t) := (H14.out.1).cell 3
  have q0_4 : w15.cell? ⟨w.heap.size, 4, none⟩ = some (.slice v1.na v1.nl v1.nc) := (H14.out.1).cell 4
  have q0_5 : w15.cell? ⟨w.heap.size, 5, none⟩ = some (.slice v1.ka v1.kl v1.kc) := (H14.out.1).cell 5
  go_wp2_with fail
  clear q0_0 q0_1 q0_2 q0_3 q0_4 q0_5
  refine (N1.out _).mono ?_
  rintro e w16 ⟨rfl, g14⟩
  have H15 : Hid (Blk w16 (w.heap.size) 25 [.int .i64 v1.k, .int .i64 v1.n, .int .i64 v1.s, .string v1.t, .slice v1.na v1.nl v1.nc, .slice v1.ka v1.kl v1.kc] ∧ Blk w16 (w.heap.size + 1) 25 [.int .i64 v2.k, .int .i64 v2.n, .int .i64 v2.s, .string v2.t, .slice v2.na v2.nl v2.nc, .slice v2.ka v2.kl v2.kc] ∧ Blk w16 (yA1) 25 [.int .i64 r1.k, .int .i64 r1.n, .int .i64 r1.s, .string ⟨#[]⟩, .slice none 0 0, .slice none 0 0] ∧ Blk w16 (yA2) 25 [.int .i64 r1.k, .int .i64 r1.n, .int .i64 r1.s, .string ⟨#[]⟩, .slice none 0 0, .slice none 0 0] ∧ Blk w16 (yS1) 25 [.int .i64 r2.k, .int .i64 r2.n, .int .i64 r2.s, .string ⟨#[]⟩, .slice none 0 0, .slice none 0 0] ∧ Blk w16 (yS2) 25 [.int .i64 r2.k, .int .i64 r2.n, .int .i64 r2.s, .string ⟨#[]⟩, .slice none 0 0, .slice none 0 0] ∧ Blk w16 (yM1) 25 [.int .i64 r3.k, .int .i64 r3.n, .int .i64 r3.s, .string ⟨#[]⟩, .slice none 0 0, .slice none 0 0] ∧ Blk w16 (yM2) 25 [.int .i64 r3.k, .int .i64 r3.n, .int .i64 r3.s, .string ⟨#[]⟩, .slice none 0 0, .slice none 0 0] ∧ Grow w w16) := ⟨(H14.out.1).grow g14, (H14.out.2.1).grow g14, (H14.out.2.2.1).grow g14, (H14.out.2.2.2.1).grow g14, (H14.out.2.2.2.2.1).grow g14, (H14.out.2.2.2.2.2.1).grow g14, (H14.out.2.2.2.2.2.2.1).grow g14, (H14.out.2.2.2.2.2.2.2.1).grow g14, Grow.trans (H14.out.2.2.2.2.2.2.2.2) g14⟩
  clear H14 g14
  go_wp2_with (refine al_zero rfl 25 rfl [.int .i64 0, .int .i64 0, .int .i64 0, .string ⟨#[]⟩, .slice none 0 0, .slice none 0 0] zV ?_)
  intro yN1 vv15 ss15 zz15 xx15
  go_wp2_with (refine st_all rfl 25 (.tmp 17) (.tmp 72) rfl yN1 25 [.int .i64 0, .int .i64 0, .int .i64 0, .string ⟨#[]⟩, .slice none 0 0, .slice none 0 0] [.int .i64 r4.k, .int .i64 r4.n, .int .i64 r4.s, .string ⟨#[]⟩, .slice none 0 0, .slice none 0 0] rfl rfl zz15 rfl sV (ones rfl) ?_)
  intro w17 yy15 mm15
  have H16 : Hid (Blk w17 (w.heap.size) 25 [.int .i64 v1.k, .int .i64 v1.n, .int .i64 v1.s, .string v1.t, .slice v1.na v1.nl v1.nc, .slice v1.ka v1.kl v1.kc] ∧ Blk w17 (w.heap.size + 1) 25 [.int .i64 v2.k, .int .i64 v2.n, .int .i64 v2.s, .string v2.t, .slice v2.na v2.nl v2.nc, .slice v2.ka v2.kl v2.kc] ∧ Blk w17 (yA1) 25 [.int .i64 r1.k, .int .i64 r1.n, .int .i64 r1.s, .string ⟨#[]⟩, .slice none 0 0, .slice none 0 0] ∧ Blk w17 (yA2) 25 [.int .i64 r1.k, .int .i64 r1.n, .int .i64 r1.s, .string ⟨#[]⟩, .slice none 0 0, .slice none 0 0] ∧ Blk w17 (yS1) 25 [.int .i64 r2.k, .int .i64 r2.n, .int .i64 r2.s, .string ⟨#[]⟩, .slice none 0 0, .slice none 0 0] ∧ Blk w17 (yS2) 25 [.int .i64 r2.k, .int .i64 r2.n, .int .i64 r2.s, .string ⟨#[]⟩, .slice none 0 0, .slice none 0 0] ∧ Blk w17 (yM1) 25 [.int .i64 r3.k, .int .i64 r3.n, .int .i64 r3.s, .string ⟨#[]⟩, .slice none 0 0, .slice none 0 0] ∧ Blk w17 (yM2) 25 [.int .i64 r3.k, .int .i64 r3.n, .int .i64 r3.s, .string ⟨#[]⟩, .slice none 0 0, .slice none 0 0] ∧ Blk w17 (yN1) 25 [.int .i64 r4.k, .int .i64 r4.n, .int .i64 r4.s, .string ⟨#[]⟩, .slice none 0 0, .slice none 0 0] ∧ Grow w w17) := ⟨(((H15.out.1).kept xx15 (by simp)).kept mm15 (by intro e; injection e with e; have := (H15.out.1).lt; omega)), (((H15.out.2.1).kept xx15 (by simp)).kept mm15 (by intro e; injection e with e; have := (H15.out.2.1).lt; omega)), (((H15.out.2.2.1).kept xx15 (by simp)).kept mm15 (by intro e; injection e with e; have := (H15.out.2.2.1).lt; omega)), (((H15.out.2.2.2.1).kept xx15 (by simp)).kept mm15 (by intro e; injection e with e; have := (H15.out.2.2.2.1).lt; omega)), (((H15.out.2.2.2.2.1).kept xx15 (by simp)).kept mm15 (by intro e; injection e with e; have := (H15.out.2.2.2.2.1).lt; omega)), (((H15.out.2.2.2.2.2.1).kept xx15 (by simp)).kept mm15 (by intro e; injection e with e; have := (H15.out.2.2.2.2.2.1).lt; omega)), (((H15.out.2.2.2.2.2.2.1).kept xx15 (by simp)).kept mm15 (by intro e; injection e with e; have := (H15.out.2.2.2.2.2.2.1).lt; omega)), (((H15.out.2.2.2.2.2.2.2.1).kept xx15 (by simp)).kept mm15 (by intro e; injection e with e; have := (H15.out.2.2.2.2.2.2.2.1).lt; omega)), yy15, (by have x1 := H15.out.2.2.2.2.2.2.2.2; have x2 : Below w.heap.size w vv15 := Below.grown x1 xx15 x1.size (by intro e he; cases he); exact Below.grown x2 mm15 x2.size (by intro e he; injection he with he; have := x1.size; omega))⟩
  clear H15 ss15 zz15 xx15 yy15 mm15
  have q0_0 : w17.cell? ⟨w.heap.size, 0, none⟩ = some (.int .i64 v1.k) := (H16.out.1).cell 0
  have q0_1 : w17.cell? ⟨w.heap.size, 1, none⟩ = some (.int .i64 v1.n) := (H16.out.1).cell 1
  have q0_2 : w17.cell? ⟨w.heap.size, 2, none⟩ = some (.int .i64 v1.s) := (H16.out.1).cell 2
  have q0_3 : w17.cell? ⟨w.heap.size, 3, none⟩ = some (.string v1.t) := (H16.out.1).cell 3
  have q0_4 : w17.cell? ⟨w.heap.size, 4, none⟩ = some (.slice v1.na v1.nl v1.nc) := (H16.out.1).cell 4
  have q0_5 : w17.cell? ⟨w.heap.size, 5, none⟩ = some (.slice v1.ka v1.kl v1.kc) := (H16.out.1).cell 5
  go_wp2_with fail
  clear q0_0 q0_1 q0_2 q0_3 q0_4 q0_5
  refine (N2.out _).mono ?_
  rintro e w18 ⟨rfl, g16⟩
  have H17 : Hid (Blk w18 (w.heap.size) 25 [.int .i64 v1.k, .int .i64 v1.n, .int .i64 v1.s, .string v1.t, .slice v1.na v1.nl v1.nc, .slice v1.ka v1.kl v1.kc] ∧ Blk w18 (w.heap.size + 1) 25 [.int .i64 v2.k, .int .i64 v2.n, .int .i64 v2.s, .string v2.t, .slice v2.na v2.nl v2.nc, .slice v2.ka v2.kl v2.kc] ∧ Blk w18 (yA1) 25 [.int .i64 r1.k, .int .i64 r1.n, .int .i64 r1.s, .string ⟨#[]⟩, .slice none 0 0, .slice none 0 0] ∧ Blk w18 (yA2) 25 [.int .i64 r1.k, .int .i64 r1.n, .int .i64 r1.s, .string ⟨#[]⟩, .slice none 0 0, .slice none 0 0] ∧ Blk w18 (yS1) 25 [.int .i64 r2.k, .int .i64 r2.n, .int .i64 r2.s, .string ⟨#[]⟩, .slice none 0 0, .slice none 0 0] ∧ Blk w18 (yS2) 25 [.int .i64 r2.k, .int .i64 r2.n, .int .i64 r2.s, .string ⟨#[]⟩, .slice none 0 0, .slice none 0 0] ∧ Blk w18 (yM1) 25 [.int .i64 r3.k, .int .i64 r3.n, .int .i64 r3.s, .string ⟨#[]⟩, .slice none 0 0, .slice none 0 0] ∧ Blk w18 (yM2) 25 [.int .i64 r3.k, .int .i64 r3.n, .int .i64 r3.s, .string ⟨#[]⟩, .slice none 0 0, .slice none 0 0] ∧ Blk w18 (yN1) 25 [.int .i64 r4.k, .int .i64 r4.n, .int .i64 r4.s, .string ⟨#[]⟩, .slice none 0 0, .slice none 0 0] ∧ Grow w w18) := ⟨(H16.out.1).grow g16, (H16.out.2.1).grow g16, (H16.out.2.2.1).grow g16, (H16.out.2.2.2.1).grow g16, (H16.out.2.2.2.2.1).grow g16, (H16.out.2.2.2.2.2.1).grow g16, (H16.out.2.2.2.2.2.2.1).grow g16, (H16.out.2.2.2.2.2.2.2.1).grow g16, (H16.out.2.2.2.2.2.2.2.2.1).grow g16, Grow.trans (H16.out.2.2.2.2.2.2.2.2.2) g16⟩
  clear H16 g16
  go_wp2_with (refine al_zero rfl 25 rfl [.int .i64 0, .int .i64 0, .int .i64 0, .string ⟨#[]⟩, .slice none 0 0, .slice none 0 0] zV ?_)
  intro yN2 vv17 ss17 zz17 xx17
  go_wp2_with (refine st_all rfl 25 (.tmp 19) (.tmp 77) rfl yN2 25 [.int .i64 0, .int .i64 0, .int .i64 0, .string ⟨#[]⟩, .slice none 0 0, .slice none 0 0] [.int .i64 r4.k, .int .i64 r4.n, .int .i64 r4.s, .string ⟨#[]⟩, .slice none 0 0, .slice none 0 0] rfl rfl zz17 rfl sV (ones rfl) ?_)
  intro w19 yy17 mm17
  have H18 : Hid (Blk w19 (w.heap.size) 25 [.int .i64 v1.k, .int .i64 v1.n, .int .i64 v1.s, .string v1.t, .slice v1.na v1.nl v1.nc, .slice v1.ka v1.kl v1.kc] ∧ Blk w19 (w.heap.size + 1) 25 [.int .i64 v2.k, .int .i64 v2.n, .int .i64 v2.s, .string v2.t, .slice v2.na v2.nl v2.nc, .slice v2.ka v2.kl v2.kc] ∧ Blk w19 (yA1) 25 [.int .i64 r1.k, .int .i64 r1.n, .int .i64 r1.s, .string ⟨#[]⟩, .slice none 0 0, .slice none 0 0] ∧ Blk w19 (yA2) 25 [.int .i64 r1.k, .int .i64 r1.n, .int .i64 r1.s, .string ⟨#[]⟩, .slice none 0 0, .slice none 0 0] ∧ Blk w19 (yS1) 25 [.int .i64 r2.k, .int .i64 r2.n, .int .i64 r2.s, .string ⟨#[]⟩, .slice none 0 0, .slice none 0 0] ∧ Blk w19 (yS2) 25 [.int .i64 r2.k, .int .i64 r2.n, .int .i64 r2.s, .string ⟨#[]⟩, .slice none 0 0, .slice none 0 0] ∧ Blk w19 (yM1) 25 [.int .i64 r3.k, .int .i64 r3.n, .int .i64 r3.s, .string ⟨#[]⟩, .slice none 0 0, .slice none 0 0] ∧ Blk w19 (yM2) 25 [.int .i64 r3.k, .int .i64 r3.n, .int .i64 r3.s, .string ⟨#[]⟩, .slice none 0 0, .slice none 0 0] ∧ Blk w19 (yN1) 25 [.int .i64 r4.k, .int .i64 r4.n, .int .i64 r4.s, .string ⟨#[]⟩, .slice none 0 0, .slice none 0 0] ∧ Blk w19 (yN2) 25 [.int .i64 r4.k, .int .i64 r4.n, .int .i64 r4.s, .string ⟨#[]⟩, .slice none 0 0, .slice none 0 0] ∧ Grow w w19) := ⟨(((H17.out.1).kept xx17 (by simp)).kept mm17 (by intro e; injection e with e; have := (H17.out.1).lt; omega)), (((H17.out.2.1).kept xx17 (by simp)).kept mm17 (by intro e; injection e with e; have := (H17.out.2.1).lt; omega)), (((H17.out.2.2.1).kept xx17 (by simp)).kept mm17 (by intro e; injection e with e; have := (H17.out.2.2.1).lt; omega)), (((H17.out.2.2.2.1).kept xx17 (by simp)).kept mm17 (by intro e; injection e with e; have := (H17.out.2.2.2.1).lt; omega)), (((H17.out.2.2.2.2.1).kept xx17 (by simp)).kept mm17 (by intro e; injection e with e; have := (H17.out.2.2.2.2.1).lt; omega)), (((H17.out.2.2.2.2.2.1).kept xx17 (by simp)).kept mm17 (by intro e; injection e with e; have := (H17.out.2.2.2.2.2.1).lt; omega)), (((H17.out.2.2.2.2.2.2.1).kept xx17 (by simp)).kept mm17 (by intro e; injection e with e; have := (H17.out.2.2.2.2.2.2.1).lt; omega)), (((H17.out.2.2.2.2.2.2.2.1).kept xx17 (by simp)).kept mm17 (by intro e; injection e with e; have := (H17.out.2.2.2.2.2.2.2.1).lt; omega)), (((H17.out.2.2.2.2.2.2.2.2.1).kept xx17 (by simp)).kept mm17 (by intro e; injection e with e; have := (H17.out.2.2.2.2.2.2.2.2.1).lt; omega)), yy17, (by have x1 := H17.out.2.2.2.2.2.2.2.2.2; have x2 : Below w.heap.size w vv17 := Below.grown x1 xx17 x1.size (by intro e he; cases he); exact Below.grown x2 mm17 x2.size (by intro e he; injection he with he; have := x1.size; omega))⟩
  clear H17 ss17 zz17 xx17 yy17 mm17
  have q0_0 : w19.cell? ⟨w.heap.size, 0, none⟩ = some (.int .i64 v1.k) := (H18.out.1).cell 0
  have q0_1 : w19.cell? ⟨w.heap.size, 1, none⟩ = some (.int .i64 v1.n) := (H18.out.1).cell 1
  have q0_2 : w19.cell? ⟨w.heap.size, 2, none⟩ = some (.int .i64 v1.s) := (H18.out.1).cell 2
  have q0_3 : w19.cell? ⟨w.heap.size, 3, none⟩ = some (.string v1.t) := (H18.out.1).cell 3
  have q0_4 : w19.cell? ⟨w.heap.size, 4, none⟩ = some (.slice v1.na v1.nl v1.nc) := (H18.out.1).cell 4
  have q0_5 : w19.cell? ⟨w.heap.size, 5, none⟩ = some (.slice v1.ka v1.kl v1.kc) := (H18.out.1).cell 5
  have q1_0 : w19.cell? ⟨w.heap.size + 1, 0, none⟩ = some (.int .i64 v2.k) := (H18.out.2.1).cell 0
  have q1_1 : w19.cell? ⟨w.heap.size + 1, 1, none⟩ = some (.int .i64 v2.n) := (H18.out.2.1).cell 1
  have q1_2 : w19.cell? ⟨w.heap.size + 1, 2, none⟩ = some (.int .i64 v2.s) := (H18.out.2.1).cell 2
  have q1_3 : w19.cell? ⟨w.heap.size + 1, 3, none⟩ = some (.string v2.t) := (H18.out.2.1).cell 3
  have q1_4 : w19.cell? ⟨w.heap.size + 1, 4, none⟩ = some (.slice v2.na v2.nl v2.nc) := (H18.out.2.1).cell 4
  have q1_5 : w19.cell? ⟨w.heap.size + 1, 5, none⟩ = some (.slice v2.ka v2.kl v2.kc) := (H18.out.2.1).cell 5
  go_wp2_with fail
  clear q0_0 q0_1 q0_2 q0_3 q0_4 q0_5 q1_0 q1_1 q1_2 q1_3 q1_4 q1_5
  refine (C1.out _).mono ?_
  rintro e w20 ⟨rfl, g18⟩
  have H19 : Hid (Blk w20 (w.heap.size) 25 [.int .i64 v1.k, .int .i64 v1.n, .int .i64 v1.s, .string v1.t, .slice v1.na v1.nl v1.nc, .slice v1.ka v1.kl v1.kc] ∧ Blk w20 (w.heap.size + 1) 25 [.int .i64 v2.k, .int .i64 v2.n, .int .i64 v2.s, .string v2.t, .slice v2.na v2.nl v2.nc, .slice v2.ka v2.kl v2.kc] ∧ Blk w20 (yA1) 25 [.int .i64 r1.k, .int .i64 r1.n, .int .i64 r1.s, .string ⟨#[]⟩, .slice none 0 0, .slice none 0 0] ∧ Blk w20 (yA2) 25 [.int .i64 r1.k, .int .i64 r1.n, .int .i64 r1.s, .string ⟨#[]⟩, .slice none 0 0, .slice none 0 0] ∧ Blk w20 (yS1) 25 [.int .i64 r2.k, .int .i64 r2.n, .int .i64 r2.s, .string ⟨#[]⟩, .slice none 0 0, .slice none 0 0] ∧ Blk w20 (yS2) 25 [.int .i64 r2.k, .int .i64 r2.n, .int .i64 r2.s, .string ⟨#[]⟩, .slice none 0 0, .slice none 0 0] ∧ Blk w20 (yM1) 25 [.int .i64 r3.k, .int .i64 r3.n, .int .i64 r3.s, .string ⟨#[]⟩, .slice none 0 0, .slice none 0 0] ∧ Blk w20 (yM2) 25 [.int .i64 r3.k, .int .i64 r3.n, .int .i64 r3.s, .string ⟨#[]⟩, .slice none 0 0, .slice none 0 0] ∧ Blk w20 (yN1) 25 [.int .i64 r4.k, .int .i64 r4.n, .int .i64 r4.s, .string ⟨#[]⟩, .slice none 0 0, .slice none 0 0] ∧ Blk w20 (yN2) 25 [.int .i64 r4.k, .int .i64 r4.n, .int .i64 r4.s, .string ⟨#[]⟩, .slice none 0 0, .slice none 0 0] ∧ Grow w w20) := ⟨(H18.out.1).grow g18, (H18.out.2.1).grow g18, (H18.out.2.2.1).grow g18, (H18.out.2.2.2.1).grow g18, (H18.out.2.2.2.2.1).grow g18, (H18.out.2.2.2.2.2.1).grow g18, (H18.out.2.2.2.2.2.2.1).grow g18, (H18.out.2.2.2.2.2.2.2.1).grow g18, (H18.out.2.2.2.2.2.2.2.2.1).grow g18, (H18.out.2.2.2.2.2.2.2.2.2.1).grow g18, Grow.trans (H18.out.2.2.2.2.2.2.2.2.2.2) g18⟩
  clear H18 g18
  have q0_0 : w20.cell? ⟨w.heap.size, 0, none⟩ = some (.int .i64 v1.k) := (H19.out.1).cell 0
  have q0_1 : w20.cell? ⟨w.heap.size, 1, none⟩ = some (.int .i64 v1.n) := (H19.out.1).cell 1
  have q0_2 : w20.cell? ⟨w.heap.size, 2, none⟩ = some (.int .i64 v1.s) := (H19.out.1).cell 2
  have q0_3 : w20.cell? ⟨w.heap.size, 3, none⟩ = some (.string v1.t) := (H19.out.1).cell 3
  have q0_4 : w20.cell? ⟨w.heap.size, 4, none⟩ = some (.slice v1.na v1.nl v1.nc) := (H19.out.1).cell 4
  have q0_5 : w20.cell? ⟨w.heap.size, 5, none⟩ = some (.slice v1.ka v1.kl v1.kc) := (H19.out.1).cell 5
  have q1_0 : w20.cell? ⟨w.heap.size + 1, 0, none⟩ = some (.int .i64 v2.k) := (H19.out.2.1).cell 0
  have q1_1 : w20.cell? ⟨w.heap.size + 1, 1, none⟩ = some (.int .i64 v2.n) := (H19.out.2.1).cell 1
  have q1_2 : w20.cell? ⟨w.heap.size + 1, 2, none⟩ = some (.int .i64 v2.s) := (H19.out.2.1).cell 2
  have q1_3 : w20.cell? ⟨w.heap.size + 1, 3, none⟩ = some (.string v2.t) := (H19.out.2.1).cell 3
  have q1_4 : w20.cell? ⟨w.heap.size + 1, 4, none⟩ = some (.slice v2.na v2.nl v2.nc) := (H19.out.2.1).cell 4
  have q1_5 : w20.cell? ⟨w.heap.size + 1, 5, none⟩ = some (.slice v2.ka v2.kl v2.kc) := (H19.out.2.1).cell 5
  go_wp2_with fail
  clear q0_0 q0_1 q0_2 q0_3 q0_4 q0_5 q1_0 q1_1 q1_2 q1_3 q1_4 q1_5
  refine (C2.out _).mono ?_
  rintro e w21 ⟨rfl, g19⟩
  have H20 : Hid (Blk w21 (w.heap.size) 25 [.int .i64 v1.k, .int .i64 v1.n, .int .i64 v1.s, .string v1.t, .slice v1.na v1.nl v1.nc, .slice v1.ka v1.kl v1.kc] ∧ Blk w21 (w.heap.size + 1) 25 [.int .i64 v2.k, .int .i64 v2.n, .int .i64 v2.s, .string v2.t, .slice v2.na v2.nl v2.nc, .slice v2.ka v2.kl v2.kc] ∧ Blk w21 (yA1) 25 [.int .i64 r1.k, .int .i64 r1.n, .int .i64 r1.s, .string ⟨#[]⟩, .slice none 0 0, .slice none 0 0] ∧ Blk w21 (yA2) 25 [.int .i64 r1.k, .int .i64 r1.n, .int .i64 r1.s, .string ⟨#[]⟩, .slice none 0 0, .slice none 0 0] ∧ Blk w21 (yS1) 25 [.int .i64 r2.k, .int .i64 r2.n, .int .i64 r2.s, .string ⟨#[]⟩, .slice none 0 0, .slice none 0 0] ∧ Blk w21 (yS2) 25 [.int .i64 r2.k, .int .i64 r2.n, .int .i64 r2.s, .string ⟨#[]⟩, .slice none 0 0, .slice none 0 0] ∧ Blk w21 (yM1) 25 [.int .i64 r3.k, .int .i64 r3.n, .int .i64 r3.s, .string ⟨#[]⟩, .slice none 0 0, .slice none 0 0] ∧ Blk w21 (yM2) 25 [.int .i64 r3.k, .int .i64 r3.n, .int .i64 r3.s, .string ⟨#[]⟩, .slice none 0 0, .slice none 0 0] ∧ Blk w21 (yN1) 25 [.int .i64 r4.k, .int .i64 r4.n, .int .i64 r4.s, .string ⟨#[]⟩, .slice none 0 0, .slice none 0 0] ∧ Blk w21 (yN2) 25 [.int .i64 r4.k, .int .i64 r4.n, .int .i64 r4.s, .string ⟨#[]⟩, .slice none 0 0, .slice none 0 0] ∧ Grow w w21) := ⟨(H19.out.1).grow g19, (H19.out.2.1).grow g19, (H19.out.2.2.1).grow g19, (H19.out.2.2.2.1).grow g19, (H19.out.2.2.2.2.1).grow g19, (H19.out.2.2.2.2.2.1).grow g19, (H19.out.2.2.2.2.2.2.1).grow g19, (H19.out.2.2.2.2.2.2.2.1).grow g19, (H19.out.2.2.2.2.2.2.2.2.1).grow g19, (H19.out.2.2.2.2.2.2.2.2.2.1).grow g19, Grow.trans (H19.out.2.2.2.2.2.2.2.2.2.2) g19⟩
  clear H19 g19
  have q2_0 : w21.cell? ⟨yA1, 0, none⟩ = some (.int .i64 r1.k) := (H20.out.2.2.1).cell 0
  have q2_1 : w21.cell? ⟨yA1, 1, none⟩ = some (.int .i64 r1.n) := (H20.out.2.2.1).cell 1
  have q2_2 : w21.cell? ⟨yA1, 2, none⟩ = some (.int .i64 r1.s) := (H20.out.2.2.1).cell 2
  have q2_3 : w21.cell? ⟨yA1, 3, none⟩ = some (.string ⟨#[]⟩) := (H20.out.2.2.1).cell 3
  have q2_4 : w21.cell? ⟨yA1, 4, none⟩ = some (.slice none 0 0) := (H20.out.2.2.1).cell 4
  have q2_5 : w21.cell? ⟨yA1, 5, none⟩ = some (.slice none 0 0) := (H20.out.2.2.1).cell 5
  have q3_0 : w21.cell? ⟨yA2, 0, none⟩ = some (.int .i64 r1.k) := (H20.out.2.2.2.1).cell 0
  have q3_1 : w21.cell? ⟨yA2, 1, none⟩ = some (.int .i64 r1.n) := (H20.out.2.2.2.1).cell 1
  have q3_2 : w21.cell? ⟨yA2, 2, none⟩ = some (.int .i64 r1.s) := (H20.out.2.2.2.1).cell 2
  have q3_3 : w21.cell? ⟨yA2, 3, none⟩ = some (.string ⟨#[]⟩) := (H20.out.2.2.2.1).cell 3
  have q3_4 : w21.cell? ⟨yA2, 4, none⟩ = some (.slice none 0 0) := (H20.out.2.2.2.1).cell 4
  have q3_5 : w21.cell? ⟨yA2, 5, none⟩ = some (.slice none 0 0) := (H20.out.2.2.2.1).cell 5
  go_wp2_with fail
  clear q2_0 q2_1 q2_2 q2_3 q2_4 q2_5 q3_0 q3_1 q3_2 q3_3 q3_4 q3_5
  refine (got_any r1.k r1.n r1.s r1.k r1.n r1.s r1.e r1.e none none none none 0 0 0 0 (by simp [same3]) rfl _).mono ?_
  rintro e w22 ⟨rfl, g20⟩
  have H21 : Hid (Blk w22 (w.heap.size) 25 [.int .i64 v1.k, .int .i64 v1.n, .int .i64 v1.s, .string v1.t, .slice v1.na v1.nl v1.nc, .slice v1.ka v1.kl v1.kc] ∧ Blk w22 (w.heap.size + 1) 25 [.int .i64 v2.k, .int .i64 v2.n, .int .i64 v2.s, .string v2.t, .slice v2.na v2.nl v2.nc, .slice v2.ka v2.kl v2.kc] ∧ Blk w22 (yA1) 25 [.int .i64 r1.k, .int .i64 r1.n, .int .i64 r1.s, .string ⟨#[]⟩, .slice none 0 0, .slice none 0 0] ∧ Blk w22 (yA2) 25 [.int .i64 r1.k, .int .i64 r1.n, .int .i64 r1.s, .string ⟨#[]⟩, .slice none 0 0, .slice none 0 0] ∧ Blk w22 (yS1) 25 [.int .i64 r2.k, .int .i64 r2.n, .int .i64 r2.s, .string ⟨#[]⟩, .slice none 0 0, .slice none 0 0] ∧ Blk w22 (yS2) 25 [.int .i64 r2.k, .int .i64 r2.n, .int .i64 r2.s, .string ⟨#[]⟩, .slice none 0 0, .slice none 0 0] ∧ Blk w22 (yM1) 25 [.int .i64 r3.k, .int .i64 r3.n, .int .i64 r3.s, .string ⟨#[]⟩, .slice none 0 0, .slice none 0 0] ∧ Blk w22 (yM2) 25 [.int .i64 r3.k, .int .i64 r3.n, .int .i64 r3.s, .string ⟨#[]⟩, .slice none 0 0, .slice none 0 0] ∧ Blk w22 (yN1) 25 [.int .i64 r4.k, .int .i64 r4.n, .int .i64 r4.s, .string ⟨#[]⟩, .slice none 0 0, .slice none 0 0] ∧ Blk w22 (yN2) 25 [.int .i64 r4.k, .int .i64 r4.n, .int .i64 r4.s, .string ⟨#[]⟩, .slice none 0 0, .slice none 0 0] ∧ Grow w w22) := ⟨(H20.out.1).grow g20, (H20.out.2.1).grow g20, (H20.out.2.2.1).grow g20, (H20.out.2.2.2.1).grow g20, (H20.out.2.2.2.2.1).grow g20, (H20.out.2.2.2.2.2.1).grow g20, (H20.out.2.2.2.2.2.2.1).grow g20, (H20.out.2.2.2.2.2.2.2.1).grow g20, (H20.out.2.2.2.2.2.2.2.2.1).grow g20, (H20.out.2.2.2.2.2.2.2.2.2.1).grow g20, Grow.trans (H20.out.2.2.2.2.2.2.2.2.2.2) g20⟩
  clear H20 g20
  have q4_0 : w22.cell? ⟨yS1, 0, none⟩ = some (.int .i64 r2.k) := (H21.out.2.2.2.2.1).cell 0
  have q4_1 : w22.cell? ⟨yS1, 1, none⟩ = some (.int .i64 r2.n) := (H21.out.2.2.2.2.1).cell 1
  have q4_2 : w22.cell? ⟨yS1, 2, none⟩ = some (.int .i64 r2.s) := (H21.out.2.2.2.2.1).cell 2
  have q4_3 : w22.cell? ⟨yS1, 3, none⟩ = some (.string ⟨#[]⟩) := (H21.out.2.2.2.2.1).cell 3
  have q4_4 : w22.cell? ⟨yS1, 4, none⟩ = some (.slice none 0 0) := (H21.out.2.2.2.2.1).cell 4
  have q4_5 : w22.cell? ⟨yS1, 5, none⟩ = some (.slice none 0 0) := (H21.out.2.2.2.2.1).cell 5
  have q5_0 : w22.cell? ⟨yS2, 0, none⟩ = some (.int .i64 r2.k) := (H21.out.2.2.2.2.2.1).cell 0
  have q5_1 : w22.cell? ⟨yS2, 1, none⟩ = some (.int .i64 r2.n) := (H21.out.2.2.2.2.2.1).cell 1
  have q5_2 : w22.cell? ⟨yS2, 2, none⟩ = some (.int .i64 r2.s) := (H21.out.2.2.2.2.2.1).cell 2
  have q5_3 : w22.cell? ⟨yS2, 3, none⟩ = some (.string ⟨#[]⟩) := (H21.out.2.2.2.2.2.1).cell 3
  have q5_4 : w22.cell? ⟨yS2, 4, none⟩ = some (.slice none 0 0) := (H21.out.2.2.2.2.2.1).cell 4
  have q5_5 : w22.cell? ⟨yS2, 5, none⟩ = some (.slice none 0 0) := (H21.out.2.2.2.2.2.1).cell 5
  go_wp2_with fail
  clear q4_0 q4_1 q4_2 q4_3 q4_4 q4_5 q5_0 q5_1 q5_2 q5_3 q5_4 q5_5
  refine (got_any r2.k r2.n r2.s r2.k r2.n r2.s r2.e r2.e none none none none 0 0 0 0 (by simp [same3]) rfl _).mono ?_
  rintro e w23 ⟨rfl, g21⟩
  have H22 : Hid (Blk w23 (w.heap.size) 25 [.int .i64 v1.k, .int .i64 v1.n, .int .i64 v1.s, .string v1.t, .slice v1.na v1.nl v1.nc, .slice v1.ka v1.kl v1.kc] ∧ Blk w23 (w.heap.size + 1) 25 [.int .i64 v2.k, .int .i64 v2.n, .int .i64 v2.s, .string v2.t, .slice v2.na v2.nl v2.nc, .slice v2.ka v2.kl v2.kc] ∧ Blk w23 (yA1) 25 [.int .i64 r1.k, .int .i64 r1.n, .int .i64 r1.s, .string ⟨#[]⟩, .slice none 0 0, .slice none 0 0] ∧ Blk w23 (yA2) 25 [.int .i64 r1.k, .int .i64 r1.n, .int .i64 r1.s, .string ⟨#[]⟩, .slice none 0 0, .slice none 0 0] ∧ Blk w23 (yS1) 25 [.int .i64 r2.k, .int .i64 r2.n, .int .i64 r2.s, .string ⟨#[]⟩, .slice none 0 0, .slice none 0 0] ∧ Blk w23 (yS2) 25 [.int .i64 r2.k, .int .i64 r2.n, .int .i64 r2.s, .string ⟨#[]⟩, .slice none 0 0, .slice none 0 0] ∧ Blk w23 (yM1) 25 [.int .i64 r3.k, .int .i64 r3.n, .int .i64 r3.s, .string ⟨#[]⟩, .slice none 0 0, .slice none 0 0] ∧ Blk w23 (yM2) 25 [.int .i64 r3.k, .int .i64 r3.n, .int .i64 r3.s, .string ⟨#[]⟩, .slice none 0 0, .slice none 0 0] ∧ Blk w23 (yN1) 25 [.int .i64 r4.k, .int .i64 r4.n, .int .i64 r4.s, .string ⟨#[]⟩, .slice none 0 0, .slice none 0 0] ∧ Blk w23 (yN2) 25 [.int .i64 r4.k, .int .i64 r4.n, .int .i64 r4.s, .string ⟨#[]⟩, .slice none 0 0, .slice none 0 0] ∧ Grow w w23) := ⟨(H21.out.1).grow g21, (H21.out.2.1).grow g21, (H21.out.2.2.1).grow g21, (H21.out.2.2.2.1).grow g21, (H21.out.2.2.2.2.1).grow g21, (H21.out.2.2.2.2.2.1).grow g21, (H21.out.2.2.2.2.2.2.1).grow g21, (H21.out.2.2.2.2.2.2.2.1).grow g21, (H21.out.2.2.2.2.2.2.2.2.1).grow g21, (H21.out.2.2.2.2.2.2.2.2.2.1).grow g21, Grow.trans (H21.out.2.2.2.2.2.2.2.2.2.2) g21⟩
  clear H21 g21
  have q6_0 : w23.cell? ⟨yM1, 0, none⟩ = some (.int .i64 r3.k) := (H22.out.2.2.2.2.2.2.1).cell 0
  have q6_1 : w23.cell? ⟨yM1, 1, none⟩ = some (.int .i64 r3.n) := (H22.out.2.2.2.2.2.2.1).cell 1
  have q6_2 : w23.cell? ⟨yM1, 2, none⟩ = some (.int .i64 r3.s) := (H22.out.2.2.2.2.2.2.1).cell 2
  have q6_3 : w23.cell? ⟨yM1, 3, none⟩ = some (.string ⟨#[]⟩) := (H22.out.2.2.2.2.2.2.1).cell 3
  have q6_4 : w23.cell? ⟨yM1, 4, none⟩ = some (.slice none 0 0) := (H22.out.2.2.2.2.2.2.1).cell 4
  have q6_5 : w23.cell? ⟨yM1, 5, none⟩ = some (.slice none 0 0) := (H22.out.2.2.2.2.2.2.1).cell 5
  have q7_0 : w23.cell? ⟨yM2, 0, none⟩ = some (.int .i64 r3.k) := (H22.out.2.2.2.2.2.2.2.1).cell 0
  have q7_1 : w23.cell? ⟨yM2, 1, none⟩ = some (.int .i64 r3.n) := (H22.out.2.2.2.2.2.2.2.1).cell 1
  have q7_2 : w23.cell? ⟨yM2, 2, none⟩ = some (.int .i64 r3.s) := (H22.out.2.2.2.2.2.2.2.1).cell 2
  have q7_3 : w23.cell? ⟨yM2, 3, none⟩ = some (.string ⟨#[]⟩) := (H22.out.2.2.2.2.2.2.2.1).cell 3
  have q7_4 : w23.cell? ⟨yM2, 4, none⟩ = some (.slice none 0 0) := (H22.out.2.2.2.2.2.2.2.1).cell 4
  have q7_5 : w23.cell? ⟨yM2, 5, none⟩ = some (.slice none 0 0) := (H22.out.2.2.2.2.2.2.2.1).cell 5
  go_wp2_with fail
  clear q6_0 q6_1 q6_2 q6_3 q6_4 q6_5 q7_0 q7_1 q7_2 q7_3 q7_4 q7_5
  refine (got_any r3.k r3.n r3.s r3.k r3.n r3.s r3.e r3.e none none none none 0 0 0 0 (by simp [same3]) rfl _).mono ?_
  rintro e w24 ⟨rfl, g22⟩
  have H23 : Hid (Blk w24 (w.heap.size) 25 [.int .i64 v1.k, .int .i64 v1.n, .int .i64 v1.s, .string v1.t, .slice v1.na v1.nl v1.nc, .slice v1.ka v1.kl v1.kc] ∧ Blk w24 (w.heap.size + 1) 25 [.int .i64 v2.k, .int .i64 v2.n, .int .i64 v2.s, .string v2.t, .slice v2.na v2.nl v2.nc, .slice v2.ka v2.kl v2.kc] ∧ Blk w24 (yA1) 25 [.int .i64 r1.k, .int .i64 r1.n, .int .i64 r1.s, .string ⟨#[]⟩, .slice none 0 0, .slice none 0 0] ∧ Blk w24 (yA2) 25 [.int .i64 r1.k, .int .i64 r1.n, .int .i64 r1.s, .string ⟨#[]⟩, .slice none 0 0, .slice none 0 0] ∧ Blk w24 (yS1) 25 [.int .i64 r2.k, .int .i64 r2.n, .int .i64 r2.s, .string ⟨#[]⟩, .slice none 0 0, .slice none 0 0] ∧ Blk w24 (yS2) 25 [.int .i64 r2.k, .int .i64 r2.n, .int .i64 r2.s, .string ⟨#[]⟩, .slice none 0 0, .slice none 0 0] ∧ Blk w24 (yM1) 25 [.int .i64 r3.k, .int .i64 r3.n, .int .i64 r3.s, .string ⟨#[]⟩, .slice none 0 0, .slice none 0 0] ∧ Blk w24 (yM2) 25 [.int .i64 r3.k, .int .i64 r3.n, .int .i64 r3.s, .string ⟨#[]⟩, .slice none 0 0, .slice none 0 0] ∧ Blk w24 (yN1) 25 [.int .i64 r4.k, .int .i64 r4.n, .int .i64 r4.s, .string ⟨#[]⟩, .slice none 0 0, .slice none 0 0] ∧ Blk w24 (yN2) 25 [.int .i64 r4.k, .int .i64 r4.n, .int .i64 r4.s, .string ⟨#[]⟩, .slice none 0 0, .slice none 0 0] ∧ Grow w w24) := ⟨(H22.out.1).grow g22, (H22.out.2.1).grow g22, (H22.out.2.2.1).grow g22, (H22.out.2.2.2.1).grow g22, (H22.out.2.2.2.2.1).grow g22, (H22.out.2.2.2.2.2.1).grow g22, (H22.out.2.2.2.2.2.2.1).grow g22, (H22.out.2.2.2.2.2.2.2.1).grow g22, (H22.out.2.2.2.2.2.2.2.2.1).grow g22, (H22.out.2.2.2.2.2.2.2.2.2.1).grow g22, Grow.trans (H22.out.2.2.2.2.2.2.2.2.2.2) g22⟩
  clear H22 g22
  have q8_0 : w24.cell? ⟨yN1, 0, none⟩ = some (.int .i64 r4.k) := (H23.out.2.2.2.2.2.2.2.2.1).cell 0
  have q8_1 : w24.cell? ⟨yN1, 1, none⟩ = some (.int .i64 r4.n) := (H23.out.2.2.2.2.2.2.2.2.1).cell 1
  have q8_2 : w24.cell? ⟨yN1, 2, none⟩ = some (.int .i64 r4.s) := (H23.out.2.2.2.2.2.2.2.2.1).cell 2
  have q8_3 : w24.cell? ⟨yN1, 3, none⟩ = some (.string ⟨#[]⟩) := (H23.out.2.2.2.2.2.2.2.2.1).cell 3
  have q8_4 : w24.cell? ⟨yN1, 4, none⟩ = some (.slice none 0 0) := (H23.out.2.2.2.2.2.2.2.2.1).cell 4
  have q8_5 : w24.cell? ⟨yN1, 5, none⟩ = some (.slice none 0 0) := (H23.out.2.2.2.2.2.2.2.2.1).cell 5
  have q9_0 : w24.cell? ⟨yN2, 0, none⟩ = some (.int .i64 r4.k) := (H23.out.2.2.2.2.2.2.2.2.2.1).cell 0
  have q9_1 : w24.cell? ⟨yN2, 1, none⟩ = some (.int .i64 r4.n) := (H23.out.2.2.2.2.2.2.2.2.2.1).cell 1
  have q9_2 : w24.cell? ⟨yN2, 2, none⟩ = some (.int .i64 r4.s) := (H23.out.2.2.2.2.2.2.2.2.2.1).cell 2
  have q9_3 : w24.cell? ⟨yN2, 3, none⟩ = some (.string ⟨#[]⟩) := (H23.out.2.2.2.2.2.2.2.2.2.1).cell 3
  have q9_4 : w24.cell? ⟨yN2, 4, none⟩ = some (.slice none 0 0) := (H23.out.2.2.2.2.2.2.2.2.2.1).cell 4
  have q9_5 : w24.cell? ⟨yN2, 5, none⟩ = some (.slice none 0 0) := (H23.out.2.2.2.2.2.2.2.2.2.1).cell 5
  go_wp2_with fail
  clear q8_0 q8_1 q8_2 q8_3 q8_4 q8_5 q9_0 q9_1 q9_2 q9_3 q9_4 q9_5
  refine (got_any r4.k r4.n r4.s r4.k r4.n r4.s r4.e r4.e none none none none 0 0 0 0 (by simp [same3]) rfl _).mono ?_
  rintro e w25 ⟨rfl, g23⟩
  have H24 : Hid (Blk w25 (w.heap.size) 25 [.int .i64 v1.k, .int .i64 v1.n, .int .i64 v1.s, .string v1.t, .slice v1.na v1.nl v1.nc, .slice v1.ka v1.kl v1.kc] ∧ Blk w25 (w.heap.size + 1) 25 [.int .i64 v2.k, .int .i64 v2.n, .int .i64 v2.s, .string v2.t, .slice v2.na v2.nl v2.nc, .slice v2.ka v2.kl v2.kc] ∧ Blk w25 (yA1) 25 [.int .i64 r1.k, .int .i64 r1.n, .int .i64 r1.s, .string ⟨#[]⟩, .slice none 0 0, .slice none 0 0] ∧ Blk w25 (yA2) 25 [.int .i64 r1.k, .int .i64 r1.n, .int .i64 r1.s, .string ⟨#[]⟩, .slice none 0 0, .slice none 0 0] ∧ Blk w25 (yS1) 25 [.int .i64 r2.k, .int .i64 r2.n, .int .i64 r2.s, .string ⟨#[]⟩, .slice none 0 0, .slice none 0 0] ∧ Blk w25 (yS2) 25 [.int .i64 r2.k, .int .i64 r2.n, .int .i64 r2.s, .string ⟨#[]⟩, .slice none 0 0, .slice none 0 0] ∧ Blk w25 (yM1) 25 [.int .i64 r3.k, .int .i64 r3.n, .int .i64 r3.s, .string ⟨#[]⟩, .slice none 0 0, .slice none 0 0] ∧ Blk w25 (yM2) 25 [.int .i64 r3.k, .int .i64 r3.n, .int .i64 r3.s, .string ⟨#[]⟩, .slice none 0 0, .slice none 0 0] ∧ Blk w25 (yN1) 25 [.int .i64 r4.k, .int .i64 r4.n, .int .i64 r4.s, .string ⟨#[]⟩, .slice none 0 0, .slice none 0 0] ∧ Blk w25 (yN2) 25 [.int .i64 r4.k, .int .i64 r4.n, .int .i64 r4.s, .string ⟨#[]⟩, .slice none 0 0, .slice none 0 0] ∧ Grow w w25) := ⟨(H23.out.1).grow g23, (H23.out.2.1).grow g23, (H23.out.2.2.1).grow g23, (H23.out.2.2.2.1).grow g23, (H23.out.2.2.2.2.1).grow g23, (H23.out.2.2.2.2.2.1).grow g23, (H23.out.2.2.2.2.2.2.1).grow g23, (H23.out.2.2.2.2.2.2.2.1).grow g23, (H23.out.2.2.2.2.2.2.2.2.1).grow g23, (H23.out.2.2.2.2.2.2.2.2.2.1).grow g23, Grow.trans (H23.out.2.2.2.2.2.2.2.2.2.2) g23⟩
  clear H23 g23
  go_wp2_with fail
  refine (known_any _).mono ?_
  rintro e w26 ⟨rfl, g24⟩
  have H25 : Hid (Blk w26 (w.heap.size) 25 [.int .i64 v1.k, .int .i64 v1.n, .int .i64 v1.s, .string v1.t, .slice v1.na v1.nl v1.nc, .slice v1.ka v1.kl v1.kc] ∧ Blk w26 (w.heap.size + 1) 25 [.int .i64 v2.k, .int .i64 v2.n, .int .i64 v2.s, .string v2.t, .slice v2.na v2.nl v2.nc, .slice v2.ka v2.kl v2.kc] ∧ Blk w26 (yA1) 25 [.int .i64 r1.k, .int .i64 r1.n, .int .i64 r1.s, .string ⟨#[]⟩, .slice none 0 0, .slice none 0 0] ∧ Blk w26 (yA2) 25 [.int .i64 r1.k, .int .i64 r1.n, .int .i64 r1.s, .string ⟨#[]⟩, .slice none 0 0, .slice none 0 0] ∧ Blk w26 (yS1) 25 [.int .i64 r2.k, .int .i64 r2.n, .int .i64 r2.s, .string ⟨#[]⟩, .slice none 0 0, .slice none 0 0] ∧ Blk w26 (yS2) 25 [.int .i64 r2.k, .int .i64 r2.n, .int .i64 r2.s, .string ⟨#[]⟩, .slice none 0 0, .slice none 0 0] ∧ Blk w26 (yM1) 25 [.int .i64 r3.k, .int .i64 r3.n, .int .i64 r3.s, .string ⟨#[]⟩, .slice none 0 0, .slice none 0 0] ∧ Blk w26 (yM2) 25 [.int .i64 r3.k, .int .i64 r3.n, .int .i64 r3.s, .string ⟨#[]⟩, .slice none 0 0, .slice none 0 0] ∧ Blk w26 (yN1) 25 [.int .i64 r4.k, .int .i64 r4.n, .int .i64 r4.s, .string ⟨#[]⟩, .slice none 0 0, .slice none 0 0] ∧ Blk w26 (yN2) 25 [.int .i64 r4.k, .int .i64 r4.n, .int .i64 r4.s, .string ⟨#[]⟩, .slice none 0 0, .slice none 0 0] ∧ Grow w w26) := ⟨(H24.out.1).grow g24, (H24.out.2.1).grow g24, (H24.out.2.2.1).grow g24, (H24.out.2.2.2.1).grow g24, (H24.out.2.2.2.2.1).grow g24, (H24.out.2.2.2.2.2.1).grow g24, (H24.out.2.2.2.2.2.2.1).grow g24, (H24.out.2.2.2.2.2.2.2.1).grow g24, (H24.out.2.2.2.2.2.2.2.2.1).grow g24, (H24.out.2.2.2.2.2.2.2.2.2.1).grow g24, Grow.trans (H24.out.2.2.2.2.2.2.2.2.2.2) g24⟩
  clear H24 g24
  go_wp2
  go_ret
  exact ⟨rfl, H25.out.2.2.2.2.2.2.2.2.2.2⟩
end Go.Proofs.YtbafmdjlnmeofaaGreatDoor
