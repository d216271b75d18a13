/-
  DecimalOrder, DecimalSmall: their walks.
-/
import Derived.Test.YthdonaoaiendpaaDoorLw
namespace Go.Proofs.YthdonaoaiendpaaDoor
open Go.RowKit
set_option linter.unusedVariables false
set_option maxRecDepth 8000 in
set_option maxHeartbeats 1000000 in
theorem order_ok (k1 n1 s1 : Int) (na1 : Option Addr) (nc1 : Nat) (ka1 : Option Addr) (kc1 : Nat) (k2 n2 s2 : Int) (na2 : Option Addr) (nc2 : Nat) (ka2 : Option Addr) (kc2 : Nat) (c k3 n3 s3 : Int) (K1 : Hid (∀ W, Calls Tryd.prog 12 #[.agg #[.int .i64 k1, .int .i64 n1, .int .i64 s1, .string ⟨#[]⟩, .slice na1 0 nc1, .slice ka1 0 kc1]] W fun e w' => e = .returned (.bool true) ∧ Grow W w')) (K2 : Hid (∀ W, Calls Tryd.prog 12 #[.agg #[.int .i64 k2, .int .i64 n2, .int .i64 s2, .string ⟨#[]⟩, .slice na2 0 nc2, .slice ka2 0 kc2]] W fun e w' => e = .returned (.bool true) ∧ Grow W w')) (C1 : Hid (∀ W, Calls Tryd.prog 17 #[.agg #[.int .i64 k1, .int .i64 n1, .int .i64 s1, .string ⟨#[]⟩, .slice na1 0 nc1, .slice ka1 0 kc1], .agg #[.int .i64 k2, .int .i64 n2, .int .i64 s2, .string ⟨#[]⟩, .slice na2 0 nc2, .slice ka2 0 kc2]] W fun e w' => e = .returned (.tuple #[.int .i64 c, .int .i64 0]) ∧ Grow W w')) (S1 : Hid (∀ W, Calls Tryd.prog 16 #[.agg #[.int .i64 k1, .int .i64 n1, .int .i64 s1, .string ⟨#[]⟩, .slice na1 0 nc1, .slice ka1 0 kc1], .agg #[.int .i64 k2, .int .i64 n2, .int .i64 s2, .string ⟨#[]⟩, .slice na2 0 nc2, .slice ka2 0 kc2]] W fun e w' => e = .returned (.tuple #[.agg #[.int .i64 k3, .int .i64 n3, .int .i64 s3, .string ⟨#[]⟩, .slice none 0 0, .slice none 0 0], .int .i64 0]) ∧ Grow W w')) (C2 : Hid (∀ W, Calls Tryd.prog 17 #[.agg #[.int .i64 k3, .int .i64 n3, .int .i64 s3, .string ⟨#[]⟩, .slice none 0 0, .slice none 0 0], .agg #[.int .i64 3, .int .i64 0, .int .i64 0, .string ⟨#[]⟩, .slice none 0 0, .slice none 0 0]] W fun e w' => e = .returned (.tuple #[.int .i64 c, .int .i64 0]) ∧ Grow W w')) (w : World) :
    Calls Tryd.prog 6 #[.agg #[.int .i64 k1, .int .i64 n1, .int .i64 s1, .string ⟨#[]⟩, .slice na1 0 nc1, .slice ka1 0 kc1], .agg #[.int .i64 k2, .int .i64 n2, .int .i64 s2, .string ⟨#[]⟩, .slice na2 0 nc2, .slice ka2 0 kc2]] w fun e w' => e = .returned (.bool true) ∧ Grow w w' := by
  go_enter Tryd.func6, Tryd.ntmps6
  go_wp2_with fail
  obtain ⟨w1, HW1, H0⟩ : ∃ w1, ((w.alloc (Obj.cells #[.int .i64 k1, .int .i64 n1, .int .i64 s1, .string ⟨#[]⟩, .slice na1 0 nc1, .slice ka1 0 kc1] 25)).alloc (Obj.cells #[.int .i64 k2, .int .i64 n2, .int .i64 s2, .string ⟨#[]⟩, .slice na2 0 nc2, .slice ka2 0 kc2] 25)) = w1 ∧ Hid (Blk w1 (w.heap.size) 25 [.int .i64 k1, .int .i64 n1, .int .i64 s1, .string ⟨#[]⟩, .slice na1 0 nc1, .slice ka1 0 kc1] ∧ Blk w1 (w.heap.size + 1) 25 [.int .i64 k2, .int .i64 n2, .int .i64 s2, .string ⟨#[]⟩, .slice na2 0 nc2, .slice ka2 0 kc2] ∧ Grow w w1) := ⟨_, rfl, (Blk.alloc (blk_at rfl) _), (blk_at (by simp)), (((Grow.refl _).alloc _).alloc _)⟩
  rw [HW1]
  clear HW1
  refine (K1.out _).mono ?_
  rintro e w2 ⟨rfl, g0⟩
  have H1 : Hid (Blk w2 (w.heap.size) 25 [.int .i64 k1, .int .i64 n1, .int .i64 s1, .string ⟨#[]⟩, .slice na1 0 nc1, .slice ka1 0 kc1] ∧ Blk w2 (w.heap.size + 1) 25 [.int .i64 k2, .int .i64 n2, .int .i64 s2, .string ⟨#[]⟩, .slice na2 0 nc2, .slice ka2 0 kc2] ∧ Grow w w2) := ⟨(H0.out.1).grow g0, (H0.out.2.1).grow g0, Grow.trans (H0.out.2.2) g0⟩
  clear H0 g0
  have q1_0 : w2.cell? ⟨w.heap.size + 1, 0, none⟩ = some (.int .i64 k2) := (H1.out.2.1).cell 0
  have q1_1 : w2.cell? ⟨w.heap.size + 1, 1, none⟩ = some (.int .i64 n2) := (H1.out.2.1).cell 1
  have q1_2 : w2.cell? ⟨w.heap.size + 1, 2, none⟩ = some (.int .i64 s2) := (H1.out.2.1).cell 2
  have q1_3 : w2.cell? ⟨w.heap.size + 1, 3, none⟩ = some (.string ⟨#[]⟩) := (H1.out.2.1).cell 3
  have q1_4 : w2.cell? ⟨w.heap.size + 1, 4, none⟩ = some (.slice na2 0 nc2) := (H1.out.2.1).cell 4
  have q1_5 : w2.cell? ⟨w.heap.size + 1, 5, none⟩ = some (.slice ka2 0 kc2) := (H1.out.2.1).cell 5
  go_wp2_with fail
  clear q1_0 q1_1 q1_2 q1_3 q1_4 q1_5
  refine (K2.out _).mono ?_
  rintro e w3 ⟨rfl, g1⟩
  have H2 : Hid (Blk w3 (w.heap.size) 25 [.int .i64 k1, .int .i64 n1, .int .i64 s1, .string ⟨#[]⟩, .slice na1 0 nc1, .slice ka1 0 kc1] ∧ Blk w3 (w.heap.size + 1) 25 [.int .i64 k2, .int .i64 n2, .int .i64 s2, .string ⟨#[]⟩, .slice na2 0 nc2, .slice ka2 0 kc2] ∧ Grow w w3) := ⟨(H1.out.1).grow g1, (H1.out.2.1).grow g1, Grow.trans (H1.out.2.2) g1⟩
  clear H1 g1
  have q0_0 : w3.cell? ⟨w.heap.size, 0, none⟩ = some (.int .i64 k1) := (H2.out.1).cell 0
  have q0_1 : w3.cell? ⟨w.heap.size, 1, none⟩ = some (.int .i64 n1) := (H2.out.1).cell 1
  have q0_2 : w3.cell? ⟨w.heap.size, 2, none⟩ = some (.int .i64 s1) := (H2.out.1).cell 2
  have q0_3 : w3.cell? ⟨w.heap.size, 3, none⟩ = some (.string ⟨#[]⟩) := (H2.out.1).cell 3
  have q0_4 : w3.cell? ⟨w.heap.size, 4, none⟩ = some (.slice na1 0 nc1) := (H2.out.1).cell 4
  have q0_5 : w3.cell? ⟨w.heap.size, 5, none⟩ = some (.slice ka1 0 kc1) := (H2.out.1).cell 5
  have q1_0 : w3.cell? ⟨w.heap.size + 1, 0, none⟩ = some (.int .i64 k2) := (H2.out.2.1).cell 0
  have q1_1 : w3.cell? ⟨w.heap.size + 1, 1, none⟩ = some (.int .i64 n2) := (H2.out.2.1).cell 1
  have q1_2 : w3.cell? ⟨w.heap.size + 1, 2, none⟩ = some (.int .i64 s2) := (H2.out.2.1).cell 2
  have q1_3 : w3.cell? ⟨w.heap.size + 1, 3, none⟩ = some (.string ⟨#[]⟩) := (H2.out.2.1).cell 3
  have q1_4 : w3.cell? ⟨w.heap.size + 1, 4, none⟩ = some (.slice na2 0 nc2) := (H2.out.2.1).cell 4
  have q1_5 : w3.cell? ⟨w.heap.size + 1, 5, none⟩ = some (.slice ka2 0 kc2) := (H2.out.2.1).cell 5
  go_wp2_with fail
  clear q0_0 q0_1 q0_2 q0_3 q0_4 q0_5 q1_0 q1_1 q1_2 q1_3 q1_4 q1_5
  refine (C1.out _).mono ?_
  rintro e w4 ⟨rfl, g2⟩
  have H3 : Hid (Blk w4 (w.heap.size) 25 [.int .i64 k1, .int .i64 n1, .int .i64 s1, .string ⟨#[]⟩, .slice na1 0 nc1, .slice ka1 0 kc1] ∧ Blk w4 (w.heap.size + 1) 25 [.int .i64 k2, .int .i64 n2, .int .i64 s2, .string ⟨#[]⟩, .slice na2 0 nc2, .slice ka2 0 kc2] ∧ Grow w w4) := ⟨(H2.out.1).grow g2, (H2.out.2.1).grow g2, Grow.trans (H2.out.2.2) g2⟩
  clear H2 g2
  have q0_0 : w4.cell? ⟨w.heap.size, 0, none⟩ = some (.int .i64 k1) := (H3.out.1).cell 0
  have q0_1 : w4.cell? ⟨w.heap.size, 1, none⟩ = some (.int .i64 n1) := (H3.out.1).cell 1
  have q0_2 : w4.cell? ⟨w.heap.size, 2, none⟩ = some (.int .i64 s1) := (H3.out.1).cell 2
  have q0_3 : w4.cell? ⟨w.heap.size, 3, none⟩ = some (.string ⟨#[]⟩) := (H3.out.1).cell 3
  have q0_4 : w4.cell? ⟨w.heap.size, 4, none⟩ = some (.slice na1 0 nc1) := (H3.out.1).cell 4
  have q0_5 : w4.cell? ⟨w.heap.size, 5, none⟩ = some (.slice ka1 0 kc1) := (H3.out.1).cell 5
  have q1_0 : w4.cell? ⟨w.heap.size + 1, 0, none⟩ = some (.int .i64 k2) := (H3.out.2.1).cell 0
  have q1_1 : w4.cell? ⟨w.heap.size + 1, 1, none⟩ = some (.int .i64 n2) := (H3.out.2.1).cell 1
  have q1_2 : w4.cell? ⟨w.heap.size + 1, 2, none⟩ = some (.int .i64 s2) := (H3.out.2.1).cell 2
  have q1_3 : w4.cell? ⟨w.heap.size + 1, 3, none⟩ = some (.string ⟨#[]⟩) := (H3.out.2.1).cell 3
  have q1_4 : w4.cell? ⟨w.heap.size + 1, 4, none⟩ = some (.slice na2 0 nc2) := (H3.out.2.1).cell 4
  have q1_5 : w4.cell? ⟨w.heap.size + 1, 5, none⟩ = some (.slice ka2 0 kc2) := (H3.out.2.1).cell 5
  go_wp2_with fail
  clear q0_0 q0_1 q0_2 q0_3 q0_4 q0_5 q1_0 q1_1 q1_2 q1_3 q1_4 q1_5
  refine (S1.out _).mono ?_
  rintro e w5 ⟨rfl, g3⟩
  have H4 : Hid (Blk w5 (w.heap.size) 25 [.int .i64 k1, .int .i64 n1, .int .i64 s1, .string ⟨#[]⟩, .slice na1 0 nc1, .slice ka1 0 kc1] ∧ Blk w5 (w.heap.size + 1) 25 [.int .i64 k2, .int .i64 n2, .int .i64 s2, .string ⟨#[]⟩, .slice na2 0 nc2, .slice ka2 0 kc2] ∧ Grow w w5) := ⟨(H3.out.1).grow g3, (H3.out.2.1).grow g3, Grow.trans (H3.out.2.2) g3⟩
  clear H3 g3
  go_wp2_with (refine al_zero rfl 25 rfl [.int .i64 0, .int .i64 0, .int .i64 0, .string ⟨#[]⟩, .slice none 0 0, .slice none 0 0] zV ?_)
  intro b3 vv4 ss4 zz4 xx4
  go_wp2_with (refine st_all rfl 25 (.tmp 7) (.tmp 29) rfl b3 25 [.int .i64 0, .int .i64 0, .int .i64 0, .string ⟨#[]⟩, .slice none 0 0, .slice none 0 0] [.int .i64 k3, .int .i64 n3, .int .i64 s3, .string ⟨#[]⟩, .slice none 0 0, .slice none 0 0] rfl rfl zz4 rfl sV (ones rfl) ?_)
  intro w6 yy4 mm4
  have H5 : Hid (Blk w6 (w.heap.size) 25 [.int .i64 k1, .int .i64 n1, .int .i64 s1, .string ⟨#[]⟩, .slice na1 0 nc1, .slice ka1 0 kc1] ∧ Blk w6 (w.heap.size + 1) 25 [.int .i64 k2, .int .i64 n2, .int .i64 s2, .string ⟨#[]⟩, .slice na2 0 nc2, .slice ka2 0 kc2] ∧ Blk w6 (b3) 25 [.int .i64 k3, .int .i64 n3, .int .i64 s3, .string ⟨#[]⟩, .slice none 0 0, .slice none 0 0] ∧ Grow w w6) := ⟨(((H4.out.1).kept xx4 (by simp)).kept mm4 (by intro e; injection e with e; have := (H4.out.1).lt; omega)), (((H4.out.2.1).kept xx4 (by simp)).kept mm4 (by intro e; injection e with e; have := (H4.out.2.1).lt; omega)), yy4, (by have x1 := H4.out.2.2; have x2 : Below w.heap.size w vv4 := Below.grown x1 xx4 x1.size (by intro e he; cases he); exact Below.grown x2 mm4 x2.size (by intro e he; injection he with he; have := x1.size; omega))⟩
  clear H4 ss4 zz4 xx4 yy4 mm4
  have q2_0 : w6.cell? ⟨b3, 0, none⟩ = some (.int .i64 k3) := (H5.out.2.2.1).cell 0
  have q2_1 : w6.cell? ⟨b3, 1, none⟩ = some (.int .i64 n3) := (H5.out.2.2.1).cell 1
  have q2_2 : w6.cell? ⟨b3, 2, none⟩ = some (.int .i64 s3) := (H5.out.2.2.1).cell 2
  have q2_3 : w6.cell? ⟨b3, 3, none⟩ = some (.string ⟨#[]⟩) := (H5.out.2.2.1).cell 3
  have q2_4 : w6.cell? ⟨b3, 4, none⟩ = some (.slice none 0 0) := (H5.out.2.2.1).cell 4
  have q2_5 : w6.cell? ⟨b3, 5, none⟩ = some (.slice none 0 0) := (H5.out.2.2.1).cell 5
  go_wp2_with fail
  clear q2_0 q2_1 q2_2 q2_3 q2_4 q2_5
  refine (C2.out _).mono ?_
  rintro e w7 ⟨rfl, g5⟩
  have H6 : Hid (Blk w7 (w.heap.size) 25 [.int .i64 k1, .int .i64 n1, .int .i64 s1, .string ⟨#[]⟩, .slice na1 0 nc1, .slice ka1 0 kc1] ∧ Blk w7 (w.heap.size + 1) 25 [.int .i64 k2, .int .i64 n2, .int .i64 s2, .string ⟨#[]⟩, .slice na2 0 nc2, .slice ka2 0 kc2] ∧ Blk w7 (b3) 25 [.int .i64 k3, .int .i64 n3, .int .i64 s3, .string ⟨#[]⟩, .slice none 0 0, .slice none 0 0] ∧ Grow w w7) := ⟨(H5.out.1).grow g5, (H5.out.2.1).grow g5, (H5.out.2.2.1).grow g5, Grow.trans (H5.out.2.2.2) g5⟩
  clear H5 g5
  go_wp2_with fail
  refine (known_any _).mono ?_
  rintro e w8 ⟨rfl, g6⟩
  have H7 : Hid (Blk w8 (w.heap.size) 25 [.int .i64 k1, .int .i64 n1, .int .i64 s1, .string ⟨#[]⟩, .slice na1 0 nc1, .slice ka1 0 kc1] ∧ Blk w8 (w.heap.size + 1) 25 [.int .i64 k2, .int .i64 n2, .int .i64 s2, .string ⟨#[]⟩, .slice na2 0 nc2, .slice ka2 0 kc2] ∧ Blk w8 (b3) 25 [.int .i64 k3, .int .i64 n3, .int .i64 s3, .string ⟨#[]⟩, .slice none 0 0, .slice none 0 0] ∧ Grow w w8) := ⟨(H6.out.1).grow g6, (H6.out.2.1).grow g6, (H6.out.2.2.1).grow g6, Grow.trans (H6.out.2.2.2) g6⟩
  clear H6 g6
  go_wp2
  go_ret
  exact ⟨rfl, H7.out.2.2.2⟩
set_option maxRecDepth 8000 in
set_option maxHeartbeats 1000000 in
theorem order_rg (k1 n1 s1 : Int) (na1 : Option Addr) (nc1 : Nat) (ka1 : Option Addr) (kc1 : Nat) (k2 n2 s2 : Int) (na2 : Option Addr) (nc2 : Nat) (ka2 : Option Addr) (kc2 : Nat) (c k3 n3 s3 : Int) (K1 : Hid (∀ W, Calls Tryd.prog 12 #[.agg #[.int .i64 k1, .int .i64 n1, .int .i64 s1, .string ⟨#[]⟩, .slice na1 0 nc1, .slice ka1 0 kc1]] W fun e w' => e = .returned (.bool true) ∧ Grow W w')) (K2 : Hid (∀ W, Calls Tryd.prog 12 #[.agg #[.int .i64 k2, .int .i64 n2, .int .i64 s2, .string ⟨#[]⟩, .slice na2 0 nc2, .slice ka2 0 kc2]] W fun e w' => e = .returned (.bool true) ∧ Grow W w')) (C1 : Hid (∀ W, Calls Tryd.prog 17 #[.agg #[.int .i64 k1, .int .i64 n1, .int .i64 s1, .string ⟨#[]⟩, .slice na1 0 nc1, .slice ka1 0 kc1], .agg #[.int .i64 k2, .int .i64 n2, .int .i64 s2, .string ⟨#[]⟩, .slice na2 0 nc2, .slice ka2 0 kc2]] W fun e w' => e = .returned (.tuple #[.int .i64 c, .int .i64 0]) ∧ Grow W w')) (S1 : Hid (∀ W, Calls Tryd.prog 16 #[.agg #[.int .i64 k1, .int .i64 n1, .int .i64 s1, .string ⟨#[]⟩, .slice na1 0 nc1, .slice ka1 0 kc1], .agg #[.int .i64 k2, .int .i64 n2, .int .i64 s2, .string ⟨#[]⟩, .slice na2 0 nc2, .slice ka2 0 kc2]] W fun e w' => e = .returned (.tuple #[.agg #[.int .i64 k3, .int .i64 n3, .int .i64 s3, .string ⟨#[]⟩, .slice none 0 0, .slice none 0 0], .int .i64 10]) ∧ Grow W w')) (w : World) :
    Calls Tryd.prog 6 #[.agg #[.int .i64 k1, .int .i64 n1, .int .i64 s1, .string ⟨#[]⟩, .slice na1 0 nc1, .slice ka1 0 kc1], .agg #[.int .i64 k2, .int .i64 n2, .int .i64 s2, .string ⟨#[]⟩, .slice na2 0 nc2, .slice ka2 0 kc2]] w fun e w' => e = .returned (.bool true) ∧ Grow w w' := by
  go_enter Tryd.func6, Tryd.ntmps6
  go_wp2_with fail
  obtain ⟨w1, HW1, H0⟩ : ∃ w1, ((w.alloc (Obj.cells #[.int .i64 k1, .int .i64 n1, .int .i64 s1, .string ⟨#[]⟩, .slice na1 0 nc1, .slice ka1 0 kc1] 25)).alloc (Obj.cells #[.int .i64 k2, .int .i64 n2, .int .i64 s2, .string ⟨#[]⟩, .slice na2 0 nc2, .slice ka2 0 kc2] 25)) = w1 ∧ Hid (Blk w1 (w.heap.size) 25 [.int .i64 k1, .int .i64 n1, .int .i64 s1, .string ⟨#[]⟩, .slice na1 0 nc1, .slice ka1 0 kc1] ∧ Blk w1 (w.heap.size + 1) 25 [.int .i64 k2, .int .i64 n2, .int .i64 s2, .string ⟨#[]⟩, .slice na2 0 nc2, .slice ka2 0 kc2] ∧ Grow w w1) := ⟨_, rfl, (Blk.alloc (blk_at rfl) _), (blk_at (by simp)), (((Grow.refl _).alloc _).alloc _)⟩
  rw [HW1]
  clear HW1
  refine (K1.out _).mono ?_
  rintro e w2 ⟨rfl, g0⟩
  have H1 : Hid (Blk w2 (w.heap.size) 25 [.int .i64 k1, .int .i64 n1, .int .i64 s1, .string ⟨#[]⟩, .slice na1 0 nc1, .slice ka1 0 kc1] ∧ Blk w2 (w.heap.size + 1) 25 [.int .i64 k2, .int .i64 n2, .int .i64 s2, .string ⟨#[]⟩, .slice na2 0 nc2, .slice ka2 0 kc2] ∧ Grow w w2) := ⟨(H0.out.1).grow g0, (H0.out.2.1).grow g0, Grow.trans (H0.out.2.2) g0⟩
  clear H0 g0
  have q1_0 : w2.cell? ⟨w.heap.size + 1, 0, none⟩ = some (.int .i64 k2) := (H1.out.2.1).cell 0
  have q1_1 : w2.cell? ⟨w.heap.size + 1, 1, none⟩ = some (.int .i64 n2) := (H1.out.2.1).cell 1
  have q1_2 : w2.cell? ⟨w.heap.size + 1, 2, none⟩ = some (.int .i64 s2) := (H1.out.2.1).cell 2
  have q1_3 : w2.cell? ⟨w.heap.size + 1, 3, none⟩ = some (.string ⟨#[]⟩) := (H1.out.2.1).cell 3
  have q1_4 : w2.cell? ⟨w.heap.size + 1, 4, none⟩ = some (.slice na2 0 nc2) := (H1.out.2.1).cell 4
  have q1_5 : w2.cell? ⟨w.heap.size + 1, 5, none⟩ = some (.slice ka2 0 kc2) := (H1.out.2.1).cell 5
  go_wp2_with fail
  clear q1_0 q1_1 q1_2 q1_3 q1_4 q1_5
  refine (K2.out _).mono ?_
  rintro e w3 ⟨rfl, g1⟩
  have H2 : Hid (Blk w3 (w.heap.size) 25 [.int .i64 k1, .int .i64 n1, .int .i64 s1, .string ⟨#[]⟩, .slice na1 0 nc1, .slice ka1 0 kc1] ∧ Blk w3 (w.heap.size + 1) 25 [.int .i64 k2, .int .i64 n2, .int .i64 s2, .string ⟨#[]⟩, .slice na2 0 nc2, .slice ka2 0 kc2] ∧ Grow w w3) := ⟨(H1.out.1).grow g1, (H1.out.2.1).grow g1, Grow.trans (H1.out.2.2) g1⟩
  clear H1 g1
  have q0_0 : w3.cell? ⟨w.heap.size, 0, none⟩ = some (.int .i64 k1) := (H2.out.1).cell 0
  have q0_1 : w3.cell? ⟨w.heap.size, 1, none⟩ = some (.int .i64 n1) := (H2.out.1).cell 1
  have q0_2 : w3.cell? ⟨w.heap.size, 2, none⟩ = some (.int .i64 s1) := (H2.out.1).cell 2
  have q0_3 : w3.cell? ⟨w.heap.size, 3, none⟩ = some (.string ⟨#[]⟩) := (H2.out.1).cell 3
  have q0_4 : w3.cell? ⟨w.heap.size, 4, none⟩ = some (.slice na1 0 nc1) := (H2.out.1).cell 4
  have q0_5 : w3.cell? ⟨w.heap.size, 5, none⟩ = some (.slice ka1 0 kc1) := (H2.out.1).cell 5
  have q1_0 : w3.cell? ⟨w.heap.size + 1, 0, none⟩ = some (.int .i64 k2) := (H2.out.2.1).cell 0
  have q1_1 : w3.cell? ⟨w.heap.size + 1, 1, none⟩ = some (.int .i64 n2) := (H2.out.2.1).cell 1
  have q1_2 : w3.cell? ⟨w.heap.size + 1, 2, none⟩ = some (.int .i64 s2) := (H2.out.2.1).cell 2
  have q1_3 : w3.cell? ⟨w.heap.size + 1, 3, none⟩ = some (.string ⟨#[]⟩) := (H2.out.2.1).cell 3
  have q1_4 : w3.cell? ⟨w.heap.size + 1, 4, none⟩ = some (.slice na2 0 nc2) := (H2.out.2.1).cell 4
  have q1_5 : w3.cell? ⟨w.heap.size + 1, 5, none⟩ = some (.slice ka2 0 kc2) := (H2.out.2.1).cell 5
  go_wp2_with fail
  clear q0_0 q0_1 q0_2 q0_3 q0_4 q0_5 q1_0 q1_1 q1_2 q1_3 q1_4 q1_5
  refine (C1.out _).mono ?_
  rintro e w4 ⟨rfl, g2⟩
  have H3 : Hid (Blk w4 (w.heap.size) 25 [.int .i64 k1, .int .i64 n1, .int .i64 s1, .string ⟨#[]⟩, .slice na1 0 nc1, .slice ka1 0 kc1] ∧ Blk w4 (w.heap.size + 1) 25 [.int .i64 k2, .int .i64 n2, .int .i64 s2, .string ⟨#[]⟩, .slice na2 0 nc2, .slice ka2 0 kc2] ∧ Grow w w4) := ⟨(H2.out.1).grow g2, (H2.out.2.1).grow g2, Grow.trans (H2.out.2.2) g2⟩
  clear H2 g2
  have q0_0 : w4.cell? ⟨w.heap.size, 0, none⟩ = some (.int .i64 k1) := (H3.out.1).cell 0
  have q0_1 : w4.cell? ⟨w.heap.size, 1, none⟩ = some (.int .i64 n1) := (H3.out.1).cell 1
  have q0_2 : w4.cell? ⟨w.heap.size, 2, none⟩ = some (.int .i64 s1) := (H3.out.1).cell 2
  have q0_3 : w4.cell? ⟨w.heap.size, 3, none⟩ = some (.string ⟨#[]⟩) := (H3.out.1).cell 3
  have q0_4 : w4.cell? ⟨w.heap.size, 4, none⟩ = some (.slice na1 0 nc1) := (H3.out.1).cell 4
  have q0_5 : w4.cell? ⟨w.heap.size, 5, none⟩ = some (.slice ka1 0 kc1) := (H3.out.1).cell 5
  have q1_0 : w4.cell? ⟨w.heap.size + 1, 0, none⟩ = some (.int .i64 k2) := (H3.out.2.1).cell 0
  have q1_1 : w4.cell? ⟨w.heap.size + 1, 1, none⟩ = some (.int .i64 n2) := (H3.out.2.1).cell 1
  have q1_2 : w4.cell? ⟨w.heap.size + 1, 2, none⟩ = some (.int .i64 s2) := (H3.out.2.1).cell 2
  have q1_3 : w4.cell? ⟨w.heap.size + 1, 3, none⟩ = some (.string ⟨#[]⟩) := (H3.out.2.1).cell 3
  have q1_4 : w4.cell? ⟨w.heap.size + 1, 4, none⟩ = some (.slice na2 0 nc2) := (H3.out.2.1).cell 4
  have q1_5 : w4.cell? ⟨w.heap.size + 1, 5, none⟩ = some (.slice ka2 0 kc2) := (H3.out.2.1).cell 5
  go_wp2_with fail
  clear q0_0 q0_1 q0_2 q0_3 q0_4 q0_5 q1_0 q1_1 q1_2 q1_3 q1_4 q1_5
  refine (S1.out _).mono ?_
  rintro e w5 ⟨rfl, g3⟩
  have H4 : Hid (Blk w5 (w.heap.size) 25 [.int .i64 k1, .int .i64 n1, .int .i64 s1, .string ⟨#[]⟩, .slice na1 0 nc1, .slice ka1 0 kc1] ∧ Blk w5 (w.heap.size + 1) 25 [.int .i64 k2, .int .i64 n2, .int .i64 s2, .string ⟨#[]⟩, .slice na2 0 nc2, .slice ka2 0 kc2] ∧ Grow w w5) := ⟨(H3.out.1).grow g3, (H3.out.2.1).grow g3, Grow.trans (H3.out.2.2) g3⟩
  clear H3 g3
  go_wp2_with (refine al_zero rfl 25 rfl [.int .i64 0, .int .i64 0, .int .i64 0, .string ⟨#[]⟩, .slice none 0 0, .slice none 0 0] zV ?_)
  intro b3 vv4 ss4 zz4 xx4
  go_wp2_with (refine st_all rfl 25 (.tmp 7) (.tmp 29) rfl b3 25 [.int .i64 0, .int .i64 0, .int .i64 0, .string ⟨#[]⟩, .slice none 0 0, .slice none 0 0] [.int .i64 k3, .int .i64 n3, .int .i64 s3, .string ⟨#[]⟩, .slice none 0 0, .slice none 0 0] rfl rfl zz4 rfl sV (ones rfl) ?_)
  intro w6 yy4 mm4
  have H5 : Hid (Blk w6 (w.heap.size) 25 [.int .i64 k1, .int .i64 n1, .int .i64 s1, .string ⟨#[]⟩, .slice na1 0 nc1, .slice ka1 0 kc1] ∧ Blk w6 (w.heap.size + 1) 25 [.int .i64 k2, .int .i64 n2, .int .i64 s2, .string ⟨#[]⟩, .slice na2 0 nc2, .slice ka2 0 kc2] ∧ Blk w6 (b3) 25 [.int .i64 k3, .int .i64 n3, .int .i64 s3, .string ⟨#[]⟩, .slice none 0 0, .slice none 0 0] ∧ Grow w w6) := ⟨(((H4.out.1).kept xx4 (by simp)).kept mm4 (by intro e; injection e with e; have := (H4.out.1).lt; omega)), (((H4.out.2.1).kept xx4 (by simp)).kept mm4 (by intro e; injection e with e; have := (H4.out.2.1).lt; omega)), yy4, (by have x1 := H4.out.2.2; have x2 : Below w.heap.size w vv4 := Below.grown x1 xx4 x1.size (by intro e he; cases he); exact Below.grown x2 mm4 x2.size (by intro e he; injection he with he; have := x1.size; omega))⟩
  clear H4 ss4 zz4 xx4 yy4 mm4
  go_wp2_with fail
  refine (known_any _).mono ?_
  rintro e w7 ⟨rfl, g5⟩
  have H6 : Hid (Blk w7 (w.heap.size) 25 [.int .i64 k1, .int .i64 n1, .int .i64 s1, .string ⟨#[]⟩, .slice na1 0 nc1, .slice ka1 0 kc1] ∧ Blk w7 (w.heap.size + 1) 25 [.int .i64 k2, .int .i64 n2, .int .i64 s2, .string ⟨#[]⟩, .slice na2 0 nc2, .slice ka2 0 kc2] ∧ Blk w7 (b3) 25 [.int .i64 k3, .int .i64 n3, .int .i64 s3, .string ⟨#[]⟩, .slice none 0 0, .slice none 0 0] ∧ Grow w w7) := ⟨(H5.out.1).grow g5, (H5.out.2.1).grow g5, (H5.out.2.2.1).grow g5, Grow.trans (H5.out.2.2.2) g5⟩
  clear H5 g5
  go_wp2
  go_ret
  exact ⟨rfl, H6.out.2.2.2⟩
set_option maxRecDepth 8000 in
set_option maxHeartbeats 1000000 in
theorem small_in (a b s : Int) (ha0 : -1073741824 ≤ a) (ha1 : a ≤ 1073741824) (hb0 : -1073741824 ≤ b) (hb1 : b ≤ 1073741824) (hs0 : 0 ≤ s) (hs1 : s ≤ 9) (k1 n1 s1 k2 n2 s2 k3 n3 s3 k4 n4 s4 c ab : Int) (hab : Hid (a * b = ab ∧ -1152921504606846976 ≤ ab ∧ ab ≤ 1152921504606846976)) (hc1 : Hid (decide (c < 0) = decide (a < b))) (hc2 : Hid ((c == 0) = (a == b))) (M1 : Hid (∀ W, Calls Tryd.prog 8 #[.int .i64 a, .int .i64 s] W fun e w' => e = .returned (.tuple #[.agg #[.int .i64 k1, .int .i64 n1, .int .i64 s1, .string ⟨#[]⟩, .slice none 0 0, .slice none 0 0], .int .i64 0]) ∧ Grow W w')) (M2 : Hid (∀ W, Calls Tryd.prog 8 #[.int .i64 b, .int .i64 s] W fun e w' => e = .returned (.tuple #[.agg #[.int .i64 k2, .int .i64 n2, .int .i64 s2, .string ⟨#[]⟩, .slice none 0 0, .slice none 0 0], .int .i64 0]) ∧ Grow W w')) (A1 : Hid (∀ W, Calls Tryd.prog 13 #[.agg #[.int .i64 k1, .int .i64 n1, .int .i64 s1, .string ⟨#[]⟩, .slice none 0 0, .slice none 0 0], .agg #[.int .i64 k2, .int .i64 n2, .int .i64 s2, .string ⟨#[]⟩, .slice none 0 0, .slice none 0 0]] W fun e w' => e = .returned (.tuple #[.agg #[.int .i64 k3, .int .i64 n3, .int .i64 s3, .string ⟨#[]⟩, .slice none 0 0, .slice none 0 0], .int .i64 0]) ∧ Grow W w')) (P1 : Hid (∀ W, Calls Tryd.prog 14 #[.agg #[.int .i64 k1, .int .i64 n1, .int .i64 s1, .string ⟨#[]⟩, .slice none 0 0, .slice none 0 0], .agg #[.int .i64 k2, .int .i64 n2, .int .i64 s2, .string ⟨#[]⟩, .slice none 0 0, .slice none 0 0]] W fun e w' => e = .returned (.tuple #[.agg #[.int .i64 k4, .int .i64 n4, .int .i64 s4, .string ⟨#[]⟩, .slice none 0 0, .slice none 0 0], .int .i64 0]) ∧ Grow W w')) (M3 : Hid (∀ W, Calls Tryd.prog 8 #[.int .i64 (a + b), .int .i64 s] W fun e w' => e = .returned (.tuple #[.agg #[.int .i64 k3, .int .i64 n3, .int .i64 s3, .string ⟨#[]⟩, .slice none 0 0, .slice none 0 0], .int .i64 0]) ∧ Grow W w')) (M4 : Hid (∀ W, Calls Tryd.prog 8 #[.int .i64 ab, .int .i64 (2 * s)] W fun e w' => e = .returned (.tuple #[.agg #[.int .i64 k4, .int .i64 n4, .int .i64 s4, .string ⟨#[]⟩, .slice none 0 0, .slice none 0 0], .int .i64 0]) ∧ Grow W w')) (C1 : Hid (∀ W, Calls Tryd.prog 17 #[.agg #[.int .i64 k1, .int .i64 n1, .int .i64 s1, .string ⟨#[]⟩, .slice none 0 0, .slice none 0 0], .agg #[.int .i64 k2, .int .i64 n2, .int .i64 s2, .string ⟨#[]⟩, .slice none 0 0, .slice none 0 0]] W fun e w' => e = .returned (.tuple #[.int .i64 c, .int .i64 0]) ∧ Grow W w')) (w : World) :
    Calls Tryd.prog 5 #[.int .i64 a, .int .i64 b, .int .i64 s] w fun e w' => e = .returned (.bool true) ∧ Grow w w' := by
  have x1 : a * b = ab := hab.out.1
  have x2 : -1152921504606846976 ≤ ab := hab.out.2.1
  have x3 : ab ≤ 1152921504606846976 := hab.out.2.2
  have x4 := hc1.out
  have x5 := hc2.out
  clear hab hc1 hc2
  go_enter Tryd.func5, Tryd.ntmps5
  go_wp2_with fail
  have H0 : Hid (Grow w w) := Grow.refl _
  refine (M1.out _).mono ?_
  rintro e w2 ⟨rfl, g0⟩
  have H1 : Hid (Grow w w2) := Grow.trans (H0.out) g0
  clear H0 g0
  go_wp2_with (refine al_zero rfl 25 rfl [.int .i64 0, .int .i64 0, .int .i64 0, .string ⟨#[]⟩, .slice none 0 0, .slice none 0 0] zV ?_)
  intro b1 vv1 ss1 zz1 xx1
  go_wp2_with (refine st_all rfl 25 (.tmp 7) (.tmp 48) rfl b1 25 [.int .i64 0, .int .i64 0, .int .i64 0, .string ⟨#[]⟩, .slice none 0 0, .slice none 0 0] [.int .i64 k1, .int .i64 n1, .int .i64 s1, .string ⟨#[]⟩, .slice none 0 0, .slice none 0 0] rfl rfl zz1 rfl sV (ones rfl) ?_)
  intro w3 yy1 mm1
  have H2 : Hid (Blk w3 (b1) 25 [.int .i64 k1, .int .i64 n1, .int .i64 s1, .string ⟨#[]⟩, .slice none 0 0, .slice none 0 0] ∧ Grow w w3) := ⟨yy1, (by have x1 := H1.out; have x2 : Below w.heap.size w vv1 := Below.grown x1 xx1 x1.size (by intro e he; cases he); exact Below.grown x2 mm1 x2.size (by intro e he; injection he with he; have := x1.size; omega))⟩
  clear H1 ss1 zz1 xx1 yy1 mm1
  go_wp2_with fail
  refine (M2.out _).mono ?_
  rintro e w4 ⟨rfl, g2⟩
  have H3 : Hid (Blk w4 (b1) 25 [.int .i64 k1, .int .i64 n1, .int .i64 s1, .string ⟨#[]⟩, .slice none 0 0, .slice none 0 0] ∧ Grow w w4) := ⟨(H2.out.1).grow g2, Grow.trans (H2.out.2) g2⟩
  clear H2 g2
  go_wp2_with (refine al_zero rfl 25 rfl [.int .i64 0, .int .i64 0, .int .i64 0, .string ⟨#[]⟩, .slice none 0 0, .slice none 0 0] zV ?_)
  intro b2 vv3 ss3 zz3 xx3
  go_wp2_with (refine st_all rfl 25 (.tmp 9) (.tmp 54) rfl b2 25 [.int .i64 0, .int .i64 0, .int .i64 0, .string ⟨#[]⟩, .slice none 0 0, .slice none 0 0] [.int .i64 k2, .int .i64 n2, .int .i64 s2, .string ⟨#[]⟩, .slice none 0 0, .slice none 0 0] rfl rfl zz3 rfl sV (ones rfl) ?_)
  intro w5 yy3 mm3
  have H4 : Hid (Blk w5 (b1) 25 [.int .i64 k1, .int .i64 n1, .int .i64 s1, .string ⟨#[]⟩, .slice none 0 0, .slice none 0 0] ∧ Blk w5 (b2) 25 [.int .i64 k2, .int .i64 n2, .int .i64 s2, .string ⟨#[]⟩, .slice none 0 0, .slice none 0 0] ∧ Grow w w5) := ⟨(((H3.out.1).kept xx3 (by simp)).kept mm3 (by intro e; injection e with e; have := (H3.out.1).lt; omega)), yy3, (by have x1 := H3.out.2; have x2 : Below w.heap.size w vv3 := Below.grown x1 xx3 x1.size (by intro e he; cases he); exact Below.grown x2 mm3 x2.size (by intro e he; injection he with he; have := x1.size; omega))⟩
  clear H3 ss3 zz3 xx3 yy3 mm3
  have q0_0 : w5.cell? ⟨b1, 0, none⟩ = some (.int .i64 k1) := (H4.out.1).cell 0
  have q0_1 : w5.cell? ⟨b1, 1, none⟩ = some (.int .i64 n1) := (H4.out.1).cell 1
  have q0_2 : w5.cell? ⟨b1, 2, none⟩ = some (.int .i64 s1) := (H4.out.1).cell 2
  have q0_3 : w5.cell? ⟨b1, 3, none⟩ = some (.string ⟨#[]⟩) := (H4.out.1).cell 3
  have q0_4 : w5.cell? ⟨b1, 4, none⟩ = some (.slice none 0 0) := (H4.out.1).cell 4
  have q0_5 : w5.cell? ⟨b1, 5, none⟩ = some (.slice none 0 0) := (H4.out.1).cell 5
  have q1_0 : w5.cell? ⟨b2, 0, none⟩ = some (.int .i64 k2) := (H4.out.2.1).cell 0
  have q1_1 : w5.cell? ⟨b2, 1, none⟩ = some (.int .i64 n2) := (H4.out.2.1).cell 1
  have q1_2 : w5.cell? ⟨b2, 2, none⟩ = some (.int .i64 s2) := (H4.out.2.1).cell 2
  have q1_3 : w5.cell? ⟨b2, 3, none⟩ = some (.string ⟨#[]⟩) := (H4.out.2.1).cell 3
  have q1_4 : w5.cell? ⟨b2, 4, none⟩ = some (.slice none 0 0) := (H4.out.2.1).cell 4
  have q1_5 : w5.cell? ⟨b2, 5, none⟩ = some (.slice none 0 0) := (H4.out.2.1).cell 5
  go_wp2_with fail
  clear q0_0 q0_1 q0_2 q0_3 q0_4 q0_5 q1_0 q1_1 q1_2 q1_3 q1_4 q1_5
  refine (A1.out _).mono ?_
  rintro e w6 ⟨rfl, g4⟩
  have H5 : Hid (Blk w6 (b1) 25 [.int .i64 k1, .int .i64 n1, .int .i64 s1, .string ⟨#[]⟩, .slice none 0 0, .slice none 0 0] ∧ Blk w6 (b2) 25 [.int .i64 k2, .int .i64 n2, .int .i64 s2, .string ⟨#[]⟩, .slice none 0 0, .slice none 0 0] ∧ Grow w w6) := ⟨(H4.out.1).grow g4, (H4.out.2.1).grow g4, Grow.trans (H4.out.2.2) g4⟩
  clear H4 g4
  go_wp2_with (refine al_zero rfl 25 rfl [.int .i64 0, .int .i64 0, .int .i64 0, .string ⟨#[]⟩, .slice none 0 0, .slice none 0 0] zV ?_)
  intro b3 vv5 ss5 zz5 xx5
  go_wp2_with (refine st_all rfl 25 (.tmp 11) (.tmp 60) rfl b3 25 [.int .i64 0, .int .i64 0, .int .i64 0, .string ⟨#[]⟩, .slice none 0 0, .slice none 0 0] [.int .i64 k3, .int .i64 n3, .int .i64 s3, .string ⟨#[]⟩, .slice none 0 0, .slice none 0 0] rfl rfl zz5 rfl sV (ones rfl) ?_)
  intro w7 yy5 mm5
  have H6 : Hid (Blk w7 (b1) 25 [.int .i64 k1, .int .i64 n1, .int .i64 s1, .string ⟨#[]⟩, .slice none 0 0, .slice none 0 0] ∧ Blk w7 (b2) 25 [.int .i64 k2, .int .i64 n2, .int .i64 s2, .string ⟨#[]⟩, .slice none 0 0, .slice none 0 0] ∧ Blk w7 (b3) 25 [.int .i64 k3, .int .i64 n3, .int .i64 s3, .string ⟨#[]⟩, .slice none 0 0, .slice none 0 0] ∧ Grow w w7) := ⟨(((H5.out.1).kept xx5 (by simp)).kept mm5 (by intro e; injection e with e; have := (H5.out.1).lt; omega)), (((H5.out.2.1).kept xx5 (by simp)).kept mm5 (by intro e; injection e with e; have := (H5.out.2.1).lt; omega)), yy5, (by have x1 := H5.out.2.2; have x2 : Below w.heap.size w vv5 := Below.grown x1 xx5 x1.size (by intro e he; cases he); exact Below.grown x2 mm5 x2.size (by intro e he; injection he with he; have := x1.size; omega))⟩
  clear H5 ss5 zz5 xx5 yy5 mm5
  have q0_0 : w7.cell? ⟨b1, 0, none⟩ = some (.int .i64 k1) := (H6.out.1).cell 0
  have q0_1 : w7.cell? ⟨b1, 1, none⟩ = some (.int .i64 n1) := (H6.out.1).cell 1
  have q0_2 : w7.cell? ⟨b1, 2, none⟩ = some (.int .i64 s1) := (H6.out.1).cell 2
  have q0_3 : w7.cell? ⟨b1, 3, none⟩ = some (.string ⟨#[]⟩) := (H6.out.1).cell 3
  have q0_4 : w7.cell? ⟨b1, 4, none⟩ = some (.slice none 0 0) := (H6.out.1).cell 4
  have q0_5 : w7.cell? ⟨b1, 5, none⟩ = some (.slice none 0 0) := (H6.out.1).cell 5
  have q1_0 : w7.cell? ⟨b2, 0, none⟩ = some (.int .i64 k2) := (H6.out.2.1).cell 0
  have q1_1 : w7.cell? ⟨b2, 1, none⟩ = some (.int .i64 n2) := (H6.out.2.1).cell 1
  have q1_2 : w7.cell? ⟨b2, 2, none⟩ = some (.int .i64 s2) := (H6.out.2.1).cell 2
  have q1_3 : w7.cell? ⟨b2, 3, none⟩ = some (.string ⟨#[]⟩) := (H6.out.2.1).cell 3
  have q1_4 : w7.cell? ⟨b2, 4, none⟩ = some (.slice none 0 0) := (H6.out.2.1).cell 4
  have q1_5 : w7.cell? ⟨b2, 5, none⟩ = some (.slice none 0 0) := (H6.out.2.1).cell 5
  go_wp2_with fail
  clear q0_0 q0_1 q0_2 q0_3 q0_4 q0_5 q1_0 q1_1 q1_2 q1_3 q1_4 q1_5
  refine (P1.out _).mono ?_
  rintro e w8 ⟨rfl, g6⟩
  have H7 : Hid (Blk w8 (b1) 25 [.int .i64 k1, .int .i64 n1, .int .i64 s1, .string ⟨#[]⟩, .slice none 0 0, .slice none 0 0] ∧ Blk w8 (b2) 25 [.int .i64 k2, .int .i64 n2, .int .i64 s2, .string ⟨#[]⟩, .slice none 0 0, .slice none 0 0] ∧ Blk w8 (b3) 25 [.int .i64 k3, .int .i64 n3, .int .i64 s3, .string ⟨#[]⟩, .slice none 0 0, .slice none 0 0] ∧ Grow w w8) := ⟨(H6.out.1).grow g6, (H6.out.2.1).grow g6, (H6.out.2.2.1).grow g6, Grow.trans (H6.out.2.2.2) g6⟩
  clear H6 g6
  go_wp2_with (refine al_zero rfl 25 rfl [.int .i64 0, .int .i64 0, .int .i64 0, .string ⟨#[]⟩, .slice none 0 0, .slice none 0 0] zV ?_)
  intro b4 vv7 ss7 zz7 xx7
  go_wp2_with (refine st_all rfl 25 (.tmp 13) (.tmp 66) rfl b4 25 [.int .i64 0, .int .i64 0, .int .i64 0, .string ⟨#[]⟩, .slice none 0 0, .slice none 0 0] [.int .i64 k4, .int .i64 n4, .int .i64 s4, .string ⟨#[]⟩, .slice none 0 0, .slice none 0 0] rfl rfl zz7 rfl sV (ones rfl) ?_)
  intro w9 yy7 mm7
  have H8 : Hid (Blk w9 (b1) 25 [.int .i64 k1, .int .i64 n1, .int .i64 s1, .string ⟨#[]⟩, .slice none 0 0, .slice none 0 0] ∧ Blk w9 (b2) 25 [.int .i64 k2, .int .i64 n2, .int .i64 s2, .string ⟨#[]⟩, .slice none 0 0, .slice none 0 0] ∧ Blk w9 (b3) 25 [.int .i64 k3, .int .i64 n3, .int .i64 s3, .string ⟨#[]⟩, .slice none 0 0, .slice none 0 0] ∧ Blk w9 (b4) 25 [.int .i64 k4, .int .i64 n4, .int .i64 s4, .string ⟨#[]⟩, .slice none 0 0, .slice none 0 0] ∧ Grow w w9) := ⟨(((H7.out.1).kept xx7 (by simp)).kept mm7 (by intro e; injection e with e; have := (H7.out.1).lt; omega)), (((H7.out.2.1).kept xx7 (by simp)).kept mm7 (by intro e; injection e with e; have := (H7.out.2.1).lt; omega)), (((H7.out.2.2.1).kept xx7 (by simp)).kept mm7 (by intro e; injection e with e; have := (H7.out.2.2.1).lt; omega)), yy7, (by have x1 := H7.out.2.2.2; have x2 : Below w.heap.size w vv7 := Below.grown x1 xx7 x1.size (by intro e he; cases he); exact Below.grown x2 mm7 x2.size (by intro e he; injection he with he; have := x1.size; omega))⟩
  clear H7 ss7 zz7 xx7 yy7 mm7
  go_wp2_with fail
  refine (M3.out _).mono ?_
  rintro e w10 ⟨rfl, g8⟩
  have H9 : Hid (Blk w10 (b1) 25 [.int .i64 k1, .int .i64 n1, .int .i64 s1, .string ⟨#[]⟩, .slice none 0 0, .slice none 0 0] ∧ Blk w10 (b2) 25 [.int .i64 k2, .int .i64 n2, .int .i64 s2, .string ⟨#[]⟩, .slice none 0 0, .slice none 0 0] ∧ Blk w10 (b3) 25 [.int .i64 k3, .int .i64 n3, .int .i64 s3, .string ⟨#[]⟩, .slice none 0 0, .slice none 0 0] ∧ Blk w10 (b4) 25 [.int .i64 k4, .int .i64 n4, .int .i64 s4, .string ⟨#[]⟩, .slice none 0 0, .slice none 0 0] ∧ Grow w w10) := ⟨(H8.out.1).grow g8, (H8.out.2.1).grow g8, (H8.out.2.2.1).grow g8, (H8.out.2.2.2.1).grow g8, Grow.trans (H8.out.2.2.2.2) g8⟩
  clear H8 g8
  go_wp2_with (refine al_zero rfl 25 rfl [.int .i64 0, .int .i64 0, .int .i64 0, .string ⟨#[]⟩, .slice none 0 0, .slice none 0 0] zV ?_)
  intro b5 vv9 ss9 zz9 xx9
  go_wp2_with (refine st_all rfl 25 (.tmp 15) (.tmp 74) rfl b5 25 [.int .i64 0, .int .i64 0, .int .i64 0, .string ⟨#[]⟩, .slice none 0 0, .slice none 0 0] [.int .i64 k3, .int .i64 n3, .int .i64 s3, .string ⟨#[]⟩, .slice none 0 0, .slice none 0 0] rfl rfl zz9 rfl sV (ones rfl) ?_)
  intro w11 yy9 mm9
  have H10 : Hid (Blk w11 (b1) 25 [.int .i64 k1, .int .i64 n1, .int .i64 s1, .string ⟨#[]⟩, .slice none 0 0, .slice none 0 0] ∧ Blk w11 (b2) 25 [.int .i64 k2, .int .i64 n2, .int .i64 s2, .string ⟨#[]⟩, .slice none 0 0, .slice none 0 0] ∧ Blk w11 (b3) 25 [.int .i64 k3, .int .i64 n3, .int .i64 s3, .string ⟨#[]⟩, .slice none 0 0, .slice none 0 0] ∧ Blk w11 (b4) 25 [.int .i64 k4, .int .i64 n4, .int .i64 s4, .string ⟨#[]⟩, .slice none 0 0, .slice none 0 0] ∧ Blk w11 (b5) 25 [.int .i64 k3, .int .i64 n3, .int .i64 s3, .string ⟨#[]⟩, .slice none 0 0, .slice none 0 0] ∧ Grow w w11) := ⟨(((H9.out.1).kept xx9 (by simp)).kept mm9 (by intro e; injection e with e; have := (H9.out.1).lt; omega)), (((H9.out.2.1).kept xx9 (by simp)).kept mm9 (by intro e; injection e with e; have := (H9.out.2.1).lt; omega)), (((H9.out.2.2.1).kept xx9 (by simp)).kept mm9 (by intro e; injection e with e; have := (H9.out.2.2.1).lt; omega)), (((H9.out.2.2.2.1).kept xx9 (by simp)).kept mm9 (by intro e; injection e with e; have := (H9.out.2.2.2.1).lt; omega)), yy9, (by have x1 := H9.out.2.2.2.2; have x2 : Below w.heap.size w vv9 := Below.grown x1 xx9 x1.size (by intro e he; cases he); exact Below.grown x2 mm9 x2.size (by intro e he; injection he with he; have := x1.size; omega))⟩
  clear H9 ss9 zz9 xx9 yy9 mm9
  go_wp2_with fail
  refine (M4.out _).mono ?_
  rintro e w12 ⟨rfl, g10⟩
  have H11 : Hid (Blk w12 (b1) 25 [.int .i64 k1, .int .i64 n1, .int .i64 s1, .string ⟨#[]⟩, .slice none 0 0, .slice none 0 0] ∧ Blk w12 (b2) 25 [.int .i64 k2, .int .i64 n2, .int .i64 s2, .string ⟨#[]⟩, .slice none 0 0, .slice none 0 0] ∧ Blk w12 (b3) 25 [.int .i64 k3, .int .i64 n3, .int .i64 s3, .string ⟨#[]⟩, .slice none 0 0, .slice none 0 0] ∧ Blk w12 (b4) 25 [.int .i64 k4, .int .i64 n4, .int .i64 s4, .string ⟨#[]⟩, .slice none 0 0, .slice none 0 0] ∧ Blk w12 (b5) 25 [.int .i64 k3, .int .i64 n3, .int .i64 s3, .string ⟨#[]⟩, .slice none 0 0, .slice none 0 0] ∧ Grow w w12) := ⟨(H10.out.1).grow g10, (H10.out.2.1).grow g10, (H10.out.2.2.1).grow g10, (H10.out.2.2.2.1).grow g10, (H10.out.2.2.2.2.1).grow g10, Grow.trans (H10.out.2.2.2.2.2) g10⟩
  clear H10 g10
  go_wp2_with (refine al_zero rfl 25 rfl [.int .i64 0, .int .i64 0, .int .i64 0, .string ⟨#[]⟩, .slice none 0 0, .slice none 0 0] zV ?_)
  intro b6 vv11 ss11 zz11 xx11
  go_wp2_with (refine st_all rfl 25 (.tmp 17) (.tmp 83) rfl b6 25 [.int .i64 0, .int .i64 0, .int .i64 0, .string ⟨#[]⟩, .slice none 0 0, .slice none 0 0] [.int .i64 k4, .int .i64 n4, .int .i64 s4, .string ⟨#[]⟩, .slice none 0 0, .slice none 0 0] rfl rfl zz11 rfl sV (ones rfl) ?_)
  intro w13 yy11 mm11
  have H12 : Hid (Blk w13 (b1) 25 [.int .i64 k1, .int .i64 n1, .int .i64 s1, .string ⟨#[]⟩, .slice none 0 0, .slice none 0 0] ∧ Blk w13 (b2) 25 [.int .i64 k2, .int .i64 n2, .int .i64 s2, .string ⟨#[]⟩, .slice none 0 0, .slice none 0 0] ∧ Blk w13 (b3) 25 [.int .i64 k3, .int .i64 n3, .int .i64 s3, .string ⟨#[]⟩, .slice none 0 0, .slice none 0 0] ∧ Blk w13 (b4) 25 [.int .i64 k4, .int .i64 n4, .int .i64 s4, .string ⟨#[]⟩, .slice none 0 0, .slice none 0 0] ∧ Blk w13 (b5) 25 [.int .i64 k3, .int .i64 n3, .int .i64 s3, .string ⟨#[]⟩, .slice none 0 0, .slice none 0 0] ∧ Blk w13 (b6) 25 [.int .i64 k4, .int .i64 n4, .int .i64 s4, .string ⟨#[]⟩, .slice none 0 0, .slice none 0 0] ∧ Grow w w13) := ⟨(((H11.out.1).kept xx11 (by simp)).kept mm11 (by intro e; injection e with e; have := (H11.out.1).lt; omega)), (((H11.out.2.1).kept xx11 (by simp)).kept mm11 (by intro e; injection e with e; have := (H11.out.2.1).lt; omega)), (((H11.out.2.2.1).kept xx11 (by simp)).kept mm11 (by intro e; injection e with e; have := (H11.out.2.2.1).lt; omega)), (((H11.out.2.2.2.1).kept xx11 (by simp)).kept mm11 (by intro e; injection e with e; have := (H11.out.2.2.2.1).lt; omega)), (((H11.out.2.2.2.2.1).kept xx11 (by simp)).kept mm11 (by intro e; injection e with e; have := (H11.out.2.2.2.2.1).lt; omega)), yy11, (by have x1 := H11.out.2.2.2.2.2; have x2 : Below w.heap.size w vv11 := Below.grown x1 xx11 x1.size (by intro e he; cases he); exact Below.grown x2 mm11 x2.size (by intro e he; injection he with he; have := x1.size; omega))⟩
  clear H11 ss11 zz11 xx11 yy11 mm11
  have q0_0 : w13.cell? ⟨b1, 0, none⟩ = some (.int .i64 k1) := (H12.out.1).cell 0
  have q0_1 : w13.cell? ⟨b1, 1, none⟩ = some (.int .i64 n1) := (H12.out.1).cell 1
  have q0_2 : w13.cell? ⟨b1, 2, none⟩ = some (.int .i64 s1) := (H12.out.1).cell 2
  have q0_3 : w13.cell? ⟨b1, 3, none⟩ = some (.string ⟨#[]⟩) := (H12.out.1).cell 3
  have q0_4 : w13.cell? ⟨b1, 4, none⟩ = some (.slice none 0 0) := (H12.out.1).cell 4
  have q0_5 : w13.cell? ⟨b1, 5, none⟩ = some (.slice none 0 0) := (H12.out.1).cell 5
  have q1_0 : w13.cell? ⟨b2, 0, none⟩ = some (.int .i64 k2) := (H12.out.2.1).cell 0
  have q1_1 : w13.cell? ⟨b2, 1, none⟩ = some (.int .i64 n2) := (H12.out.2.1).cell 1
  have q1_2 : w13.cell? ⟨b2, 2, none⟩ = some (.int .i64 s2) := (H12.out.2.1).cell 2
  have q1_3 : w13.cell? ⟨b2, 3, none⟩ = some (.string ⟨#[]⟩) := (H12.out.2.1).cell 3
  have q1_4 : w13.cell? ⟨b2, 4, none⟩ = some (.slice none 0 0) := (H12.out.2.1).cell 4
  have q1_5 : w13.cell? ⟨b2, 5, none⟩ = some (.slice none 0 0) := (H12.out.2.1).cell 5
  go_wp2_with fail
  clear q0_0 q0_1 q0_2 q0_3 q0_4 q0_5 q1_0 q1_1 q1_2 q1_3 q1_4 q1_5
  refine (C1.out _).mono ?_
  rintro e w14 ⟨rfl, g12⟩
  have H13 : Hid (Blk w14 (b1) 25 [.int .i64 k1, .int .i64 n1, .int .i64 s1, .string ⟨#[]⟩, .slice none 0 0, .slice none 0 0] ∧ Blk w14 (b2) 25 [.int .i64 k2, .int .i64 n2, .int .i64 s2, .string ⟨#[]⟩, .slice none 0 0, .slice none 0 0] ∧ Blk w14 (b3) 25 [.int .i64 k3, .int .i64 n3, .int .i64 s3, .string ⟨#[]⟩, .slice none 0 0, .slice none 0 0] ∧ Blk w14 (b4) 25 [.int .i64 k4, .int .i64 n4, .int .i64 s4, .string ⟨#[]⟩, .slice none 0 0, .slice none 0 0] ∧ Blk w14 (b5) 25 [.int .i64 k3, .int .i64 n3, .int .i64 s3, .string ⟨#[]⟩, .slice none 0 0, .slice none 0 0] ∧ Blk w14 (b6) 25 [.int .i64 k4, .int .i64 n4, .int .i64 s4, .string ⟨#[]⟩, .slice none 0 0, .slice none 0 0] ∧ Grow w w14) := ⟨(H12.out.1).grow g12, (H12.out.2.1).grow g12, (H12.out.2.2.1).grow g12, (H12.out.2.2.2.1).grow g12, (H12.out.2.2.2.2.1).grow g12, (H12.out.2.2.2.2.2.1).grow g12, Grow.trans (H12.out.2.2.2.2.2.2) g12⟩
  clear H12 g12
  have q2_0 : w14.cell? ⟨b3, 0, none⟩ = some (.int .i64 k3) := (H13.out.2.2.1).cell 0
  have q2_1 : w14.cell? ⟨b3, 1, none⟩ = some (.int .i64 n3) := (H13.out.2.2.1).cell 1
  have q2_2 : w14.cell? ⟨b3, 2, none⟩ = some (.int .i64 s3) := (H13.out.2.2.1).cell 2
  have q2_3 : w14.cell? ⟨b3, 3, none⟩ = some (.string ⟨#[]⟩) := (H13.out.2.2.1).cell 3
  have q2_4 : w14.cell? ⟨b3, 4, none⟩ = some (.slice none 0 0) := (H13.out.2.2.1).cell 4
  have q2_5 : w14.cell? ⟨b3, 5, none⟩ = some (.slice none 0 0) := (H13.out.2.2.1).cell 5
  have q4_0 : w14.cell? ⟨b5, 0, none⟩ = some (.int .i64 k3) := (H13.out.2.2.2.2.1).cell 0
  have q4_1 : w14.cell? ⟨b5, 1, none⟩ = some (.int .i64 n3) := (H13.out.2.2.2.2.1).cell 1
  have q4_2 : w14.cell? ⟨b5, 2, none⟩ = some (.int .i64 s3) := (H13.out.2.2.2.2.1).cell 2
  have q4_3 : w14.cell? ⟨b5, 3, none⟩ = some (.string ⟨#[]⟩) := (H13.out.2.2.2.2.1).cell 3
  have q4_4 : w14.cell? ⟨b5, 4, none⟩ = some (.slice none 0 0) := (H13.out.2.2.2.2.1).cell 4
  have q4_5 : w14.cell? ⟨b5, 5, none⟩ = some (.slice none 0 0) := (H13.out.2.2.2.2.1).cell 5
  go_wp2_with fail
  clear q2_0 q2_1 q2_2 q2_3 q2_4 q2_5 q4_0 q4_1 q4_2 q4_3 q4_4 q4_5
  refine (equal_yes _ _ _ _ _ _ _ _ _ _ _ _).mono ?_
  rintro e w15 ⟨rfl, g13⟩
  have H14 : Hid (Blk w15 (b1) 25 [.int .i64 k1, .int .i64 n1, .int .i64 s1, .string ⟨#[]⟩, .slice none 0 0, .slice none 0 0] ∧ Blk w15 (b2) 25 [.int .i64 k2, .int .i64 n2, .int .i64 s2, .string ⟨#[]⟩, .slice none 0 0, .slice none 0 0] ∧ Blk w15 (b3) 25 [.int .i64 k3, .int .i64 n3, .int .i64 s3, .string ⟨#[]⟩, .slice none 0 0, .slice none 0 0] ∧ Blk w15 (b4) 25 [.int .i64 k4, .int .i64 n4, .int .i64 s4, .string ⟨#[]⟩, .slice none 0 0, .slice none 0 0] ∧ Blk w15 (b5) 25 [.int .i64 k3, .int .i64 n3, .int .i64 s3, .string ⟨#[]⟩, .slice none 0 0, .slice none 0 0] ∧ Blk w15 (b6) 25 [.int .i64 k4, .int .i64 n4, .int .i64 s4, .string ⟨#[]⟩, .slice none 0 0, .slice none 0 0] ∧ Grow w w15) := ⟨(H13.out.1).grow g13, (H13.out.2.1).grow g13, (H13.out.2.2.1).grow g13, (H13.out.2.2.2.1).grow g13, (H13.out.2.2.2.2.1).grow g13, (H13.out.2.2.2.2.2.1).grow g13, Grow.trans (H13.out.2.2.2.2.2.2) g13⟩
  clear H13 g13
  have q3_0 : w15.cell? ⟨b4, 0, none⟩ = some (.int .i64 k4) := (H14.out.2.2.2.1).cell 0
  have q3_1 : w15.cell? ⟨b4, 1, none⟩ = some (.int .i64 n4) := (H14.out.2.2.2.1).cell 1
  have q3_2 : w15.cell? ⟨b4, 2, none⟩ = some (.int .i64 s4) := (H14.out.2.2.2.1).cell 2
  have q3_3 : w15.cell? ⟨b4, 3, none⟩ = some (.string ⟨#[]⟩) := (H14.out.2.2.2.1).cell 3
  have q3_4 : w15.cell? ⟨b4, 4, none⟩ = some (.slice none 0 0) := (H14.out.2.2.2.1).cell 4
  have q3_5 : w15.cell? ⟨b4, 5, none⟩ = some (.slice none 0 0) := (H14.out.2.2.2.1).cell 5
  have q5_0 : w15.cell? ⟨b6, 0, none⟩ = some (.int .i64 k4) := (H14.out.2.2.2.2.2.1).cell 0
  have q5_1 : w15.cell? ⟨b6, 1, none⟩ = some (.int .i64 n4) := (H14.out.2.2.2.2.2.1).cell 1
  have q5_2 : w15.cell? ⟨b6, 2, none⟩ = some (.int .i64 s4) := (H14.out.2.2.2.2.2.1).cell 2
  have q5_3 : w15.cell? ⟨b6, 3, none⟩ = some (.string ⟨#[]⟩) := (H14.out.2.2.2.2.2.1).cell 3
  have q5_4 : w15.cell? ⟨b6, 4, none⟩ = some (.slice none 0 0) := (H14.out.2.2.2.2.2.1).cell 4
  have q5_5 : w15.cell? ⟨b6, 5, none⟩ = some (.slice none 0 0) := (H14.out.2.2.2.2.2.1).cell 5
  go_wp2_with fail
  clear q3_0 q3_1 q3_2 q3_3 q3_4 q3_5 q5_0 q5_1 q5_2 q5_3 q5_4 q5_5
  refine (equal_yes _ _ _ _ _ _ _ _ _ _ _ _).mono ?_
  rintro e w16 ⟨rfl, g14⟩
  have H15 : Hid (Blk w16 (b1) 25 [.int .i64 k1, .int .i64 n1, .int .i64 s1, .string ⟨#[]⟩, .slice none 0 0, .slice none 0 0] ∧ Blk w16 (b2) 25 [.int .i64 k2, .int .i64 n2, .int .i64 s2, .string ⟨#[]⟩, .slice none 0 0, .slice none 0 0] ∧ Blk w16 (b3) 25 [.int .i64 k3, .int .i64 n3, .int .i64 s3, .string ⟨#[]⟩, .slice none 0 0, .slice none 0 0] ∧ Blk w16 (b4) 25 [.int .i64 k4, .int .i64 n4, .int .i64 s4, .string ⟨#[]⟩, .slice none 0 0, .slice none 0 0] ∧ Blk w16 (b5) 25 [.int .i64 k3, .int .i64 n3, .int .i64 s3, .string ⟨#[]⟩, .slice none 0 0, .slice none 0 0] ∧ Blk w16 (b6) 25 [.int .i64 k4, .int .i64 n4, .int .i64 s4, .string ⟨#[]⟩, .slice none 0 0, .slice none 0 0] ∧ Grow w w16) := ⟨(H14.out.1).grow g14, (H14.out.2.1).grow g14, (H14.out.2.2.1).grow g14, (H14.out.2.2.2.1).grow g14, (H14.out.2.2.2.2.1).grow g14, (H14.out.2.2.2.2.2.1).grow g14, Grow.trans (H14.out.2.2.2.2.2.2) g14⟩
  clear H14 g14
  go_wp2_with fail
  refine (known_any _).mono ?_
  rintro e w17 ⟨rfl, g15⟩
  have H16 : Hid (Blk w17 (b1) 25 [.int .i64 k1, .int .i64 n1, .int .i64 s1, .string ⟨#[]⟩, .slice none 0 0, .slice none 0 0] ∧ Blk w17 (b2) 25 [.int .i64 k2, .int .i64 n2, .int .i64 s2, .string ⟨#[]⟩, .slice none 0 0, .slice none 0 0] ∧ Blk w17 (b3) 25 [.int .i64 k3, .int .i64 n3, .int .i64 s3, .string ⟨#[]⟩, .slice none 0 0, .slice none 0 0] ∧ Blk w17 (b4) 25 [.int .i64 k4, .int .i64 n4, .int .i64 s4, .string ⟨#[]⟩, .slice none 0 0, .slice none 0 0] ∧ Blk w17 (b5) 25 [.int .i64 k3, .int .i64 n3, .int .i64 s3, .string ⟨#[]⟩, .slice none 0 0, .slice none 0 0] ∧ Blk w17 (b6) 25 [.int .i64 k4, .int .i64 n4, .int .i64 s4, .string ⟨#[]⟩, .slice none 0 0, .slice none 0 0] ∧ Grow w w17) := ⟨(H15.out.1).grow g15, (H15.out.2.1).grow g15, (H15.out.2.2.1).grow g15, (H15.out.2.2.2.1).grow g15, (H15.out.2.2.2.2.1).grow g15, (H15.out.2.2.2.2.2.1).grow g15, Grow.trans (H15.out.2.2.2.2.2.2) g15⟩
  clear H15 g15
  go_wp2
  go_ret
  exact ⟨rfl, H16.out.2.2.2.2.2.2⟩
set_option maxRecDepth 8000 in
set_option maxHeartbeats 1000000 in
theorem small_out (a b s : Int) (h : a < -1073741824 ∨ (-1073741824 ≤ a ∧ 1073741824 < a) ∨ (-1073741824 ≤ a ∧ a ≤ 1073741824 ∧ b < -1073741824) ∨ (-1073741824 ≤ a ∧ a ≤ 1073741824 ∧ -1073741824 ≤ b ∧ 1073741824 < b) ∨ (-1073741824 ≤ a ∧ a ≤ 1073741824 ∧ -1073741824 ≤ b ∧ b ≤ 1073741824 ∧ s < 0) ∨ (-1073741824 ≤ a ∧ a ≤ 1073741824 ∧ -1073741824 ≤ b ∧ b ≤ 1073741824 ∧ 0 ≤ s ∧ 9 < s)) (w : World) :
    Calls Tryd.prog 5 #[.int .i64 a, .int .i64 b, .int .i64 s] w fun e w' => e = .returned (.bool true) ∧ Grow w w' := by
  rcases h with h | ⟨_, h⟩ | ⟨_, _, h⟩ | ⟨_, _, _, h⟩ | ⟨_, _, _, _, h⟩ | ⟨_, _, _, _, _, h⟩
  all_goals
    go_enter Tryd.func5, Tryd.ntmps5
    go_wp2_with fail
    refine (known_any _).mono ?_
    rintro e w2 ⟨rfl, g2⟩
    have G : Hid (Grow w w2) := g2
    clear g2
    go_wp2
    go_ret
    exact ⟨rfl, G.out⟩
end Go.Proofs.YthdonaoaiendpaaDoor
