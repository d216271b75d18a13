/-
  DecimalSpreads: its walks.
-/
import Derived.Test.YthdonaoaiendpaaDoorLw
namespace Go.Proofs.YthdonaoaiendpaaDoor
open Go.RowKit
set_option linter.unusedVariables false
set_option maxRecDepth 8000 in
set_option maxHeartbeats 1000000 in
theorem spreads_s1 (k1 n1 s1 : Int) (na1 : Option Addr) (nc1 : Nat) (ka1 : Option Addr) (kc1 : Nat) (k2 n2 s2 : Int) (na2 : Option Addr) (nc2 : Nat) (ka2 : Option Addr) (kc2 : Nat) (k3 n3 s3 : Int) (na3 : Option Addr) (nc3 : Nat) (ka3 : Option Addr) (kc3 : Nat) (k4 n4 s4 k5 n5 s5 k6 n6 s6 e5 e6 : Int) (K1 : Hid (∀ W, Calls Tryd.prog 12 #[.agg #[.int .i64 k1, .int .i64 n1, .int .i64 s1, .string ⟨#[]⟩, .slice na1 0 nc1, .slice ka1 0 kc1]] W fun e w' => e = .returned (.bool true) ∧ Grow W w')) (K2 : Hid (∀ W, Calls Tryd.prog 12 #[.agg #[.int .i64 k2, .int .i64 n2, .int .i64 s2, .string ⟨#[]⟩, .slice na2 0 nc2, .slice ka2 0 kc2]] W fun e w' => e = .returned (.bool true) ∧ Grow W w')) (K3 : Hid (∀ W, Calls Tryd.prog 12 #[.agg #[.int .i64 k3, .int .i64 n3, .int .i64 s3, .string ⟨#[]⟩, .slice na3 0 nc3, .slice ka3 0 kc3]] W fun e w' => e = .returned (.bool true) ∧ Grow W w')) (A1 : Hid (∀ W, Calls Tryd.prog 13 #[.agg #[.int .i64 k2, .int .i64 n2, .int .i64 s2, .string ⟨#[]⟩, .slice na2 0 nc2, .slice ka2 0 kc2], .agg #[.int .i64 k3, .int .i64 n3, .int .i64 s3, .string ⟨#[]⟩, .slice na3 0 nc3, .slice ka3 0 kc3]] W fun e w' => e = .returned (.tuple #[.agg #[.int .i64 k4, .int .i64 n4, .int .i64 s4, .string ⟨#[]⟩, .slice none 0 0, .slice none 0 0], .int .i64 10]) ∧ Grow W w')) (M1 : Hid (∀ W, Calls Tryd.prog 14 #[.agg #[.int .i64 k1, .int .i64 n1, .int .i64 s1, .string ⟨#[]⟩, .slice na1 0 nc1, .slice ka1 0 kc1], .agg #[.int .i64 k2, .int .i64 n2, .int .i64 s2, .string ⟨#[]⟩, .slice na2 0 nc2, .slice ka2 0 kc2]] W fun e w' => e = .returned (.tuple #[.agg #[.int .i64 k5, .int .i64 n5, .int .i64 s5, .string ⟨#[]⟩, .slice none 0 0, .slice none 0 0], .int .i64 e5]) ∧ Grow W w')) (M2 : Hid (∀ W, Calls Tryd.prog 14 #[.agg #[.int .i64 k1, .int .i64 n1, .int .i64 s1, .string ⟨#[]⟩, .slice na1 0 nc1, .slice ka1 0 kc1], .agg #[.int .i64 k3, .int .i64 n3, .int .i64 s3, .string ⟨#[]⟩, .slice na3 0 nc3, .slice ka3 0 kc3]] W fun e w' => e = .returned (.tuple #[.agg #[.int .i64 k6, .int .i64 n6, .int .i64 s6, .string ⟨#[]⟩, .slice none 0 0, .slice none 0 0], .int .i64 e6]) ∧ Grow W w')) (w : World) :
    Calls Tryd.prog 7 #[.agg #[.int .i64 k1, .int .i64 n1, .int .i64 s1, .string ⟨#[]⟩, .slice na1 0 nc1, .slice ka1 0 kc1], .agg #[.int .i64 k2, .int .i64 n2, .int .i64 s2, .string ⟨#[]⟩, .slice na2 0 nc2, .slice ka2 0 kc2], .agg #[.int .i64 k3, .int .i64 n3, .int .i64 s3, .string ⟨#[]⟩, .slice na3 0 nc3, .slice ka3 0 kc3]] w fun e w' => e = .returned (.bool true) ∧ Grow w w' := by
  go_enter Tryd.func7, Tryd.ntmps7
  go_wp2_with fail
  obtain ⟨w1, HW1, H0⟩ : ∃ w1, (((w.alloc (Obj.cells #[.int .i64 k1, .int .i64 n1, .int .i64 s1, .string ⟨#[]⟩, .slice na1 0 nc1, .slice ka1 0 kc1] 25)).alloc (Obj.cells #[.int .i64 k2, .int .i64 n2, .int .i64 s2, .string ⟨#[]⟩, .slice na2 0 nc2, .slice ka2 0 kc2] 25)).alloc (Obj.cells #[.int .i64 k3, .int .i64 n3, .int .i64 s3, .string ⟨#[]⟩, .slice na3 0 nc3, .slice ka3 0 kc3] 25)) = w1 ∧ Hid (Blk w1 (w.heap.size) 25 [.int .i64 k1, .int .i64 n1, .int .i64 s1, .string ⟨#[]⟩, .slice na1 0 nc1, .slice ka1 0 kc1] ∧ Blk w1 (w.heap.size + 1) 25 [.int .i64 k2, .int .i64 n2, .int .i64 s2, .string ⟨#[]⟩, .slice na2 0 nc2, .slice ka2 0 kc2] ∧ Blk w1 (w.heap.size + 2) 25 [.int .i64 k3, .int .i64 n3, .int .i64 s3, .string ⟨#[]⟩, .slice na3 0 nc3, .slice ka3 0 kc3] ∧ Grow w w1) := ⟨_, rfl, (Blk.alloc (Blk.alloc (blk_at rfl) _) _), (Blk.alloc (blk_at (by simp)) _), (blk_at (by simp)), ((((Grow.refl _).alloc _).alloc _).alloc _)⟩
  rw [HW1]
  clear HW1
  refine (K1.out _).mono ?_
  rintro e w2 ⟨rfl, g0⟩
  have H1 : Hid (Blk w2 (w.heap.size) 25 [.int .i64 k1, .int .i64 n1, .int .i64 s1, .string ⟨#[]⟩, .slice na1 0 nc1, .slice ka1 0 kc1] ∧ Blk w2 (w.heap.size + 1) 25 [.int .i64 k2, .int .i64 n2, .int .i64 s2, .string ⟨#[]⟩, .slice na2 0 nc2, .slice ka2 0 kc2] ∧ Blk w2 (w.heap.size + 2) 25 [.int .i64 k3, .int .i64 n3, .int .i64 s3, .string ⟨#[]⟩, .slice na3 0 nc3, .slice ka3 0 kc3] ∧ Grow w w2) := ⟨(H0.out.1).grow g0, (H0.out.2.1).grow g0, (H0.out.2.2.1).grow g0, Grow.trans (H0.out.2.2.2) g0⟩
  clear H0 g0
  have q1_0 : w2.cell? ⟨w.heap.size + 1, 0, none⟩ = some (.int .i64 k2) := (H1.out.2.1).cell 0
  have q1_1 : w2.cell? ⟨w.heap.size + 1, 1, none⟩ = some (.int .i64 n2) := (H1.out.2.1).cell 1
  have q1_2 : w2.cell? ⟨w.heap.size + 1, 2, none⟩ = some (.int .i64 s2) := (H1.out.2.1).cell 2
  have q1_3 : w2.cell? ⟨w.heap.size + 1, 3, none⟩ = some (.string ⟨#[]⟩) := (H1.out.2.1).cell 3
  have q1_4 : w2.cell? ⟨w.heap.size + 1, 4, none⟩ = some (.slice na2 0 nc2) := (H1.out.2.1).cell 4
  have q1_5 : w2.cell? ⟨w.heap.size + 1, 5, none⟩ = some (.slice ka2 0 kc2) := (H1.out.2.1).cell 5
  go_wp2_with fail
  clear q1_0 q1_1 q1_2 q1_3 q1_4 q1_5
  refine (K2.out _).mono ?_
  rintro e w3 ⟨rfl, g1⟩
  have H2 : Hid (Blk w3 (w.heap.size) 25 [.int .i64 k1, .int .i64 n1, .int .i64 s1, .string ⟨#[]⟩, .slice na1 0 nc1, .slice ka1 0 kc1] ∧ Blk w3 (w.heap.size + 1) 25 [.int .i64 k2, .int .i64 n2, .int .i64 s2, .string ⟨#[]⟩, .slice na2 0 nc2, .slice ka2 0 kc2] ∧ Blk w3 (w.heap.size + 2) 25 [.int .i64 k3, .int .i64 n3, .int .i64 s3, .string ⟨#[]⟩, .slice na3 0 nc3, .slice ka3 0 kc3] ∧ Grow w w3) := ⟨(H1.out.1).grow g1, (H1.out.2.1).grow g1, (H1.out.2.2.1).grow g1, Grow.trans (H1.out.2.2.2) g1⟩
  clear H1 g1
  have q2_0 : w3.cell? ⟨w.heap.size + 2, 0, none⟩ = some (.int .i64 k3) := (H2.out.2.2.1).cell 0
  have q2_1 : w3.cell? ⟨w.heap.size + 2, 1, none⟩ = some (.int .i64 n3) := (H2.out.2.2.1).cell 1
  have q2_2 : w3.cell? ⟨w.heap.size + 2, 2, none⟩ = some (.int .i64 s3) := (H2.out.2.2.1).cell 2
  have q2_3 : w3.cell? ⟨w.heap.size + 2, 3, none⟩ = some (.string ⟨#[]⟩) := (H2.out.2.2.1).cell 3
  have q2_4 : w3.cell? ⟨w.heap.size + 2, 4, none⟩ = some (.slice na3 0 nc3) := (H2.out.2.2.1).cell 4
  have q2_5 : w3.cell? ⟨w.heap.size + 2, 5, none⟩ = some (.slice ka3 0 kc3) := (H2.out.2.2.1).cell 5
  go_wp2_with fail
  clear q2_0 q2_1 q2_2 q2_3 q2_4 q2_5
  refine (K3.out _).mono ?_
  rintro e w4 ⟨rfl, g2⟩
  have H3 : Hid (Blk w4 (w.heap.size) 25 [.int .i64 k1, .int .i64 n1, .int .i64 s1, .string ⟨#[]⟩, .slice na1 0 nc1, .slice ka1 0 kc1] ∧ Blk w4 (w.heap.size + 1) 25 [.int .i64 k2, .int .i64 n2, .int .i64 s2, .string ⟨#[]⟩, .slice na2 0 nc2, .slice ka2 0 kc2] ∧ Blk w4 (w.heap.size + 2) 25 [.int .i64 k3, .int .i64 n3, .int .i64 s3, .string ⟨#[]⟩, .slice na3 0 nc3, .slice ka3 0 kc3] ∧ Grow w w4) := ⟨(H2.out.1).grow g2, (H2.out.2.1).grow g2, (H2.out.2.2.1).grow g2, Grow.trans (H2.out.2.2.2) g2⟩
  clear H2 g2
  have q1_0 : w4.cell? ⟨w.heap.size + 1, 0, none⟩ = some (.int .i64 k2) := (H3.out.2.1).cell 0
  have q1_1 : w4.cell? ⟨w.heap.size + 1, 1, none⟩ = some (.int .i64 n2) := (H3.out.2.1).cell 1
  have q1_2 : w4.cell? ⟨w.heap.size + 1, 2, none⟩ = some (.int .i64 s2) := (H3.out.2.1).cell 2
  have q1_3 : w4.cell? ⟨w.heap.size + 1, 3, none⟩ = some (.string ⟨#[]⟩) := (H3.out.2.1).cell 3
  have q1_4 : w4.cell? ⟨w.heap.size + 1, 4, none⟩ = some (.slice na2 0 nc2) := (H3.out.2.1).cell 4
  have q1_5 : w4.cell? ⟨w.heap.size + 1, 5, none⟩ = some (.slice ka2 0 kc2) := (H3.out.2.1).cell 5
  have q2_0 : w4.cell? ⟨w.heap.size + 2, 0, none⟩ = some (.int .i64 k3) := (H3.out.2.2.1).cell 0
  have q2_1 : w4.cell? ⟨w.heap.size + 2, 1, none⟩ = some (.int .i64 n3) := (H3.out.2.2.1).cell 1
  have q2_2 : w4.cell? ⟨w.heap.size + 2, 2, none⟩ = some (.int .i64 s3) := (H3.out.2.2.1).cell 2
  have q2_3 : w4.cell? ⟨w.heap.size + 2, 3, none⟩ = some (.string ⟨#[]⟩) := (H3.out.2.2.1).cell 3
  have q2_4 : w4.cell? ⟨w.heap.size + 2, 4, none⟩ = some (.slice na3 0 nc3) := (H3.out.2.2.1).cell 4
  have q2_5 : w4.cell? ⟨w.heap.size + 2, 5, none⟩ = some (.slice ka3 0 kc3) := (H3.out.2.2.1).cell 5
  go_wp2_with fail
  clear q1_0 q1_1 q1_2 q1_3 q1_4 q1_5 q2_0 q2_1 q2_2 q2_3 q2_4 q2_5
  refine (A1.out _).mono ?_
  rintro e w5 ⟨rfl, g3⟩
  have H4 : Hid (Blk w5 (w.heap.size) 25 [.int .i64 k1, .int .i64 n1, .int .i64 s1, .string ⟨#[]⟩, .slice na1 0 nc1, .slice ka1 0 kc1] ∧ Blk w5 (w.heap.size + 1) 25 [.int .i64 k2, .int .i64 n2, .int .i64 s2, .string ⟨#[]⟩, .slice na2 0 nc2, .slice ka2 0 kc2] ∧ Blk w5 (w.heap.size + 2) 25 [.int .i64 k3, .int .i64 n3, .int .i64 s3, .string ⟨#[]⟩, .slice na3 0 nc3, .slice ka3 0 kc3] ∧ Grow w w5) := ⟨(H3.out.1).grow g3, (H3.out.2.1).grow g3, (H3.out.2.2.1).grow g3, Grow.trans (H3.out.2.2.2) g3⟩
  clear H3 g3
  go_wp2_with (refine al_zero rfl 25 rfl [.int .i64 0, .int .i64 0, .int .i64 0, .string ⟨#[]⟩, .slice none 0 0, .slice none 0 0] zV ?_)
  intro b4 vv4 ss4 zz4 xx4
  go_wp2_with (refine st_all rfl 25 (.tmp 7) (.tmp 34) rfl b4 25 [.int .i64 0, .int .i64 0, .int .i64 0, .string ⟨#[]⟩, .slice none 0 0, .slice none 0 0] [.int .i64 k4, .int .i64 n4, .int .i64 s4, .string ⟨#[]⟩, .slice none 0 0, .slice none 0 0] rfl rfl zz4 rfl sV (ones rfl) ?_)
  intro w6 yy4 mm4
  have H5 : Hid (Blk w6 (w.heap.size) 25 [.int .i64 k1, .int .i64 n1, .int .i64 s1, .string ⟨#[]⟩, .slice na1 0 nc1, .slice ka1 0 kc1] ∧ Blk w6 (w.heap.size + 1) 25 [.int .i64 k2, .int .i64 n2, .int .i64 s2, .string ⟨#[]⟩, .slice na2 0 nc2, .slice ka2 0 kc2] ∧ Blk w6 (w.heap.size + 2) 25 [.int .i64 k3, .int .i64 n3, .int .i64 s3, .string ⟨#[]⟩, .slice na3 0 nc3, .slice ka3 0 kc3] ∧ Blk w6 (b4) 25 [.int .i64 k4, .int .i64 n4, .int .i64 s4, .string ⟨#[]⟩, .slice none 0 0, .slice none 0 0] ∧ Grow w w6) := ⟨(((H4.out.1).kept xx4 (by simp)).kept mm4 (by intro e; injection e with e; have := (H4.out.1).lt; omega)), (((H4.out.2.1).kept xx4 (by simp)).kept mm4 (by intro e; injection e with e; have := (H4.out.2.1).lt; omega)), (((H4.out.2.2.1).kept xx4 (by simp)).kept mm4 (by intro e; injection e with e; have := (H4.out.2.2.1).lt; omega)), yy4, (by have x1 := H4.out.2.2.2; have x2 : Below w.heap.size w vv4 := Below.grown x1 xx4 x1.size (by intro e he; cases he); exact Below.grown x2 mm4 x2.size (by intro e he; injection he with he; have := x1.size; omega))⟩
  clear H4 ss4 zz4 xx4 yy4 mm4
  have q0_0 : w6.cell? ⟨w.heap.size, 0, none⟩ = some (.int .i64 k1) := (H5.out.1).cell 0
  have q0_1 : w6.cell? ⟨w.heap.size, 1, none⟩ = some (.int .i64 n1) := (H5.out.1).cell 1
  have q0_2 : w6.cell? ⟨w.heap.size, 2, none⟩ = some (.int .i64 s1) := (H5.out.1).cell 2
  have q0_3 : w6.cell? ⟨w.heap.size, 3, none⟩ = some (.string ⟨#[]⟩) := (H5.out.1).cell 3
  have q0_4 : w6.cell? ⟨w.heap.size, 4, none⟩ = some (.slice na1 0 nc1) := (H5.out.1).cell 4
  have q0_5 : w6.cell? ⟨w.heap.size, 5, none⟩ = some (.slice ka1 0 kc1) := (H5.out.1).cell 5
  have q1_0 : w6.cell? ⟨w.heap.size + 1, 0, none⟩ = some (.int .i64 k2) := (H5.out.2.1).cell 0
  have q1_1 : w6.cell? ⟨w.heap.size + 1, 1, none⟩ = some (.int .i64 n2) := (H5.out.2.1).cell 1
  have q1_2 : w6.cell? ⟨w.heap.size + 1, 2, none⟩ = some (.int .i64 s2) := (H5.out.2.1).cell 2
  have q1_3 : w6.cell? ⟨w.heap.size + 1, 3, none⟩ = some (.string ⟨#[]⟩) := (H5.out.2.1).cell 3
  have q1_4 : w6.cell? ⟨w.heap.size + 1, 4, none⟩ = some (.slice na2 0 nc2) := (H5.out.2.1).cell 4
  have q1_5 : w6.cell? ⟨w.heap.size + 1, 5, none⟩ = some (.slice ka2 0 kc2) := (H5.out.2.1).cell 5
  go_wp2_with fail
  clear q0_0 q0_1 q0_2 q0_3 q0_4 q0_5 q1_0 q1_1 q1_2 q1_3 q1_4 q1_5
  refine (M1.out _).mono ?_
  rintro e w7 ⟨rfl, g5⟩
  have H6 : Hid (Blk w7 (w.heap.size) 25 [.int .i64 k1, .int .i64 n1, .int .i64 s1, .string ⟨#[]⟩, .slice na1 0 nc1, .slice ka1 0 kc1] ∧ Blk w7 (w.heap.size + 1) 25 [.int .i64 k2, .int .i64 n2, .int .i64 s2, .string ⟨#[]⟩, .slice na2 0 nc2, .slice ka2 0 kc2] ∧ Blk w7 (w.heap.size + 2) 25 [.int .i64 k3, .int .i64 n3, .int .i64 s3, .string ⟨#[]⟩, .slice na3 0 nc3, .slice ka3 0 kc3] ∧ Blk w7 (b4) 25 [.int .i64 k4, .int .i64 n4, .int .i64 s4, .string ⟨#[]⟩, .slice none 0 0, .slice none 0 0] ∧ Grow w w7) := ⟨(H5.out.1).grow g5, (H5.out.2.1).grow g5, (H5.out.2.2.1).grow g5, (H5.out.2.2.2.1).grow g5, Grow.trans (H5.out.2.2.2.2) g5⟩
  clear H5 g5
  go_wp2_with (refine al_zero rfl 25 rfl [.int .i64 0, .int .i64 0, .int .i64 0, .string ⟨#[]⟩, .slice none 0 0, .slice none 0 0] zV ?_)
  intro b5 vv6 ss6 zz6 xx6
  go_wp2_with (refine st_all rfl 25 (.tmp 9) (.tmp 40) rfl b5 25 [.int .i64 0, .int .i64 0, .int .i64 0, .string ⟨#[]⟩, .slice none 0 0, .slice none 0 0] [.int .i64 k5, .int .i64 n5, .int .i64 s5, .string ⟨#[]⟩, .slice none 0 0, .slice none 0 0] rfl rfl zz6 rfl sV (ones rfl) ?_)
  intro w8 yy6 mm6
  have H7 : Hid (Blk w8 (w.heap.size) 25 [.int .i64 k1, .int .i64 n1, .int .i64 s1, .string ⟨#[]⟩, .slice na1 0 nc1, .slice ka1 0 kc1] ∧ Blk w8 (w.heap.size + 1) 25 [.int .i64 k2, .int .i64 n2, .int .i64 s2, .string ⟨#[]⟩, .slice na2 0 nc2, .slice ka2 0 kc2] ∧ Blk w8 (w.heap.size + 2) 25 [.int .i64 k3, .int .i64 n3, .int .i64 s3, .string ⟨#[]⟩, .slice na3 0 nc3, .slice ka3 0 kc3] ∧ Blk w8 (b4) 25 [.int .i64 k4, .int .i64 n4, .int .i64 s4, .string ⟨#[]⟩, .slice none 0 0, .slice none 0 0] ∧ Blk w8 (b5) 25 [.int .i64 k5, .int .i64 n5, .int .i64 s5, .string ⟨#[]⟩, .slice none 0 0, .slice none 0 0] ∧ Grow w w8) := ⟨(((H6.out.1).kept xx6 (by simp)).kept mm6 (by intro e; injection e with e; have := (H6.out.1).lt; omega)), (((H6.out.2.1).kept xx6 (by simp)).kept mm6 (by intro e; injection e with e; have := (H6.out.2.1).lt; omega)), (((H6.out.2.2.1).kept xx6 (by simp)).kept mm6 (by intro e; injection e with e; have := (H6.out.2.2.1).lt; omega)), (((H6.out.2.2.2.1).kept xx6 (by simp)).kept mm6 (by intro e; injection e with e; have := (H6.out.2.2.2.1).lt; omega)), yy6, (by have x1 := H6.out.2.2.2.2; have x2 : Below w.heap.size w vv6 := Below.grown x1 xx6 x1.size (by intro e he; cases he); exact Below.grown x2 mm6 x2.size (by intro e he; injection he with he; have := x1.size; omega))⟩
  clear H6 ss6 zz6 xx6 yy6 mm6
  have q0_0 : w8.cell? ⟨w.heap.size, 0, none⟩ = some (.int .i64 k1) := (H7.out.1).cell 0
  have q0_1 : w8.cell? ⟨w.heap.size, 1, none⟩ = some (.int .i64 n1) := (H7.out.1).cell 1
  have q0_2 : w8.cell? ⟨w.heap.size, 2, none⟩ = some (.int .i64 s1) := (H7.out.1).cell 2
  have q0_3 : w8.cell? ⟨w.heap.size, 3, none⟩ = some (.string ⟨#[]⟩) := (H7.out.1).cell 3
  have q0_4 : w8.cell? ⟨w.heap.size, 4, none⟩ = some (.slice na1 0 nc1) := (H7.out.1).cell 4
  have q0_5 : w8.cell? ⟨w.heap.size, 5, none⟩ = some (.slice ka1 0 kc1) := (H7.out.1).cell 5
  have q2_0 : w8.cell? ⟨w.heap.size + 2, 0, none⟩ = some (.int .i64 k3) := (H7.out.2.2.1).cell 0
  have q2_1 : w8.cell? ⟨w.heap.size + 2, 1, none⟩ = some (.int .i64 n3) := (H7.out.2.2.1).cell 1
  have q2_2 : w8.cell? ⟨w.heap.size + 2, 2, none⟩ = some (.int .i64 s3) := (H7.out.2.2.1).cell 2
  have q2_3 : w8.cell? ⟨w.heap.size + 2, 3, none⟩ = some (.string ⟨#[]⟩) := (H7.out.2.2.1).cell 3
  have q2_4 : w8.cell? ⟨w.heap.size + 2, 4, none⟩ = some (.slice na3 0 nc3) := (H7.out.2.2.1).cell 4
  have q2_5 : w8.cell? ⟨w.heap.size + 2, 5, none⟩ = some (.slice ka3 0 kc3) := (H7.out.2.2.1).cell 5
  go_wp2_with fail
  clear q0_0 q0_1 q0_2 q0_3 q0_4 q0_5 q2_0 q2_1 q2_2 q2_3 q2_4 q2_5
  refine (M2.out _).mono ?_
  rintro e w9 ⟨rfl, g7⟩
  have H8 : Hid (Blk w9 (w.heap.size) 25 [.int .i64 k1, .int .i64 n1, .int .i64 s1, .string ⟨#[]⟩, .slice na1 0 nc1, .slice ka1 0 kc1] ∧ Blk w9 (w.heap.size + 1) 25 [.int .i64 k2, .int .i64 n2, .int .i64 s2, .string ⟨#[]⟩, .slice na2 0 nc2, .slice ka2 0 kc2] ∧ Blk w9 (w.heap.size + 2) 25 [.int .i64 k3, .int .i64 n3, .int .i64 s3, .string ⟨#[]⟩, .slice na3 0 nc3, .slice ka3 0 kc3] ∧ Blk w9 (b4) 25 [.int .i64 k4, .int .i64 n4, .int .i64 s4, .string ⟨#[]⟩, .slice none 0 0, .slice none 0 0] ∧ Blk w9 (b5) 25 [.int .i64 k5, .int .i64 n5, .int .i64 s5, .string ⟨#[]⟩, .slice none 0 0, .slice none 0 0] ∧ Grow w w9) := ⟨(H7.out.1).grow g7, (H7.out.2.1).grow g7, (H7.out.2.2.1).grow g7, (H7.out.2.2.2.1).grow g7, (H7.out.2.2.2.2.1).grow g7, Grow.trans (H7.out.2.2.2.2.2) g7⟩
  clear H7 g7
  go_wp2_with (refine al_zero rfl 25 rfl [.int .i64 0, .int .i64 0, .int .i64 0, .string ⟨#[]⟩, .slice none 0 0, .slice none 0 0] zV ?_)
  intro b6 vv8 ss8 zz8 xx8
  go_wp2_with (refine st_all rfl 25 (.tmp 11) (.tmp 46) rfl b6 25 [.int .i64 0, .int .i64 0, .int .i64 0, .string ⟨#[]⟩, .slice none 0 0, .slice none 0 0] [.int .i64 k6, .int .i64 n6, .int .i64 s6, .string ⟨#[]⟩, .slice none 0 0, .slice none 0 0] rfl rfl zz8 rfl sV (ones rfl) ?_)
  intro w10 yy8 mm8
  have H9 : Hid (Blk w10 (w.heap.size) 25 [.int .i64 k1, .int .i64 n1, .int .i64 s1, .string ⟨#[]⟩, .slice na1 0 nc1, .slice ka1 0 kc1] ∧ Blk w10 (w.heap.size + 1) 25 [.int .i64 k2, .int .i64 n2, .int .i64 s2, .string ⟨#[]⟩, .slice na2 0 nc2, .slice ka2 0 kc2] ∧ Blk w10 (w.heap.size + 2) 25 [.int .i64 k3, .int .i64 n3, .int .i64 s3, .string ⟨#[]⟩, .slice na3 0 nc3, .slice ka3 0 kc3] ∧ Blk w10 (b4) 25 [.int .i64 k4, .int .i64 n4, .int .i64 s4, .string ⟨#[]⟩, .slice none 0 0, .slice none 0 0] ∧ Blk w10 (b5) 25 [.int .i64 k5, .int .i64 n5, .int .i64 s5, .string ⟨#[]⟩, .slice none 0 0, .slice none 0 0] ∧ Blk w10 (b6) 25 [.int .i64 k6, .int .i64 n6, .int .i64 s6, .string ⟨#[]⟩, .slice none 0 0, .slice none 0 0] ∧ Grow w w10) := ⟨(((H8.out.1).kept xx8 (by simp)).kept mm8 (by intro e; injection e with e; have := (H8.out.1).lt; omega)), (((H8.out.2.1).kept xx8 (by simp)).kept mm8 (by intro e; injection e with e; have := (H8.out.2.1).lt; omega)), (((H8.out.2.2.1).kept xx8 (by simp)).kept mm8 (by intro e; injection e with e; have := (H8.out.2.2.1).lt; omega)), (((H8.out.2.2.2.1).kept xx8 (by simp)).kept mm8 (by intro e; injection e with e; have := (H8.out.2.2.2.1).lt; omega)), (((H8.out.2.2.2.2.1).kept xx8 (by simp)).kept mm8 (by intro e; injection e with e; have := (H8.out.2.2.2.2.1).lt; omega)), yy8, (by have x1 := H8.out.2.2.2.2.2; have x2 : Below w.heap.size w vv8 := Below.grown x1 xx8 x1.size (by intro e he; cases he); exact Below.grown x2 mm8 x2.size (by intro e he; injection he with he; have := x1.size; omega))⟩
  clear H8 ss8 zz8 xx8 yy8 mm8
  go_wp2_with fail
  refine (known_any _).mono ?_
  rintro e w11 ⟨rfl, g9⟩
  have H10 : Hid (Blk w11 (w.heap.size) 25 [.int .i64 k1, .int .i64 n1, .int .i64 s1, .string ⟨#[]⟩, .slice na1 0 nc1, .slice ka1 0 kc1] ∧ Blk w11 (w.heap.size + 1) 25 [.int .i64 k2, .int .i64 n2, .int .i64 s2, .string ⟨#[]⟩, .slice na2 0 nc2, .slice ka2 0 kc2] ∧ Blk w11 (w.heap.size + 2) 25 [.int .i64 k3, .int .i64 n3, .int .i64 s3, .string ⟨#[]⟩, .slice na3 0 nc3, .slice ka3 0 kc3] ∧ Blk w11 (b4) 25 [.int .i64 k4, .int .i64 n4, .int .i64 s4, .string ⟨#[]⟩, .slice none 0 0, .slice none 0 0] ∧ Blk w11 (b5) 25 [.int .i64 k5, .int .i64 n5, .int .i64 s5, .string ⟨#[]⟩, .slice none 0 0, .slice none 0 0] ∧ Blk w11 (b6) 25 [.int .i64 k6, .int .i64 n6, .int .i64 s6, .string ⟨#[]⟩, .slice none 0 0, .slice none 0 0] ∧ Grow w w11) := ⟨(H9.out.1).grow g9, (H9.out.2.1).grow g9, (H9.out.2.2.1).grow g9, (H9.out.2.2.2.1).grow g9, (H9.out.2.2.2.2.1).grow g9, (H9.out.2.2.2.2.2.1).grow g9, Grow.trans (H9.out.2.2.2.2.2.2) g9⟩
  clear H9 g9
  go_wp2
  go_ret
  exact ⟨rfl, H10.out.2.2.2.2.2.2⟩
set_option maxRecDepth 8000 in
set_option maxHeartbeats 1000000 in
theorem spreads_s2 (k1 n1 s1 : Int) (na1 : Option Addr) (nc1 : Nat) (ka1 : Option Addr) (kc1 : Nat) (k2 n2 s2 : Int) (na2 : Option Addr) (nc2 : Nat) (ka2 : Option Addr) (kc2 : Nat) (k3 n3 s3 : Int) (na3 : Option Addr) (nc3 : Nat) (ka3 : Option Addr) (kc3 : Nat) (k4 n4 s4 k5 n5 s5 k6 n6 s6 e5 e6 : Int) (K1 : Hid (∀ W, Calls Tryd.prog 12 #[.agg #[.int .i64 k1, .int .i64 n1, .int .i64 s1, .string ⟨#[]⟩, .slice na1 0 nc1, .slice ka1 0 kc1]] W fun e w' => e = .returned (.bool true) ∧ Grow W w')) (K2 : Hid (∀ W, Calls Tryd.prog 12 #[.agg #[.int .i64 k2, .int .i64 n2, .int .i64 s2, .string ⟨#[]⟩, .slice na2 0 nc2, .slice ka2 0 kc2]] W fun e w' => e = .returned (.bool true) ∧ Grow W w')) (K3 : Hid (∀ W, Calls Tryd.prog 12 #[.agg #[.int .i64 k3, .int .i64 n3, .int .i64 s3, .string ⟨#[]⟩, .slice na3 0 nc3, .slice ka3 0 kc3]] W fun e w' => e = .returned (.bool true) ∧ Grow W w')) (A1 : Hid (∀ W, Calls Tryd.prog 13 #[.agg #[.int .i64 k2, .int .i64 n2, .int .i64 s2, .string ⟨#[]⟩, .slice na2 0 nc2, .slice ka2 0 kc2], .agg #[.int .i64 k3, .int .i64 n3, .int .i64 s3, .string ⟨#[]⟩, .slice na3 0 nc3, .slice ka3 0 kc3]] W fun e w' => e = .returned (.tuple #[.agg #[.int .i64 k4, .int .i64 n4, .int .i64 s4, .string ⟨#[]⟩, .slice none 0 0, .slice none 0 0], .int .i64 0]) ∧ Grow W w')) (M1 : Hid (∀ W, Calls Tryd.prog 14 #[.agg #[.int .i64 k1, .int .i64 n1, .int .i64 s1, .string ⟨#[]⟩, .slice na1 0 nc1, .slice ka1 0 kc1], .agg #[.int .i64 k2, .int .i64 n2, .int .i64 s2, .string ⟨#[]⟩, .slice na2 0 nc2, .slice ka2 0 kc2]] W fun e w' => e = .returned (.tuple #[.agg #[.int .i64 k5, .int .i64 n5, .int .i64 s5, .string ⟨#[]⟩, .slice none 0 0, .slice none 0 0], .int .i64 10]) ∧ Grow W w')) (M2 : Hid (∀ W, Calls Tryd.prog 14 #[.agg #[.int .i64 k1, .int .i64 n1, .int .i64 s1, .string ⟨#[]⟩, .slice na1 0 nc1, .slice ka1 0 kc1], .agg #[.int .i64 k3, .int .i64 n3, .int .i64 s3, .string ⟨#[]⟩, .slice na3 0 nc3, .slice ka3 0 kc3]] W fun e w' => e = .returned (.tuple #[.agg #[.int .i64 k6, .int .i64 n6, .int .i64 s6, .string ⟨#[]⟩, .slice none 0 0, .slice none 0 0], .int .i64 e6]) ∧ Grow W w')) (w : World) :
    Calls Tryd.prog 7 #[.agg #[.int .i64 k1, .int .i64 n1, .int .i64 s1, .string ⟨#[]⟩, .slice na1 0 nc1, .slice ka1 0 kc1], .agg #[.int .i64 k2, .int .i64 n2, .int .i64 s2, .string ⟨#[]⟩, .slice na2 0 nc2, .slice ka2 0 kc2], .agg #[.int .i64 k3, .int .i64 n3, .int .i64 s3, .string ⟨#[]⟩, .slice na3 0 nc3, .slice ka3 0 kc3]] w fun e w' => e = .returned (.bool true) ∧ Grow w w' := by
  go_enter Tryd.func7, Tryd.ntmps7
  go_wp2_with fail
  obtain ⟨w1, HW1, H0⟩ : ∃ w1, (((w.alloc (Obj.cells #[.int .i64 k1, .int .i64 n1, .int .i64 s1, .string ⟨#[]⟩, .slice na1 0 nc1, .slice ka1 0 kc1] 25)).alloc (Obj.cells #[.int .i64 k2, .int .i64 n2, .int .i64 s2, .string ⟨#[]⟩, .slice na2 0 nc2, .slice ka2 0 kc2] 25)).alloc (Obj.cells #[.int .i64 k3, .int .i64 n3, .int .i64 s3, .string ⟨#[]⟩, .slice na3 0 nc3, .slice ka3 0 kc3] 25)) = w1 ∧ Hid (Blk w1 (w.heap.size) 25 [.int .i64 k1, .int .i64 n1, .int .i64 s1, .string ⟨#[]⟩, .slice na1 0 nc1, .slice ka1 0 kc1] ∧ Blk w1 (w.heap.size + 1) 25 [.int .i64 k2, .int .i64 n2, .int .i64 s2, .string ⟨#[]⟩, .slice na2 0 nc2, .slice ka2 0 kc2] ∧ Blk w1 (w.heap.size + 2) 25 [.int .i64 k3, .int .i64 n3, .int .i64 s3, .string ⟨#[]⟩, .slice na3 0 nc3, .slice ka3 0 kc3] ∧ Grow w w1) := ⟨_, rfl, (Blk.alloc (Blk.alloc (blk_at rfl) _) _), (Blk.alloc (blk_at (by simp)) _), (blk_at (by simp)), ((((Grow.refl _).alloc _).alloc _).alloc _)⟩
  rw [HW1]
  clear HW1
  refine (K1.out _).mono ?_
  rintro e w2 ⟨rfl, g0⟩
  have H1 : Hid (Blk w2 (w.heap.size) 25 [.int .i64 k1, .int .i64 n1, .int .i64 s1, .string ⟨#[]⟩, .slice na1 0 nc1, .slice ka1 0 kc1] ∧ Blk w2 (w.heap.size + 1) 25 [.int .i64 k2, .int .i64 n2, .int .i64 s2, .string ⟨#[]⟩, .slice na2 0 nc2, .slice ka2 0 kc2] ∧ Blk w2 (w.heap.size + 2) 25 [.int .i64 k3, .int .i64 n3, .int .i64 s3, .string ⟨#[]⟩, .slice na3 0 nc3, .slice ka3 0 kc3] ∧ Grow w w2) := ⟨(H0.out.1).grow g0, (H0.out.2.1).grow g0, (H0.out.2.2.1).grow g0, Grow.trans (H0.out.2.2.2) g0⟩
  clear H0 g0
  have q1_0 : w2.cell? ⟨w.heap.size + 1, 0, none⟩ = some (.int .i64 k2) := (H1.out.2.1).cell 0
  have q1_1 : w2.cell? ⟨w.heap.size + 1, 1, none⟩ = some (.int .i64 n2) := (H1.out.2.1).cell 1
  have q1_2 : w2.cell? ⟨w.heap.size + 1, 2, none⟩ = some (.int .i64 s2) := (H1.out.2.1).cell 2
  have q1_3 : w2.cell? ⟨w.heap.size + 1, 3, none⟩ = some (.string ⟨#[]⟩) := (H1.out.2.1).cell 3
  have q1_4 : w2.cell? ⟨w.heap.size + 1, 4, none⟩ = some (.slice na2 0 nc2) := (H1.out.2.1).cell 4
  have q1_5 : w2.cell? ⟨w.heap.size + 1, 5, none⟩ = some (.slice ka2 0 kc2) := (H1.out.2.1).cell 5
  go_wp2_with fail
  clear q1_0 q1_1 q1_2 q1_3 q1_4 q1_5
  refine (K2.out _).mono ?_
  rintro e w3 ⟨rfl, g1⟩
  have H2 : Hid (Blk w3 (w.heap.size) 25 [.int .i64 k1, .int .i64 n1, .int .i64 s1, .string ⟨#[]⟩, .slice na1 0 nc1, .slice ka1 0 kc1] ∧ Blk w3 (w.heap.size + 1) 25 [.int .i64 k2, .int .i64 n2, .int .i64 s2, .string ⟨#[]⟩, .slice na2 0 nc2, .slice ka2 0 kc2] ∧ Blk w3 (w.heap.size + 2) 25 [.int .i64 k3, .int .i64 n3, .int .i64 s3, .string ⟨#[]⟩, .slice na3 0 nc3, .slice ka3 0 kc3] ∧ Grow w w3) := ⟨(H1.out.1).grow g1, (H1.out.2.1).grow g1, (H1.out.2.2.1).grow g1, Grow.trans (H1.out.2.2.2) g1⟩
  clear H1 g1
  have q2_0 : w3.cell? ⟨w.heap.size + 2, 0, none⟩ = some (.int .i64 k3) := (H2.out.2.2.1).cell 0
  have q2_1 : w3.cell? ⟨w.heap.size + 2, 1, none⟩ = some (.int .i64 n3) := (H2.out.2.2.1).cell 1
  have q2_2 : w3.cell? ⟨w.heap.size + 2, 2, none⟩ = some (.int .i64 s3) := (H2.out.2.2.1).cell 2
  have q2_3 : w3.cell? ⟨w.heap.size + 2, 3, none⟩ = some (.string ⟨#[]⟩) := (H2.out.2.2.1).cell 3
  have q2_4 : w3.cell? ⟨w.heap.size + 2, 4, none⟩ = some (.slice na3 0 nc3) := (H2.out.2.2.1).cell 4
  have q2_5 : w3.cell? ⟨w.heap.size + 2, 5, none⟩ = some (.slice ka3 0 kc3) := (H2.out.2.2.1).cell 5
  go_wp2_with fail
  clear q2_0 q2_1 q2_2 q2_3 q2_4 q2_5
  refine (K3.out _).mono ?_
  rintro e w4 ⟨rfl, g2⟩
  have H3 : Hid (Blk w4 (w.heap.size) 25 [.int .i64 k1, .int .i64 n1, .int .i64 s1, .string ⟨#[]⟩, .slice na1 0 nc1, .slice ka1 0 kc1] ∧ Blk w4 (w.heap.size + 1) 25 [.int .i64 k2, .int .i64 n2, .int .i64 s2, .string ⟨#[]⟩, .slice na2 0 nc2, .slice ka2 0 kc2] ∧ Blk w4 (w.heap.size + 2) 25 [.int .i64 k3, .int .i64 n3, .int .i64 s3, .string ⟨#[]⟩, .slice na3 0 nc3, .slice ka3 0 kc3] ∧ Grow w w4) := ⟨(H2.out.1).grow g2, (H2.out.2.1).grow g2, (H2.out.2.2.1).grow g2, Grow.trans (H2.out.2.2.2) g2⟩
  clear H2 g2
  have q1_0 : w4.cell? ⟨w.heap.size + 1, 0, none⟩ = some (.int .i64 k2) := (H3.out.2.1).cell 0
  have q1_1 : w4.cell? ⟨w.heap.size + 1, 1, none⟩ = some (.int .i64 n2) := (H3.out.2.1).cell 1
  have q1_2 : w4.cell? ⟨w.heap.size + 1, 2, none⟩ = some (.int .i64 s2) := (H3.out.2.1).cell 2
  have q1_3 : w4.cell? ⟨w.heap.size + 1, 3, none⟩ = some (.string ⟨#[]⟩) := (H3.out.2.1).cell 3
  have q1_4 : w4.cell? ⟨w.heap.size + 1, 4, none⟩ = some (.slice na2 0 nc2) := (H3.out.2.1).cell 4
  have q1_5 : w4.cell? ⟨w.heap.size + 1, 5, none⟩ = some (.slice ka2 0 kc2) := (H3.out.2.1).cell 5
  have q2_0 : w4.cell? ⟨w.heap.size + 2, 0, none⟩ = some (.int .i64 k3) := (H3.out.2.2.1).cell 0
  have q2_1 : w4.cell? ⟨w.heap.size + 2, 1, none⟩ = some (.int .i64 n3) := (H3.out.2.2.1).cell 1
  have q2_2 : w4.cell? ⟨w.heap.size + 2, 2, none⟩ = some (.int .i64 s3) := (H3.out.2.2.1).cell 2
  have q2_3 : w4.cell? ⟨w.heap.size + 2, 3, none⟩ = some (.string ⟨#[]⟩) := (H3.out.2.2.1).cell 3
  have q2_4 : w4.cell? ⟨w.heap.size + 2, 4, none⟩ = some (.slice na3 0 nc3) := (H3.out.2.2.1).cell 4
  have q2_5 : w4.cell? ⟨w.heap.size + 2, 5, none⟩ = some (.slice ka3 0 kc3) := (H3.out.2.2.1).cell 5
  go_wp2_with fail
  clear q1_0 q1_1 q1_2 q1_3 q1_4 q1_5 q2_0 q2_1 q2_2 q2_3 q2_4 q2_5
  refine (A1.out _).mono ?_
  rintro e w5 ⟨rfl, g3⟩
  have H4 : Hid (Blk w5 (w.heap.size) 25 [.int .i64 k1, .int .i64 n1, .int .i64 s1, .string ⟨#[]⟩, .slice na1 0 nc1, .slice ka1 0 kc1] ∧ Blk w5 (w.heap.size + 1) 25 [.int .i64 k2, .int .i64 n2, .int .i64 s2, .string ⟨#[]⟩, .slice na2 0 nc2, .slice ka2 0 kc2] ∧ Blk w5 (w.heap.size + 2) 25 [.int .i64 k3, .int .i64 n3, .int .i64 s3, .string ⟨#[]⟩, .slice na3 0 nc3, .slice ka3 0 kc3] ∧ Grow w w5) := ⟨(H3.out.1).grow g3, (H3.out.2.1).grow g3, (H3.out.2.2.1).grow g3, Grow.trans (H3.out.2.2.2) g3⟩
  clear H3 g3
  go_wp2_with (refine al_zero rfl 25 rfl [.int .i64 0, .int .i64 0, .int .i64 0, .string ⟨#[]⟩, .slice none 0 0, .slice none 0 0] zV ?_)
  intro b4 vv4 ss4 zz4 xx4
  go_wp2_with (refine st_all rfl 25 (.tmp 7) (.tmp 34) rfl b4 25 [.int .i64 0, .int .i64 0, .int .i64 0, .string ⟨#[]⟩, .slice none 0 0, .slice none 0 0] [.int .i64 k4, .int .i64 n4, .int .i64 s4, .string ⟨#[]⟩, .slice none 0 0, .slice none 0 0] rfl rfl zz4 rfl sV (ones rfl) ?_)
  intro w6 yy4 mm4
  have H5 : Hid (Blk w6 (w.heap.size) 25 [.int .i64 k1, .int .i64 n1, .int .i64 s1, .string ⟨#[]⟩, .slice na1 0 nc1, .slice ka1 0 kc1] ∧ Blk w6 (w.heap.size + 1) 25 [.int .i64 k2, .int .i64 n2, .int .i64 s2, .string ⟨#[]⟩, .slice na2 0 nc2, .slice ka2 0 kc2] ∧ Blk w6 (w.heap.size + 2) 25 [.int .i64 k3, .int .i64 n3, .int .i64 s3, .string ⟨#[]⟩, .slice na3 0 nc3, .slice ka3 0 kc3] ∧ Blk w6 (b4) 25 [.int .i64 k4, .int .i64 n4, .int .i64 s4, .string ⟨#[]⟩, .slice none 0 0, .slice none 0 0] ∧ Grow w w6) := ⟨(((H4.out.1).kept xx4 (by simp)).kept mm4 (by intro e; injection e with e; have := (H4.out.1).lt; omega)), (((H4.out.2.1).kept xx4 (by simp)).kept mm4 (by intro e; injection e with e; have := (H4.out.2.1).lt; omega)), (((H4.out.2.2.1).kept xx4 (by simp)).kept mm4 (by intro e; injection e with e; have := (H4.out.2.2.1).lt; omega)), yy4, (by have x1 := H4.out.2.2.2; have x2 : Below w.heap.size w vv4 := Below.grown x1 xx4 x1.size (by intro e he; cases he); exact Below.grown x2 mm4 x2.size (by intro e he; injection he with he; have := x1.size; omega))⟩
  clear H4 ss4 zz4 xx4 yy4 mm4
  have q0_0 : w6.cell? ⟨w.heap.size, 0, none⟩ = some (.int .i64 k1) := (H5.out.1).cell 0
  have q0_1 : w6.cell? ⟨w.heap.size, 1, none⟩ = some (.int .i64 n1) := (H5.out.1).cell 1
  have q0_2 : w6.cell? ⟨w.heap.size, 2, none⟩ = some (.int .i64 s1) := (H5.out.1).cell 2
  have q0_3 : w6.cell? ⟨w.heap.size, 3, none⟩ = some (.string ⟨#[]⟩) := (H5.out.1).cell 3
  have q0_4 : w6.cell? ⟨w.heap.size, 4, none⟩ = some (.slice na1 0 nc1) := (H5.out.1).cell 4
  have q0_5 : w6.cell? ⟨w.heap.size, 5, none⟩ = some (.slice ka1 0 kc1) := (H5.out.1).cell 5
  have q1_0 : w6.cell? ⟨w.heap.size + 1, 0, none⟩ = some (.int .i64 k2) := (H5.out.2.1).cell 0
  have q1_1 : w6.cell? ⟨w.heap.size + 1, 1, none⟩ = some (.int .i64 n2) := (H5.out.2.1).cell 1
  have q1_2 : w6.cell? ⟨w.heap.size + 1, 2, none⟩ = some (.int .i64 s2) := (H5.out.2.1).cell 2
  have q1_3 : w6.cell? ⟨w.heap.size + 1, 3, none⟩ = some (.string ⟨#[]⟩) := (H5.out.2.1).cell 3
  have q1_4 : w6.cell? ⟨w.heap.size + 1, 4, none⟩ = some (.slice na2 0 nc2) := (H5.out.2.1).cell 4
  have q1_5 : w6.cell? ⟨w.heap.size + 1, 5, none⟩ = some (.slice ka2 0 kc2) := (H5.out.2.1).cell 5
  go_wp2_with fail
  clear q0_0 q0_1 q0_2 q0_3 q0_4 q0_5 q1_0 q1_1 q1_2 q1_3 q1_4 q1_5
  refine (M1.out _).mono ?_
  rintro e w7 ⟨rfl, g5⟩
  have H6 : Hid (Blk w7 (w.heap.size) 25 [.int .i64 k1, .int .i64 n1, .int .i64 s1, .string ⟨#[]⟩, .slice na1 0 nc1, .slice ka1 0 kc1] ∧ Blk w7 (w.heap.size + 1) 25 [.int .i64 k2, .int .i64 n2, .int .i64 s2, .string ⟨#[]⟩, .slice na2 0 nc2, .slice ka2 0 kc2] ∧ Blk w7 (w.heap.size + 2) 25 [.int .i64 k3, .int .i64 n3, .int .i64 s3, .string ⟨#[]⟩, .slice na3 0 nc3, .slice ka3 0 kc3] ∧ Blk w7 (b4) 25 [.int .i64 k4, .int .i64 n4, .int .i64 s4, .string ⟨#[]⟩, .slice none 0 0, .slice none 0 0] ∧ Grow w w7) := ⟨(H5.out.1).grow g5, (H5.out.2.1).grow g5, (H5.out.2.2.1).grow g5, (H5.out.2.2.2.1).grow g5, Grow.trans (H5.out.2.2.2.2) g5⟩
  clear H5 g5
  go_wp2_with (refine al_zero rfl 25 rfl [.int .i64 0, .int .i64 0, .int .i64 0, .string ⟨#[]⟩, .slice none 0 0, .slice none 0 0] zV ?_)
  intro b5 vv6 ss6 zz6 xx6
  go_wp2_with (refine st_all rfl 25 (.tmp 9) (.tmp 40) rfl b5 25 [.int .i64 0, .int .i64 0, .int .i64 0, .string ⟨#[]⟩, .slice none 0 0, .slice none 0 0] [.int .i64 k5, .int .i64 n5, .int .i64 s5, .string ⟨#[]⟩, .slice none 0 0, .slice none 0 0] rfl rfl zz6 rfl sV (ones rfl) ?_)
  intro w8 yy6 mm6
  have H7 : Hid (Blk w8 (w.heap.size) 25 [.int .i64 k1, .int .i64 n1, .int .i64 s1, .string ⟨#[]⟩, .slice na1 0 nc1, .slice ka1 0 kc1] ∧ Blk w8 (w.heap.size + 1) 25 [.int .i64 k2, .int .i64 n2, .int .i64 s2, .string ⟨#[]⟩, .slice na2 0 nc2, .slice ka2 0 kc2] ∧ Blk w8 (w.heap.size + 2) 25 [.int .i64 k3, .int .i64 n3, .int .i64 s3, .string ⟨#[]⟩, .slice na3 0 nc3, .slice ka3 0 kc3] ∧ Blk w8 (b4) 25 [.int .i64 k4, .int .i64 n4, .int .i64 s4, .string ⟨#[]⟩, .slice none 0 0, .slice none 0 0] ∧ Blk w8 (b5) 25 [.int .i64 k5, .int .i64 n5, .int .i64 s5, .string ⟨#[]⟩, .slice none 0 0, .slice none 0 0] ∧ Grow w w8) := ⟨(((H6.out.1).kept xx6 (by simp)).kept mm6 (by intro e; injection e with e; have := (H6.out.1).lt; omega)), (((H6.out.2.1).kept xx6 (by simp)).kept mm6 (by intro e; injection e with e; have := (H6.out.2.1).lt; omega)), (((H6.out.2.2.1).kept xx6 (by simp)).kept mm6 (by intro e; injection e with e; have := (H6.out.2.2.1).lt; omega)), (((H6.out.2.2.2.1).kept xx6 (by simp)).kept mm6 (by intro e; injection e with e; have := (H6.out.2.2.2.1).lt; omega)), yy6, (by have x1 := H6.out.2.2.2.2; have x2 : Below w.heap.size w vv6 := Below.grown x1 xx6 x1.size (by intro e he; cases he); exact Below.grown x2 mm6 x2.size (by intro e he; injection he with he; have := x1.size; omega))⟩
  clear H6 ss6 zz6 xx6 yy6 mm6
  have q0_0 : w8.cell? ⟨w.heap.size, 0, none⟩ = some (.int .i64 k1) := (H7.out.1).cell 0
  have q0_1 : w8.cell? ⟨w.heap.size, 1, none⟩ = some (.int .i64 n1) := (H7.out.1).cell 1
  have q0_2 : w8.cell? ⟨w.heap.size, 2, none⟩ = some (.int .i64 s1) := (H7.out.1).cell 2
  have q0_3 : w8.cell? ⟨w.heap.size, 3, none⟩ = some (.string ⟨#[]⟩) := (H7.out.1).cell 3
  have q0_4 : w8.cell? ⟨w.heap.size, 4, none⟩ = some (.slice na1 0 nc1) := (H7.out.1).cell 4
  have q0_5 : w8.cell? ⟨w.heap.size, 5, none⟩ = some (.slice ka1 0 kc1) := (H7.out.1).cell 5
  have q2_0 : w8.cell? ⟨w.heap.size + 2, 0, none⟩ = some (.int .i64 k3) := (H7.out.2.2.1).cell 0
  have q2_1 : w8.cell? ⟨w.heap.size + 2, 1, none⟩ = some (.int .i64 n3) := (H7.out.2.2.1).cell 1
  have q2_2 : w8.cell? ⟨w.heap.size + 2, 2, none⟩ = some (.int .i64 s3) := (H7.out.2.2.1).cell 2
  have q2_3 : w8.cell? ⟨w.heap.size + 2, 3, none⟩ = some (.string ⟨#[]⟩) := (H7.out.2.2.1).cell 3
  have q2_4 : w8.cell? ⟨w.heap.size + 2, 4, none⟩ = some (.slice na3 0 nc3) := (H7.out.2.2.1).cell 4
  have q2_5 : w8.cell? ⟨w.heap.size + 2, 5, none⟩ = some (.slice ka3 0 kc3) := (H7.out.2.2.1).cell 5
  go_wp2_with fail
  clear q0_0 q0_1 q0_2 q0_3 q0_4 q0_5 q2_0 q2_1 q2_2 q2_3 q2_4 q2_5
  refine (M2.out _).mono ?_
  rintro e w9 ⟨rfl, g7⟩
  have H8 : Hid (Blk w9 (w.heap.size) 25 [.int .i64 k1, .int .i64 n1, .int .i64 s1, .string ⟨#[]⟩, .slice na1 0 nc1, .slice ka1 0 kc1] ∧ Blk w9 (w.heap.size + 1) 25 [.int .i64 k2, .int .i64 n2, .int .i64 s2, .string ⟨#[]⟩, .slice na2 0 nc2, .slice ka2 0 kc2] ∧ Blk w9 (w.heap.size + 2) 25 [.int .i64 k3, .int .i64 n3, .int .i64 s3, .string ⟨#[]⟩, .slice na3 0 nc3, .slice ka3 0 kc3] ∧ Blk w9 (b4) 25 [.int .i64 k4, .int .i64 n4, .int .i64 s4, .string ⟨#[]⟩, .slice none 0 0, .slice none 0 0] ∧ Blk w9 (b5) 25 [.int .i64 k5, .int .i64 n5, .int .i64 s5, .string ⟨#[]⟩, .slice none 0 0, .slice none 0 0] ∧ Grow w w9) := ⟨(H7.out.1).grow g7, (H7.out.2.1).grow g7, (H7.out.2.2.1).grow g7, (H7.out.2.2.2.1).grow g7, (H7.out.2.2.2.2.1).grow g7, Grow.trans (H7.out.2.2.2.2.2) g7⟩
  clear H7 g7
  go_wp2_with (refine al_zero rfl 25 rfl [.int .i64 0, .int .i64 0, .int .i64 0, .string ⟨#[]⟩, .slice none 0 0, .slice none 0 0] zV ?_)
  intro b6 vv8 ss8 zz8 xx8
  go_wp2_with (refine st_all rfl 25 (.tmp 11) (.tmp 46) rfl b6 25 [.int .i64 0, .int .i64 0, .int .i64 0, .string ⟨#[]⟩, .slice none 0 0, .slice none 0 0] [.int .i64 k6, .int .i64 n6, .int .i64 s6, .string ⟨#[]⟩, .slice none 0 0, .slice none 0 0] rfl rfl zz8 rfl sV (ones rfl) ?_)
  intro w10 yy8 mm8
  have H9 : Hid (Blk w10 (w.heap.size) 25 [.int .i64 k1, .int .i64 n1, .int .i64 s1, .string ⟨#[]⟩, .slice na1 0 nc1, .slice ka1 0 kc1] ∧ Blk w10 (w.heap.size + 1) 25 [.int .i64 k2, .int .i64 n2, .int .i64 s2, .string ⟨#[]⟩, .slice na2 0 nc2, .slice ka2 0 kc2] ∧ Blk w10 (w.heap.size + 2) 25 [.int .i64 k3, .int .i64 n3, .int .i64 s3, .string ⟨#[]⟩, .slice na3 0 nc3, .slice ka3 0 kc3] ∧ Blk w10 (b4) 25 [.int .i64 k4, .int .i64 n4, .int .i64 s4, .string ⟨#[]⟩, .slice none 0 0, .slice none 0 0] ∧ Blk w10 (b5) 25 [.int .i64 k5, .int .i64 n5, .int .i64 s5, .string ⟨#[]⟩, .slice none 0 0, .slice none 0 0] ∧ Blk w10 (b6) 25 [.int .i64 k6, .int .i64 n6, .int .i64 s6, .string ⟨#[]⟩, .slice none 0 0, .slice none 0 0] ∧ Grow w w10) := ⟨(((H8.out.1).kept xx8 (by simp)).kept mm8 (by intro e; injection e with e; have := (H8.out.1).lt; omega)), (((H8.out.2.1).kept xx8 (by simp)).kept mm8 (by intro e; injection e with e; have := (H8.out.2.1).lt; omega)), (((H8.out.2.2.1).kept xx8 (by simp)).kept mm8 (by intro e; injection e with e; have := (H8.out.2.2.1).lt; omega)), (((H8.out.2.2.2.1).kept xx8 (by simp)).kept mm8 (by intro e; injection e with e; have := (H8.out.2.2.2.1).lt; omega)), (((H8.out.2.2.2.2.1).kept xx8 (by simp)).kept mm8 (by intro e; injection e with e; have := (H8.out.2.2.2.2.1).lt; omega)), yy8, (by have x1 := H8.out.2.2.2.2.2; have x2 : Below w.heap.size w vv8 := Below.grown x1 xx8 x1.size (by intro e he; cases he); exact Below.grown x2 mm8 x2.size (by intro e he; injection he with he; have := x1.size; omega))⟩
  clear H8 ss8 zz8 xx8 yy8 mm8
  go_wp2_with fail
  refine (known_any _).mono ?_
  rintro e w11 ⟨rfl, g9⟩
  have H10 : Hid (Blk w11 (w.heap.size) 25 [.int .i64 k1, .int .i64 n1, .int .i64 s1, .string ⟨#[]⟩, .slice na1 0 nc1, .slice ka1 0 kc1] ∧ Blk w11 (w.heap.size + 1) 25 [.int .i64 k2, .int .i64 n2, .int .i64 s2, .string ⟨#[]⟩, .slice na2 0 nc2, .slice ka2 0 kc2] ∧ Blk w11 (w.heap.size + 2) 25 [.int .i64 k3, .int .i64 n3, .int .i64 s3, .string ⟨#[]⟩, .slice na3 0 nc3, .slice ka3 0 kc3] ∧ Blk w11 (b4) 25 [.int .i64 k4, .int .i64 n4, .int .i64 s4, .string ⟨#[]⟩, .slice none 0 0, .slice none 0 0] ∧ Blk w11 (b5) 25 [.int .i64 k5, .int .i64 n5, .int .i64 s5, .string ⟨#[]⟩, .slice none 0 0, .slice none 0 0] ∧ Blk w11 (b6) 25 [.int .i64 k6, .int .i64 n6, .int .i64 s6, .string ⟨#[]⟩, .slice none 0 0, .slice none 0 0] ∧ Grow w w11) := ⟨(H9.out.1).grow g9, (H9.out.2.1).grow g9, (H9.out.2.2.1).grow g9, (H9.out.2.2.2.1).grow g9, (H9.out.2.2.2.2.1).grow g9, (H9.out.2.2.2.2.2.1).grow g9, Grow.trans (H9.out.2.2.2.2.2.2) g9⟩
  clear H9 g9
  go_wp2
  go_ret
  exact ⟨rfl, H10.out.2.2.2.2.2.2⟩
set_option maxRecDepth 8000 in
set_option maxHeartbeats 1000000 in
theorem spreads_s3 (k1 n1 s1 : Int) (na1 : Option Addr) (nc1 : Nat) (ka1 : Option Addr) (kc1 : Nat) (k2 n2 s2 : Int) (na2 : Option Addr) (nc2 : Nat) (ka2 : Option Addr) (kc2 : Nat) (k3 n3 s3 : Int) (na3 : Option Addr) (nc3 : Nat) (ka3 : Option Addr) (kc3 : Nat) (k4 n4 s4 k5 n5 s5 k6 n6 s6 e5 e6 : Int) (K1 : Hid (∀ W, Calls Tryd.prog 12 #[.agg #[.int .i64 k1, .int .i64 n1, .int .i64 s1, .string ⟨#[]⟩, .slice na1 0 nc1, .slice ka1 0 kc1]] W fun e w' => e = .returned (.bool true) ∧ Grow W w')) (K2 : Hid (∀ W, Calls Tryd.prog 12 #[.agg #[.int .i64 k2, .int .i64 n2, .int .i64 s2, .string ⟨#[]⟩, .slice na2 0 nc2, .slice ka2 0 kc2]] W fun e w' => e = .returned (.bool true) ∧ Grow W w')) (K3 : Hid (∀ W, Calls Tryd.prog 12 #[.agg #[.int .i64 k3, .int .i64 n3, .int .i64 s3, .string ⟨#[]⟩, .slice na3 0 nc3, .slice ka3 0 kc3]] W fun e w' => e = .returned (.bool true) ∧ Grow W w')) (A1 : Hid (∀ W, Calls Tryd.prog 13 #[.agg #[.int .i64 k2, .int .i64 n2, .int .i64 s2, .string ⟨#[]⟩, .slice na2 0 nc2, .slice ka2 0 kc2], .agg #[.int .i64 k3, .int .i64 n3, .int .i64 s3, .string ⟨#[]⟩, .slice na3 0 nc3, .slice ka3 0 kc3]] W fun e w' => e = .returned (.tuple #[.agg #[.int .i64 k4, .int .i64 n4, .int .i64 s4, .string ⟨#[]⟩, .slice none 0 0, .slice none 0 0], .int .i64 0]) ∧ Grow W w')) (M1 : Hid (∀ W, Calls Tryd.prog 14 #[.agg #[.int .i64 k1, .int .i64 n1, .int .i64 s1, .string ⟨#[]⟩, .slice na1 0 nc1, .slice ka1 0 kc1], .agg #[.int .i64 k2, .int .i64 n2, .int .i64 s2, .string ⟨#[]⟩, .slice na2 0 nc2, .slice ka2 0 kc2]] W fun e w' => e = .returned (.tuple #[.agg #[.int .i64 k5, .int .i64 n5, .int .i64 s5, .string ⟨#[]⟩, .slice none 0 0, .slice none 0 0], .int .i64 0]) ∧ Grow W w')) (M2 : Hid (∀ W, Calls Tryd.prog 14 #[.agg #[.int .i64 k1, .int .i64 n1, .int .i64 s1, .string ⟨#[]⟩, .slice na1 0 nc1, .slice ka1 0 kc1], .agg #[.int .i64 k3, .int .i64 n3, .int .i64 s3, .string ⟨#[]⟩, .slice na3 0 nc3, .slice ka3 0 kc3]] W fun e w' => e = .returned (.tuple #[.agg #[.int .i64 k6, .int .i64 n6, .int .i64 s6, .string ⟨#[]⟩, .slice none 0 0, .slice none 0 0], .int .i64 10]) ∧ Grow W w')) (w : World) :
    Calls Tryd.prog 7 #[.agg #[.int .i64 k1, .int .i64 n1, .int .i64 s1, .string ⟨#[]⟩, .slice na1 0 nc1, .slice ka1 0 kc1], .agg #[.int .i64 k2, .int .i64 n2, .int .i64 s2, .string ⟨#[]⟩, .slice na2 0 nc2, .slice ka2 0 kc2], .agg #[.int .i64 k3, .int .i64 n3, .int .i64 s3, .string ⟨#[]⟩, .slice na3 0 nc3, .slice ka3 0 kc3]] w fun e w' => e = .returned (.bool true) ∧ Grow w w' := by
  go_enter Tryd.func7, Tryd.ntmps7
  go_wp2_with fail
  obtain ⟨w1, HW1, H0⟩ : ∃ w1, (((w.alloc (Obj.cells #[.int .i64 k1, .int .i64 n1, .int .i64 s1, .string ⟨#[]⟩, .slice na1 0 nc1, .slice ka1 0 kc1] 25)).alloc (Obj.cells #[.int .i64 k2, .int .i64 n2, .int .i64 s2, .string ⟨#[]⟩, .slice na2 0 nc2, .slice ka2 0 kc2] 25)).alloc (Obj.cells #[.int .i64 k3, .int .i64 n3, .int .i64 s3, .string ⟨#[]⟩, .slice na3 0 nc3, .slice ka3 0 kc3] 25)) = w1 ∧ Hid (Blk w1 (w.heap.size) 25 [.int .i64 k1, .int .i64 n1, .int .i64 s1, .string ⟨#[]⟩, .slice na1 0 nc1, .slice ka1 0 kc1] ∧ Blk w1 (w.heap.size + 1) 25 [.int .i64 k2, .int .i64 n2, .int .i64 s2, .string ⟨#[]⟩, .slice na2 0 nc2, .slice ka2 0 kc2] ∧ Blk w1 (w.heap.size + 2) 25 [.int .i64 k3, .int .i64 n3, .int .i64 s3, .string ⟨#[]⟩, .slice na3 0 nc3, .slice ka3 0 kc3] ∧ Grow w w1) := ⟨_, rfl, (Blk.alloc (Blk.alloc (blk_at rfl) _) _), (Blk.alloc (blk_at (by simp)) _), (blk_at (by simp)), ((((Grow.refl _).alloc _).alloc _).alloc _)⟩
  rw [HW1]
  clear HW1
  refine (K1.out _).mono ?_
  rintro e w2 ⟨rfl, g0⟩
  have H1 : Hid (Blk w2 (w.heap.size) 25 [.int .i64 k1, .int .i64 n1, .int .i64 s1, .string ⟨#[]⟩, .slice na1 0 nc1, .slice ka1 0 kc1] ∧ Blk w2 (w.heap.size + 1) 25 [.int .i64 k2, .int .i64 n2, .int .i64 s2, .string ⟨#[]⟩, .slice na2 0 nc2, .slice ka2 0 kc2] ∧ Blk w2 (w.heap.size + 2) 25 [.int .i64 k3, .int .i64 n3, .int .i64 s3, .string ⟨#[]⟩, .slice na3 0 nc3, .slice ka3 0 kc3] ∧ Grow w w2) := ⟨(H0.out.1).grow g0, (H0.out.2.1).grow g0, (H0.out.2.2.1).grow g0, Grow.trans (H0.out.2.2.2) g0⟩
  clear H0 g0
  have q1_0 : w2.cell? ⟨w.heap.size + 1, 0, none⟩ = some (.int .i64 k2) := (H1.out.2.1).cell 0
  have q1_1 : w2.cell? ⟨w.heap.size + 1, 1, none⟩ = some (.int .i64 n2) := (H1.out.2.1).cell 1
  have q1_2 : w2.cell? ⟨w.heap.size + 1, 2, none⟩ = some (.int .i64 s2) := (H1.out.2.1).cell 2
  have q1_3 : w2.cell? ⟨w.heap.size + 1, 3, none⟩ = some (.string ⟨#[]⟩) := (H1.out.2.1).cell 3
  have q1_4 : w2.cell? ⟨w.heap.size + 1, 4, none⟩ = some (.slice na2 0 nc2) := (H1.out.2.1).cell 4
  have q1_5 : w2.cell? ⟨w.heap.size + 1, 5, none⟩ = some (.slice ka2 0 kc2) := (H1.out.2.1).cell 5
  go_wp2_with fail
  clear q1_0 q1_1 q1_2 q1_3 q1_4 q1_5
  refine (K2.out _).mono ?_
  rintro e w3 ⟨rfl, g1⟩
  have H2 : Hid (Blk w3 (w.heap.size) 25 [.int .i64 k1, .int .i64 n1, .int .i64 s1, .string ⟨#[]⟩, .slice na1 0 nc1, .slice ka1 0 kc1] ∧ Blk w3 (w.heap.size + 1) 25 [.int .i64 k2, .int .i64 n2, .int .i64 s2, .string ⟨#[]⟩, .slice na2 0 nc2, .slice ka2 0 kc2] ∧ Blk w3 (w.heap.size + 2) 25 [.int .i64 k3, .int .i64 n3, .int .i64 s3, .string ⟨#[]⟩, .slice na3 0 nc3, .slice ka3 0 kc3] ∧ Grow w w3) := ⟨(H1.out.1).grow g1, (H1.out.2.1).grow g1, (H1.out.2.2.1).grow g1, Grow.trans (H1.out.2.2.2) g1⟩
  clear H1 g1
  have q2_0 : w3.cell? ⟨w.heap.size + 2, 0, none⟩ = some (.int .i64 k3) := (H2.out.2.2.1).cell 0
  have q2_1 : w3.cell? ⟨w.heap.size + 2, 1, none⟩ = some (.int .i64 n3) := (H2.out.2.2.1).cell 1
  have q2_2 : w3.cell? ⟨w.heap.size + 2, 2, none⟩ = some (.int .i64 s3) := (H2.out.2.2.1).cell 2
  have q2_3 : w3.cell? ⟨w.heap.size + 2, 3, none⟩ = some (.string ⟨#[]⟩) := (H2.out.2.2.1).cell 3
  have q2_4 : w3.cell? ⟨w.heap.size + 2, 4, none⟩ = some (.slice na3 0 nc3) := (H2.out.2.2.1).cell 4
  have q2_5 : w3.cell? ⟨w.heap.size + 2, 5, none⟩ = some (.slice ka3 0 kc3) := (H2.out.2.2.1).cell 5
  go_wp2_with fail
  clear q2_0 q2_1 q2_2 q2_3 q2_4 q2_5
  refine (K3.out _).mono ?_
  rintro e w4 ⟨rfl, g2⟩
  have H3 : Hid (Blk w4 (w.heap.size) 25 [.int .i64 k1, .int .i64 n1, .int .i64 s1, .string ⟨#[]⟩, .slice na1 0 nc1, .slice ka1 0 kc1] ∧ Blk w4 (w.heap.size + 1) 25 [.int .i64 k2, .int .i64 n2, .int .i64 s2, .string ⟨#[]⟩, .slice na2 0 nc2, .slice ka2 0 kc2] ∧ Blk w4 (w.heap.size + 2) 25 [.int .i64 k3, .int .i64 n3, .int .i64 s3, .string ⟨#[]⟩, .slice na3 0 nc3, .slice ka3 0 kc3] ∧ Grow w w4) := ⟨(H2.out.1).grow g2, (H2.out.2.1).grow g2, (H2.out.2.2.1).grow g2, Grow.trans (H2.out.2.2.2) g2⟩
  clear H2 g2
  have q1_0 : w4.cell? ⟨w.heap.size + 1, 0, none⟩ = some (.int .i64 k2) := (H3.out.2.1).cell 0
  have q1_1 : w4.cell? ⟨w.heap.size + 1, 1, none⟩ = some (.int .i64 n2) := (H3.out.2.1).cell 1
  have q1_2 : w4.cell? ⟨w.heap.size + 1, 2, none⟩ = some (.int .i64 s2) := (H3.out.2.1).cell 2
  have q1_3 : w4.cell? ⟨w.heap.size + 1, 3, none⟩ = some (.string ⟨#[]⟩) := (H3.out.2.1).cell 3
  have q1_4 : w4.cell? ⟨w.heap.size + 1, 4, none⟩ = some (.slice na2 0 nc2) := (H3.out.2.1).cell 4
  have q1_5 : w4.cell? ⟨w.heap.size + 1, 5, none⟩ = some (.slice ka2 0 kc2) := (H3.out.2.1).cell 5
  have q2_0 : w4.cell? ⟨w.heap.size + 2, 0, none⟩ = some (.int .i64 k3) := (H3.out.2.2.1).cell 0
  have q2_1 : w4.cell? ⟨w.heap.size + 2, 1, none⟩ = some (.int .i64 n3) := (H3.out.2.2.1).cell 1
  have q2_2 : w4.cell? ⟨w.heap.size + 2, 2, none⟩ = some (.int .i64 s3) := (H3.out.2.2.1).cell 2
  have q2_3 : w4.cell? ⟨w.heap.size + 2, 3, none⟩ = some (.string ⟨#[]⟩) := (H3.out.2.2.1).cell 3
  have q2_4 : w4.cell? ⟨w.heap.size + 2, 4, none⟩ = some (.slice na3 0 nc3) := (H3.out.2.2.1).cell 4
  have q2_5 : w4.cell? ⟨w.heap.size + 2, 5, none⟩ = some (.slice ka3 0 kc3) := (H3.out.2.2.1).cell 5
  go_wp2_with fail
  clear q1_0 q1_1 q1_2 q1_3 q1_4 q1_5 q2_0 q2_1 q2_2 q2_3 q2_4 q2_5
  refine (A1.out _).mono ?_
  rintro e w5 ⟨rfl, g3⟩
  have H4 : Hid (Blk w5 (w.heap.size) 25 [.int .i64 k1, .int .i64 n1, .int .i64 s1, .string ⟨#[]⟩, .slice na1 0 nc1, .slice ka1 0 kc1] ∧ Blk w5 (w.heap.size + 1) 25 [.int .i64 k2, .int .i64 n2, .int .i64 s2, .string ⟨#[]⟩, .slice na2 0 nc2, .slice ka2 0 kc2] ∧ Blk w5 (w.heap.size + 2) 25 [.int .i64 k3, .int .i64 n3, .int .i64 s3, .string ⟨#[]⟩, .slice na3 0 nc3, .slice ka3 0 kc3] ∧ Grow w w5) := ⟨(H3.out.1).grow g3, (H3.out.2.1).grow g3, (H3.out.2.2.1).grow g3, Grow.trans (H3.out.2.2.2) g3⟩
  clear H3 g3
  go_wp2_with (refine al_zero rfl 25 rfl [.int .i64 0, .int .i64 0, .int .i64 0, .string ⟨#[]⟩, .slice none 0 0, .slice none 0 0] zV ?_)
  intro b4 vv4 ss4 zz4 xx4
  go_wp2_with (refine st_all rfl 25 (.tmp 7) (.tmp 34) rfl b4 25 [.int .i64 0, .int .i64 0, .int .i64 0, .string ⟨#[]⟩, .slice none 0 0, .slice none 0 0] [.int .i64 k4, .int .i64 n4, .int .i64 s4, .string ⟨#[]⟩, .slice none 0 0, .slice none 0 0] rfl rfl zz4 rfl sV (ones rfl) ?_)
  intro w6 yy4 mm4
  have H5 : Hid (Blk w6 (w.heap.size) 25 [.int .i64 k1, .int .i64 n1, .int .i64 s1, .string ⟨#[]⟩, .slice na1 0 nc1, .slice ka1 0 kc1] ∧ Blk w6 (w.heap.size + 1) 25 [.int .i64 k2, .int .i64 n2, .int .i64 s2, .string ⟨#[]⟩, .slice na2 0 nc2, .slice ka2 0 kc2] ∧ Blk w6 (w.heap.size + 2) 25 [.int .i64 k3, .int .i64 n3, .int .i64 s3, .string ⟨#[]⟩, .slice na3 0 nc3, .slice ka3 0 kc3] ∧ Blk w6 (b4) 25 [.int .i64 k4, .int .i64 n4, .int .i64 s4, .string ⟨#[]⟩, .slice none 0 0, .slice none 0 0] ∧ Grow w w6) := ⟨(((H4.out.1).kept xx4 (by simp)).kept mm4 (by intro e; injection e with e; have := (H4.out.1).lt; omega)), (((H4.out.2.1).kept xx4 (by simp)).kept mm4 (by intro e; injection e with e; have := (H4.out.2.1).lt; omega)), (((H4.out.2.2.1).kept xx4 (by simp)).kept mm4 (by intro e; injection e with e; have := (H4.out.2.2.1).lt; omega)), yy4, (by have x1 := H4.out.2.2.2; have x2 : Below w.heap.size w vv4 := Below.grown x1 xx4 x1.size (by intro e he; cases he); exact Below.grown x2 mm4 x2.size (by intro e he; injection he with he; have := x1.size; omega))⟩
  clear H4 ss4 zz4 xx4 yy4 mm4
  have q0_0 : w6.cell? ⟨w.heap.size, 0, none⟩ = some (.int .i64 k1) := (H5.out.1).cell 0
  have q0_1 : w6.cell? ⟨w.heap.size, 1, none⟩ = some (.int .i64 n1) := (H5.out.1).cell 1
  have q0_2 : w6.cell? ⟨w.heap.size, 2, none⟩ = some (.int .i64 s1) := (H5.out.1).cell 2
  have q0_3 : w6.cell? ⟨w.heap.size, 3, none⟩ = some (.string ⟨#[]⟩) := (H5.out.1).cell 3
  have q0_4 : w6.cell? ⟨w.heap.size, 4, none⟩ = some (.slice na1 0 nc1) := (H5.out.1).cell 4
  have q0_5 : w6.cell? ⟨w.heap.size, 5, none⟩ = some (.slice ka1 0 kc1) := (H5.out.1).cell 5
  have q1_0 : w6.cell? ⟨w.heap.size + 1, 0, none⟩ = some (.int .i64 k2) := (H5.out.2.1).cell 0
  have q1_1 : w6.cell? ⟨w.heap.size + 1, 1, none⟩ = some (.int .i64 n2) := (H5.out.2.1).cell 1
  have q1_2 : w6.cell? ⟨w.heap.size + 1, 2, none⟩ = some (.int .i64 s2) := (H5.out.2.1).cell 2
  have q1_3 : w6.cell? ⟨w.heap.size + 1, 3, none⟩ = some (.string ⟨#[]⟩) := (H5.out.2.1).cell 3
  have q1_4 : w6.cell? ⟨w.heap.size + 1, 4, none⟩ = some (.slice na2 0 nc2) := (H5.out.2.1).cell 4
  have q1_5 : w6.cell? ⟨w.heap.size + 1, 5, none⟩ = some (.slice ka2 0 kc2) := (H5.out.2.1).cell 5
  go_wp2_with fail
  clear q0_0 q0_1 q0_2 q0_3 q0_4 q0_5 q1_0 q1_1 q1_2 q1_3 q1_4 q1_5
  refine (M1.out _).mono ?_
  rintro e w7 ⟨rfl, g5⟩
  have H6 : Hid (Blk w7 (w.heap.size) 25 [.int .i64 k1, .int .i64 n1, .int .i64 s1, .string ⟨#[]⟩, .slice na1 0 nc1, .slice ka1 0 kc1] ∧ Blk w7 (w.heap.size + 1) 25 [.int .i64 k2, .int .i64 n2, .int .i64 s2, .string ⟨#[]⟩, .slice na2 0 nc2, .slice ka2 0 kc2] ∧ Blk w7 (w.heap.size + 2) 25 [.int .i64 k3, .int .i64 n3, .int .i64 s3, .string ⟨#[]⟩, .slice na3 0 nc3, .slice ka3 0 kc3] ∧ Blk w7 (b4) 25 [.int .i64 k4, .int .i64 n4, .int .i64 s4, .string ⟨#[]⟩, .slice none 0 0, .slice none 0 0] ∧ Grow w w7) := ⟨(H5.out.1).grow g5, (H5.out.2.1).grow g5, (H5.out.2.2.1).grow g5, (H5.out.2.2.2.1).grow g5, Grow.trans (H5.out.2.2.2.2) g5⟩
  clear H5 g5
  go_wp2_with (refine al_zero rfl 25 rfl [.int .i64 0, .int .i64 0, .int .i64 0, .string ⟨#[]⟩, .slice none 0 0, .slice none 0 0] zV ?_)
  intro b5 vv6 ss6 zz6 xx6
  go_wp2_with (refine st_all rfl 25 (.tmp 9) (.tmp 40) rfl b5 25 [.int .i64 0, .int .i64 0, .int .i64 0, .string ⟨#[]⟩, .slice none 0 0, .slice none 0 0] [.int .i64 k5, .int .i64 n5, .int .i64 s5, .string ⟨#[]⟩, .slice none 0 0, .slice none 0 0] rfl rfl zz6 rfl sV (ones rfl) ?_)
  intro w8 yy6 mm6
  have H7 : Hid (Blk w8 (w.heap.size) 25 [.int .i64 k1, .int .i64 n1, .int .i64 s1, .string ⟨#[]⟩, .slice na1 0 nc1, .slice ka1 0 kc1] ∧ Blk w8 (w.heap.size + 1) 25 [.int .i64 k2, .int .i64 n2, .int .i64 s2, .string ⟨#[]⟩, .slice na2 0 nc2, .slice ka2 0 kc2] ∧ Blk w8 (w.heap.size + 2) 25 [.int .i64 k3, .int .i64 n3, .int .i64 s3, .string ⟨#[]⟩, .slice na3 0 nc3, .slice ka3 0 kc3] ∧ Blk w8 (b4) 25 [.int .i64 k4, .int .i64 n4, .int .i64 s4, .string ⟨#[]⟩, .slice none 0 0, .slice none 0 0] ∧ Blk w8 (b5) 25 [.int .i64 k5, .int .i64 n5, .int .i64 s5, .string ⟨#[]⟩, .slice none 0 0, .slice none 0 0] ∧ Grow w w8) := ⟨(((H6.out.1).kept xx6 (by simp)).kept mm6 (by intro e; injection e with e; have := (H6.out.1).lt; omega)), (((H6.out.2.1).kept xx6 (by simp)).kept mm6 (by intro e; injection e with e; have := (H6.out.2.1).lt; omega)), (((H6.out.2.2.1).kept xx6 (by simp)).kept mm6 (by intro e; injection e with e; have := (H6.out.2.2.1).lt; omega)), (((H6.out.2.2.2.1).kept xx6 (by simp)).kept mm6 (by intro e; injection e with e; have := (H6.out.2.2.2.1).lt; omega)), yy6, (by have x1 := H6.out.2.2.2.2; have x2 : Below w.heap.size w vv6 := Below.grown x1 xx6 x1.size (by intro e he; cases he); exact Below.grown x2 mm6 x2.size (by intro e he; injection he with he; have := x1.size; omega))⟩
  clear H6 ss6 zz6 xx6 yy6 mm6
  have q0_0 : w8.cell? ⟨w.heap.size, 0, none⟩ = some (.int .i64 k1) := (H7.out.1).cell 0
  have q0_1 : w8.cell? ⟨w.heap.size, 1, none⟩ = some (.int .i64 n1) := (H7.out.1).cell 1
  have q0_2 : w8.cell? ⟨w.heap.size, 2, none⟩ = some (.int .i64 s1) := (H7.out.1).cell 2
  have q0_3 : w8.cell? ⟨w.heap.size, 3, none⟩ = some (.string ⟨#[]⟩) := (H7.out.1).cell 3
  have q0_4 : w8.cell? ⟨w.heap.size, 4, none⟩ = some (.slice na1 0 nc1) := (H7.out.1).cell 4
  have q0_5 : w8.cell? ⟨w.heap.size, 5, none⟩ = some (.slice ka1 0 kc1) := (H7.out.1).cell 5
  have q2_0 : w8.cell? ⟨w.heap.size + 2, 0, none⟩ = some (.int .i64 k3) := (H7.out.2.2.1).cell 0
  have q2_1 : w8.cell? ⟨w.heap.size + 2, 1, none⟩ = some (.int .i64 n3) := (H7.out.2.2.1).cell 1
  have q2_2 : w8.cell? ⟨w.heap.size + 2, 2, none⟩ = some (.int .i64 s3) := (H7.out.2.2.1).cell 2
  have q2_3 : w8.cell? ⟨w.heap.size + 2, 3, none⟩ = some (.string ⟨#[]⟩) := (H7.out.2.2.1).cell 3
  have q2_4 : w8.cell? ⟨w.heap.size + 2, 4, none⟩ = some (.slice na3 0 nc3) := (H7.out.2.2.1).cell 4
  have q2_5 : w8.cell? ⟨w.heap.size + 2, 5, none⟩ = some (.slice ka3 0 kc3) := (H7.out.2.2.1).cell 5
  go_wp2_with fail
  clear q0_0 q0_1 q0_2 q0_3 q0_4 q0_5 q2_0 q2_1 q2_2 q2_3 q2_4 q2_5
  refine (M2.out _).mono ?_
  rintro e w9 ⟨rfl, g7⟩
  have H8 : Hid (Blk w9 (w.heap.size) 25 [.int .i64 k1, .int .i64 n1, .int .i64 s1, .string ⟨#[]⟩, .slice na1 0 nc1, .slice ka1 0 kc1] ∧ Blk w9 (w.heap.size + 1) 25 [.int .i64 k2, .int .i64 n2, .int .i64 s2, .string ⟨#[]⟩, .slice na2 0 nc2, .slice ka2 0 kc2] ∧ Blk w9 (w.heap.size + 2) 25 [.int .i64 k3, .int .i64 n3, .int .i64 s3, .string ⟨#[]⟩, .slice na3 0 nc3, .slice ka3 0 kc3] ∧ Blk w9 (b4) 25 [.int .i64 k4, .int .i64 n4, .int .i64 s4, .string ⟨#[]⟩, .slice none 0 0, .slice none 0 0] ∧ Blk w9 (b5) 25 [.int .i64 k5, .int .i64 n5, .int .i64 s5, .string ⟨#[]⟩, .slice none 0 0, .slice none 0 0] ∧ Grow w w9) := ⟨(H7.out.1).grow g7, (H7.out.2.1).grow g7, (H7.out.2.2.1).grow g7, (H7.out.2.2.2.1).grow g7, (H7.out.2.2.2.2.1).grow g7, Grow.trans (H7.out.2.2.2.2.2) g7⟩
  clear H7 g7
  go_wp2_with (refine al_zero rfl 25 rfl [.int .i64 0, .int .i64 0, .int .i64 0, .string ⟨#[]⟩, .slice none 0 0, .slice none 0 0] zV ?_)
  intro b6 vv8 ss8 zz8 xx8
  go_wp2_with (refine st_all rfl 25 (.tmp 11) (.tmp 46) rfl b6 25 [.int .i64 0, .int .i64 0, .int .i64 0, .string ⟨#[]⟩, .slice none 0 0, .slice none 0 0] [.int .i64 k6, .int .i64 n6, .int .i64 s6, .string ⟨#[]⟩, .slice none 0 0, .slice none 0 0] rfl rfl zz8 rfl sV (ones rfl) ?_)
  intro w10 yy8 mm8
  have H9 : Hid (Blk w10 (w.heap.size) 25 [.int .i64 k1, .int .i64 n1, .int .i64 s1, .string ⟨#[]⟩, .slice na1 0 nc1, .slice ka1 0 kc1] ∧ Blk w10 (w.heap.size + 1) 25 [.int .i64 k2, .int .i64 n2, .int .i64 s2, .string ⟨#[]⟩, .slice na2 0 nc2, .slice ka2 0 kc2] ∧ Blk w10 (w.heap.size + 2) 25 [.int .i64 k3, .int .i64 n3, .int .i64 s3, .string ⟨#[]⟩, .slice na3 0 nc3, .slice ka3 0 kc3] ∧ Blk w10 (b4) 25 [.int .i64 k4, .int .i64 n4, .int .i64 s4, .string ⟨#[]⟩, .slice none 0 0, .slice none 0 0] ∧ Blk w10 (b5) 25 [.int .i64 k5, .int .i64 n5, .int .i64 s5, .string ⟨#[]⟩, .slice none 0 0, .slice none 0 0] ∧ Blk w10 (b6) 25 [.int .i64 k6, .int .i64 n6, .int .i64 s6, .string ⟨#[]⟩, .slice none 0 0, .slice none 0 0] ∧ Grow w w10) := ⟨(((H8.out.1).kept xx8 (by simp)).kept mm8 (by intro e; injection e with e; have := (H8.out.1).lt; omega)), (((H8.out.2.1).kept xx8 (by simp)).kept mm8 (by intro e; injection e with e; have := (H8.out.2.1).lt; omega)), (((H8.out.2.2.1).kept xx8 (by simp)).kept mm8 (by intro e; injection e with e; have := (H8.out.2.2.1).lt; omega)), (((H8.out.2.2.2.1).kept xx8 (by simp)).kept mm8 (by intro e; injection e with e; have := (H8.out.2.2.2.1).lt; omega)), (((H8.out.2.2.2.2.1).kept xx8 (by simp)).kept mm8 (by intro e; injection e with e; have := (H8.out.2.2.2.2.1).lt; omega)), yy8, (by have x1 := H8.out.2.2.2.2.2; have x2 : Below w.heap.size w vv8 := Below.grown x1 xx8 x1.size (by intro e he; cases he); exact Below.grown x2 mm8 x2.size (by intro e he; injection he with he; have := x1.size; omega))⟩
  clear H8 ss8 zz8 xx8 yy8 mm8
  go_wp2_with fail
  refine (known_any _).mono ?_
  rintro e w11 ⟨rfl, g9⟩
  have H10 : Hid (Blk w11 (w.heap.size) 25 [.int .i64 k1, .int .i64 n1, .int .i64 s1, .string ⟨#[]⟩, .slice na1 0 nc1, .slice ka1 0 kc1] ∧ Blk w11 (w.heap.size + 1) 25 [.int .i64 k2, .int .i64 n2, .int .i64 s2, .string ⟨#[]⟩, .slice na2 0 nc2, .slice ka2 0 kc2] ∧ Blk w11 (w.heap.size + 2) 25 [.int .i64 k3, .int .i64 n3, .int .i64 s3, .string ⟨#[]⟩, .slice na3 0 nc3, .slice ka3 0 kc3] ∧ Blk w11 (b4) 25 [.int .i64 k4, .int .i64 n4, .int .i64 s4, .string ⟨#[]⟩, .slice none 0 0, .slice none 0 0] ∧ Blk w11 (b5) 25 [.int .i64 k5, .int .i64 n5, .int .i64 s5, .string ⟨#[]⟩, .slice none 0 0, .slice none 0 0] ∧ Blk w11 (b6) 25 [.int .i64 k6, .int .i64 n6, .int .i64 s6, .string ⟨#[]⟩, .slice none 0 0, .slice none 0 0] ∧ Grow w w11) := ⟨(H9.out.1).grow g9, (H9.out.2.1).grow g9, (H9.out.2.2.1).grow g9, (H9.out.2.2.2.1).grow g9, (H9.out.2.2.2.2.1).grow g9, (H9.out.2.2.2.2.2.1).grow g9, Grow.trans (H9.out.2.2.2.2.2.2) g9⟩
  clear H9 g9
  go_wp2
  go_ret
  exact ⟨rfl, H10.out.2.2.2.2.2.2⟩
set_option maxRecDepth 8000 in
set_option maxHeartbeats 1000000 in
theorem spreads_s4 (k1 n1 s1 : Int) (na1 : Option Addr) (nc1 : Nat) (ka1 : Option Addr) (kc1 : Nat) (k2 n2 s2 : Int) (na2 : Option Addr) (nc2 : Nat) (ka2 : Option Addr) (kc2 : Nat) (k3 n3 s3 : Int) (na3 : Option Addr) (nc3 : Nat) (ka3 : Option Addr) (kc3 : Nat) (k4 n4 s4 k5 n5 s5 k6 n6 s6 e5 e6 k7 n7 s7 : Int) (K1 : Hid (∀ W, Calls Tryd.prog 12 #[.agg #[.int .i64 k1, .int .i64 n1, .int .i64 s1, .string ⟨#[]⟩, .slice na1 0 nc1, .slice ka1 0 kc1]] W fun e w' => e = .returned (.bool true) ∧ Grow W w')) (K2 : Hid (∀ W, Calls Tryd.prog 12 #[.agg #[.int .i64 k2, .int .i64 n2, .int .i64 s2, .string ⟨#[]⟩, .slice na2 0 nc2, .slice ka2 0 kc2]] W fun e w' => e = .returned (.bool true) ∧ Grow W w')) (K3 : Hid (∀ W, Calls Tryd.prog 12 #[.agg #[.int .i64 k3, .int .i64 n3, .int .i64 s3, .string ⟨#[]⟩, .slice na3 0 nc3, .slice ka3 0 kc3]] W fun e w' => e = .returned (.bool true) ∧ Grow W w')) (A1 : Hid (∀ W, Calls Tryd.prog 13 #[.agg #[.int .i64 k2, .int .i64 n2, .int .i64 s2, .string ⟨#[]⟩, .slice na2 0 nc2, .slice ka2 0 kc2], .agg #[.int .i64 k3, .int .i64 n3, .int .i64 s3, .string ⟨#[]⟩, .slice na3 0 nc3, .slice ka3 0 kc3]] W fun e w' => e = .returned (.tuple #[.agg #[.int .i64 k4, .int .i64 n4, .int .i64 s4, .string ⟨#[]⟩, .slice none 0 0, .slice none 0 0], .int .i64 0]) ∧ Grow W w')) (M1 : Hid (∀ W, Calls Tryd.prog 14 #[.agg #[.int .i64 k1, .int .i64 n1, .int .i64 s1, .string ⟨#[]⟩, .slice na1 0 nc1, .slice ka1 0 kc1], .agg #[.int .i64 k2, .int .i64 n2, .int .i64 s2, .string ⟨#[]⟩, .slice na2 0 nc2, .slice ka2 0 kc2]] W fun e w' => e = .returned (.tuple #[.agg #[.int .i64 k5, .int .i64 n5, .int .i64 s5, .string ⟨#[]⟩, .slice none 0 0, .slice none 0 0], .int .i64 0]) ∧ Grow W w')) (M2 : Hid (∀ W, Calls Tryd.prog 14 #[.agg #[.int .i64 k1, .int .i64 n1, .int .i64 s1, .string ⟨#[]⟩, .slice na1 0 nc1, .slice ka1 0 kc1], .agg #[.int .i64 k3, .int .i64 n3, .int .i64 s3, .string ⟨#[]⟩, .slice na3 0 nc3, .slice ka3 0 kc3]] W fun e w' => e = .returned (.tuple #[.agg #[.int .i64 k6, .int .i64 n6, .int .i64 s6, .string ⟨#[]⟩, .slice none 0 0, .slice none 0 0], .int .i64 0]) ∧ Grow W w')) (M3 : Hid (∀ W, Calls Tryd.prog 14 #[.agg #[.int .i64 k1, .int .i64 n1, .int .i64 s1, .string ⟨#[]⟩, .slice na1 0 nc1, .slice ka1 0 kc1], .agg #[.int .i64 k4, .int .i64 n4, .int .i64 s4, .string ⟨#[]⟩, .slice none 0 0, .slice none 0 0]] W fun e w' => e = .returned (.tuple #[.agg #[.int .i64 k7, .int .i64 n7, .int .i64 s7, .string ⟨#[]⟩, .slice none 0 0, .slice none 0 0], .int .i64 0]) ∧ Grow W w')) (A2 : Hid (∀ W, Calls Tryd.prog 13 #[.agg #[.int .i64 k5, .int .i64 n5, .int .i64 s5, .string ⟨#[]⟩, .slice none 0 0, .slice none 0 0], .agg #[.int .i64 k6, .int .i64 n6, .int .i64 s6, .string ⟨#[]⟩, .slice none 0 0, .slice none 0 0]] W fun e w' => e = .returned (.tuple #[.agg #[.int .i64 k7, .int .i64 n7, .int .i64 s7, .string ⟨#[]⟩, .slice none 0 0, .slice none 0 0], .int .i64 0]) ∧ Grow W w')) (w : World) :
    Calls Tryd.prog 7 #[.agg #[.int .i64 k1, .int .i64 n1, .int .i64 s1, .string ⟨#[]⟩, .slice na1 0 nc1, .slice ka1 0 kc1], .agg #[.int .i64 k2, .int .i64 n2, .int .i64 s2, .string ⟨#[]⟩, .slice na2 0 nc2, .slice ka2 0 kc2], .agg #[.int .i64 k3, .int .i64 n3, .int .i64 s3, .string ⟨#[]⟩, .slice na3 0 nc3, .slice ka3 0 kc3]] w fun e w' => e = .returned (.bool true) ∧ Grow w w' := by
  go_enter Tryd.func7, Tryd.ntmps7
  go_wp2_with fail
  obtain ⟨w1, HW1, H0⟩ : ∃ w1, (((w.alloc (Obj.cells #[.int .i64 k1, .int .i64 n1, .int .i64 s1, .string ⟨#[]⟩, .slice na1 0 nc1, .slice ka1 0 kc1] 25)).alloc (Obj.cells #[.int .i64 k2, .int .i64 n2, .int .i64 s2, .string ⟨#[]⟩, .slice na2 0 nc2, .slice ka2 0 kc2] 25)).alloc (Obj.cells #[.int .i64 k3, .int .i64 n3, .int .i64 s3, .string ⟨#[]⟩, .slice na3 0 nc3, .slice ka3 0 kc3] 25)) = w1 ∧ Hid (Blk w1 (w.heap.size) 25 [.int .i64 k1, .int .i64 n1, .int .i64 s1, .string ⟨#[]⟩, .slice na1 0 nc1, .slice ka1 0 kc1] ∧ Blk w1 (w.heap.size + 1) 25 [.int .i64 k2, .int .i64 n2, .int .i64 s2, .string ⟨#[]⟩, .slice na2 0 nc2, .slice ka2 0 kc2] ∧ Blk w1 (w.heap.size + 2) 25 [.int .i64 k3, .int .i64 n3, .int .i64 s3, .string ⟨#[]⟩, .slice na3 0 nc3, .slice ka3 0 kc3] ∧ Grow w w1) := ⟨_, rfl, (Blk.alloc (Blk.alloc (blk_at rfl) _) _), (Blk.alloc (blk_at (by simp)) _), (blk_at (by simp)), ((((Grow.refl _).alloc _).alloc _).alloc _)⟩
  rw [HW1]
  clear HW1
  refine (K1.out _).mono ?_
  rintro e w2 ⟨rfl, g0⟩
  have H1 : Hid (Blk w2 (w.heap.size) 25 [.int .i64 k1, .int .i64 n1, .int .i64 s1, .string ⟨#[]⟩, .slice na1 0 nc1, .slice ka1 0 kc1] ∧ Blk w2 (w.heap.size + 1) 25 [.int .i64 k2, .int .i64 n2, .int .i64 s2, .string ⟨#[]⟩, .slice na2 0 nc2, .slice ka2 0 kc2] ∧ Blk w2 (w.heap.size + 2) 25 [.int .i64 k3, .int .i64 n3, .int .i64 s3, .string ⟨#[]⟩, .slice na3 0 nc3, .slice ka3 0 kc3] ∧ Grow w w2) := ⟨(H0.out.1).grow g0, (H0.out.2.1).grow g0, (H0.out.2.2.1).grow g0, Grow.trans (H0.out.2.2.2) g0⟩
  clear H0 g0
  have q1_0 : w2.cell? ⟨w.heap.size + 1, 0, none⟩ = some (.int .i64 k2) := (H1.out.2.1).cell 0
  have q1_1 : w2.cell? ⟨w.heap.size + 1, 1, none⟩ = some (.int .i64 n2) := (H1.out.2.1).cell 1
  have q1_2 : w2.cell? ⟨w.heap.size + 1, 2, none⟩ = some (.int .i64 s2) := (H1.out.2.1).cell 2
  have q1_3 : w2.cell? ⟨w.heap.size + 1, 3, none⟩ = some (.string ⟨#[]⟩) := (H1.out.2.1).cell 3
  have q1_4 : w2.cell? ⟨w.heap.size + 1, 4, none⟩ = some (.slice na2 0 nc2) := (H1.out.2.1).cell 4
  have q1_5 : w2.cell? ⟨w.heap.size + 1, 5, none⟩ = some (.slice ka2 0 kc2) := (H1.out.2.1).cell 5
  go_wp2_with fail
  clear q1_0 q1_1 q1_2 q1_3 q1_4 q1_5
  refine (K2.out _).mono ?_
  rintro e w3 ⟨rfl, g1⟩
  have H2 : Hid (Blk w3 (w.heap.size) 25 [.int .i64 k1, .int .i64 n1, .int .i64 s1, .string ⟨#[]⟩, .slice na1 0 nc1, .slice ka1 0 kc1] ∧ Blk w3 (w.heap.size + 1) 25 [.int .i64 k2, .int .i64 n2, .int .i64 s2, .string ⟨#[]⟩, .slice na2 0 nc2, .slice ka2 0 kc2] ∧ Blk w3 (w.heap.size + 2) 25 [.int .i64 k3, .int .i64 n3, .int .i64 s3, .string ⟨#[]⟩, .slice na3 0 nc3, .slice ka3 0 kc3] ∧ Grow w w3) := ⟨(H1.out.1).grow g1, (H1.out.2.1).grow g1, (H1.out.2.2.1).grow g1, Grow.trans (H1.out.2.2.2) g1⟩
  clear H1 g1
  have q2_0 : w3.cell? ⟨w.heap.size + 2, 0, none⟩ = some (.int .i64 k3) := (H2.out.2.2.1).cell 0
  have q2_1 : w3.cell? ⟨w.heap.size + 2, 1, none⟩ = some (.int .i64 n3) := (H2.out.2.2.1).cell 1
  have q2_2 : w3.cell? ⟨w.heap.size + 2, 2, none⟩ = some (.int .i64 s3) := (H2.out.2.2.1).cell 2
  have q2_3 : w3.cell? ⟨w.heap.size + 2, 3, none⟩ = some (.string ⟨#[]⟩) := (H2.out.2.2.1).cell 3
  have q2_4 : w3.cell? ⟨w.heap.size + 2, 4, none⟩ = some (.slice na3 0 nc3) := (H2.out.2.2.1).cell 4
  have q2_5 : w3.cell? ⟨w.heap.size + 2, 5, none⟩ = some (.slice ka3 0 kc3) := (H2.out.2.2.1).cell 5
  go_wp2_with fail
  clear q2_0 q2_1 q2_2 q2_3 q2_4 q2_5
  refine (K3.out _).mono ?_
  rintro e w4 ⟨rfl, g2⟩
  have H3 : Hid (Blk w4 (w.heap.size) 25 [.int .i64 k1, .int .i64 n1, .int .i64 s1, .string ⟨#[]⟩, .slice na1 0 nc1, .slice ka1 0 kc1] ∧ Blk w4 (w.heap.size + 1) 25 [.int .i64 k2, .int .i64 n2, .int .i64 s2, .string ⟨#[]⟩, .slice na2 0 nc2, .slice ka2 0 kc2] ∧ Blk w4 (w.heap.size + 2) 25 [.int .i64 k3, .int .i64 n3, .int .i64 s3, .string ⟨#[]⟩, .slice na3 0 nc3, .slice ka3 0 kc3] ∧ Grow w w4) := ⟨(H2.out.1).grow g2, (H2.out.2.1).grow g2, (H2.out.2.2.1).grow g2, Grow.trans (H2.out.2.2.2) g2⟩
  clear H2 g2
  have q1_0 : w4.cell? ⟨w.heap.size + 1, 0, none⟩ = some (.int .i64 k2) := (H3.out.2.1).cell 0
  have q1_1 : w4.cell? ⟨w.heap.size + 1, 1, none⟩ = some (.int .i64 n2) := (H3.out.2.1).cell 1
  have q1_2 : w4.cell? ⟨w.heap.size + 1, 2, none⟩ = some (.int .i64 s2) := (H3.out.2.1).cell 2
  have q1_3 : w4.cell? ⟨w.heap.size + 1, 3, none⟩ = some (.string ⟨#[]⟩) := (H3.out.2.1).cell 3
  have q1_4 : w4.cell? ⟨w.heap.size + 1, 4, none⟩ = some (.slice na2 0 nc2) := (H3.out.2.1).cell 4
  have q1_5 : w4.cell? ⟨w.heap.size + 1, 5, none⟩ = some (.slice ka2 0 kc2) := (H3.out.2.1).cell 5
  have q2_0 : w4.cell? ⟨w.heap.size + 2, 0, none⟩ = some (.int .i64 k3) := (H3.out.2.2.1).cell 0
  have q2_1 : w4.cell? ⟨w.heap.size + 2, 1, none⟩ = some (.int .i64 n3) := (H3.out.2.2.1).cell 1
  have q2_2 : w4.cell? ⟨w.heap.size + 2, 2, none⟩ = some (.int .i64 s3) := (H3.out.2.2.1).cell 2
  have q2_3 : w4.cell? ⟨w.heap.size + 2, 3, none⟩ = some (.string ⟨#[]⟩) := (H3.out.2.2.1).cell 3
  have q2_4 : w4.cell? ⟨w.heap.size + 2, 4, none⟩ = some (.slice na3 0 nc3) := (H3.out.2.2.1).cell 4
  have q2_5 : w4.cell? ⟨w.heap.size + 2, 5, none⟩ = some (.slice ka3 0 kc3) := (H3.out.2.2.1).cell 5
  go_wp2_with fail
  clear q1_0 q1_1 q1_2 q1_3 q1_4 q1_5 q2_0 q2_1 q2_2 q2_3 q2_4 q2_5
  refine (A1.out _).mono ?_
  rintro e w5 ⟨rfl, g3⟩
  have H4 : Hid (Blk w5 (w.heap.size) 25 [.int .i64 k1, .int .i64 n1, .int .i64 s1, .string ⟨#[]⟩, .slice na1 0 nc1, .slice ka1 0 kc1] ∧ Blk w5 (w.heap.size + 1) 25 [.int .i64 k2, .int .i64 n2, .int .i64 s2, .string ⟨#[]⟩, .slice na2 0 nc2, .slice ka2 0 kc2] ∧ Blk w5 (w.heap.size + 2) 25 [.int .i64 k3, .int .i64 n3, .int .i64 s3, .string ⟨#[]⟩, .slice na3 0 nc3, .slice ka3 0 kc3] ∧ Grow w w5) := ⟨(H3.out.1).grow g3, (H3.out.2.1).grow g3, (H3.out.2.2.1).grow g3, Grow.trans (H3.out.2.2.2) g3⟩
  clear H3 g3
  go_wp2_with (refine al_zero rfl 25 rfl [.int .i64 0, .int .i64 0, .int .i64 0, .string ⟨#[]⟩, .slice none 0 0, .slice none 0 0] zV ?_)
  intro b4 vv4 ss4 zz4 xx4
  go_wp2_with (refine st_all rfl 25 (.tmp 7) (.tmp 34) rfl b4 25 [.int .i64 0, .int .i64 0, .int .i64 0, .string ⟨#[]⟩, .slice none 0 0, .slice none 0 0] [.int .i64 k4, .int .i64 n4, .int .i64 s4, .string ⟨#[]⟩, .slice none 0 0, .slice none 0 0] rfl rfl zz4 rfl sV (ones rfl) ?_)
  intro w6 yy4 mm4
  have H5 : Hid (Blk w6 (w.heap.size) 25 [.int .i64 k1, .int .i64 n1, .int .i64 s1, .string ⟨#[]⟩, .slice na1 0 nc1, .slice ka1 0 kc1] ∧ Blk w6 (w.heap.size + 1) 25 [.int .i64 k2, .int .i64 n2, .int .i64 s2, .string ⟨#[]⟩, .slice na2 0 nc2, .slice ka2 0 kc2] ∧ Blk w6 (w.heap.size + 2) 25 [.int .i64 k3, .int .i64 n3, .int .i64 s3, .string ⟨#[]⟩, .slice na3 0 nc3, .slice ka3 0 kc3] ∧ Blk w6 (b4) 25 [.int .i64 k4, .int .i64 n4, .int .i64 s4, .string ⟨#[]⟩, .slice none 0 0, .slice none 0 0] ∧ Grow w w6) := ⟨(((H4.out.1).kept xx4 (by simp)).kept mm4 (by intro e; injection e with e; have := (H4.out.1).lt; omega)), (((H4.out.2.1).kept xx4 (by simp)).kept mm4 (by intro e; injection e with e; have := (H4.out.2.1).lt; omega)), (((H4.out.2.2.1).kept xx4 (by simp)).kept mm4 (by intro e; injection e with e; have := (H4.out.2.2.1).lt; omega)), yy4, (by have x1 := H4.out.2.2.2; have x2 : Below w.heap.size w vv4 := Below.grown x1 xx4 x1.size (by intro e he; cases he); exact Below.grown x2 mm4 x2.size (by intro e he; injection he with he; have := x1.size; omega))⟩
  clear H4 ss4 zz4 xx4 yy4 mm4
  have q0_0 : w6.cell? ⟨w.heap.size, 0, none⟩ = some (.int .i64 k1) := (H5.out.1).cell 0
  have q0_1 : w6.cell? ⟨w.heap.size, 1, none⟩ = some (.int .i64 n1) := (H5.out.1).cell 1
  have q0_2 : w6.cell? ⟨w.heap.size, 2, none⟩ = some (.int .i64 s1) := (H5.out.1).cell 2
  have q0_3 : w6.cell? ⟨w.heap.size, 3, none⟩ = some (.string ⟨#[]⟩) := (H5.out.1).cell 3
  have q0_4 : w6.cell? ⟨w.heap.size, 4, none⟩ = some (.slice na1 0 nc1) := (H5.out.1).cell 4
  have q0_5 : w6.cell? ⟨w.heap.size, 5, none⟩ = some (.slice ka1 0 kc1) := (H5.out.1).cell 5
  have q1_0 : w6.cell? ⟨w.heap.size + 1, 0, none⟩ = some (.int .i64 k2) := (H5.out.2.1).cell 0
  have q1_1 : w6.cell? ⟨w.heap.size + 1, 1, none⟩ = some (.int .i64 n2) := (H5.out.2.1).cell 1
  have q1_2 : w6.cell? ⟨w.heap.size + 1, 2, none⟩ = some (.int .i64 s2) := (H5.out.2.1).cell 2
  have q1_3 : w6.cell? ⟨w.heap.size + 1, 3, none⟩ = some (.string ⟨#[]⟩) := (H5.out.2.1).cell 3
  have q1_4 : w6.cell? ⟨w.heap.size + 1, 4, none⟩ = some (.slice na2 0 nc2) := (H5.out.2.1).cell 4
  have q1_5 : w6.cell? ⟨w.heap.size + 1, 5, none⟩ = some (.slice ka2 0 kc2) := (H5.out.2.1).cell 5
  go_wp2_with fail
  clear q0_0 q0_1 q0_2 q0_3 q0_4 q0_5 q1_0 q1_1 q1_2 q1_3 q1_4 q1_5
  refine (M1.out _).mono ?_
  rintro e w7 ⟨rfl, g5⟩
  have H6 : Hid (Blk w7 (w.heap.size) 25 [.int .i64 k1, .int .i64 n1, .int .i64 s1, .string ⟨#[]⟩, .slice na1 0 nc1, .slice ka1 0 kc1] ∧ Blk w7 (w.heap.size + 1) 25 [.int .i64 k2, .int .i64 n2, .int .i64 s2, .string ⟨#[]⟩, .slice na2 0 nc2, .slice ka2 0 kc2] ∧ Blk w7 (w.heap.size + 2) 25 [.int .i64 k3, .int .i64 n3, .int .i64 s3, .string ⟨#[]⟩, .slice na3 0 nc3, .slice ka3 0 kc3] ∧ Blk w7 (b4) 25 [.int .i64 k4, .int .i64 n4, .int .i64 s4, .string ⟨#[]⟩, .slice none 0 0, .slice none 0 0] ∧ Grow w w7) := ⟨(H5.out.1).grow g5, (H5.out.2.1).grow g5, (H5.out.2.2.1).grow g5, (H5.out.2.2.2.1).grow g5, Grow.trans (H5.out.2.2.2.2) g5⟩
  clear H5 g5
  go_wp2_with (refine al_zero rfl 25 rfl [.int .i64 0, .int .i64 0, .int .i64 0, .string ⟨#[]⟩, .slice none 0 0, .slice none 0 0] zV ?_)
  intro b5 vv6 ss6 zz6 xx6
  go_wp2_with (refine st_all rfl 25 (.tmp 9) (.tmp 40) rfl b5 25 [.int .i64 0, .int .i64 0, .int .i64 0, .string ⟨#[]⟩, .slice none 0 0, .slice none 0 0] [.int .i64 k5, .int .i64 n5, .int .i64 s5, .string ⟨#[]⟩, .slice none 0 0, .slice none 0 0] rfl rfl zz6 rfl sV (ones rfl) ?_)
  intro w8 yy6 mm6
  have H7 : Hid (Blk w8 (w.heap.size) 25 [.int .i64 k1, .int .i64 n1, .int .i64 s1, .string ⟨#[]⟩, .slice na1 0 nc1, .slice ka1 0 kc1] ∧ Blk w8 (w.heap.size + 1) 25 [.int .i64 k2, .int .i64 n2, .int .i64 s2, .string ⟨#[]⟩, .slice na2 0 nc2, .slice ka2 0 kc2] ∧ Blk w8 (w.heap.size + 2) 25 [.int .i64 k3, .int .i64 n3, .int .i64 s3, .string ⟨#[]⟩, .slice na3 0 nc3, .slice ka3 0 kc3] ∧ Blk w8 (b4) 25 [.int .i64 k4, .int .i64 n4, .int .i64 s4, .string ⟨#[]⟩, .slice none 0 0, .slice none 0 0] ∧ Blk w8 (b5) 25 [.int .i64 k5, .int .i64 n5, .int .i64 s5, .string ⟨#[]⟩, .slice none 0 0, .slice none 0 0] ∧ Grow w w8) := ⟨(((H6.out.1).kept xx6 (by simp)).kept mm6 (by intro e; injection e with e; have := (H6.out.1).lt; omega)), (((H6.out.2.1).kept xx6 (by simp)).kept mm6 (by intro e; injection e with e; have := (H6.out.2.1).lt; omega)), (((H6.out.2.2.1).kept xx6 (by simp)).kept mm6 (by intro e; injection e with e; have := (H6.out.2.2.1).lt; omega)), (((H6.out.2.2.2.1).kept xx6 (by simp)).kept mm6 (by intro e; injection e with e; have := (H6.out.2.2.2.1).lt; omega)), yy6, (by have x1 := H6.out.2.2.2.2; have x2 : Below w.heap.size w vv6 := Below.grown x1 xx6 x1.size (by intro e he; cases he); exact Below.grown x2 mm6 x2.size (by intro e he; injection he with he; have := x1.size; omega))⟩
  clear H6 ss6 zz6 xx6 yy6 mm6
  have q0_0 : w8.cell? ⟨w.heap.size, 0, none⟩ = some (.int .i64 k1) := (H7.out.1).cell 0
  have q0_1 : w8.cell? ⟨w.heap.size, 1, none⟩ = some (.int .i64 n1) := (H7.out.1).cell 1
  have q0_2 : w8.cell? ⟨w.heap.size, 2, none⟩ = some (.int .i64 s1) := (H7.out.1).cell 2
  have q0_3 : w8.cell? ⟨w.heap.size, 3, none⟩ = some (.string ⟨#[]⟩) := (H7.out.1).cell 3
  have q0_4 : w8.cell? ⟨w.heap.size, 4, none⟩ = some (.slice na1 0 nc1) := (H7.out.1).cell 4
  have q0_5 : w8.cell? ⟨w.heap.size, 5, none⟩ = some (.slice ka1 0 kc1) := (H7.out.1).cell 5
  have q2_0 : w8.cell? ⟨w.heap.size + 2, 0, none⟩ = some (.int .i64 k3) := (H7.out.2.2.1).cell 0
  have q2_1 : w8.cell? ⟨w.heap.size + 2, 1, none⟩ = some (.int .i64 n3) := (H7.out.2.2.1).cell 1
  have q2_2 : w8.cell? ⟨w.heap.size + 2, 2, none⟩ = some (.int .i64 s3) := (H7.out.2.2.1).cell 2
  have q2_3 : w8.cell? ⟨w.heap.size + 2, 3, none⟩ = some (.string ⟨#[]⟩) := (H7.out.2.2.1).cell 3
  have q2_4 : w8.cell? ⟨w.heap.size + 2, 4, none⟩ = some (.slice na3 0 nc3) := (H7.out.2.2.1).cell 4
  have q2_5 : w8.cell? ⟨w.heap.size + 2, 5, none⟩ = some (.slice ka3 0 kc3) := (H7.out.2.2.1).cell 5
  go_wp2_with fail
  clear q0_0 q0_1 q0_2 q0_3 q0_4 q0_5 q2_0 q2_1 q2_2 q2_3 q2_4 q2_5
  refine (M2.out _).mono ?_
  rintro e w9 ⟨rfl, g7⟩
  have H8 : Hid (Blk w9 (w.heap.size) 25 [.int .i64 k1, .int .i64 n1, .int .i64 s1, .string ⟨#[]⟩, .slice na1 0 nc1, .slice ka1 0 kc1] ∧ Blk w9 (w.heap.size + 1) 25 [.int .i64 k2, .int .i64 n2, .int .i64 s2, .string ⟨#[]⟩, .slice na2 0 nc2, .slice ka2 0 kc2] ∧ Blk w9 (w.heap.size + 2) 25 [.int .i64 k3, .int .i64 n3, .int .i64 s3, .string ⟨#[]⟩, .slice na3 0 nc3, .slice ka3 0 kc3] ∧ Blk w9 (b4) 25 [.int .i64 k4, .int .i64 n4, .int .i64 s4, .string ⟨#[]⟩, .slice none 0 0, .slice none 0 0] ∧ Blk w9 (b5) 25 [.int .i64 k5, .int .i64 n5, .int .i64 s5, .string ⟨#[]⟩, .slice none 0 0, .slice none 0 0] ∧ Grow w w9) := ⟨(H7.out.1).grow g7, (H7.out.2.1).grow g7, (H7.out.2.2.1).grow g7, (H7.out.2.2.2.1).grow g7, (H7.out.2.2.2.2.1).grow g7, Grow.trans (H7.out.2.2.2.2.2) g7⟩
  clear H7 g7
  go_wp2_with (refine al_zero rfl 25 rfl [.int .i64 0, .int .i64 0, .int .i64 0, .string ⟨#[]⟩, .slice none 0 0, .slice none 0 0] zV ?_)
  intro b6 vv8 ss8 zz8 xx8
  go_wp2_with (refine st_all rfl 25 (.tmp 11) (.tmp 46) rfl b6 25 [.int .i64 0, .int .i64 0, .int .i64 0, .string ⟨#[]⟩, .slice none 0 0, .slice none 0 0] [.int .i64 k6, .int .i64 n6, .int .i64 s6, .string ⟨#[]⟩, .slice none 0 0, .slice none 0 0] rfl rfl zz8 rfl sV (ones rfl) ?_)
  intro w10 yy8 mm8
  have H9 : Hid (Blk w10 (w.heap.size) 25 [.int .i64 k1, .int .i64 n1, .int .i64 s1, .string ⟨#[]⟩, .slice na1 0 nc1, .slice ka1 0 kc1] ∧ Blk w10 (w.heap.size + 1) 25 [.int .i64 k2, .int .i64 n2, .int .i64 s2, .string ⟨#[]⟩, .slice na2 0 nc2, .slice ka2 0 kc2] ∧ Blk w10 (w.heap.size + 2) 25 [.int .i64 k3, .int .i64 n3, .int .i64 s3, .string ⟨#[]⟩, .slice na3 0 nc3, .slice ka3 0 kc3] ∧ Blk w10 (b4) 25 [.int .i64 k4, .int .i64 n4, .int .i64 s4, .string ⟨#[]⟩, .slice none 0 0, .slice none 0 0] ∧ Blk w10 (b5) 25 [.int .i64 k5, .int .i64 n5, .int .i64 s5, .string ⟨#[]⟩, .slice none 0 0, .slice none 0 0] ∧ Blk w10 (b6) 25 [.int .i64 k6, .int .i64 n6, .int .i64 s6, .string ⟨#[]⟩, .slice none 0 0, .slice none 0 0] ∧ Grow w w10) := ⟨(((H8.out.1).kept xx8 (by simp)).kept mm8 (by intro e; injection e with e; have := (H8.out.1).lt; omega)), (((H8.out.2.1).kept xx8 (by simp)).kept mm8 (by intro e; injection e with e; have := (H8.out.2.1).lt; omega)), (((H8.out.2.2.1).kept xx8 (by simp)).kept mm8 (by intro e; injection e with e; have := (H8.out.2.2.1).lt; omega)), (((H8.out.2.2.2.1).kept xx8 (by simp)).kept mm8 (by intro e; injection e with e; have := (H8.out.2.2.2.1).lt; omega)), (((H8.out.2.2.2.2.1).kept xx8 (by simp)).kept mm8 (by intro e; injection e with e; have := (H8.out.2.2.2.2.1).lt; omega)), yy8, (by have x1 := H8.out.2.2.2.2.2; have x2 : Below w.heap.size w vv8 := Below.grown x1 xx8 x1.size (by intro e he; cases he); exact Below.grown x2 mm8 x2.size (by intro e he; injection he with he; have := x1.size; omega))⟩
  clear H8 ss8 zz8 xx8 yy8 mm8
  have q0_0 : w10.cell? ⟨w.heap.size, 0, none⟩ = some (.int .i64 k1) := (H9.out.1).cell 0
  have q0_1 : w10.cell? ⟨w.heap.size, 1, none⟩ = some (.int .i64 n1) := (H9.out.1).cell 1
  have q0_2 : w10.cell? ⟨w.heap.size, 2, none⟩ = some (.int .i64 s1) := (H9.out.1).cell 2
  have q0_3 : w10.cell? ⟨w.heap.size, 3, none⟩ = some (.string ⟨#[]⟩) := (H9.out.1).cell 3
  have q0_4 : w10.cell? ⟨w.heap.size, 4, none⟩ = some (.slice na1 0 nc1) := (H9.out.1).cell 4
  have q0_5 : w10.cell? ⟨w.heap.size, 5, none⟩ = some (.slice ka1 0 kc1) := (H9.out.1).cell 5
  have q3_0 : w10.cell? ⟨b4, 0, none⟩ = some (.int .i64 k4) := (H9.out.2.2.2.1).cell 0
  have q3_1 : w10.cell? ⟨b4, 1, none⟩ = some (.int .i64 n4) := (H9.out.2.2.2.1).cell 1
  have q3_2 : w10.cell? ⟨b4, 2, none⟩ = some (.int .i64 s4) := (H9.out.2.2.2.1).cell 2
  have q3_3 : w10.cell? ⟨b4, 3, none⟩ = some (.string ⟨#[]⟩) := (H9.out.2.2.2.1).cell 3
  have q3_4 : w10.cell? ⟨b4, 4, none⟩ = some (.slice none 0 0) := (H9.out.2.2.2.1).cell 4
  have q3_5 : w10.cell? ⟨b4, 5, none⟩ = some (.slice none 0 0) := (H9.out.2.2.2.1).cell 5
  go_wp2_with fail
  clear q0_0 q0_1 q0_2 q0_3 q0_4 q0_5 q3_0 q3_1 q3_2 q3_3 q3_4 q3_5
  refine (M3.out _).mono ?_
  rintro e w11 ⟨rfl, g9⟩
  have H10 : Hid (Blk w11 (w.heap.size) 25 [.int .i64 k1, .int .i64 n1, .int .i64 s1, .string ⟨#[]⟩, .slice na1 0 nc1, .slice ka1 0 kc1] ∧ Blk w11 (w.heap.size + 1) 25 [.int .i64 k2, .int .i64 n2, .int .i64 s2, .string ⟨#[]⟩, .slice na2 0 nc2, .slice ka2 0 kc2] ∧ Blk w11 (w.heap.size + 2) 25 [.int .i64 k3, .int .i64 n3, .int .i64 s3, .string ⟨#[]⟩, .slice na3 0 nc3, .slice ka3 0 kc3] ∧ Blk w11 (b4) 25 [.int .i64 k4, .int .i64 n4, .int .i64 s4, .string ⟨#[]⟩, .slice none 0 0, .slice none 0 0] ∧ Blk w11 (b5) 25 [.int .i64 k5, .int .i64 n5, .int .i64 s5, .string ⟨#[]⟩, .slice none 0 0, .slice none 0 0] ∧ Blk w11 (b6) 25 [.int .i64 k6, .int .i64 n6, .int .i64 s6, .string ⟨#[]⟩, .slice none 0 0, .slice none 0 0] ∧ Grow w w11) := ⟨(H9.out.1).grow g9, (H9.out.2.1).grow g9, (H9.out.2.2.1).grow g9, (H9.out.2.2.2.1).grow g9, (H9.out.2.2.2.2.1).grow g9, (H9.out.2.2.2.2.2.1).grow g9, Grow.trans (H9.out.2.2.2.2.2.2) g9⟩
  clear H9 g9
  go_wp2_with (refine al_zero rfl 25 rfl [.int .i64 0, .int .i64 0, .int .i64 0, .string ⟨#[]⟩, .slice none 0 0, .slice none 0 0] zV ?_)
  intro b7 vv10 ss10 zz10 xx10
  go_wp2_with (refine st_all rfl 25 (.tmp 13) (.tmp 63) rfl b7 25 [.int .i64 0, .int .i64 0, .int .i64 0, .string ⟨#[]⟩, .slice none 0 0, .slice none 0 0] [.int .i64 k7, .int .i64 n7, .int .i64 s7, .string ⟨#[]⟩, .slice none 0 0, .slice none 0 0] rfl rfl zz10 rfl sV (ones rfl) ?_)
  intro w12 yy10 mm10
  have H11 : Hid (Blk w12 (w.heap.size) 25 [.int .i64 k1, .int .i64 n1, .int .i64 s1, .string ⟨#[]⟩, .slice na1 0 nc1, .slice ka1 0 kc1] ∧ Blk w12 (w.heap.size + 1) 25 [.int .i64 k2, .int .i64 n2, .int .i64 s2, .string ⟨#[]⟩, .slice na2 0 nc2, .slice ka2 0 kc2] ∧ Blk w12 (w.heap.size + 2) 25 [.int .i64 k3, .int .i64 n3, .int .i64 s3, .string ⟨#[]⟩, .slice na3 0 nc3, .slice ka3 0 kc3] ∧ Blk w12 (b4) 25 [.int .i64 k4, .int .i64 n4, .int .i64 s4, .string ⟨#[]⟩, .slice none 0 0, .slice none 0 0] ∧ Blk w12 (b5) 25 [.int .i64 k5, .int .i64 n5, .int .i64 s5, .string ⟨#[]⟩, .slice none 0 0, .slice none 0 0] ∧ Blk w12 (b6) 25 [.int .i64 k6, .int .i64 n6, .int .i64 s6, .string ⟨#[]⟩, .slice none 0 0, .slice none 0 0] ∧ Blk w12 (b7) 25 [.int .i64 k7, .int .i64 n7, .int .i64 s7, .string ⟨#[]⟩, .slice none 0 0, .slice none 0 0] ∧ Grow w w12) := ⟨(((H10.out.1).kept xx10 (by simp)).kept mm10 (by intro e; injection e with e; have := (H10.out.1).lt; omega)), (((H10.out.2.1).kept xx10 (by simp)).kept mm10 (by intro e; injection e with e; have := (H10.out.2.1).lt; omega)), (((H10.out.2.2.1).kept xx10 (by simp)).kept mm10 (by intro e; injection e with e; have := (H10.out.2.2.1).lt; omega)), (((H10.out.2.2.2.1).kept xx10 (by simp)).kept mm10 (by intro e; injection e with e; have := (H10.out.2.2.2.1).lt; omega)), (((H10.out.2.2.2.2.1).kept xx10 (by simp)).kept mm10 (by intro e; injection e with e; have := (H10.out.2.2.2.2.1).lt; omega)), (((H10.out.2.2.2.2.2.1).kept xx10 (by simp)).kept mm10 (by intro e; injection e with e; have := (H10.out.2.2.2.2.2.1).lt; omega)), yy10, (by have x1 := H10.out.2.2.2.2.2.2; have x2 : Below w.heap.size w vv10 := Below.grown x1 xx10 x1.size (by intro e he; cases he); exact Below.grown x2 mm10 x2.size (by intro e he; injection he with he; have := x1.size; omega))⟩
  clear H10 ss10 zz10 xx10 yy10 mm10
  have q4_0 : w12.cell? ⟨b5, 0, none⟩ = some (.int .i64 k5) := (H11.out.2.2.2.2.1).cell 0
  have q4_1 : w12.cell? ⟨b5, 1, none⟩ = some (.int .i64 n5) := (H11.out.2.2.2.2.1).cell 1
  have q4_2 : w12.cell? ⟨b5, 2, none⟩ = some (.int .i64 s5) := (H11.out.2.2.2.2.1).cell 2
  have q4_3 : w12.cell? ⟨b5, 3, none⟩ = some (.string ⟨#[]⟩) := (H11.out.2.2.2.2.1).cell 3
  have q4_4 : w12.cell? ⟨b5, 4, none⟩ = some (.slice none 0 0) := (H11.out.2.2.2.2.1).cell 4
  have q4_5 : w12.cell? ⟨b5, 5, none⟩ = some (.slice none 0 0) := (H11.out.2.2.2.2.1).cell 5
  have q5_0 : w12.cell? ⟨b6, 0, none⟩ = some (.int .i64 k6) := (H11.out.2.2.2.2.2.1).cell 0
  have q5_1 : w12.cell? ⟨b6, 1, none⟩ = some (.int .i64 n6) := (H11.out.2.2.2.2.2.1).cell 1
  have q5_2 : w12.cell? ⟨b6, 2, none⟩ = some (.int .i64 s6) := (H11.out.2.2.2.2.2.1).cell 2
  have q5_3 : w12.cell? ⟨b6, 3, none⟩ = some (.string ⟨#[]⟩) := (H11.out.2.2.2.2.2.1).cell 3
  have q5_4 : w12.cell? ⟨b6, 4, none⟩ = some (.slice none 0 0) := (H11.out.2.2.2.2.2.1).cell 4
  have q5_5 : w12.cell? ⟨b6, 5, none⟩ = some (.slice none 0 0) := (H11.out.2.2.2.2.2.1).cell 5
  go_wp2_with fail
  clear q4_0 q4_1 q4_2 q4_3 q4_4 q4_5 q5_0 q5_1 q5_2 q5_3 q5_4 q5_5
  refine (A2.out _).mono ?_
  rintro e w13 ⟨rfl, g11⟩
  have H12 : Hid (Blk w13 (w.heap.size) 25 [.int .i64 k1, .int .i64 n1, .int .i64 s1, .string ⟨#[]⟩, .slice na1 0 nc1, .slice ka1 0 kc1] ∧ Blk w13 (w.heap.size + 1) 25 [.int .i64 k2, .int .i64 n2, .int .i64 s2, .string ⟨#[]⟩, .slice na2 0 nc2, .slice ka2 0 kc2] ∧ Blk w13 (w.heap.size + 2) 25 [.int .i64 k3, .int .i64 n3, .int .i64 s3, .string ⟨#[]⟩, .slice na3 0 nc3, .slice ka3 0 kc3] ∧ Blk w13 (b4) 25 [.int .i64 k4, .int .i64 n4, .int .i64 s4, .string ⟨#[]⟩, .slice none 0 0, .slice none 0 0] ∧ Blk w13 (b5) 25 [.int .i64 k5, .int .i64 n5, .int .i64 s5, .string ⟨#[]⟩, .slice none 0 0, .slice none 0 0] ∧ Blk w13 (b6) 25 [.int .i64 k6, .int .i64 n6, .int .i64 s6, .string ⟨#[]⟩, .slice none 0 0, .slice none 0 0] ∧ Blk w13 (b7) 25 [.int .i64 k7, .int .i64 n7, .int .i64 s7, .string ⟨#[]⟩, .slice none 0 0, .slice none 0 0] ∧ Grow w w13) := ⟨(H11.out.1).grow g11, (H11.out.2.1).grow g11, (H11.out.2.2.1).grow g11, (H11.out.2.2.2.1).grow g11, (H11.out.2.2.2.2.1).grow g11, (H11.out.2.2.2.2.2.1).grow g11, (H11.out.2.2.2.2.2.2.1).grow g11, Grow.trans (H11.out.2.2.2.2.2.2.2) g11⟩
  clear H11 g11
  go_wp2_with (refine al_zero rfl 25 rfl [.int .i64 0, .int .i64 0, .int .i64 0, .string ⟨#[]⟩, .slice none 0 0, .slice none 0 0] zV ?_)
  intro b8 vv12 ss12 zz12 xx12
  go_wp2_with (refine st_all rfl 25 (.tmp 15) (.tmp 69) rfl b8 25 [.int .i64 0, .int .i64 0, .int .i64 0, .string ⟨#[]⟩, .slice none 0 0, .slice none 0 0] [.int .i64 k7, .int .i64 n7, .int .i64 s7, .string ⟨#[]⟩, .slice none 0 0, .slice none 0 0] rfl rfl zz12 rfl sV (ones rfl) ?_)
  intro w14 yy12 mm12
  have H13 : Hid (Blk w14 (w.heap.size) 25 [.int .i64 k1, .int .i64 n1, .int .i64 s1, .string ⟨#[]⟩, .slice na1 0 nc1, .slice ka1 0 kc1] ∧ Blk w14 (w.heap.size + 1) 25 [.int .i64 k2, .int .i64 n2, .int .i64 s2, .string ⟨#[]⟩, .slice na2 0 nc2, .slice ka2 0 kc2] ∧ Blk w14 (w.heap.size + 2) 25 [.int .i64 k3, .int .i64 n3, .int .i64 s3, .string ⟨#[]⟩, .slice na3 0 nc3, .slice ka3 0 kc3] ∧ Blk w14 (b4) 25 [.int .i64 k4, .int .i64 n4, .int .i64 s4, .string ⟨#[]⟩, .slice none 0 0, .slice none 0 0] ∧ Blk w14 (b5) 25 [.int .i64 k5, .int .i64 n5, .int .i64 s5, .string ⟨#[]⟩, .slice none 0 0, .slice none 0 0] ∧ Blk w14 (b6) 25 [.int .i64 k6, .int .i64 n6, .int .i64 s6, .string ⟨#[]⟩, .slice none 0 0, .slice none 0 0] ∧ Blk w14 (b7) 25 [.int .i64 k7, .int .i64 n7, .int .i64 s7, .string ⟨#[]⟩, .slice none 0 0, .slice none 0 0] ∧ Blk w14 (b8) 25 [.int .i64 k7, .int .i64 n7, .int .i64 s7, .string ⟨#[]⟩, .slice none 0 0, .slice none 0 0] ∧ Grow w w14) := ⟨(((H12.out.1).kept xx12 (by simp)).kept mm12 (by intro e; injection e with e; have := (H12.out.1).lt; omega)), (((H12.out.2.1).kept xx12 (by simp)).kept mm12 (by intro e; injection e with e; have := (H12.out.2.1).lt; omega)), (((H12.out.2.2.1).kept xx12 (by simp)).kept mm12 (by intro e; injection e with e; have := (H12.out.2.2.1).lt; omega)), (((H12.out.2.2.2.1).kept xx12 (by simp)).kept mm12 (by intro e; injection e with e; have := (H12.out.2.2.2.1).lt; omega)), (((H12.out.2.2.2.2.1).kept xx12 (by simp)).kept mm12 (by intro e; injection e with e; have := (H12.out.2.2.2.2.1).lt; omega)), (((H12.out.2.2.2.2.2.1).kept xx12 (by simp)).kept mm12 (by intro e; injection e with e; have := (H12.out.2.2.2.2.2.1).lt; omega)), (((H12.out.2.2.2.2.2.2.1).kept xx12 (by simp)).kept mm12 (by intro e; injection e with e; have := (H12.out.2.2.2.2.2.2.1).lt; omega)), yy12, (by have x1 := H12.out.2.2.2.2.2.2.2; have x2 : Below w.heap.size w vv12 := Below.grown x1 xx12 x1.size (by intro e he; cases he); exact Below.grown x2 mm12 x2.size (by intro e he; injection he with he; have := x1.size; omega))⟩
  clear H12 ss12 zz12 xx12 yy12 mm12
  have q6_0 : w14.cell? ⟨b7, 0, none⟩ = some (.int .i64 k7) := (H13.out.2.2.2.2.2.2.1).cell 0
  have q6_1 : w14.cell? ⟨b7, 1, none⟩ = some (.int .i64 n7) := (H13.out.2.2.2.2.2.2.1).cell 1
  have q6_2 : w14.cell? ⟨b7, 2, none⟩ = some (.int .i64 s7) := (H13.out.2.2.2.2.2.2.1).cell 2
  have q6_3 : w14.cell? ⟨b7, 3, none⟩ = some (.string ⟨#[]⟩) := (H13.out.2.2.2.2.2.2.1).cell 3
  have q6_4 : w14.cell? ⟨b7, 4, none⟩ = some (.slice none 0 0) := (H13.out.2.2.2.2.2.2.1).cell 4
  have q6_5 : w14.cell? ⟨b7, 5, none⟩ = some (.slice none 0 0) := (H13.out.2.2.2.2.2.2.1).cell 5
  have q7_0 : w14.cell? ⟨b8, 0, none⟩ = some (.int .i64 k7) := (H13.out.2.2.2.2.2.2.2.1).cell 0
  have q7_1 : w14.cell? ⟨b8, 1, none⟩ = some (.int .i64 n7) := (H13.out.2.2.2.2.2.2.2.1).cell 1
  have q7_2 : w14.cell? ⟨b8, 2, none⟩ = some (.int .i64 s7) := (H13.out.2.2.2.2.2.2.2.1).cell 2
  have q7_3 : w14.cell? ⟨b8, 3, none⟩ = some (.string ⟨#[]⟩) := (H13.out.2.2.2.2.2.2.2.1).cell 3
  have q7_4 : w14.cell? ⟨b8, 4, none⟩ = some (.slice none 0 0) := (H13.out.2.2.2.2.2.2.2.1).cell 4
  have q7_5 : w14.cell? ⟨b8, 5, none⟩ = some (.slice none 0 0) := (H13.out.2.2.2.2.2.2.2.1).cell 5
  go_wp2_with fail
  clear q6_0 q6_1 q6_2 q6_3 q6_4 q6_5 q7_0 q7_1 q7_2 q7_3 q7_4 q7_5
  refine (equal_yes _ _ _ _ _ _ _ _ _ _ _ _).mono ?_
  rintro e w15 ⟨rfl, g13⟩
  have H14 : Hid (Blk w15 (w.heap.size) 25 [.int .i64 k1, .int .i64 n1, .int .i64 s1, .string ⟨#[]⟩, .slice na1 0 nc1, .slice ka1 0 kc1] ∧ Blk w15 (w.heap.size + 1) 25 [.int .i64 k2, .int .i64 n2, .int .i64 s2, .string ⟨#[]⟩, .slice na2 0 nc2, .slice ka2 0 kc2] ∧ Blk w15 (w.heap.size + 2) 25 [.int .i64 k3, .int .i64 n3, .int .i64 s3, .string ⟨#[]⟩, .slice na3 0 nc3, .slice ka3 0 kc3] ∧ Blk w15 (b4) 25 [.int .i64 k4, .int .i64 n4, .int .i64 s4, .string ⟨#[]⟩, .slice none 0 0, .slice none 0 0] ∧ Blk w15 (b5) 25 [.int .i64 k5, .int .i64 n5, .int .i64 s5, .string ⟨#[]⟩, .slice none 0 0, .slice none 0 0] ∧ Blk w15 (b6) 25 [.int .i64 k6, .int .i64 n6, .int .i64 s6, .string ⟨#[]⟩, .slice none 0 0, .slice none 0 0] ∧ Blk w15 (b7) 25 [.int .i64 k7, .int .i64 n7, .int .i64 s7, .string ⟨#[]⟩, .slice none 0 0, .slice none 0 0] ∧ Blk w15 (b8) 25 [.int .i64 k7, .int .i64 n7, .int .i64 s7, .string ⟨#[]⟩, .slice none 0 0, .slice none 0 0] ∧ Grow w w15) := ⟨(H13.out.1).grow g13, (H13.out.2.1).grow g13, (H13.out.2.2.1).grow g13, (H13.out.2.2.2.1).grow g13, (H13.out.2.2.2.2.1).grow g13, (H13.out.2.2.2.2.2.1).grow g13, (H13.out.2.2.2.2.2.2.1).grow g13, (H13.out.2.2.2.2.2.2.2.1).grow g13, Grow.trans (H13.out.2.2.2.2.2.2.2.2) g13⟩
  clear H13 g13
  go_wp2_with fail
  refine (known_any _).mono ?_
  rintro e w16 ⟨rfl, g14⟩
  have H15 : Hid (Blk w16 (w.heap.size) 25 [.int .i64 k1, .int .i64 n1, .int .i64 s1, .string ⟨#[]⟩, .slice na1 0 nc1, .slice ka1 0 kc1] ∧ Blk w16 (w.heap.size + 1) 25 [.int .i64 k2, .int .i64 n2, .int .i64 s2, .string ⟨#[]⟩, .slice na2 0 nc2, .slice ka2 0 kc2] ∧ Blk w16 (w.heap.size + 2) 25 [.int .i64 k3, .int .i64 n3, .int .i64 s3, .string ⟨#[]⟩, .slice na3 0 nc3, .slice ka3 0 kc3] ∧ Blk w16 (b4) 25 [.int .i64 k4, .int .i64 n4, .int .i64 s4, .string ⟨#[]⟩, .slice none 0 0, .slice none 0 0] ∧ Blk w16 (b5) 25 [.int .i64 k5, .int .i64 n5, .int .i64 s5, .string ⟨#[]⟩, .slice none 0 0, .slice none 0 0] ∧ Blk w16 (b6) 25 [.int .i64 k6, .int .i64 n6, .int .i64 s6, .string ⟨#[]⟩, .slice none 0 0, .slice none 0 0] ∧ Blk w16 (b7) 25 [.int .i64 k7, .int .i64 n7, .int .i64 s7, .string ⟨#[]⟩, .slice none 0 0, .slice none 0 0] ∧ Blk w16 (b8) 25 [.int .i64 k7, .int .i64 n7, .int .i64 s7, .string ⟨#[]⟩, .slice none 0 0, .slice none 0 0] ∧ Grow w w16) := ⟨(H14.out.1).grow g14, (H14.out.2.1).grow g14, (H14.out.2.2.1).grow g14, (H14.out.2.2.2.1).grow g14, (H14.out.2.2.2.2.1).grow g14, (H14.out.2.2.2.2.2.1).grow g14, (H14.out.2.2.2.2.2.2.1).grow g14, (H14.out.2.2.2.2.2.2.2.1).grow g14, Grow.trans (H14.out.2.2.2.2.2.2.2.2) g14⟩
  clear H14 g14
  go_wp2
  go_ret
  exact ⟨rfl, H15.out.2.2.2.2.2.2.2.2⟩
set_option maxRecDepth 8000 in
set_option maxHeartbeats 1000000 in
theorem spreads_s5 (k1 n1 s1 : Int) (na1 : Option Addr) (nc1 : Nat) (ka1 : Option Addr) (kc1 : Nat) (k2 n2 s2 : Int) (na2 : Option Addr) (nc2 : Nat) (ka2 : Option Addr) (kc2 : Nat) (k3 n3 s3 : Int) (na3 : Option Addr) (nc3 : Nat) (ka3 : Option Addr) (kc3 : Nat) (k4 n4 s4 k5 n5 s5 k6 n6 s6 e5 e6 k7 n7 s7 : Int) (K1 : Hid (∀ W, Calls Tryd.prog 12 #[.agg #[.int .i64 k1, .int .i64 n1, .int .i64 s1, .string ⟨#[]⟩, .slice na1 0 nc1, .slice ka1 0 kc1]] W fun e w' => e = .returned (.bool true) ∧ Grow W w')) (K2 : Hid (∀ W, Calls Tryd.prog 12 #[.agg #[.int .i64 k2, .int .i64 n2, .int .i64 s2, .string ⟨#[]⟩, .slice na2 0 nc2, .slice ka2 0 kc2]] W fun e w' => e = .returned (.bool true) ∧ Grow W w')) (K3 : Hid (∀ W, Calls Tryd.prog 12 #[.agg #[.int .i64 k3, .int .i64 n3, .int .i64 s3, .string ⟨#[]⟩, .slice na3 0 nc3, .slice ka3 0 kc3]] W fun e w' => e = .returned (.bool true) ∧ Grow W w')) (A1 : Hid (∀ W, Calls Tryd.prog 13 #[.agg #[.int .i64 k2, .int .i64 n2, .int .i64 s2, .string ⟨#[]⟩, .slice na2 0 nc2, .slice ka2 0 kc2], .agg #[.int .i64 k3, .int .i64 n3, .int .i64 s3, .string ⟨#[]⟩, .slice na3 0 nc3, .slice ka3 0 kc3]] W fun e w' => e = .returned (.tuple #[.agg #[.int .i64 k4, .int .i64 n4, .int .i64 s4, .string ⟨#[]⟩, .slice none 0 0, .slice none 0 0], .int .i64 0]) ∧ Grow W w')) (M1 : Hid (∀ W, Calls Tryd.prog 14 #[.agg #[.int .i64 k1, .int .i64 n1, .int .i64 s1, .string ⟨#[]⟩, .slice na1 0 nc1, .slice ka1 0 kc1], .agg #[.int .i64 k2, .int .i64 n2, .int .i64 s2, .string ⟨#[]⟩, .slice na2 0 nc2, .slice ka2 0 kc2]] W fun e w' => e = .returned (.tuple #[.agg #[.int .i64 k5, .int .i64 n5, .int .i64 s5, .string ⟨#[]⟩, .slice none 0 0, .slice none 0 0], .int .i64 0]) ∧ Grow W w')) (M2 : Hid (∀ W, Calls Tryd.prog 14 #[.agg #[.int .i64 k1, .int .i64 n1, .int .i64 s1, .string ⟨#[]⟩, .slice na1 0 nc1, .slice ka1 0 kc1], .agg #[.int .i64 k3, .int .i64 n3, .int .i64 s3, .string ⟨#[]⟩, .slice na3 0 nc3, .slice ka3 0 kc3]] W fun e w' => e = .returned (.tuple #[.agg #[.int .i64 k6, .int .i64 n6, .int .i64 s6, .string ⟨#[]⟩, .slice none 0 0, .slice none 0 0], .int .i64 0]) ∧ Grow W w')) (M3 : Hid (∀ W, Calls Tryd.prog 14 #[.agg #[.int .i64 k1, .int .i64 n1, .int .i64 s1, .string ⟨#[]⟩, .slice na1 0 nc1, .slice ka1 0 kc1], .agg #[.int .i64 k4, .int .i64 n4, .int .i64 s4, .string ⟨#[]⟩, .slice none 0 0, .slice none 0 0]] W fun e w' => e = .returned (.tuple #[.agg #[.int .i64 k7, .int .i64 n7, .int .i64 s7, .string ⟨#[]⟩, .slice none 0 0, .slice none 0 0], .int .i64 10]) ∧ Grow W w')) (A2 : Hid (∀ W, Calls Tryd.prog 13 #[.agg #[.int .i64 k5, .int .i64 n5, .int .i64 s5, .string ⟨#[]⟩, .slice none 0 0, .slice none 0 0], .agg #[.int .i64 k6, .int .i64 n6, .int .i64 s6, .string ⟨#[]⟩, .slice none 0 0, .slice none 0 0]] W fun e w' => e = .returned (.tuple #[.agg #[.int .i64 k7, .int .i64 n7, .int .i64 s7, .string ⟨#[]⟩, .slice none 0 0, .slice none 0 0], .int .i64 10]) ∧ Grow W w')) (w : World) :
    Calls Tryd.prog 7 #[.agg #[.int .i64 k1, .int .i64 n1, .int .i64 s1, .string ⟨#[]⟩, .slice na1 0 nc1, .slice ka1 0 kc1], .agg #[.int .i64 k2, .int .i64 n2, .int .i64 s2, .string ⟨#[]⟩, .slice na2 0 nc2, .slice ka2 0 kc2], .agg #[.int .i64 k3, .int .i64 n3, .int .i64 s3, .string ⟨#[]⟩, .slice na3 0 nc3, .slice ka3 0 kc3]] w fun e w' => e = .returned (.bool true) ∧ Grow w w' := by
  go_enter Tryd.func7, Tryd.ntmps7
  go_wp2_with fail
  obtain ⟨w1, HW1, H0⟩ : ∃ w1, (((w.alloc (Obj.cells #[.int .i64 k1, .int .i64 n1, .int .i64 s1, .string ⟨#[]⟩, .slice na1 0 nc1, .slice ka1 0 kc1] 25)).alloc (Obj.cells #[.int .i64 k2, .int .i64 n2, .int .i64 s2, .string ⟨#[]⟩, .slice na2 0 nc2, .slice ka2 0 kc2] 25)).alloc (Obj.cells #[.int .i64 k3, .int .i64 n3, .int .i64 s3, .string ⟨#[]⟩, .slice na3 0 nc3, .slice ka3 0 kc3] 25)) = w1 ∧ Hid (Blk w1 (w.heap.size) 25 [.int .i64 k1, .int .i64 n1, .int .i64 s1, .string ⟨#[]⟩, .slice na1 0 nc1, .slice ka1 0 kc1] ∧ Blk w1 (w.heap.size + 1) 25 [.int .i64 k2, .int .i64 n2, .int .i64 s2, .string ⟨#[]⟩, .slice na2 0 nc2, .slice ka2 0 kc2] ∧ Blk w1 (w.heap.size + 2) 25 [.int .i64 k3, .int .i64 n3, .int .i64 s3, .string ⟨#[]⟩, .slice na3 0 nc3, .slice ka3 0 kc3] ∧ Grow w w1) := ⟨_, rfl, (Blk.alloc (Blk.alloc (blk_at rfl) _) _), (Blk.alloc (blk_at (by simp)) _), (blk_at (by simp)), ((((Grow.refl _).alloc _).alloc _).alloc _)⟩
  rw [HW1]
  clear HW1
  refine (K1.out _).mono ?_
  rintro e w2 ⟨rfl, g0⟩
  have H1 : Hid (Blk w2 (w.heap.size) 25 [.int .i64 k1, .int .i64 n1, .int .i64 s1, .string ⟨#[]⟩, .slice na1 0 nc1, .slice ka1 0 kc1] ∧ Blk w2 (w.heap.size + 1) 25 [.int .i64 k2, .int .i64 n2, .int .i64 s2, .string ⟨#[]⟩, .slice na2 0 nc2, .slice ka2 0 kc2] ∧ Blk w2 (w.heap.size + 2) 25 [.int .i64 k3, .int .i64 n3, .int .i64 s3, .string ⟨#[]⟩, .slice na3 0 nc3, .slice ka3 0 kc3] ∧ Grow w w2) := ⟨(H0.out.1).grow g0, (H0.out.2.1).grow g0, (H0.out.2.2.1).grow g0, Grow.trans (H0.out.2.2.2) g0⟩
  clear H0 g0
  have q1_0 : w2.cell? ⟨w.heap.size + 1, 0, none⟩ = some (.int .i64 k2) := (H1.out.2.1).cell 0
  have q1_1 : w2.cell? ⟨w.heap.size + 1, 1, none⟩ = some (.int .i64 n2) := (H1.out.2.1).cell 1
  have q1_2 : w2.cell? ⟨w.heap.size + 1, 2, none⟩ = some (.int .i64 s2) := (H1.out.2.1).cell 2
  have q1_3 : w2.cell? ⟨w.heap.size + 1, 3, none⟩ = some (.string ⟨#[]⟩) := (H1.out.2.1).cell 3
  have q1_4 : w2.cell? ⟨w.heap.size + 1, 4, none⟩ = some (.slice na2 0 nc2) := (H1.out.2.1).cell 4
  have q1_5 : w2.cell? ⟨w.heap.size + 1, 5, none⟩ = some (.slice ka2 0 kc2) := (H1.out.2.1).cell 5
  go_wp2_with fail
  clear q1_0 q1_1 q1_2 q1_3 q1_4 q1_5
  refine (K2.out _).mono ?_
  rintro e w3 ⟨rfl, g1⟩
  have H2 : Hid (Blk w3 (w.heap.size) 25 [.int .i64 k1, .int .i64 n1, .int .i64 s1, .string ⟨#[]⟩, .slice na1 0 nc1, .slice ka1 0 kc1] ∧ Blk w3 (w.heap.size + 1) 25 [.int .i64 k2, .int .i64 n2, .int .i64 s2, .string ⟨#[]⟩, .slice na2 0 nc2, .slice ka2 0 kc2] ∧ Blk w3 (w.heap.size + 2) 25 [.int .i64 k3, .int .i64 n3, .int .i64 s3, .string ⟨#[]⟩, .slice na3 0 nc3, .slice ka3 0 kc3] ∧ Grow w w3) := ⟨(H1.out.1).grow g1, (H1.out.2.1).grow g1, (H1.out.2.2.1).grow g1, Grow.trans (H1.out.2.2.2) g1⟩
  clear H1 g1
  have q2_0 : w3.cell? ⟨w.heap.size + 2, 0, none⟩ = some (.int .i64 k3) := (H2.out.2.2.1).cell 0
  have q2_1 : w3.cell? ⟨w.heap.size + 2, 1, none⟩ = some (.int .i64 n3) := (H2.out.2.2.1).cell 1
  have q2_2 : w3.cell? ⟨w.heap.size + 2, 2, none⟩ = some (.int .i64 s3) := (H2.out.2.2.1).cell 2
  have q2_3 : w3.cell? ⟨w.heap.size + 2, 3, none⟩ = some (.string ⟨#[]⟩) := (H2.out.2.2.1).cell 3
  have q2_4 : w3.cell? ⟨w.heap.size + 2, 4, none⟩ = some (.slice na3 0 nc3) := (H2.out.2.2.1).cell 4
  have q2_5 : w3.cell? ⟨w.heap.size + 2, 5, none⟩ = some (.slice ka3 0 kc3) := (H2.out.2.2.1).cell 5
  go_wp2_with fail
  clear q2_0 q2_1 q2_2 q2_3 q2_4 q2_5
  refine (K3.out _).mono ?_
  rintro e w4 ⟨rfl, g2⟩
  have H3 : Hid (Blk w4 (w.heap.size) 25 [.int .i64 k1, .int .i64 n1, .int .i64 s1, .string ⟨#[]⟩, .slice na1 0 nc1, .slice ka1 0 kc1] ∧ Blk w4 (w.heap.size + 1) 25 [.int .i64 k2, .int .i64 n2, .int .i64 s2, .string ⟨#[]⟩, .slice na2 0 nc2, .slice ka2 0 kc2] ∧ Blk w4 (w.heap.size + 2) 25 [.int .i64 k3, .int .i64 n3, .int .i64 s3, .string ⟨#[]⟩, .slice na3 0 nc3, .slice ka3 0 kc3] ∧ Grow w w4) := ⟨(H2.out.1).grow g2, (H2.out.2.1).grow g2, (H2.out.2.2.1).grow g2, Grow.trans (H2.out.2.2.2) g2⟩
  clear H2 g2
  have q1_0 : w4.cell? ⟨w.heap.size + 1, 0, none⟩ = some (.int .i64 k2) := (H3.out.2.1).cell 0
  have q1_1 : w4.cell? ⟨w.heap.size + 1, 1, none⟩ = some (.int .i64 n2) := (H3.out.2.1).cell 1
  have q1_2 : w4.cell? ⟨w.heap.size + 1, 2, none⟩ = some (.int .i64 s2) := (H3.out.2.1).cell 2
  have q1_3 : w4.cell? ⟨w.heap.size + 1, 3, none⟩ = some (.string ⟨#[]⟩) := (H3.out.2.1).cell 3
  have q1_4 : w4.cell? ⟨w.heap.size + 1, 4, none⟩ = some (.slice na2 0 nc2) := (H3.out.2.1).cell 4
  have q1_5 : w4.cell? ⟨w.heap.size + 1, 5, none⟩ = some (.slice ka2 0 kc2) := (H3.out.2.1).cell 5
  have q2_0 : w4.cell? ⟨w.heap.size + 2, 0, none⟩ = some (.int .i64 k3) := (H3.out.2.2.1).cell 0
  have q2_1 : w4.cell? ⟨w.heap.size + 2, 1, none⟩ = some (.int .i64 n3) := (H3.out.2.2.1).cell 1
  have q2_2 : w4.cell? ⟨w.heap.size + 2, 2, none⟩ = some (.int .i64 s3) := (H3.out.2.2.1).cell 2
  have q2_3 : w4.cell? ⟨w.heap.size + 2, 3, none⟩ = some (.string ⟨#[]⟩) := (H3.out.2.2.1).cell 3
  have q2_4 : w4.cell? ⟨w.heap.size + 2, 4, none⟩ = some (.slice na3 0 nc3) := (H3.out.2.2.1).cell 4
  have q2_5 : w4.cell? ⟨w.heap.size + 2, 5, none⟩ = some (.slice ka3 0 kc3) := (H3.out.2.2.1).cell 5
  go_wp2_with fail
  clear q1_0 q1_1 q1_2 q1_3 q1_4 q1_5 q2_0 q2_1 q2_2 q2_3 q2_4 q2_5
  refine (A1.out _).mono ?_
  rintro e w5 ⟨rfl, g3⟩
  have H4 : Hid (Blk w5 (w.heap.size) 25 [.int .i64 k1, .int .i64 n1, .int .i64 s1, .string ⟨#[]⟩, .slice na1 0 nc1, .slice ka1 0 kc1] ∧ Blk w5 (w.heap.size + 1) 25 [.int .i64 k2, .int .i64 n2, .int .i64 s2, .string ⟨#[]⟩, .slice na2 0 nc2, .slice ka2 0 kc2] ∧ Blk w5 (w.heap.size + 2) 25 [.int .i64 k3, .int .i64 n3, .int .i64 s3, .string ⟨#[]⟩, .slice na3 0 nc3, .slice ka3 0 kc3] ∧ Grow w w5) := ⟨(H3.out.1).grow g3, (H3.out.2.1).grow g3, (H3.out.2.2.1).grow g3, Grow.trans (H3.out.2.2.2) g3⟩
  clear H3 g3
  go_wp2_with (refine al_zero rfl 25 rfl [.int .i64 0, .int .i64 0, .int .i64 0, .string ⟨#[]⟩, .slice none 0 0, .slice none 0 0] zV ?_)
  intro b4 vv4 ss4 zz4 xx4
  go_wp2_with (refine st_all rfl 25 (.tmp 7) (.tmp 34) rfl b4 25 [.int .i64 0, .int .i64 0, .int .i64 0, .string ⟨#[]⟩, .slice none 0 0, .slice none 0 0] [.int .i64 k4, .int .i64 n4, .int .i64 s4, .string ⟨#[]⟩, .slice none 0 0, .slice none 0 0] rfl rfl zz4 rfl sV (ones rfl) ?_)
  intro w6 yy4 mm4
  have H5 : Hid (Blk w6 (w.heap.size) 25 [.int .i64 k1, .int .i64 n1, .int .i64 s1, .string ⟨#[]⟩, .slice na1 0 nc1, .slice ka1 0 kc1] ∧ Blk w6 (w.heap.size + 1) 25 [.int .i64 k2, .int .i64 n2, .int .i64 s2, .string ⟨#[]⟩, .slice na2 0 nc2, .slice ka2 0 kc2] ∧ Blk w6 (w.heap.size + 2) 25 [.int .i64 k3, .int .i64 n3, .int .i64 s3, .string ⟨#[]⟩, .slice na3 0 nc3, .slice ka3 0 kc3] ∧ Blk w6 (b4) 25 [.int .i64 k4, .int .i64 n4, .int .i64 s4, .string ⟨#[]⟩, .slice none 0 0, .slice none 0 0] ∧ Grow w w6) := ⟨(((H4.out.1).kept xx4 (by simp)).kept mm4 (by intro e; injection e with e; have := (H4.out.1).lt; omega)), (((H4.out.2.1).kept xx4 (by simp)).kept mm4 (by intro e; injection e with e; have := (H4.out.2.1).lt; omega)), (((H4.out.2.2.1).kept xx4 (by simp)).kept mm4 (by intro e; injection e with e; have := (H4.out.2.2.1).lt; omega)), yy4, (by have x1 := H4.out.2.2.2; have x2 : Below w.heap.size w vv4 := Below.grown x1 xx4 x1.size (by intro e he; cases he); exact Below.grown x2 mm4 x2.size (by intro e he; injection he with he; have := x1.size; omega))⟩
  clear H4 ss4 zz4 xx4 yy4 mm4
  have q0_0 : w6.cell? ⟨w.heap.size, 0, none⟩ = some (.int .i64 k1) := (H5.out.1).cell 0
  have q0_1 : w6.cell? ⟨w.heap.size, 1, none⟩ = some (.int .i64 n1) := (H5.out.1).cell 1
  have q0_2 : w6.cell? ⟨w.heap.size, 2, none⟩ = some (.int .i64 s1) := (H5.out.1).cell 2
  have q0_3 : w6.cell? ⟨w.heap.size, 3, none⟩ = some (.string ⟨#[]⟩) := (H5.out.1).cell 3
  have q0_4 : w6.cell? ⟨w.heap.size, 4, none⟩ = some (.slice na1 0 nc1) := (H5.out.1).cell 4
  have q0_5 : w6.cell? ⟨w.heap.size, 5, none⟩ = some (.slice ka1 0 kc1) := (H5.out.1).cell 5
  have q1_0 : w6.cell? ⟨w.heap.size + 1, 0, none⟩ = some (.int .i64 k2) := (H5.out.2.1).cell 0
  have q1_1 : w6.cell? ⟨w.heap.size + 1, 1, none⟩ = some (.int .i64 n2) := (H5.out.2.1).cell 1
  have q1_2 : w6.cell? ⟨w.heap.size + 1, 2, none⟩ = some (.int .i64 s2) := (H5.out.2.1).cell 2
  have q1_3 : w6.cell? ⟨w.heap.size + 1, 3, none⟩ = some (.string ⟨#[]⟩) := (H5.out.2.1).cell 3
  have q1_4 : w6.cell? ⟨w.heap.size + 1, 4, none⟩ = some (.slice na2 0 nc2) := (H5.out.2.1).cell 4
  have q1_5 : w6.cell? ⟨w.heap.size + 1, 5, none⟩ = some (.slice ka2 0 kc2) := (H5.out.2.1).cell 5
  go_wp2_with fail
  clear q0_0 q0_1 q0_2 q0_3 q0_4 q0_5 q1_0 q1_1 q1_2 q1_3 q1_4 q1_5
  refine (M1.out _).mono ?_
  rintro e w7 ⟨rfl, g5⟩
  have H6 : Hid (Blk w7 (w.heap.size) 25 [.int .i64 k1, .int .i64 n1, .int .i64 s1, .string ⟨#[]⟩, .slice na1 0 nc1, .slice ka1 0 kc1] ∧ Blk w7 (w.heap.size + 1) 25 [.int .i64 k2, .int .i64 n2, .int .i64 s2, .string ⟨#[]⟩, .slice na2 0 nc2, .slice ka2 0 kc2] ∧ Blk w7 (w.heap.size + 2) 25 [.int .i64 k3, .int .i64 n3, .int .i64 s3, .string ⟨#[]⟩, .slice na3 0 nc3, .slice ka3 0 kc3] ∧ Blk w7 (b4) 25 [.int .i64 k4, .int .i64 n4, .int .i64 s4, .string ⟨#[]⟩, .slice none 0 0, .slice none 0 0] ∧ Grow w w7) := ⟨(H5.out.1).grow g5, (H5.out.2.1).grow g5, (H5.out.2.2.1).grow g5, (H5.out.2.2.2.1).grow g5, Grow.trans (H5.out.2.2.2.2) g5⟩
  clear H5 g5
  go_wp2_with (refine al_zero rfl 25 rfl [.int .i64 0, .int .i64 0, .int .i64 0, .string ⟨#[]⟩, .slice none 0 0, .slice none 0 0] zV ?_)
  intro b5 vv6 ss6 zz6 xx6
  go_wp2_with (refine st_all rfl 25 (.tmp 9) (.tmp 40) rfl b5 25 [.int .i64 0, .int .i64 0, .int .i64 0, .string ⟨#[]⟩, .slice none 0 0, .slice none 0 0] [.int .i64 k5, .int .i64 n5, .int .i64 s5, .string ⟨#[]⟩, .slice none 0 0, .slice none 0 0] rfl rfl zz6 rfl sV (ones rfl) ?_)
  intro w8 yy6 mm6
  have H7 : Hid (Blk w8 (w.heap.size) 25 [.int .i64 k1, .int .i64 n1, .int .i64 s1, .string ⟨#[]⟩, .slice na1 0 nc1, .slice ka1 0 kc1] ∧ Blk w8 (w.heap.size + 1) 25 [.int .i64 k2, .int .i64 n2, .int .i64 s2, .string ⟨#[]⟩, .slice na2 0 nc2, .slice ka2 0 kc2] ∧ Blk w8 (w.heap.size + 2) 25 [.int .i64 k3, .int .i64 n3, .int .i64 s3, .string ⟨#[]⟩, .slice na3 0 nc3, .slice ka3 0 kc3] ∧ Blk w8 (b4) 25 [.int .i64 k4, .int .i64 n4, .int .i64 s4, .string ⟨#[]⟩, .slice none 0 0, .slice none 0 0] ∧ Blk w8 (b5) 25 [.int .i64 k5, .int .i64 n5, .int .i64 s5, .string ⟨#[]⟩, .slice none 0 0, .slice none 0 0] ∧ Grow w w8) := ⟨(((H6.out.1).kept xx6 (by simp)).kept mm6 (by intro e; injection e with e; have := (H6.out.1).lt; omega)), (((H6.out.2.1).kept xx6 (by simp)).kept mm6 (by intro e; injection e with e; have := (H6.out.2.1).lt; omega)), (((H6.out.2.2.1).kept xx6 (by simp)).kept mm6 (by intro e; injection e with e; have := (H6.out.2.2.1).lt; omega)), (((H6.out.2.2.2.1).kept xx6 (by simp)).kept mm6 (by intro e; injection e with e; have := (H6.out.2.2.2.1).lt; omega)), yy6, (by have x1 := H6.out.2.2.2.2; have x2 : Below w.heap.size w vv6 := Below.grown x1 xx6 x1.size (by intro e he; cases he); exact Below.grown x2 mm6 x2.size (by intro e he; injection he with he; have := x1.size; omega))⟩
  clear H6 ss6 zz6 xx6 yy6 mm6
  have q0_0 : w8.cell? ⟨w.heap.size, 0, none⟩ = some (.int .i64 k1) := (H7.out.1).cell 0
  have q0_1 : w8.cell? ⟨w.heap.size, 1, none⟩ = some (.int .i64 n1) := (H7.out.1).cell 1
  have q0_2 : w8.cell? ⟨w.heap.size, 2, none⟩ = some (.int .i64 s1) := (H7.out.1).cell 2
  have q0_3 : w8.cell? ⟨w.heap.size, 3, none⟩ = some (.string ⟨#[]⟩) := (H7.out.1).cell 3
  have q0_4 : w8.cell? ⟨w.heap.size, 4, none⟩ = some (.slice na1 0 nc1) := (H7.out.1).cell 4
  have q0_5 : w8.cell? ⟨w.heap.size, 5, none⟩ = some (.slice ka1 0 kc1) := (H7.out.1).cell 5
  have q2_0 : w8.cell? ⟨w.heap.size + 2, 0, none⟩ = some (.int .i64 k3) := (H7.out.2.2.1).cell 0
  have q2_1 : w8.cell? ⟨w.heap.size + 2, 1, none⟩ = some (.int .i64 n3) := (H7.out.2.2.1).cell 1
  have q2_2 : w8.cell? ⟨w.heap.size + 2, 2, none⟩ = some (.int .i64 s3) := (H7.out.2.2.1).cell 2
  have q2_3 : w8.cell? ⟨w.heap.size + 2, 3, none⟩ = some (.string ⟨#[]⟩) := (H7.out.2.2.1).cell 3
  have q2_4 : w8.cell? ⟨w.heap.size + 2, 4, none⟩ = some (.slice na3 0 nc3) := (H7.out.2.2.1).cell 4
  have q2_5 : w8.cell? ⟨w.heap.size + 2, 5, none⟩ = some (.slice ka3 0 kc3) := (H7.out.2.2.1).cell 5
  go_wp2_with fail
  clear q0_0 q0_1 q0_2 q0_3 q0_4 q0_5 q2_0 q2_1 q2_2 q2_3 q2_4 q2_5
  refine (M2.out _).mono ?_
  rintro e w9 ⟨rfl, g7⟩
  have H8 : Hid (Blk w9 (w.heap.size) 25 [.int .i64 k1, .int .i64 n1, .int .i64 s1, .string ⟨#[]⟩, .slice na1 0 nc1, .slice ka1 0 kc1] ∧ Blk w9 (w.heap.size + 1) 25 [.int .i64 k2, .int .i64 n2, .int .i64 s2, .string ⟨#[]⟩, .slice na2 0 nc2, .slice ka2 0 kc2] ∧ Blk w9 (w.heap.size + 2) 25 [.int .i64 k3, .int .i64 n3, .int .i64 s3, .string ⟨#[]⟩, .slice na3 0 nc3, .slice ka3 0 kc3] ∧ Blk w9 (b4) 25 [.int .i64 k4, .int .i64 n4, .int .i64 s4, .string ⟨#[]⟩, .slice none 0 0, .slice none 0 0] ∧ Blk w9 (b5) 25 [.int .i64 k5, .int .i64 n5, .int .i64 s5, .string ⟨#[]⟩, .slice none 0 0, .slice none 0 0] ∧ Grow w w9) := ⟨(H7.out.1).grow g7, (H7.out.2.1).grow g7, (H7.out.2.2.1).grow g7, (H7.out.2.2.2.1).grow g7, (H7.out.2.2.2.2.1).grow g7, Grow.trans (H7.out.2.2.2.2.2) g7⟩
  clear H7 g7
  go_wp2_with (refine al_zero rfl 25 rfl [.int .i64 0, .int .i64 0, .int .i64 0, .string ⟨#[]⟩, .slice none 0 0, .slice none 0 0] zV ?_)
  intro b6 vv8 ss8 zz8 xx8
  go_wp2_with (refine st_all rfl 25 (.tmp 11) (.tmp 46) rfl b6 25 [.int .i64 0, .int .i64 0, .int .i64 0, .string ⟨#[]⟩, .slice none 0 0, .slice none 0 0] [.int .i64 k6, .int .i64 n6, .int .i64 s6, .string ⟨#[]⟩, .slice none 0 0, .slice none 0 0] rfl rfl zz8 rfl sV (ones rfl) ?_)
  intro w10 yy8 mm8
  have H9 : Hid (Blk w10 (w.heap.size) 25 [.int .i64 k1, .int .i64 n1, .int .i64 s1, .string ⟨#[]⟩, .slice na1 0 nc1, .slice ka1 0 kc1] ∧ Blk w10 (w.heap.size + 1) 25 [.int .i64 k2, .int .i64 n2, .int .i64 s2, .string ⟨#[]⟩, .slice na2 0 nc2, .slice ka2 0 kc2] ∧ Blk w10 (w.heap.size + 2) 25 [.int .i64 k3, .int .i64 n3, .int .i64 s3, .string ⟨#[]⟩, .slice na3 0 nc3, .slice ka3 0 kc3] ∧ Blk w10 (b4) 25 [.int .i64 k4, .int .i64 n4, .int .i64 s4, .string ⟨#[]⟩, .slice none 0 0, .slice none 0 0] ∧ Blk w10 (b5) 25 [.int .i64 k5, .int .i64 n5, .int .i64 s5, .string ⟨#[]⟩, .slice none 0 0, .slice none 0 0] ∧ Blk w10 (b6) 25 [.int .i64 k6, .int .i64 n6, .int .i64 s6, .string ⟨#[]⟩, .slice none 0 0, .slice none 0 0] ∧ Grow w w10) := ⟨(((H8.out.1).kept xx8 (by simp)).kept mm8 (by intro e; injection e with e; have := (H8.out.1).lt; omega)), (((H8.out.2.1).kept xx8 (by simp)).kept mm8 (by intro e; injection e with e; have := (H8.out.2.1).lt; omega)), (((H8.out.2.2.1).kept xx8 (by simp)).kept mm8 (by intro e; injection e with e; have := (H8.out.2.2.1).lt; omega)), (((H8.out.2.2.2.1).kept xx8 (by simp)).kept mm8 (by intro e; injection e with e; have := (H8.out.2.2.2.1).lt; omega)), (((H8.out.2.2.2.2.1).kept xx8 (by simp)).kept mm8 (by intro e; injection e with e; have := (H8.out.2.2.2.2.1).lt; omega)), yy8, (by have x1 := H8.out.2.2.2.2.2; have x2 : Below w.heap.size w vv8 := Below.grown x1 xx8 x1.size (by intro e he; cases he); exact Below.grown x2 mm8 x2.size (by intro e he; injection he with he; have := x1.size; omega))⟩
  clear H8 ss8 zz8 xx8 yy8 mm8
  have q0_0 : w10.cell? ⟨w.heap.size, 0, none⟩ = some (.int .i64 k1) := (H9.out.1).cell 0
  have q0_1 : w10.cell? ⟨w.heap.size, 1, none⟩ = some (.int .i64 n1) := (H9.out.1).cell 1
  have q0_2 : w10.cell? ⟨w.heap.size, 2, none⟩ = some (.int .i64 s1) := (H9.out.1).cell 2
  have q0_3 : w10.cell? ⟨w.heap.size, 3, none⟩ = some (.string ⟨#[]⟩) := (H9.out.1).cell 3
  have q0_4 : w10.cell? ⟨w.heap.size, 4, none⟩ = some (.slice na1 0 nc1) := (H9.out.1).cell 4
  have q0_5 : w10.cell? ⟨w.heap.size, 5, none⟩ = some (.slice ka1 0 kc1) := (H9.out.1).cell 5
  have q3_0 : w10.cell? ⟨b4, 0, none⟩ = some (.int .i64 k4) := (H9.out.2.2.2.1).cell 0
  have q3_1 : w10.cell? ⟨b4, 1, none⟩ = some (.int .i64 n4) := (H9.out.2.2.2.1).cell 1
  have q3_2 : w10.cell? ⟨b4, 2, none⟩ = some (.int .i64 s4) := (H9.out.2.2.2.1).cell 2
  have q3_3 : w10.cell? ⟨b4, 3, none⟩ = some (.string ⟨#[]⟩) := (H9.out.2.2.2.1).cell 3
  have q3_4 : w10.cell? ⟨b4, 4, none⟩ = some (.slice none 0 0) := (H9.out.2.2.2.1).cell 4
  have q3_5 : w10.cell? ⟨b4, 5, none⟩ = some (.slice none 0 0) := (H9.out.2.2.2.1).cell 5
  go_wp2_with fail
  clear q0_0 q0_1 q0_2 q0_3 q0_4 q0_5 q3_0 q3_1 q3_2 q3_3 q3_4 q3_5
  refine (M3.out _).mono ?_
  rintro e w11 ⟨rfl, g9⟩
  have H10 : Hid (Blk w11 (w.heap.size) 25 [.int .i64 k1, .int .i64 n1, .int .i64 s1, .string ⟨#[]⟩, .slice na1 0 nc1, .slice ka1 0 kc1] ∧ Blk w11 (w.heap.size + 1) 25 [.int .i64 k2, .int .i64 n2, .int .i64 s2, .string ⟨#[]⟩, .slice na2 0 nc2, .slice ka2 0 kc2] ∧ Blk w11 (w.heap.size + 2) 25 [.int .i64 k3, .int .i64 n3, .int .i64 s3, .string ⟨#[]⟩, .slice na3 0 nc3, .slice ka3 0 kc3] ∧ Blk w11 (b4) 25 [.int .i64 k4, .int .i64 n4, .int .i64 s4, .string ⟨#[]⟩, .slice none 0 0, .slice none 0 0] ∧ Blk w11 (b5) 25 [.int .i64 k5, .int .i64 n5, .int .i64 s5, .string ⟨#[]⟩, .slice none 0 0, .slice none 0 0] ∧ Blk w11 (b6) 25 [.int .i64 k6, .int .i64 n6, .int .i64 s6, .string ⟨#[]⟩, .slice none 0 0, .slice none 0 0] ∧ Grow w w11) := ⟨(H9.out.1).grow g9, (H9.out.2.1).grow g9, (H9.out.2.2.1).grow g9, (H9.out.2.2.2.1).grow g9, (H9.out.2.2.2.2.1).grow g9, (H9.out.2.2.2.2.2.1).grow g9, Grow.trans (H9.out.2.2.2.2.2.2) g9⟩
  clear H9 g9
  go_wp2_with (refine al_zero rfl 25 rfl [.int .i64 0, .int .i64 0, .int .i64 0, .string ⟨#[]⟩, .slice none 0 0, .slice none 0 0] zV ?_)
  intro b7 vv10 ss10 zz10 xx10
  go_wp2_with (refine st_all rfl 25 (.tmp 13) (.tmp 63) rfl b7 25 [.int .i64 0, .int .i64 0, .int .i64 0, .string ⟨#[]⟩, .slice none 0 0, .slice none 0 0] [.int .i64 k7, .int .i64 n7, .int .i64 s7, .string ⟨#[]⟩, .slice none 0 0, .slice none 0 0] rfl rfl zz10 rfl sV (ones rfl) ?_)
  intro w12 yy10 mm10
  have H11 : Hid (Blk w12 (w.heap.size) 25 [.int .i64 k1, .int .i64 n1, .int .i64 s1, .string ⟨#[]⟩, .slice na1 0 nc1, .slice ka1 0 kc1] ∧ Blk w12 (w.heap.size + 1) 25 [.int .i64 k2, .int .i64 n2, .int .i64 s2, .string ⟨#[]⟩, .slice na2 0 nc2, .slice ka2 0 kc2] ∧ Blk w12 (w.heap.size + 2) 25 [.int .i64 k3, .int .i64 n3, .int .i64 s3, .string ⟨#[]⟩, .slice na3 0 nc3, .slice ka3 0 kc3] ∧ Blk w12 (b4) 25 [.int .i64 k4, .int .i64 n4, .int .i64 s4, .string ⟨#[]⟩, .slice none 0 0, .slice none 0 0] ∧ Blk w12 (b5) 25 [.int .i64 k5, .int .i64 n5, .int .i64 s5, .string ⟨#[]⟩, .slice none 0 0, .slice none 0 0] ∧ Blk w12 (b6) 25 [.int .i64 k6, .int .i64 n6, .int .i64 s6, .string ⟨#[]⟩, .slice none 0 0, .slice none 0 0] ∧ Blk w12 (b7) 25 [.int .i64 k7, .int .i64 n7, .int .i64 s7, .string ⟨#[]⟩, .slice none 0 0, .slice none 0 0] ∧ Grow w w12) := ⟨(((H10.out.1).kept xx10 (by simp)).kept mm10 (by intro e; injection e with e; have := (H10.out.1).lt; omega)), (((H10.out.2.1).kept xx10 (by simp)).kept mm10 (by intro e; injection e with e; have := (H10.out.2.1).lt; omega)), (((H10.out.2.2.1).kept xx10 (by simp)).kept mm10 (by intro e; injection e with e; have := (H10.out.2.2.1).lt; omega)), (((H10.out.2.2.2.1).kept xx10 (by simp)).kept mm10 (by intro e; injection e with e; have := (H10.out.2.2.2.1).lt; omega)), (((H10.out.2.2.2.2.1).kept xx10 (by simp)).kept mm10 (by intro e; injection e with e; have := (H10.out.2.2.2.2.1).lt; omega)), (((H10.out.2.2.2.2.2.1).kept xx10 (by simp)).kept mm10 (by intro e; injection e with e; have := (H10.out.2.2.2.2.2.1).lt; omega)), yy10, (by have x1 := H10.out.2.2.2.2.2.2; have x2 : Below w.heap.size w vv10 := Below.grown x1 xx10 x1.size (by intro e he; cases he); exact Below.grown x2 mm10 x2.size (by intro e he; injection he with he; have := x1.size; omega))⟩
  clear H10 ss10 zz10 xx10 yy10 mm10
  have q4_0 : w12.cell? ⟨b5, 0, none⟩ = some (.int .i64 k5) := (H11.out.2.2.2.2.1).cell 0
  have q4_1 : w12.cell? ⟨b5, 1, none⟩ = some (.int .i64 n5) := (H11.out.2.2.2.2.1).cell 1
  have q4_2 : w12.cell? ⟨b5, 2, none⟩ = some (.int .i64 s5) := (H11.out.2.2.2.2.1).cell 2
  have q4_3 : w12.cell? ⟨b5, 3, none⟩ = some (.string ⟨#[]⟩) := (H11.out.2.2.2.2.1).cell 3
  have q4_4 : w12.cell? ⟨b5, 4, none⟩ = some (.slice none 0 0) := (H11.out.2.2.2.2.1).cell 4
  have q4_5 : w12.cell? ⟨b5, 5, none⟩ = some (.slice none 0 0) := (H11.out.2.2.2.2.1).cell 5
  have q5_0 : w12.cell? ⟨b6, 0, none⟩ = some (.int .i64 k6) := (H11.out.2.2.2.2.2.1).cell 0
  have q5_1 : w12.cell? ⟨b6, 1, none⟩ = some (.int .i64 n6) := (H11.out.2.2.2.2.2.1).cell 1
  have q5_2 : w12.cell? ⟨b6, 2, none⟩ = some (.int .i64 s6) := (H11.out.2.2.2.2.2.1).cell 2
  have q5_3 : w12.cell? ⟨b6, 3, none⟩ = some (.string ⟨#[]⟩) := (H11.out.2.2.2.2.2.1).cell 3
  have q5_4 : w12.cell? ⟨b6, 4, none⟩ = some (.slice none 0 0) := (H11.out.2.2.2.2.2.1).cell 4
  have q5_5 : w12.cell? ⟨b6, 5, none⟩ = some (.slice none 0 0) := (H11.out.2.2.2.2.2.1).cell 5
  go_wp2_with fail
  clear q4_0 q4_1 q4_2 q4_3 q4_4 q4_5 q5_0 q5_1 q5_2 q5_3 q5_4 q5_5
  refine (A2.out _).mono ?_
  rintro e w13 ⟨rfl, g11⟩
  have H12 : Hid (Blk w13 (w.heap.size) 25 [.int .i64 k1, .int .i64 n1, .int .i64 s1, .string ⟨#[]⟩, .slice na1 0 nc1, .slice ka1 0 kc1] ∧ Blk w13 (w.heap.size + 1) 25 [.int .i64 k2, .int .i64 n2, .int .i64 s2, .string ⟨#[]⟩, .slice na2 0 nc2, .slice ka2 0 kc2] ∧ Blk w13 (w.heap.size + 2) 25 [.int .i64 k3, .int .i64 n3, .int .i64 s3, .string ⟨#[]⟩, .slice na3 0 nc3, .slice ka3 0 kc3] ∧ Blk w13 (b4) 25 [.int .i64 k4, .int .i64 n4, .int .i64 s4, .string ⟨#[]⟩, .slice none 0 0, .slice none 0 0] ∧ Blk w13 (b5) 25 [.int .i64 k5, .int .i64 n5, .int .i64 s5, .string ⟨#[]⟩, .slice none 0 0, .slice none 0 0] ∧ Blk w13 (b6) 25 [.int .i64 k6, .int .i64 n6, .int .i64 s6, .string ⟨#[]⟩, .slice none 0 0, .slice none 0 0] ∧ Blk w13 (b7) 25 [.int .i64 k7, .int .i64 n7, .int .i64 s7, .string ⟨#[]⟩, .slice none 0 0, .slice none 0 0] ∧ Grow w w13) := ⟨(H11.out.1).grow g11, (H11.out.2.1).grow g11, (H11.out.2.2.1).grow g11, (H11.out.2.2.2.1).grow g11, (H11.out.2.2.2.2.1).grow g11, (H11.out.2.2.2.2.2.1).grow g11, (H11.out.2.2.2.2.2.2.1).grow g11, Grow.trans (H11.out.2.2.2.2.2.2.2) g11⟩
  clear H11 g11
  go_wp2_with (refine al_zero rfl 25 rfl [.int .i64 0, .int .i64 0, .int .i64 0, .string ⟨#[]⟩, .slice none 0 0, .slice none 0 0] zV ?_)
  intro b8 vv12 ss12 zz12 xx12
  go_wp2_with (refine st_all rfl 25 (.tmp 15) (.tmp 69) rfl b8 25 [.int .i64 0, .int .i64 0, .int .i64 0, .string ⟨#[]⟩, .slice none 0 0, .slice none 0 0] [.int .i64 k7, .int .i64 n7, .int .i64 s7, .string ⟨#[]⟩, .slice none 0 0, .slice none 0 0] rfl rfl zz12 rfl sV (ones rfl) ?_)
  intro w14 yy12 mm12
  have H13 : Hid (Blk w14 (w.heap.size) 25 [.int .i64 k1, .int .i64 n1, .int .i64 s1, .string ⟨#[]⟩, .slice na1 0 nc1, .slice ka1 0 kc1] ∧ Blk w14 (w.heap.size + 1) 25 [.int .i64 k2, .int .i64 n2, .int .i64 s2, .string ⟨#[]⟩, .slice na2 0 nc2, .slice ka2 0 kc2] ∧ Blk w14 (w.heap.size + 2) 25 [.int .i64 k3, .int .i64 n3, .int .i64 s3, .string ⟨#[]⟩, .slice na3 0 nc3, .slice ka3 0 kc3] ∧ Blk w14 (b4) 25 [.int .i64 k4, .int .i64 n4, .int .i64 s4, .string ⟨#[]⟩, .slice none 0 0, .slice none 0 0] ∧ Blk w14 (b5) 25 [.int .i64 k5, .int .i64 n5, .int .i64 s5, .string ⟨#[]⟩, .slice none 0 0, .slice none 0 0] ∧ Blk w14 (b6) 25 [.int .i64 k6, .int .i64 n6, .int .i64 s6, .string ⟨#[]⟩, .slice none 0 0, .slice none 0 0] ∧ Blk w14 (b7) 25 [.int .i64 k7, .int .i64 n7, .int .i64 s7, .string ⟨#[]⟩, .slice none 0 0, .slice none 0 0] ∧ Blk w14 (b8) 25 [.int .i64 k7, .int .i64 n7, .int .i64 s7, .string ⟨#[]⟩, .slice none 0 0, .slice none 0 0] ∧ Grow w w14) := ⟨(((H12.out.1).kept xx12 (by simp)).kept mm12 (by intro e; injection e with e; have := (H12.out.1).lt; omega)), (((H12.out.2.1).kept xx12 (by simp)).kept mm12 (by intro e; injection e with e; have := (H12.out.2.1).lt; omega)), (((H12.out.2.2.1).kept xx12 (by simp)).kept mm12 (by intro e; injection e with e; have := (H12.out.2.2.1).lt; omega)), (((H12.out.2.2.2.1).kept xx12 (by simp)).kept mm12 (by intro e; injection e with e; have := (H12.out.2.2.2.1).lt; omega)), (((H12.out.2.2.2.2.1).kept xx12 (by simp)).kept mm12 (by intro e; injection e with e; have := (H12.out.2.2.2.2.1).lt; omega)), (((H12.out.2.2.2.2.2.1).kept xx12 (by simp)).kept mm12 (by intro e; injection e with e; have := (H12.out.2.2.2.2.2.1).lt; omega)), (((H12.out.2.2.2.2.2.2.1).kept xx12 (by simp)).kept mm12 (by intro e; injection e with e; have := (H12.out.2.2.2.2.2.2.1).lt; omega)), yy12, (by have x1 := H12.out.2.2.2.2.2.2.2; have x2 : Below w.heap.size w vv12 := Below.grown x1 xx12 x1.size (by intro e he; cases he); exact Below.grown x2 mm12 x2.size (by intro e he; injection he with he; have := x1.size; omega))⟩
  clear H12 ss12 zz12 xx12 yy12 mm12
  go_wp2_with fail
  refine (known_any _).mono ?_
  rintro e w15 ⟨rfl, g13⟩
  have H14 : Hid (Blk w15 (w.heap.size) 25 [.int .i64 k1, .int .i64 n1, .int .i64 s1, .string ⟨#[]⟩, .slice na1 0 nc1, .slice ka1 0 kc1] ∧ Blk w15 (w.heap.size + 1) 25 [.int .i64 k2, .int .i64 n2, .int .i64 s2, .string ⟨#[]⟩, .slice na2 0 nc2, .slice ka2 0 kc2] ∧ Blk w15 (w.heap.size + 2) 25 [.int .i64 k3, .int .i64 n3, .int .i64 s3, .string ⟨#[]⟩, .slice na3 0 nc3, .slice ka3 0 kc3] ∧ Blk w15 (b4) 25 [.int .i64 k4, .int .i64 n4, .int .i64 s4, .string ⟨#[]⟩, .slice none 0 0, .slice none 0 0] ∧ Blk w15 (b5) 25 [.int .i64 k5, .int .i64 n5, .int .i64 s5, .string ⟨#[]⟩, .slice none 0 0, .slice none 0 0] ∧ Blk w15 (b6) 25 [.int .i64 k6, .int .i64 n6, .int .i64 s6, .string ⟨#[]⟩, .slice none 0 0, .slice none 0 0] ∧ Blk w15 (b7) 25 [.int .i64 k7, .int .i64 n7, .int .i64 s7, .string ⟨#[]⟩, .slice none 0 0, .slice none 0 0] ∧ Blk w15 (b8) 25 [.int .i64 k7, .int .i64 n7, .int .i64 s7, .string ⟨#[]⟩, .slice none 0 0, .slice none 0 0] ∧ Grow w w15) := ⟨(H13.out.1).grow g13, (H13.out.2.1).grow g13, (H13.out.2.2.1).grow g13, (H13.out.2.2.2.1).grow g13, (H13.out.2.2.2.2.1).grow g13, (H13.out.2.2.2.2.2.1).grow g13, (H13.out.2.2.2.2.2.2.1).grow g13, (H13.out.2.2.2.2.2.2.2.1).grow g13, Grow.trans (H13.out.2.2.2.2.2.2.2.2) g13⟩
  clear H13 g13
  go_wp2
  go_ret
  exact ⟨rfl, H14.out.2.2.2.2.2.2.2.2⟩
end Go.Proofs.YthdonaoaiendpaaDoor
