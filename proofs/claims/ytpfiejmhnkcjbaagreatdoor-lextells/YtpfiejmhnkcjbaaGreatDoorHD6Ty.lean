import Derived.Test.YtpfiejmhnkcjbaaGreatDoorHG23x
namespace Go.Proofs.YtpfiejmhnkcjbaaGreatDoor.D6
set_option maxRecDepth 8000
open Go.RowKit
set_option linter.unusedVariables false
theorem textG_i_p (k n : Int) (na : Option Addr) (nc : Nat) (ka : Option Addr) (kc : Nat) (A : Nat) (D : ByteArray)
 (K1 : Hid (∀ W, Calls Tryz.prog 164 #[.agg #[.int .i64 k, .int .i64 n, .int .i64 0, .string ⟨#[]⟩, .slice na 0 nc, .slice ka 0 kc]] W fun e w' => e = .returned (.bool true) /\ Grow W w'))
 (K2 : Hid (∀ W, Calls Tryz.prog 165 #[.int .i64 n, .int .i64 0] W fun e w' => e = .returned (.agg #[.bool false, .int .u64 0, .int .u64 (A : Int), .int .i64 0]) /\ Grow W w'))
 (w : World) (K3 : Hid (∀ W, Grow w W -> Calls Tryz.prog 166 #[.int .u64 (A : Int), .int .i64 10] W fun e w' => e = .returned (.string D) /\ Grow W w'))
 (hT : D.size <= 40) :
 Calls Tryz.prog 140 #[.agg #[.int .i64 k, .int .i64 n, .int .i64 0, .string ⟨#[]⟩, .slice na 0 nc, .slice ka 0 kc]] w fun e w' => e = .returned (.tuple #[.string D, .int .i64 0]) /\ Grow w w' := by
 go_enter Tryz.func140, Tryz.ntmps140
 go_wp2_with fail
 obtain ⟨w1, HW1⟩ : ∃ w1, (w.alloc (Obj.cells #[.int .i64 k, .int .i64 n, .int .i64 0, .string ⟨#[]⟩, .slice na 0 nc, .slice ka 0 kc] 41)) = w1 := ⟨_, rfl⟩
 obtain ⟨C, hC⟩ : ∃ C : World -> Prop, C = fun W => Grow w1 W := ⟨_, rfl⟩
 have GW : Hid (∀ W, C W -> Grow w W) := fun W hW => by rw [hC, <- HW1] at hW; exact Grow.trans ((Grow.refl _).alloc _) hW
 have B0 : Hid (∀ W, C W -> Blk W (w.heap.size) 41 [.int .i64 k, .int .i64 n, .int .i64 0, .string ⟨#[]⟩, .slice na 0 nc, .slice ka 0 kc]) := fun W hW => by rw [hC, <- HW1] at hW; exact Blk.grow (blk_at rfl) hW
 have CG : Hid (∀ W W', C W -> Grow W W' -> C W') := fun W W' h1 h2 => by rw [hC] at h1 ⊢; exact h1.trans h2
 have CW : Hid (C w1) := by rw [hC]; exact Grow.refl _
 rw [HW1]
 clear HW1 hC
 refine (K1.out _).mono ?_
 rintro e w2 ⟨rfl, g2⟩
 have HB : Hid (Blk w2 w.heap.size 41 [.int .i64 k, .int .i64 n, .int .i64 0, .string ⟨#[]⟩, .slice na 0 nc, .slice ka 0 kc] /\ Grow w w2) := ⟨(B0.out _ CW.out).grow g2, (GW.out _ CW.out).trans g2⟩
 clear B0 GW CG CW g2 K1
 have y0 : w2.cell? ⟨w.heap.size, 0, none⟩ = some (.int .i64 k) := (HB.out.1).cell 0
 have y1 : w2.cell? ⟨w.heap.size, 1, none⟩ = some (.int .i64 n) := (HB.out.1).cell 1
 have y2 : w2.cell? ⟨w.heap.size, 2, none⟩ = some (.int .i64 0) := (HB.out.1).cell 2
 have y3 : w2.cell? ⟨w.heap.size, 3, none⟩ = some (.string ⟨#[]⟩) := (HB.out.1).cell 3
 have y4 : w2.cell? ⟨w.heap.size, 4, none⟩ = some (.slice na 0 nc) := (HB.out.1).cell 4
 have y5 : w2.cell? ⟨w.heap.size, 5, none⟩ = some (.slice ka 0 kc) := (HB.out.1).cell 5
 go_wp2_with fail
 clear y0 y1 y2 y3 y4 y5
 refine (K2.out _).mono ?_
 rintro e w3 ⟨rfl, g3⟩
 have G3 : Hid (Grow w w3) := HB.out.2.trans g3
 clear HB g3 K2
 go_wp2_with (refine al_zero rfl 102 rfl [.bool false, .int .u64 0, .int .u64 0, .int .i64 0] zN ?_)
 intro b4 w4 s4 B4 g4
 go_wp2_with (refine st_all rfl 102 (.tmp 4) (.tmp 13) rfl b4 102 [.bool false, .int .u64 0, .int .u64 0, .int .i64 0] [.bool false, .int .u64 0, .int .u64 (A : Int), .int .i64 0] rfl rfl B4 rfl sN (ones rfl) ?_)
 intro w5 B5 g5
 have HC : Hid (Blk w5 b4 102 [.bool false, .int .u64 0, .int .u64 (A : Int), .int .i64 0] /\ Grow w w5) := by
  refine ⟨B5, ?_⟩
  have x1 := G3.out
  have x2 : Below w.heap.size w w4 := Below.grown x1 g4 x1.size (by intro e he; cases he)
  exact Below.grown x2 g5 x2.size (by intro e he; injection he with he; have := x1.size; omega)
 clear B5 g5 B4 g4 s4 G3
 have z0 : w5.cell? ⟨b4, 0, none⟩ = some (.bool false) := (HC.out.1).cell 0
 have z1 : w5.cell? ⟨b4, 1, none⟩ = some (.int .u64 0) := (HC.out.1).cell 1
 have z2 : w5.cell? ⟨b4, 2, none⟩ = some (.int .u64 (A : Int)) := (HC.out.1).cell 2
 have z3 : w5.cell? ⟨b4, 3, none⟩ = some (.int .i64 0) := (HC.out.1).cell 3
 go_wp2_with fail
 clear z0 z1 z2 z3
 refine (K3.out _ HC.out.2).mono ?_
 rintro e w6 ⟨rfl, g6⟩
 have HD : Hid (Blk w6 b4 102 [.bool false, .int .u64 0, .int .u64 (A : Int), .int .i64 0] /\ Grow w w6) := ⟨HC.out.1.grow g6, HC.out.2.trans g6⟩
 clear HC g6 K3
 have z0 : w6.cell? ⟨b4, 0, none⟩ = some (.bool false) := (HD.out.1).cell 0
 have z1 : w6.cell? ⟨b4, 1, none⟩ = some (.int .u64 0) := (HD.out.1).cell 1
 have z2 : w6.cell? ⟨b4, 2, none⟩ = some (.int .u64 (A : Int)) := (HD.out.1).cell 2
 have z3 : w6.cell? ⟨b4, 3, none⟩ = some (.int .i64 0) := (HD.out.1).cell 3
 have HE := HD
 clear HD
 go_wp2
 go_ret2
 exact ⟨rfl, HE.out.2⟩
theorem textG_i_n (k n : Int) (na : Option Addr) (nc : Nat) (ka : Option Addr) (kc : Nat) (A : Nat) (D : ByteArray)
 (K1 : Hid (∀ W, Calls Tryz.prog 164 #[.agg #[.int .i64 k, .int .i64 n, .int .i64 0, .string ⟨#[]⟩, .slice na 0 nc, .slice ka 0 kc]] W fun e w' => e = .returned (.bool true) /\ Grow W w'))
 (K2 : Hid (∀ W, Calls Tryz.prog 165 #[.int .i64 n, .int .i64 0] W fun e w' => e = .returned (.agg #[.bool true, .int .u64 0, .int .u64 (A : Int), .int .i64 0]) /\ Grow W w'))
 (w : World) (K3 : Hid (∀ W, Grow w W -> Calls Tryz.prog 166 #[.int .u64 (A : Int), .int .i64 10] W fun e w' => e = .returned (.string D) /\ Grow W w'))
 (hT : D.size <= 40) :
 Calls Tryz.prog 140 #[.agg #[.int .i64 k, .int .i64 n, .int .i64 0, .string ⟨#[]⟩, .slice na 0 nc, .slice ka 0 kc]] w fun e w' => e = .returned (.tuple #[.string (⟨#[45]⟩ ++ D), .int .i64 0]) /\ Grow w w' := by
 go_enter Tryz.func140, Tryz.ntmps140
 go_wp2_with fail
 obtain ⟨w1, HW1⟩ : ∃ w1, (w.alloc (Obj.cells #[.int .i64 k, .int .i64 n, .int .i64 0, .string ⟨#[]⟩, .slice na 0 nc, .slice ka 0 kc] 41)) = w1 := ⟨_, rfl⟩
 obtain ⟨C, hC⟩ : ∃ C : World -> Prop, C = fun W => Grow w1 W := ⟨_, rfl⟩
 have GW : Hid (∀ W, C W -> Grow w W) := fun W hW => by rw [hC, <- HW1] at hW; exact Grow.trans ((Grow.refl _).alloc _) hW
 have B0 : Hid (∀ W, C W -> Blk W (w.heap.size) 41 [.int .i64 k, .int .i64 n, .int .i64 0, .string ⟨#[]⟩, .slice na 0 nc, .slice ka 0 kc]) := fun W hW => by rw [hC, <- HW1] at hW; exact Blk.grow (blk_at rfl) hW
 have CG : Hid (∀ W W', C W -> Grow W W' -> C W') := fun W W' h1 h2 => by rw [hC] at h1 ⊢; exact h1.trans h2
 have CW : Hid (C w1) := by rw [hC]; exact Grow.refl _
 rw [HW1]
 clear HW1 hC
 refine (K1.out _).mono ?_
 rintro e w2 ⟨rfl, g2⟩
 have HB : Hid (Blk w2 w.heap.size 41 [.int .i64 k, .int .i64 n, .int .i64 0, .string ⟨#[]⟩, .slice na 0 nc, .slice ka 0 kc] /\ Grow w w2) := ⟨(B0.out _ CW.out).grow g2, (GW.out _ CW.out).trans g2⟩
 clear B0 GW CG CW g2 K1
 have y0 : w2.cell? ⟨w.heap.size, 0, none⟩ = some (.int .i64 k) := (HB.out.1).cell 0
 have y1 : w2.cell? ⟨w.heap.size, 1, none⟩ = some (.int .i64 n) := (HB.out.1).cell 1
 have y2 : w2.cell? ⟨w.heap.size, 2, none⟩ = some (.int .i64 0) := (HB.out.1).cell 2
 have y3 : w2.cell? ⟨w.heap.size, 3, none⟩ = some (.string ⟨#[]⟩) := (HB.out.1).cell 3
 have y4 : w2.cell? ⟨w.heap.size, 4, none⟩ = some (.slice na 0 nc) := (HB.out.1).cell 4
 have y5 : w2.cell? ⟨w.heap.size, 5, none⟩ = some (.slice ka 0 kc) := (HB.out.1).cell 5
 go_wp2_with fail
 clear y0 y1 y2 y3 y4 y5
 refine (K2.out _).mono ?_
 rintro e w3 ⟨rfl, g3⟩
 have G3 : Hid (Grow w w3) := HB.out.2.trans g3
 clear HB g3 K2
 go_wp2_with (refine al_zero rfl 102 rfl [.bool false, .int .u64 0, .int .u64 0, .int .i64 0] zN ?_)
 intro b4 w4 s4 B4 g4
 go_wp2_with (refine st_all rfl 102 (.tmp 4) (.tmp 13) rfl b4 102 [.bool false, .int .u64 0, .int .u64 0, .int .i64 0] [.bool true, .int .u64 0, .int .u64 (A : Int), .int .i64 0] rfl rfl B4 rfl sN (ones rfl) ?_)
 intro w5 B5 g5
 have HC : Hid (Blk w5 b4 102 [.bool true, .int .u64 0, .int .u64 (A : Int), .int .i64 0] /\ Grow w w5) := by
  refine ⟨B5, ?_⟩
  have x1 := G3.out
  have x2 : Below w.heap.size w w4 := Below.grown x1 g4 x1.size (by intro e he; cases he)
  exact Below.grown x2 g5 x2.size (by intro e he; injection he with he; have := x1.size; omega)
 clear B5 g5 B4 g4 s4 G3
 have z0 : w5.cell? ⟨b4, 0, none⟩ = some (.bool true) := (HC.out.1).cell 0
 have z1 : w5.cell? ⟨b4, 1, none⟩ = some (.int .u64 0) := (HC.out.1).cell 1
 have z2 : w5.cell? ⟨b4, 2, none⟩ = some (.int .u64 (A : Int)) := (HC.out.1).cell 2
 have z3 : w5.cell? ⟨b4, 3, none⟩ = some (.int .i64 0) := (HC.out.1).cell 3
 go_wp2_with fail
 clear z0 z1 z2 z3
 refine (K3.out _ HC.out.2).mono ?_
 rintro e w6 ⟨rfl, g6⟩
 have HD : Hid (Blk w6 b4 102 [.bool true, .int .u64 0, .int .u64 (A : Int), .int .i64 0] /\ Grow w w6) := ⟨HC.out.1.grow g6, HC.out.2.trans g6⟩
 clear HC g6 K3
 have z0 : w6.cell? ⟨b4, 0, none⟩ = some (.bool true) := (HD.out.1).cell 0
 have z1 : w6.cell? ⟨b4, 1, none⟩ = some (.int .u64 0) := (HD.out.1).cell 1
 have z2 : w6.cell? ⟨b4, 2, none⟩ = some (.int .u64 (A : Int)) := (HD.out.1).cell 2
 have z3 : w6.cell? ⟨b4, 3, none⟩ = some (.int .i64 0) := (HD.out.1).cell 3
 have HE := HD
 clear HD
 have hsz : ¬ 9223372036854775807 < 1 + D.size := by omega
 go_wp2
 go_ret2
 exact ⟨rfl, HE.out.2⟩
theorem textG_d_p (k n : Int) (s : Nat) (s0 : 0 < s) (na : Option Addr) (nc : Nat) (ka : Option Addr) (kc : Nat) (A : Nat) (D T : ByteArray)
 (K1 : Hid (∀ W, Calls Tryz.prog 164 #[.agg #[.int .i64 k, .int .i64 n, .int .i64 (s : Int), .string ⟨#[]⟩, .slice na 0 nc, .slice ka 0 kc]] W fun e w' => e = .returned (.bool true) /\ Grow W w'))
 (K2 : Hid (∀ W, Calls Tryz.prog 165 #[.int .i64 n, .int .i64 (s : Int)] W fun e w' => e = .returned (.agg #[.bool false, .int .u64 0, .int .u64 (A : Int), .int .i64 (s : Int)]) /\ Grow W w'))
 (w : World) (K3 : Hid (∀ W, Grow w W -> Calls Tryz.prog 166 #[.int .u64 (A : Int), .int .i64 10] W fun e w' => e = .returned (.string D) /\ Grow W w'))
 (K4 : Hid (∀ W, Calls Tryz.prog 167 #[.string D, .int .i64 (s : Int)] W fun e w' => e = .returned (.string T) /\ Grow W w'))
 (hT : T.size <= 40) :
 Calls Tryz.prog 140 #[.agg #[.int .i64 k, .int .i64 n, .int .i64 (s : Int), .string ⟨#[]⟩, .slice na 0 nc, .slice ka 0 kc]] w fun e w' => e = .returned (.tuple #[.string T, .int .i64 0]) /\ Grow w w' := by
 go_enter Tryz.func140, Tryz.ntmps140
 go_wp2_with fail
 obtain ⟨w1, HW1⟩ : ∃ w1, (w.alloc (Obj.cells #[.int .i64 k, .int .i64 n, .int .i64 (s : Int), .string ⟨#[]⟩, .slice na 0 nc, .slice ka 0 kc] 41)) = w1 := ⟨_, rfl⟩
 obtain ⟨C, hC⟩ : ∃ C : World -> Prop, C = fun W => Grow w1 W := ⟨_, rfl⟩
 have GW : Hid (∀ W, C W -> Grow w W) := fun W hW => by rw [hC, <- HW1] at hW; exact Grow.trans ((Grow.refl _).alloc _) hW
 have B0 : Hid (∀ W, C W -> Blk W (w.heap.size) 41 [.int .i64 k, .int .i64 n, .int .i64 (s : Int), .string ⟨#[]⟩, .slice na 0 nc, .slice ka 0 kc]) := fun W hW => by rw [hC, <- HW1] at hW; exact Blk.grow (blk_at rfl) hW
 have CG : Hid (∀ W W', C W -> Grow W W' -> C W') := fun W W' h1 h2 => by rw [hC] at h1 ⊢; exact h1.trans h2
 have CW : Hid (C w1) := by rw [hC]; exact Grow.refl _
 rw [HW1]
 clear HW1 hC
 refine (K1.out _).mono ?_
 rintro e w2 ⟨rfl, g2⟩
 have HB : Hid (Blk w2 w.heap.size 41 [.int .i64 k, .int .i64 n, .int .i64 (s : Int), .string ⟨#[]⟩, .slice na 0 nc, .slice ka 0 kc] /\ Grow w w2) := ⟨(B0.out _ CW.out).grow g2, (GW.out _ CW.out).trans g2⟩
 clear B0 GW CG CW g2 K1
 have y0 : w2.cell? ⟨w.heap.size, 0, none⟩ = some (.int .i64 k) := (HB.out.1).cell 0
 have y1 : w2.cell? ⟨w.heap.size, 1, none⟩ = some (.int .i64 n) := (HB.out.1).cell 1
 have y2 : w2.cell? ⟨w.heap.size, 2, none⟩ = some (.int .i64 (s : Int)) := (HB.out.1).cell 2
 have y3 : w2.cell? ⟨w.heap.size, 3, none⟩ = some (.string ⟨#[]⟩) := (HB.out.1).cell 3
 have y4 : w2.cell? ⟨w.heap.size, 4, none⟩ = some (.slice na 0 nc) := (HB.out.1).cell 4
 have y5 : w2.cell? ⟨w.heap.size, 5, none⟩ = some (.slice ka 0 kc) := (HB.out.1).cell 5
 go_wp2_with fail
 clear y0 y1 y2 y3 y4 y5
 refine (K2.out _).mono ?_
 rintro e w3 ⟨rfl, g3⟩
 have G3 : Hid (Grow w w3) := HB.out.2.trans g3
 clear HB g3 K2
 go_wp2_with (refine al_zero rfl 102 rfl [.bool false, .int .u64 0, .int .u64 0, .int .i64 0] zN ?_)
 intro b4 w4 s4 B4 g4
 go_wp2_with (refine st_all rfl 102 (.tmp 4) (.tmp 13) rfl b4 102 [.bool false, .int .u64 0, .int .u64 0, .int .i64 0] [.bool false, .int .u64 0, .int .u64 (A : Int), .int .i64 (s : Int)] rfl rfl B4 rfl sN (ones rfl) ?_)
 intro w5 B5 g5
 have HC : Hid (Blk w5 b4 102 [.bool false, .int .u64 0, .int .u64 (A : Int), .int .i64 (s : Int)] /\ Grow w w5) := by
  refine ⟨B5, ?_⟩
  have x1 := G3.out
  have x2 : Below w.heap.size w w4 := Below.grown x1 g4 x1.size (by intro e he; cases he)
  exact Below.grown x2 g5 x2.size (by intro e he; injection he with he; have := x1.size; omega)
 clear B5 g5 B4 g4 s4 G3
 have z0 : w5.cell? ⟨b4, 0, none⟩ = some (.bool false) := (HC.out.1).cell 0
 have z1 : w5.cell? ⟨b4, 1, none⟩ = some (.int .u64 0) := (HC.out.1).cell 1
 have z2 : w5.cell? ⟨b4, 2, none⟩ = some (.int .u64 (A : Int)) := (HC.out.1).cell 2
 have z3 : w5.cell? ⟨b4, 3, none⟩ = some (.int .i64 (s : Int)) := (HC.out.1).cell 3
 go_wp2_with fail
 clear z0 z1 z2 z3
 refine (K3.out _ HC.out.2).mono ?_
 rintro e w6 ⟨rfl, g6⟩
 have HD : Hid (Blk w6 b4 102 [.bool false, .int .u64 0, .int .u64 (A : Int), .int .i64 (s : Int)] /\ Grow w w6) := ⟨HC.out.1.grow g6, HC.out.2.trans g6⟩
 clear HC g6 K3
 have z0 : w6.cell? ⟨b4, 0, none⟩ = some (.bool false) := (HD.out.1).cell 0
 have z1 : w6.cell? ⟨b4, 1, none⟩ = some (.int .u64 0) := (HD.out.1).cell 1
 have z2 : w6.cell? ⟨b4, 2, none⟩ = some (.int .u64 (A : Int)) := (HD.out.1).cell 2
 have z3 : w6.cell? ⟨b4, 3, none⟩ = some (.int .i64 (s : Int)) := (HD.out.1).cell 3
 go_wp2_with fail
 clear z0 z1 z2 z3
 refine (K4.out _).mono ?_
 rintro e w7 ⟨rfl, g7⟩
 have HE : Hid (Blk w7 b4 102 [.bool false, .int .u64 0, .int .u64 (A : Int), .int .i64 (s : Int)] /\ Grow w w7) := ⟨HD.out.1.grow g7, HD.out.2.trans g7⟩
 clear HD g7 K4
 have z0 : w7.cell? ⟨b4, 0, none⟩ = some (.bool false) := (HE.out.1).cell 0
 have z1 : w7.cell? ⟨b4, 1, none⟩ = some (.int .u64 0) := (HE.out.1).cell 1
 have z2 : w7.cell? ⟨b4, 2, none⟩ = some (.int .u64 (A : Int)) := (HE.out.1).cell 2
 have z3 : w7.cell? ⟨b4, 3, none⟩ = some (.int .i64 (s : Int)) := (HE.out.1).cell 3
 go_wp2
 go_ret2
 exact ⟨rfl, HE.out.2⟩
theorem textG_d_n (k n : Int) (s : Nat) (s0 : 0 < s) (na : Option Addr) (nc : Nat) (ka : Option Addr) (kc : Nat) (A : Nat) (D T : ByteArray)
 (K1 : Hid (∀ W, Calls Tryz.prog 164 #[.agg #[.int .i64 k, .int .i64 n, .int .i64 (s : Int), .string ⟨#[]⟩, .slice na 0 nc, .slice ka 0 kc]] W fun e w' => e = .returned (.bool true) /\ Grow W w'))
 (K2 : Hid (∀ W, Calls Tryz.prog 165 #[.int .i64 n, .int .i64 (s : Int)] W fun e w' => e = .returned (.agg #[.bool true, .int .u64 0, .int .u64 (A : Int), .int .i64 (s : Int)]) /\ Grow W w'))
 (w : World) (K3 : Hid (∀ W, Grow w W -> Calls Tryz.prog 166 #[.int .u64 (A : Int), .int .i64 10] W fun e w' => e = .returned (.string D) /\ Grow W w'))
 (K4 : Hid (∀ W, Calls Tryz.prog 167 #[.string D, .int .i64 (s : Int)] W fun e w' => e = .returned (.string T) /\ Grow W w'))
 (hT : T.size <= 40) :
 Calls Tryz.prog 140 #[.agg #[.int .i64 k, .int .i64 n, .int .i64 (s : Int), .string ⟨#[]⟩, .slice na 0 nc, .slice ka 0 kc]] w fun e w' => e = .returned (.tuple #[.string (⟨#[45]⟩ ++ T), .int .i64 0]) /\ Grow w w' := by
 go_enter Tryz.func140, Tryz.ntmps140
 go_wp2_with fail
 obtain ⟨w1, HW1⟩ : ∃ w1, (w.alloc (Obj.cells #[.int .i64 k, .int .i64 n, .int .i64 (s : Int), .string ⟨#[]⟩, .slice na 0 nc, .slice ka 0 kc] 41)) = w1 := ⟨_, rfl⟩
 obtain ⟨C, hC⟩ : ∃ C : World -> Prop, C = fun W => Grow w1 W := ⟨_, rfl⟩
 have GW : Hid (∀ W, C W -> Grow w W) := fun W hW => by rw [hC, <- HW1] at hW; exact Grow.trans ((Grow.refl _).alloc _) hW
 have B0 : Hid (∀ W, C W -> Blk W (w.heap.size) 41 [.int .i64 k, .int .i64 n, .int .i64 (s : Int), .string ⟨#[]⟩, .slice na 0 nc, .slice ka 0 kc]) := fun W hW => by rw [hC, <- HW1] at hW; exact Blk.grow (blk_at rfl) hW
 have CG : Hid (∀ W W', C W -> Grow W W' -> C W') := fun W W' h1 h2 => by rw [hC] at h1 ⊢; exact h1.trans h2
 have CW : Hid (C w1) := by rw [hC]; exact Grow.refl _
 rw [HW1]
 clear HW1 hC
 refine (K1.out _).mono ?_
 rintro e w2 ⟨rfl, g2⟩
 have HB : Hid (Blk w2 w.heap.size 41 [.int .i64 k, .int .i64 n, .int .i64 (s : Int), .string ⟨#[]⟩, .slice na 0 nc, .slice ka 0 kc] /\ Grow w w2) := ⟨(B0.out _ CW.out).grow g2, (GW.out _ CW.out).trans g2⟩
 clear B0 GW CG CW g2 K1
 have y0 : w2.cell? ⟨w.heap.size, 0, none⟩ = some (.int .i64 k) := (HB.out.1).cell 0
 have y1 : w2.cell? ⟨w.heap.size, 1, none⟩ = some (.int .i64 n) := (HB.out.1).cell 1
 have y2 : w2.cell? ⟨w.heap.size, 2, none⟩ = some (.int .i64 (s : Int)) := (HB.out.1).cell 2
 have y3 : w2.cell? ⟨w.heap.size, 3, none⟩ = some (.string ⟨#[]⟩) := (HB.out.1).cell 3
 have y4 : w2.cell? ⟨w.heap.size, 4, none⟩ = some (.slice na 0 nc) := (HB.out.1).cell 4
 have y5 : w2.cell? ⟨w.heap.size, 5, none⟩ = some (.slice ka 0 kc) := (HB.out.1).cell 5
 go_wp2_with fail
 clear y0 y1 y2 y3 y4 y5
 refine (K2.out _).mono ?_
 rintro e w3 ⟨rfl, g3⟩
 have G3 : Hid (Grow w w3) := HB.out.2.trans g3
 clear HB g3 K2
 go_wp2_with (refine al_zero rfl 102 rfl [.bool false, .int .u64 0, .int .u64 0, .int .i64 0] zN ?_)
 intro b4 w4 s4 B4 g4
 go_wp2_with (refine st_all rfl 102 (.tmp 4) (.tmp 13) rfl b4 102 [.bool false, .int .u64 0, .int .u64 0, .int .i64 0] [.bool true, .int .u64 0, .int .u64 (A : Int), .int .i64 (s : Int)] rfl rfl B4 rfl sN (ones rfl) ?_)
 intro w5 B5 g5
 have HC : Hid (Blk w5 b4 102 [.bool true, .int .u64 0, .int .u64 (A : Int), .int .i64 (s : Int)] /\ Grow w w5) := by
  refine ⟨B5, ?_⟩
  have x1 := G3.out
  have x2 : Below w.heap.size w w4 := Below.grown x1 g4 x1.size (by intro e he; cases he)
  exact Below.grown x2 g5 x2.size (by intro e he; injection he with he; have := x1.size; omega)
 clear B5 g5 B4 g4 s4 G3
 have z0 : w5.cell? ⟨b4, 0, none⟩ = some (.bool true) := (HC.out.1).cell 0
 have z1 : w5.cell? ⟨b4, 1, none⟩ = some (.int .u64 0) := (HC.out.1).cell 1
 have z2 : w5.cell? ⟨b4, 2, none⟩ = some (.int .u64 (A : Int)) := (HC.out.1).cell 2
 have z3 : w5.cell? ⟨b4, 3, none⟩ = some (.int .i64 (s : Int)) := (HC.out.1).cell 3
 go_wp2_with fail
 clear z0 z1 z2 z3
 refine (K3.out _ HC.out.2).mono ?_
 rintro e w6 ⟨rfl, g6⟩
 have HD : Hid (Blk w6 b4 102 [.bool true, .int .u64 0, .int .u64 (A : Int), .int .i64 (s : Int)] /\ Grow w w6) := ⟨HC.out.1.grow g6, HC.out.2.trans g6⟩
 clear HC g6 K3
 have z0 : w6.cell? ⟨b4, 0, none⟩ = some (.bool true) := (HD.out.1).cell 0
 have z1 : w6.cell? ⟨b4, 1, none⟩ = some (.int .u64 0) := (HD.out.1).cell 1
 have z2 : w6.cell? ⟨b4, 2, none⟩ = some (.int .u64 (A : Int)) := (HD.out.1).cell 2
 have z3 : w6.cell? ⟨b4, 3, none⟩ = some (.int .i64 (s : Int)) := (HD.out.1).cell 3
 go_wp2_with fail
 clear z0 z1 z2 z3
 refine (K4.out _).mono ?_
 rintro e w7 ⟨rfl, g7⟩
 have HE : Hid (Blk w7 b4 102 [.bool true, .int .u64 0, .int .u64 (A : Int), .int .i64 (s : Int)] /\ Grow w w7) := ⟨HD.out.1.grow g7, HD.out.2.trans g7⟩
 clear HD g7 K4
 have z0 : w7.cell? ⟨b4, 0, none⟩ = some (.bool true) := (HE.out.1).cell 0
 have z1 : w7.cell? ⟨b4, 1, none⟩ = some (.int .u64 0) := (HE.out.1).cell 1
 have z2 : w7.cell? ⟨b4, 2, none⟩ = some (.int .u64 (A : Int)) := (HE.out.1).cell 2
 have z3 : w7.cell? ⟨b4, 3, none⟩ = some (.int .i64 (s : Int)) := (HE.out.1).cell 3
 have hsz : ¬ 9223372036854775807 < 1 + T.size := by omega
 go_wp2
 go_ret2
 exact ⟨rfl, HE.out.2⟩
theorem textG_num (k n : Int) (s : Nat) (hN : isNum k n s ⟨#[]⟩ 0 0 = true) (f : -9223372036854775808 <= n /\ n < 9223372036854775808) (na : Option Addr) (nc : Nat) (ka : Option Addr) (kc : Nat) (D : ByteArray) (h0 : 0 < D.size) (h1 : D.size <= 20)
 (w : World) (K3 : ∀ W, Grow w W -> Calls Tryz.prog 166 #[.int .u64 (n.natAbs : Int), .int .i64 10] W fun e w' => e = .returned (.string D) /\ Grow W w') :
 Calls Tryz.prog 140 #[.agg #[.int .i64 k, .int .i64 n, .int .i64 (s : Int), .string ⟨#[]⟩, .slice na 0 nc, .slice ka 0 kc]] w fun e w' => e = .returned (.tuple #[.string (txt n s D), .int .i64 0]) /\ Grow w w' := by
 have K1 : ∀ W, Calls Tryz.prog 164 #[.agg #[.int .i64 k, .int .i64 n, .int .i64 (s : Int), .string ⟨#[]⟩, .slice na 0 nc, .slice ka 0 kc]] W fun e w' => e = .returned (.bool true) /\ Grow W w' := fun W => by
  have := isNumber_any k n s ⟨#[]⟩ na 0 nc ka 0 kc W
  rw [hN] at this
  exact this
 have K2 := fun W => numberOf_any n s n.natAbs rfl (decide (n < 0)) rfl f.1 f.2 W
 have hs : s <= 18 := by
  obtain ⟨_, _, _, h⟩ := isNum_yes hN
  omega
 unfold txt
 by_cases hn : n < 0
 . rw [if_pos hn]
   rw [show decide (n < 0) = true by simp [hn]] at K2
   by_cases s0 : s = 0
   . subst s0
     exact textG_i_n k n na nc ka kc n.natAbs D K1 K2 w K3 (by omega)
   . rw [if_neg s0]
     exact textG_d_n k n s (by omega) na nc ka kc n.natAbs D _ K1 K2 w K3 (fun W => dotted_any D s h0 h1 (by omega) hs W) (dotN_size D s h0 h1 hs)
 . rw [if_neg hn]
   rw [show decide (n < 0) = false by simp [hn]] at K2
   by_cases s0 : s = 0
   . subst s0
     exact textG_i_p k n na nc ka kc n.natAbs D K1 K2 w K3 (by omega)
   . rw [if_neg s0]
     exact textG_d_p k n s (by omega) na nc ka kc n.natAbs D _ K1 K2 w K3 (fun W => dotted_any D s h0 h1 (by omega) hs W) (dotN_size D s h0 h1 hs)
theorem Ptab.grow {w w' : World} (h : Ptab w) (g : Grow w w') : Ptab w' := Lib.tabBelow_of_tabIs h w' g
theorem dig_size (u : Nat) (hu : u < 18446744073709551616) : 0 < (⟨(Lib.decDigits u).toArray⟩ : ByteArray).size /\ (⟨(Lib.decDigits u).toArray⟩ : ByteArray).size <= 20 := by
 have e : (⟨(Lib.decDigits u).toArray⟩ : ByteArray).size = (Lib.decDigits u).length := by simp [ByteArray.size]
 rw [e]
 by_cases h : u = 0
 . subst h
   rw [Lib.decDigits_one (by omega)]
   simp
 . rw [Lib.decDigits_length]
   have h3 := Lib.lt_pow_nDigits u
   have h4 : Lib.nDigits u ≠ 0 := by
    intro e
    rw [e] at h3
    simp at h3
    omega
   have := Lib.numDigits_eq u (by omega) hu
   split at this <;> omega
theorem dText_num (k n : Int) (s : Nat) (hN : isNum k n s ⟨#[]⟩ 0 0 = true) (f : -9223372036854775808 <= n /\ n < 9223372036854775808) (na : Option Addr) (nc : Nat) (ka : Option Addr) (kc : Nat) (w : World) (ht : Ptab w) :
 Calls Tryz.prog 140 #[.agg #[.int .i64 k, .int .i64 n, .int .i64 (s : Int), .string ⟨#[]⟩, .slice na 0 nc, .slice ka 0 kc]] w fun e w' => e = .returned (.tuple #[.string (txt n s ⟨(Lib.decDigits n.natAbs).toArray⟩), .int .i64 0]) /\ Grow w w' := by
 have q := dig_size n.natAbs (by omega)
 exact textG_num k n s hN f na nc ka kc _ q.1 q.2 w (fun W g => fmtU n.natAbs (by omega) W (ht.grow g))
end Go.Proofs.YtpfiejmhnkcjbaaGreatDoor.D6
