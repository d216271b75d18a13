import Derived.Test.YtpfiejmhnkcjbaaGreatDoorHG25x
import Derived.Test.YtpfiejmhnkcjbaaGreatDoorHG26x
namespace Go.Proofs.YtpfiejmhnkcjbaaGreatDoor.D6
set_option maxHeartbeats 1000000
set_option maxRecDepth 8000
open Go.RowKit
set_option linter.unusedVariables false
theorem parse_a (s R A B : ByteArray) (b d : Bool) (CP : Hid (∀ W, Calls Tryz.prog 50 #[.string s, .string ⟨#[45]⟩] W fun e w' => e = .returned (.tuple #[.string R, .bool b]) /\ Grow W w'))
 (CT : Hid (∀ W, Calls Tryz.prog 54 #[.string R, .string ⟨#[46]⟩] W fun e w' => e = .returned (.tuple #[.string A, .string B, .bool d]) /\ Grow W w'))
 (KW : Hid (∀ W, Calls Tryz.prog 70 #[.string A] W fun e w' => e = .returned (.bool false) /\ Grow W w')) (w : World) :
 Calls Tryz.prog 53 #[.string s] w fun e w' => e = .returned (.tuple #[.agg #[.int .i64 0, .int .i64 0, .int .i64 0, .string ⟨#[]⟩, .slice none 0 0, .slice none 0 0], .int .i64 3]) /\ Grow w w' := by
 go_enter Tryz.func53, Tryz.ntmps53
 go_wp2_with fail
 obtain ⟨w1, HW1, H0⟩ : ∃ w1, (w.alloc (Obj.cells #[.int .i64 0, .int .i64 0, .int .i64 0, .string ⟨#[]⟩, .slice none 0 0, .slice none 0 0] 41)) = w1 /\ Hid (Blk w1 (w.heap.size) 41 [.int .i64 0, .int .i64 0, .int .i64 0, .string ⟨#[]⟩, .slice none 0 0, .slice none 0 0] /\ Grow w w1) := ⟨_, rfl, (blk_at rfl), ((Grow.refl _).alloc _)⟩
 rw [HW1]
 clear HW1
 refine (CP.out _).mono ?_
 rintro e w2 ⟨rfl, g0⟩
 have H1 : Hid (Blk w2 (w.heap.size) 41 [.int .i64 0, .int .i64 0, .int .i64 0, .string ⟨#[]⟩, .slice none 0 0, .slice none 0 0] /\ Grow w w2) := ⟨(H0.out.1).grow g0, Grow.trans (H0.out.2) g0⟩
 clear H0 g0
 go_wp2_with fail
 refine (CT.out _).mono ?_
 rintro e w3 ⟨rfl, g1⟩
 have H2 : Hid (Blk w3 (w.heap.size) 41 [.int .i64 0, .int .i64 0, .int .i64 0, .string ⟨#[]⟩, .slice none 0 0, .slice none 0 0] /\ Grow w w3) := ⟨(H1.out.1).grow g1, Grow.trans (H1.out.2) g1⟩
 clear H1 g1
 go_wp2_with fail
 refine (KW.out _).mono ?_
 rintro e w4 ⟨rfl, g2⟩
 have H3 : Hid (Blk w4 (w.heap.size) 41 [.int .i64 0, .int .i64 0, .int .i64 0, .string ⟨#[]⟩, .slice none 0 0, .slice none 0 0] /\ Grow w w4) := ⟨(H2.out.1).grow g2, Grow.trans (H2.out.2) g2⟩
 clear H2 g2
 go_wp2_with ((with_reducible refine st_pre (.tmp 2) (.tmp 40) ?_); refine st_all rfl 41 (.tmp 2) (.tmp 40) rfl (w.heap.size) 41 [.int .i64 0, .int .i64 0, .int .i64 0, .string ⟨#[]⟩, .slice none 0 0, .slice none 0 0] [.int .i64 0, .int .i64 0, .int .i64 0, .string ⟨#[]⟩, .slice none 0 0, .slice none 0 0] rfl rfl H3.out.1 rfl sV (ones rfl) ?_)
 intro w5 yy3 mm3
 have H4 : Hid (Blk w5 (w.heap.size) 41 [.int .i64 0, .int .i64 0, .int .i64 0, .string ⟨#[]⟩, .slice none 0 0, .slice none 0 0] /\ Grow w w5) := ⟨yy3, (Below.grown (H3.out.2) mm3 (Below.size (H3.out.2)) (by intro e he; injection he with he; omega))⟩
 clear H3 yy3 mm3
 go_wp2
 exact bodyPost_ret (res_two rfl _ (w.heap.size) 41 _ _ rfl (H4.out.1) Tryz.underlying41 rfl sV) rfl ⟨rfl, H4.out.2⟩
theorem parse_b (s R A B : ByteArray) (b : Bool) (CP : Hid (∀ W, Calls Tryz.prog 50 #[.string s, .string ⟨#[45]⟩] W fun e w' => e = .returned (.tuple #[.string R, .bool b]) /\ Grow W w'))
 (CT : Hid (∀ W, Calls Tryz.prog 54 #[.string R, .string ⟨#[46]⟩] W fun e w' => e = .returned (.tuple #[.string A, .string B, .bool true]) /\ Grow W w'))
 (KW : Hid (∀ W, Calls Tryz.prog 70 #[.string A] W fun e w' => e = .returned (.bool true) /\ Grow W w'))
 (KP : Hid (∀ W, Calls Tryz.prog 71 #[.string B] W fun e w' => e = .returned (.bool false) /\ Grow W w')) (w : World) :
 Calls Tryz.prog 53 #[.string s] w fun e w' => e = .returned (.tuple #[.agg #[.int .i64 0, .int .i64 0, .int .i64 0, .string ⟨#[]⟩, .slice none 0 0, .slice none 0 0], .int .i64 3]) /\ Grow w w' := by
 go_enter Tryz.func53, Tryz.ntmps53
 go_wp2_with fail
 obtain ⟨w1, HW1, H0⟩ : ∃ w1, (w.alloc (Obj.cells #[.int .i64 0, .int .i64 0, .int .i64 0, .string ⟨#[]⟩, .slice none 0 0, .slice none 0 0] 41)) = w1 /\ Hid (Blk w1 (w.heap.size) 41 [.int .i64 0, .int .i64 0, .int .i64 0, .string ⟨#[]⟩, .slice none 0 0, .slice none 0 0] /\ Grow w w1) := ⟨_, rfl, (blk_at rfl), ((Grow.refl _).alloc _)⟩
 rw [HW1]
 clear HW1
 refine (CP.out _).mono ?_
 rintro e w2 ⟨rfl, g0⟩
 have H1 : Hid (Blk w2 (w.heap.size) 41 [.int .i64 0, .int .i64 0, .int .i64 0, .string ⟨#[]⟩, .slice none 0 0, .slice none 0 0] /\ Grow w w2) := ⟨(H0.out.1).grow g0, Grow.trans (H0.out.2) g0⟩
 clear H0 g0
 go_wp2_with fail
 refine (CT.out _).mono ?_
 rintro e w3 ⟨rfl, g1⟩
 have H2 : Hid (Blk w3 (w.heap.size) 41 [.int .i64 0, .int .i64 0, .int .i64 0, .string ⟨#[]⟩, .slice none 0 0, .slice none 0 0] /\ Grow w w3) := ⟨(H1.out.1).grow g1, Grow.trans (H1.out.2) g1⟩
 clear H1 g1
 go_wp2_with fail
 refine (KW.out _).mono ?_
 rintro e w4 ⟨rfl, g2⟩
 have H3 : Hid (Blk w4 (w.heap.size) 41 [.int .i64 0, .int .i64 0, .int .i64 0, .string ⟨#[]⟩, .slice none 0 0, .slice none 0 0] /\ Grow w w4) := ⟨(H2.out.1).grow g2, Grow.trans (H2.out.2) g2⟩
 clear H2 g2
 go_wp2_with fail
 refine (KP.out _).mono ?_
 rintro e w5 ⟨rfl, g3⟩
 have H4 : Hid (Blk w5 (w.heap.size) 41 [.int .i64 0, .int .i64 0, .int .i64 0, .string ⟨#[]⟩, .slice none 0 0, .slice none 0 0] /\ Grow w w5) := ⟨(H3.out.1).grow g3, Grow.trans (H3.out.2) g3⟩
 clear H3 g3
 go_wp2_with ((with_reducible refine st_pre (.tmp 2) (.tmp 40) ?_); refine st_all rfl 41 (.tmp 2) (.tmp 40) rfl (w.heap.size) 41 [.int .i64 0, .int .i64 0, .int .i64 0, .string ⟨#[]⟩, .slice none 0 0, .slice none 0 0] [.int .i64 0, .int .i64 0, .int .i64 0, .string ⟨#[]⟩, .slice none 0 0, .slice none 0 0] rfl rfl H4.out.1 rfl sV (ones rfl) ?_)
 intro w6 yy4 mm4
 have H5 : Hid (Blk w6 (w.heap.size) 41 [.int .i64 0, .int .i64 0, .int .i64 0, .string ⟨#[]⟩, .slice none 0 0, .slice none 0 0] /\ Grow w w6) := ⟨yy4, (Below.grown (H4.out.2) mm4 (Below.size (H4.out.2)) (by intro e he; injection he with he; omega))⟩
 clear H4 yy4 mm4
 go_wp2
 exact bodyPost_ret (res_two rfl _ (w.heap.size) 41 _ _ rfl (H5.out.1) Tryz.underlying41 rfl sV) rfl ⟨rfl, H5.out.2⟩
theorem parse_ci (s R A B : ByteArray)  (CP : Hid (∀ W, Calls Tryz.prog 50 #[.string s, .string ⟨#[45]⟩] W fun e w' => e = .returned (.tuple #[.string R, .bool true]) /\ Grow W w'))
 (CT : Hid (∀ W, Calls Tryz.prog 54 #[.string R, .string ⟨#[46]⟩] W fun e w' => e = .returned (.tuple #[.string A, .string B, .bool false]) /\ Grow W w'))
 (KW : Hid (∀ W, Calls Tryz.prog 70 #[.string A] W fun e w' => e = .returned (.bool true) /\ Grow W w'))
 (KN : Hid (∀ W, Calls Tryz.prog 72 #[.string R] W fun e w' => e = .returned (.bool true) /\ Grow W w')) (w : World) :
 Calls Tryz.prog 53 #[.string s] w fun e w' => e = .returned (.tuple #[.agg #[.int .i64 0, .int .i64 0, .int .i64 0, .string ⟨#[]⟩, .slice none 0 0, .slice none 0 0], .int .i64 3]) /\ Grow w w' := by
 go_enter Tryz.func53, Tryz.ntmps53
 go_wp2_with fail
 obtain ⟨w1, HW1, H0⟩ : ∃ w1, (w.alloc (Obj.cells #[.int .i64 0, .int .i64 0, .int .i64 0, .string ⟨#[]⟩, .slice none 0 0, .slice none 0 0] 41)) = w1 /\ Hid (Blk w1 (w.heap.size) 41 [.int .i64 0, .int .i64 0, .int .i64 0, .string ⟨#[]⟩, .slice none 0 0, .slice none 0 0] /\ Grow w w1) := ⟨_, rfl, (blk_at rfl), ((Grow.refl _).alloc _)⟩
 rw [HW1]
 clear HW1
 refine (CP.out _).mono ?_
 rintro e w2 ⟨rfl, g0⟩
 have H1 : Hid (Blk w2 (w.heap.size) 41 [.int .i64 0, .int .i64 0, .int .i64 0, .string ⟨#[]⟩, .slice none 0 0, .slice none 0 0] /\ Grow w w2) := ⟨(H0.out.1).grow g0, Grow.trans (H0.out.2) g0⟩
 clear H0 g0
 go_wp2_with fail
 refine (CT.out _).mono ?_
 rintro e w3 ⟨rfl, g1⟩
 have H2 : Hid (Blk w3 (w.heap.size) 41 [.int .i64 0, .int .i64 0, .int .i64 0, .string ⟨#[]⟩, .slice none 0 0, .slice none 0 0] /\ Grow w w3) := ⟨(H1.out.1).grow g1, Grow.trans (H1.out.2) g1⟩
 clear H1 g1
 go_wp2_with fail
 refine (KW.out _).mono ?_
 rintro e w4 ⟨rfl, g2⟩
 have H3 : Hid (Blk w4 (w.heap.size) 41 [.int .i64 0, .int .i64 0, .int .i64 0, .string ⟨#[]⟩, .slice none 0 0, .slice none 0 0] /\ Grow w w4) := ⟨(H2.out.1).grow g2, Grow.trans (H2.out.2) g2⟩
 clear H2 g2
 go_wp2_with fail
 refine (KN.out _).mono ?_
 rintro e w5 ⟨rfl, g3⟩
 have H4 : Hid (Blk w5 (w.heap.size) 41 [.int .i64 0, .int .i64 0, .int .i64 0, .string ⟨#[]⟩, .slice none 0 0, .slice none 0 0] /\ Grow w w5) := ⟨(H3.out.1).grow g3, Grow.trans (H3.out.2) g3⟩
 clear H3 g3
 go_wp2_with ((with_reducible refine st_pre (.tmp 2) (.tmp 40) ?_); refine st_all rfl 41 (.tmp 2) (.tmp 40) rfl (w.heap.size) 41 [.int .i64 0, .int .i64 0, .int .i64 0, .string ⟨#[]⟩, .slice none 0 0, .slice none 0 0] [.int .i64 0, .int .i64 0, .int .i64 0, .string ⟨#[]⟩, .slice none 0 0, .slice none 0 0] rfl rfl H4.out.1 rfl sV (ones rfl) ?_)
 intro w6 yy4 mm4
 have H5 : Hid (Blk w6 (w.heap.size) 41 [.int .i64 0, .int .i64 0, .int .i64 0, .string ⟨#[]⟩, .slice none 0 0, .slice none 0 0] /\ Grow w w6) := ⟨yy4, (Below.grown (H4.out.2) mm4 (Below.size (H4.out.2)) (by intro e he; injection he with he; omega))⟩
 clear H4 yy4 mm4
 go_wp2
 exact bodyPost_ret (res_two rfl _ (w.heap.size) 41 _ _ rfl (H5.out.1) Tryz.underlying41 rfl sV) rfl ⟨rfl, H5.out.2⟩
theorem parse_lip (s R A B : ByteArray) (hl : 19 < A.size) (CP : Hid (∀ W, Calls Tryz.prog 50 #[.string s, .string ⟨#[45]⟩] W fun e w' => e = .returned (.tuple #[.string R, .bool false]) /\ Grow W w'))
 (CT : Hid (∀ W, Calls Tryz.prog 54 #[.string R, .string ⟨#[46]⟩] W fun e w' => e = .returned (.tuple #[.string A, .string B, .bool false]) /\ Grow W w'))
 (KW : Hid (∀ W, Calls Tryz.prog 70 #[.string A] W fun e w' => e = .returned (.bool true) /\ Grow W w')) (w : World) :
 Calls Tryz.prog 53 #[.string s] w fun e w' => e = .returned (.tuple #[.agg #[.int .i64 0, .int .i64 0, .int .i64 0, .string ⟨#[]⟩, .slice none 0 0, .slice none 0 0], .int .i64 10]) /\ Grow w w' := by
 go_enter Tryz.func53, Tryz.ntmps53
 go_wp2_with fail
 obtain ⟨w1, HW1, H0⟩ : ∃ w1, (w.alloc (Obj.cells #[.int .i64 0, .int .i64 0, .int .i64 0, .string ⟨#[]⟩, .slice none 0 0, .slice none 0 0] 41)) = w1 /\ Hid (Blk w1 (w.heap.size) 41 [.int .i64 0, .int .i64 0, .int .i64 0, .string ⟨#[]⟩, .slice none 0 0, .slice none 0 0] /\ Grow w w1) := ⟨_, rfl, (blk_at rfl), ((Grow.refl _).alloc _)⟩
 rw [HW1]
 clear HW1
 refine (CP.out _).mono ?_
 rintro e w2 ⟨rfl, g0⟩
 have H1 : Hid (Blk w2 (w.heap.size) 41 [.int .i64 0, .int .i64 0, .int .i64 0, .string ⟨#[]⟩, .slice none 0 0, .slice none 0 0] /\ Grow w w2) := ⟨(H0.out.1).grow g0, Grow.trans (H0.out.2) g0⟩
 clear H0 g0
 go_wp2_with fail
 refine (CT.out _).mono ?_
 rintro e w3 ⟨rfl, g1⟩
 have H2 : Hid (Blk w3 (w.heap.size) 41 [.int .i64 0, .int .i64 0, .int .i64 0, .string ⟨#[]⟩, .slice none 0 0, .slice none 0 0] /\ Grow w w3) := ⟨(H1.out.1).grow g1, Grow.trans (H1.out.2) g1⟩
 clear H1 g1
 go_wp2_with fail
 refine (KW.out _).mono ?_
 rintro e w4 ⟨rfl, g2⟩
 have H3 : Hid (Blk w4 (w.heap.size) 41 [.int .i64 0, .int .i64 0, .int .i64 0, .string ⟨#[]⟩, .slice none 0 0, .slice none 0 0] /\ Grow w w4) := ⟨(H2.out.1).grow g2, Grow.trans (H2.out.2) g2⟩
 clear H2 g2
 go_wp2_with ((with_reducible refine st_pre (.tmp 2) (.tmp 44) ?_); refine st_all rfl 41 (.tmp 2) (.tmp 44) rfl (w.heap.size) 41 [.int .i64 0, .int .i64 0, .int .i64 0, .string ⟨#[]⟩, .slice none 0 0, .slice none 0 0] [.int .i64 0, .int .i64 0, .int .i64 0, .string ⟨#[]⟩, .slice none 0 0, .slice none 0 0] rfl rfl H3.out.1 rfl sV (ones rfl) ?_)
 intro w5 yy3 mm3
 have H4 : Hid (Blk w5 (w.heap.size) 41 [.int .i64 0, .int .i64 0, .int .i64 0, .string ⟨#[]⟩, .slice none 0 0, .slice none 0 0] /\ Grow w w5) := ⟨yy3, (Below.grown (H3.out.2) mm3 (Below.size (H3.out.2)) (by intro e he; injection he with he; omega))⟩
 clear H3 yy3 mm3
 go_wp2
 exact bodyPost_ret (res_two rfl _ (w.heap.size) 41 _ _ rfl (H4.out.1) Tryz.underlying41 rfl sV) rfl ⟨rfl, H4.out.2⟩
theorem parse_vip (s R A B : ByteArray) (hl : A.size <= 19) (x P h1 l1 y h l : Nat) (r : Rs) (CP : Hid (∀ W, Calls Tryz.prog 50 #[.string s, .string ⟨#[45]⟩] W fun e w' => e = .returned (.tuple #[.string R, .bool false]) /\ Grow W w'))
 (CT : Hid (∀ W, Calls Tryz.prog 54 #[.string R, .string ⟨#[46]⟩] W fun e w' => e = .returned (.tuple #[.string A, .string B, .bool false]) /\ Grow W w'))
 (KW : Hid (∀ W, Calls Tryz.prog 70 #[.string A] W fun e w' => e = .returned (.bool true) /\ Grow W w'))
 (W1 : Hid (∀ W, Calls Tryz.prog 74 #[.string A] W fun e w' => e = .returned (.int .u64 (x : Int)) /\ Grow W w'))
 (TE : Hid (∀ W, Calls Tryz.prog 75 #[.int .i64 (B.size : Int)] W fun e w' => e = .returned (.int .u64 (P : Int)) /\ Grow W w'))
 (PR : Hid (∀ W, Calls Tryz.prog 73 #[.int .u64 (x : Int), .int .u64 (P : Int)] W fun e w' => e = .returned (.agg #[.int .u64 (h1 : Int), .int .u64 (l1 : Int)]) /\ Grow W w'))
 (W2 : Hid (∀ W, Calls Tryz.prog 74 #[.string B] W fun e w' => e = .returned (.int .u64 (y : Int)) /\ Grow W w'))
 (PL : Hid (∀ W, Calls Tryz.prog 76 #[.agg #[.int .u64 (h1 : Int), .int .u64 (l1 : Int)], .agg #[.int .u64 0, .int .u64 (y : Int)]] W fun e w' => e = .returned (.agg #[.int .u64 (h : Int), .int .u64 (l : Int)]) /\ Grow W w'))
 (VA : Hid (∀ W, Calls Tryz.prog 77 #[.agg #[.bool false, .int .u64 (h : Int), .int .u64 (l : Int), .int .i64 (B.size : Int)]] W fun e w' => e = .returned (.tuple #[.agg #[.int .i64 r.k, .int .i64 r.n, .int .i64 r.s, .string ⟨#[]⟩, .slice none 0 0, .slice none 0 0], .int .i64 r.e]) /\ Grow W w')) (w : World) :
 Calls Tryz.prog 53 #[.string s] w fun e w' => e = .returned (.tuple #[.agg #[.int .i64 r.k, .int .i64 r.n, .int .i64 r.s, .string ⟨#[]⟩, .slice none 0 0, .slice none 0 0], .int .i64 r.e]) /\ Grow w w' := by
 go_enter Tryz.func53, Tryz.ntmps53
 go_wp2_with fail
 obtain ⟨w1, HW1, H0⟩ : ∃ w1, (w.alloc (Obj.cells #[.int .i64 0, .int .i64 0, .int .i64 0, .string ⟨#[]⟩, .slice none 0 0, .slice none 0 0] 41)) = w1 /\ Hid (Blk w1 (w.heap.size) 41 [.int .i64 0, .int .i64 0, .int .i64 0, .string ⟨#[]⟩, .slice none 0 0, .slice none 0 0] /\ Grow w w1) := ⟨_, rfl, (blk_at rfl), ((Grow.refl _).alloc _)⟩
 rw [HW1]
 clear HW1
 refine (CP.out _).mono ?_
 rintro e w2 ⟨rfl, g0⟩
 have H1 : Hid (Blk w2 (w.heap.size) 41 [.int .i64 0, .int .i64 0, .int .i64 0, .string ⟨#[]⟩, .slice none 0 0, .slice none 0 0] /\ Grow w w2) := ⟨(H0.out.1).grow g0, Grow.trans (H0.out.2) g0⟩
 clear H0 g0
 go_wp2_with fail
 refine (CT.out _).mono ?_
 rintro e w3 ⟨rfl, g1⟩
 have H2 : Hid (Blk w3 (w.heap.size) 41 [.int .i64 0, .int .i64 0, .int .i64 0, .string ⟨#[]⟩, .slice none 0 0, .slice none 0 0] /\ Grow w w3) := ⟨(H1.out.1).grow g1, Grow.trans (H1.out.2) g1⟩
 clear H1 g1
 go_wp2_with fail
 refine (KW.out _).mono ?_
 rintro e w4 ⟨rfl, g2⟩
 have H3 : Hid (Blk w4 (w.heap.size) 41 [.int .i64 0, .int .i64 0, .int .i64 0, .string ⟨#[]⟩, .slice none 0 0, .slice none 0 0] /\ Grow w w4) := ⟨(H2.out.1).grow g2, Grow.trans (H2.out.2) g2⟩
 clear H2 g2
 go_wp2_with fail
 refine (W1.out _).mono ?_
 rintro e w5 ⟨rfl, g3⟩
 have H4 : Hid (Blk w5 (w.heap.size) 41 [.int .i64 0, .int .i64 0, .int .i64 0, .string ⟨#[]⟩, .slice none 0 0, .slice none 0 0] /\ Grow w w5) := ⟨(H3.out.1).grow g3, Grow.trans (H3.out.2) g3⟩
 clear H3 g3
 go_wp2_with fail
 refine (TE.out _).mono ?_
 rintro e w6 ⟨rfl, g4⟩
 have H5 : Hid (Blk w6 (w.heap.size) 41 [.int .i64 0, .int .i64 0, .int .i64 0, .string ⟨#[]⟩, .slice none 0 0, .slice none 0 0] /\ Grow w w6) := ⟨(H4.out.1).grow g4, Grow.trans (H4.out.2) g4⟩
 clear H4 g4
 go_wp2_with fail
 refine (PR.out _).mono ?_
 rintro e w7 ⟨rfl, g5⟩
 have H6 : Hid (Blk w7 (w.heap.size) 41 [.int .i64 0, .int .i64 0, .int .i64 0, .string ⟨#[]⟩, .slice none 0 0, .slice none 0 0] /\ Grow w w7) := ⟨(H5.out.1).grow g5, Grow.trans (H5.out.2) g5⟩
 clear H5 g5
 go_wp2_with fail
 refine (W2.out _).mono ?_
 rintro e w8 ⟨rfl, g6⟩
 have H7 : Hid (Blk w8 (w.heap.size) 41 [.int .i64 0, .int .i64 0, .int .i64 0, .string ⟨#[]⟩, .slice none 0 0, .slice none 0 0] /\ Grow w w8) := ⟨(H6.out.1).grow g6, Grow.trans (H6.out.2) g6⟩
 clear H6 g6
 go_wp2_with fail
 refine (PL.out _).mono ?_
 rintro e w9 ⟨rfl, g7⟩
 have H8 : Hid (Blk w9 (w.heap.size) 41 [.int .i64 0, .int .i64 0, .int .i64 0, .string ⟨#[]⟩, .slice none 0 0, .slice none 0 0] /\ Grow w w9) := ⟨(H7.out.1).grow g7, Grow.trans (H7.out.2) g7⟩
 clear H7 g7
 go_wp2_with (refine al_zero rfl 97 rfl [.int .u64 0, .int .u64 0] zW ?_)
 intro bw vv8 ss8 zz8 xx8
 go_wp2_with (refine st_all rfl 97 (.tmp 10) (.tmp 55) rfl bw 97 [.int .u64 0, .int .u64 0] [.int .u64 (h : Int), .int .u64 (l : Int)] rfl rfl zz8 rfl sW (ones rfl) ?_)
 intro w10 yy8 mm8
 have H9 : Hid (Blk w10 (w.heap.size) 41 [.int .i64 0, .int .i64 0, .int .i64 0, .string ⟨#[]⟩, .slice none 0 0, .slice none 0 0] /\ Blk w10 (bw) 97 [.int .u64 (h : Int), .int .u64 (l : Int)] /\ Grow w w10) := ⟨(((H8.out.1).kept xx8 (by simp)).kept mm8 (by intro e; injection e with e; have := (H8.out.1).lt; omega)), yy8, (by have x1 := H8.out.2; have x2 : Below w.heap.size w vv8 := Below.grown x1 xx8 x1.size (by intro e he; cases he); exact Below.grown x2 mm8 x2.size (by intro e he; injection he with he; have := x1.size; omega))⟩
 clear H8 ss8 zz8 xx8 yy8 mm8
 have q1_0 : w10.cell? ⟨bw, 0, none⟩ = some (.int .u64 (h : Int)) := (H9.out.2.1).cell 0
 have q1_1 : w10.cell? ⟨bw, 1, none⟩ = some (.int .u64 (l : Int)) := (H9.out.2.1).cell 1
 go_wp2_with fail
 clear q1_0 q1_1
 refine (VA.out _).mono ?_
 rintro e w11 ⟨rfl, g9⟩
 have H10 : Hid (Blk w11 (w.heap.size) 41 [.int .i64 0, .int .i64 0, .int .i64 0, .string ⟨#[]⟩, .slice none 0 0, .slice none 0 0] /\ Blk w11 (bw) 97 [.int .u64 (h : Int), .int .u64 (l : Int)] /\ Grow w w11) := ⟨(H9.out.1).grow g9, (H9.out.2.1).grow g9, Grow.trans (H9.out.2.2) g9⟩
 clear H9 g9
 have H11 : Hid (Blk w11 (w.heap.size) 41 [.int .i64 0, .int .i64 0, .int .i64 0, .string ⟨#[]⟩, .slice none 0 0, .slice none 0 0] /\ Grow w w11) := ⟨(H10.out.1), (H10.out.2.2)⟩
 clear H10
 go_wp2_with ((with_reducible refine st_pre (.tmp 2) (.tmp 61) ?_); refine st_all rfl 41 (.tmp 2) (.tmp 61) rfl (w.heap.size) 41 [.int .i64 0, .int .i64 0, .int .i64 0, .string ⟨#[]⟩, .slice none 0 0, .slice none 0 0] [.int .i64 r.k, .int .i64 r.n, .int .i64 r.s, .string ⟨#[]⟩, .slice none 0 0, .slice none 0 0] rfl rfl H11.out.1 rfl sV (ones rfl) ?_)
 intro w13 yy11 mm11
 have H12 : Hid (Blk w13 (w.heap.size) 41 [.int .i64 r.k, .int .i64 r.n, .int .i64 r.s, .string ⟨#[]⟩, .slice none 0 0, .slice none 0 0] /\ Grow w w13) := ⟨yy11, (Below.grown (H11.out.2) mm11 (Below.size (H11.out.2)) (by intro e he; injection he with he; omega))⟩
 clear H11 yy11 mm11
 go_wp2
 exact bodyPost_ret (res_two rfl _ (w.heap.size) 41 _ _ rfl (H12.out.1) Tryz.underlying41 rfl sV) rfl ⟨rfl, H12.out.2⟩
theorem parse_lin (s R A B : ByteArray) (hl : 19 < A.size) (CP : Hid (∀ W, Calls Tryz.prog 50 #[.string s, .string ⟨#[45]⟩] W fun e w' => e = .returned (.tuple #[.string R, .bool true]) /\ Grow W w'))
 (CT : Hid (∀ W, Calls Tryz.prog 54 #[.string R, .string ⟨#[46]⟩] W fun e w' => e = .returned (.tuple #[.string A, .string B, .bool false]) /\ Grow W w'))
 (KW : Hid (∀ W, Calls Tryz.prog 70 #[.string A] W fun e w' => e = .returned (.bool true) /\ Grow W w'))
 (KN : Hid (∀ W, Calls Tryz.prog 72 #[.string R] W fun e w' => e = .returned (.bool false) /\ Grow W w')) (w : World) :
 Calls Tryz.prog 53 #[.string s] w fun e w' => e = .returned (.tuple #[.agg #[.int .i64 0, .int .i64 0, .int .i64 0, .string ⟨#[]⟩, .slice none 0 0, .slice none 0 0], .int .i64 10]) /\ Grow w w' := by
 go_enter Tryz.func53, Tryz.ntmps53
 go_wp2_with fail
 obtain ⟨w1, HW1, H0⟩ : ∃ w1, (w.alloc (Obj.cells #[.int .i64 0, .int .i64 0, .int .i64 0, .string ⟨#[]⟩, .slice none 0 0, .slice none 0 0] 41)) = w1 /\ Hid (Blk w1 (w.heap.size) 41 [.int .i64 0, .int .i64 0, .int .i64 0, .string ⟨#[]⟩, .slice none 0 0, .slice none 0 0] /\ Grow w w1) := ⟨_, rfl, (blk_at rfl), ((Grow.refl _).alloc _)⟩
 rw [HW1]
 clear HW1
 refine (CP.out _).mono ?_
 rintro e w2 ⟨rfl, g0⟩
 have H1 : Hid (Blk w2 (w.heap.size) 41 [.int .i64 0, .int .i64 0, .int .i64 0, .string ⟨#[]⟩, .slice none 0 0, .slice none 0 0] /\ Grow w w2) := ⟨(H0.out.1).grow g0, Grow.trans (H0.out.2) g0⟩
 clear H0 g0
 go_wp2_with fail
 refine (CT.out _).mono ?_
 rintro e w3 ⟨rfl, g1⟩
 have H2 : Hid (Blk w3 (w.heap.size) 41 [.int .i64 0, .int .i64 0, .int .i64 0, .string ⟨#[]⟩, .slice none 0 0, .slice none 0 0] /\ Grow w w3) := ⟨(H1.out.1).grow g1, Grow.trans (H1.out.2) g1⟩
 clear H1 g1
 go_wp2_with fail
 refine (KW.out _).mono ?_
 rintro e w4 ⟨rfl, g2⟩
 have H3 : Hid (Blk w4 (w.heap.size) 41 [.int .i64 0, .int .i64 0, .int .i64 0, .string ⟨#[]⟩, .slice none 0 0, .slice none 0 0] /\ Grow w w4) := ⟨(H2.out.1).grow g2, Grow.trans (H2.out.2) g2⟩
 clear H2 g2
 go_wp2_with fail
 refine (KN.out _).mono ?_
 rintro e w5 ⟨rfl, g3⟩
 have H4 : Hid (Blk w5 (w.heap.size) 41 [.int .i64 0, .int .i64 0, .int .i64 0, .string ⟨#[]⟩, .slice none 0 0, .slice none 0 0] /\ Grow w w5) := ⟨(H3.out.1).grow g3, Grow.trans (H3.out.2) g3⟩
 clear H3 g3
 go_wp2_with ((with_reducible refine st_pre (.tmp 2) (.tmp 44) ?_); refine st_all rfl 41 (.tmp 2) (.tmp 44) rfl (w.heap.size) 41 [.int .i64 0, .int .i64 0, .int .i64 0, .string ⟨#[]⟩, .slice none 0 0, .slice none 0 0] [.int .i64 0, .int .i64 0, .int .i64 0, .string ⟨#[]⟩, .slice none 0 0, .slice none 0 0] rfl rfl H4.out.1 rfl sV (ones rfl) ?_)
 intro w6 yy4 mm4
 have H5 : Hid (Blk w6 (w.heap.size) 41 [.int .i64 0, .int .i64 0, .int .i64 0, .string ⟨#[]⟩, .slice none 0 0, .slice none 0 0] /\ Grow w w6) := ⟨yy4, (Below.grown (H4.out.2) mm4 (Below.size (H4.out.2)) (by intro e he; injection he with he; omega))⟩
 clear H4 yy4 mm4
 go_wp2
 exact bodyPost_ret (res_two rfl _ (w.heap.size) 41 _ _ rfl (H5.out.1) Tryz.underlying41 rfl sV) rfl ⟨rfl, H5.out.2⟩
theorem parse_vin (s R A B : ByteArray) (hl : A.size <= 19) (x P h1 l1 y h l : Nat) (r : Rs) (CP : Hid (∀ W, Calls Tryz.prog 50 #[.string s, .string ⟨#[45]⟩] W fun e w' => e = .returned (.tuple #[.string R, .bool true]) /\ Grow W w'))
 (CT : Hid (∀ W, Calls Tryz.prog 54 #[.string R, .string ⟨#[46]⟩] W fun e w' => e = .returned (.tuple #[.string A, .string B, .bool false]) /\ Grow W w'))
 (KW : Hid (∀ W, Calls Tryz.prog 70 #[.string A] W fun e w' => e = .returned (.bool true) /\ Grow W w'))
 (KN : Hid (∀ W, Calls Tryz.prog 72 #[.string R] W fun e w' => e = .returned (.bool false) /\ Grow W w'))
 (W1 : Hid (∀ W, Calls Tryz.prog 74 #[.string A] W fun e w' => e = .returned (.int .u64 (x : Int)) /\ Grow W w'))
 (TE : Hid (∀ W, Calls Tryz.prog 75 #[.int .i64 (B.size : Int)] W fun e w' => e = .returned (.int .u64 (P : Int)) /\ Grow W w'))
 (PR : Hid (∀ W, Calls Tryz.prog 73 #[.int .u64 (x : Int), .int .u64 (P : Int)] W fun e w' => e = .returned (.agg #[.int .u64 (h1 : Int), .int .u64 (l1 : Int)]) /\ Grow W w'))
 (W2 : Hid (∀ W, Calls Tryz.prog 74 #[.string B] W fun e w' => e = .returned (.int .u64 (y : Int)) /\ Grow W w'))
 (PL : Hid (∀ W, Calls Tryz.prog 76 #[.agg #[.int .u64 (h1 : Int), .int .u64 (l1 : Int)], .agg #[.int .u64 0, .int .u64 (y : Int)]] W fun e w' => e = .returned (.agg #[.int .u64 (h : Int), .int .u64 (l : Int)]) /\ Grow W w'))
 (VA : Hid (∀ W, Calls Tryz.prog 77 #[.agg #[.bool true, .int .u64 (h : Int), .int .u64 (l : Int), .int .i64 (B.size : Int)]] W fun e w' => e = .returned (.tuple #[.agg #[.int .i64 r.k, .int .i64 r.n, .int .i64 r.s, .string ⟨#[]⟩, .slice none 0 0, .slice none 0 0], .int .i64 r.e]) /\ Grow W w')) (w : World) :
 Calls Tryz.prog 53 #[.string s] w fun e w' => e = .returned (.tuple #[.agg #[.int .i64 r.k, .int .i64 r.n, .int .i64 r.s, .string ⟨#[]⟩, .slice none 0 0, .slice none 0 0], .int .i64 r.e]) /\ Grow w w' := by
 go_enter Tryz.func53, Tryz.ntmps53
 go_wp2_with fail
 obtain ⟨w1, HW1, H0⟩ : ∃ w1, (w.alloc (Obj.cells #[.int .i64 0, .int .i64 0, .int .i64 0, .string ⟨#[]⟩, .slice none 0 0, .slice none 0 0] 41)) = w1 /\ Hid (Blk w1 (w.heap.size) 41 [.int .i64 0, .int .i64 0, .int .i64 0, .string ⟨#[]⟩, .slice none 0 0, .slice none 0 0] /\ Grow w w1) := ⟨_, rfl, (blk_at rfl), ((Grow.refl _).alloc _)⟩
 rw [HW1]
 clear HW1
 refine (CP.out _).mono ?_
 rintro e w2 ⟨rfl, g0⟩
 have H1 : Hid (Blk w2 (w.heap.size) 41 [.int .i64 0, .int .i64 0, .int .i64 0, .string ⟨#[]⟩, .slice none 0 0, .slice none 0 0] /\ Grow w w2) := ⟨(H0.out.1).grow g0, Grow.trans (H0.out.2) g0⟩
 clear H0 g0
 go_wp2_with fail
 refine (CT.out _).mono ?_
 rintro e w3 ⟨rfl, g1⟩
 have H2 : Hid (Blk w3 (w.heap.size) 41 [.int .i64 0, .int .i64 0, .int .i64 0, .string ⟨#[]⟩, .slice none 0 0, .slice none 0 0] /\ Grow w w3) := ⟨(H1.out.1).grow g1, Grow.trans (H1.out.2) g1⟩
 clear H1 g1
 go_wp2_with fail
 refine (KW.out _).mono ?_
 rintro e w4 ⟨rfl, g2⟩
 have H3 : Hid (Blk w4 (w.heap.size) 41 [.int .i64 0, .int .i64 0, .int .i64 0, .string ⟨#[]⟩, .slice none 0 0, .slice none 0 0] /\ Grow w w4) := ⟨(H2.out.1).grow g2, Grow.trans (H2.out.2) g2⟩
 clear H2 g2
 go_wp2_with fail
 refine (KN.out _).mono ?_
 rintro e w5 ⟨rfl, g3⟩
 have H4 : Hid (Blk w5 (w.heap.size) 41 [.int .i64 0, .int .i64 0, .int .i64 0, .string ⟨#[]⟩, .slice none 0 0, .slice none 0 0] /\ Grow w w5) := ⟨(H3.out.1).grow g3, Grow.trans (H3.out.2) g3⟩
 clear H3 g3
 go_wp2_with fail
 refine (W1.out _).mono ?_
 rintro e w6 ⟨rfl, g4⟩
 have H5 : Hid (Blk w6 (w.heap.size) 41 [.int .i64 0, .int .i64 0, .int .i64 0, .string ⟨#[]⟩, .slice none 0 0, .slice none 0 0] /\ Grow w w6) := ⟨(H4.out.1).grow g4, Grow.trans (H4.out.2) g4⟩
 clear H4 g4
 go_wp2_with fail
 refine (TE.out _).mono ?_
 rintro e w7 ⟨rfl, g5⟩
 have H6 : Hid (Blk w7 (w.heap.size) 41 [.int .i64 0, .int .i64 0, .int .i64 0, .string ⟨#[]⟩, .slice none 0 0, .slice none 0 0] /\ Grow w w7) := ⟨(H5.out.1).grow g5, Grow.trans (H5.out.2) g5⟩
 clear H5 g5
 go_wp2_with fail
 refine (PR.out _).mono ?_
 rintro e w8 ⟨rfl, g6⟩
 have H7 : Hid (Blk w8 (w.heap.size) 41 [.int .i64 0, .int .i64 0, .int .i64 0, .string ⟨#[]⟩, .slice none 0 0, .slice none 0 0] /\ Grow w w8) := ⟨(H6.out.1).grow g6, Grow.trans (H6.out.2) g6⟩
 clear H6 g6
 go_wp2_with fail
 refine (W2.out _).mono ?_
 rintro e w9 ⟨rfl, g7⟩
 have H8 : Hid (Blk w9 (w.heap.size) 41 [.int .i64 0, .int .i64 0, .int .i64 0, .string ⟨#[]⟩, .slice none 0 0, .slice none 0 0] /\ Grow w w9) := ⟨(H7.out.1).grow g7, Grow.trans (H7.out.2) g7⟩
 clear H7 g7
 go_wp2_with fail
 refine (PL.out _).mono ?_
 rintro e w10 ⟨rfl, g8⟩
 have H9 : Hid (Blk w10 (w.heap.size) 41 [.int .i64 0, .int .i64 0, .int .i64 0, .string ⟨#[]⟩, .slice none 0 0, .slice none 0 0] /\ Grow w w10) := ⟨(H8.out.1).grow g8, Grow.trans (H8.out.2) g8⟩
 clear H8 g8
 go_wp2_with (refine al_zero rfl 97 rfl [.int .u64 0, .int .u64 0] zW ?_)
 intro bw vv9 ss9 zz9 xx9
 go_wp2_with (refine st_all rfl 97 (.tmp 10) (.tmp 55) rfl bw 97 [.int .u64 0, .int .u64 0] [.int .u64 (h : Int), .int .u64 (l : Int)] rfl rfl zz9 rfl sW (ones rfl) ?_)
 intro w11 yy9 mm9
 have H10 : Hid (Blk w11 (w.heap.size) 41 [.int .i64 0, .int .i64 0, .int .i64 0, .string ⟨#[]⟩, .slice none 0 0, .slice none 0 0] /\ Blk w11 (bw) 97 [.int .u64 (h : Int), .int .u64 (l : Int)] /\ Grow w w11) := ⟨(((H9.out.1).kept xx9 (by simp)).kept mm9 (by intro e; injection e with e; have := (H9.out.1).lt; omega)), yy9, (by have x1 := H9.out.2; have x2 : Below w.heap.size w vv9 := Below.grown x1 xx9 x1.size (by intro e he; cases he); exact Below.grown x2 mm9 x2.size (by intro e he; injection he with he; have := x1.size; omega))⟩
 clear H9 ss9 zz9 xx9 yy9 mm9
 have q1_0 : w11.cell? ⟨bw, 0, none⟩ = some (.int .u64 (h : Int)) := (H10.out.2.1).cell 0
 have q1_1 : w11.cell? ⟨bw, 1, none⟩ = some (.int .u64 (l : Int)) := (H10.out.2.1).cell 1
 go_wp2_with fail
 clear q1_0 q1_1
 refine (VA.out _).mono ?_
 rintro e w12 ⟨rfl, g10⟩
 have H11 : Hid (Blk w12 (w.heap.size) 41 [.int .i64 0, .int .i64 0, .int .i64 0, .string ⟨#[]⟩, .slice none 0 0, .slice none 0 0] /\ Blk w12 (bw) 97 [.int .u64 (h : Int), .int .u64 (l : Int)] /\ Grow w w12) := ⟨(H10.out.1).grow g10, (H10.out.2.1).grow g10, Grow.trans (H10.out.2.2) g10⟩
 clear H10 g10
 have H12 : Hid (Blk w12 (w.heap.size) 41 [.int .i64 0, .int .i64 0, .int .i64 0, .string ⟨#[]⟩, .slice none 0 0, .slice none 0 0] /\ Grow w w12) := ⟨(H11.out.1), (H11.out.2.2)⟩
 clear H11
 go_wp2_with ((with_reducible refine st_pre (.tmp 2) (.tmp 61) ?_); refine st_all rfl 41 (.tmp 2) (.tmp 61) rfl (w.heap.size) 41 [.int .i64 0, .int .i64 0, .int .i64 0, .string ⟨#[]⟩, .slice none 0 0, .slice none 0 0] [.int .i64 r.k, .int .i64 r.n, .int .i64 r.s, .string ⟨#[]⟩, .slice none 0 0, .slice none 0 0] rfl rfl H12.out.1 rfl sV (ones rfl) ?_)
 intro w14 yy12 mm12
 have H13 : Hid (Blk w14 (w.heap.size) 41 [.int .i64 r.k, .int .i64 r.n, .int .i64 r.s, .string ⟨#[]⟩, .slice none 0 0, .slice none 0 0] /\ Grow w w14) := ⟨yy12, (Below.grown (H12.out.2) mm12 (Below.size (H12.out.2)) (by intro e he; injection he with he; omega))⟩
 clear H12 yy12 mm12
 go_wp2
 exact bodyPost_ret (res_two rfl _ (w.heap.size) 41 _ _ rfl (H13.out.1) Tryz.underlying41 rfl sV) rfl ⟨rfl, H13.out.2⟩
theorem parse_cd (s R A B : ByteArray)  (CP : Hid (∀ W, Calls Tryz.prog 50 #[.string s, .string ⟨#[45]⟩] W fun e w' => e = .returned (.tuple #[.string R, .bool true]) /\ Grow W w'))
 (CT : Hid (∀ W, Calls Tryz.prog 54 #[.string R, .string ⟨#[46]⟩] W fun e w' => e = .returned (.tuple #[.string A, .string B, .bool true]) /\ Grow W w'))
 (KW : Hid (∀ W, Calls Tryz.prog 70 #[.string A] W fun e w' => e = .returned (.bool true) /\ Grow W w'))
 (KP : Hid (∀ W, Calls Tryz.prog 71 #[.string B] W fun e w' => e = .returned (.bool true) /\ Grow W w'))
 (KN : Hid (∀ W, Calls Tryz.prog 72 #[.string R] W fun e w' => e = .returned (.bool true) /\ Grow W w')) (w : World) :
 Calls Tryz.prog 53 #[.string s] w fun e w' => e = .returned (.tuple #[.agg #[.int .i64 0, .int .i64 0, .int .i64 0, .string ⟨#[]⟩, .slice none 0 0, .slice none 0 0], .int .i64 3]) /\ Grow w w' := by
 go_enter Tryz.func53, Tryz.ntmps53
 go_wp2_with fail
 obtain ⟨w1, HW1, H0⟩ : ∃ w1, (w.alloc (Obj.cells #[.int .i64 0, .int .i64 0, .int .i64 0, .string ⟨#[]⟩, .slice none 0 0, .slice none 0 0] 41)) = w1 /\ Hid (Blk w1 (w.heap.size) 41 [.int .i64 0, .int .i64 0, .int .i64 0, .string ⟨#[]⟩, .slice none 0 0, .slice none 0 0] /\ Grow w w1) := ⟨_, rfl, (blk_at rfl), ((Grow.refl _).alloc _)⟩
 rw [HW1]
 clear HW1
 refine (CP.out _).mono ?_
 rintro e w2 ⟨rfl, g0⟩
 have H1 : Hid (Blk w2 (w.heap.size) 41 [.int .i64 0, .int .i64 0, .int .i64 0, .string ⟨#[]⟩, .slice none 0 0, .slice none 0 0] /\ Grow w w2) := ⟨(H0.out.1).grow g0, Grow.trans (H0.out.2) g0⟩
 clear H0 g0
 go_wp2_with fail
 refine (CT.out _).mono ?_
 rintro e w3 ⟨rfl, g1⟩
 have H2 : Hid (Blk w3 (w.heap.size) 41 [.int .i64 0, .int .i64 0, .int .i64 0, .string ⟨#[]⟩, .slice none 0 0, .slice none 0 0] /\ Grow w w3) := ⟨(H1.out.1).grow g1, Grow.trans (H1.out.2) g1⟩
 clear H1 g1
 go_wp2_with fail
 refine (KW.out _).mono ?_
 rintro e w4 ⟨rfl, g2⟩
 have H3 : Hid (Blk w4 (w.heap.size) 41 [.int .i64 0, .int .i64 0, .int .i64 0, .string ⟨#[]⟩, .slice none 0 0, .slice none 0 0] /\ Grow w w4) := ⟨(H2.out.1).grow g2, Grow.trans (H2.out.2) g2⟩
 clear H2 g2
 go_wp2_with fail
 refine (KP.out _).mono ?_
 rintro e w5 ⟨rfl, g3⟩
 have H4 : Hid (Blk w5 (w.heap.size) 41 [.int .i64 0, .int .i64 0, .int .i64 0, .string ⟨#[]⟩, .slice none 0 0, .slice none 0 0] /\ Grow w w5) := ⟨(H3.out.1).grow g3, Grow.trans (H3.out.2) g3⟩
 clear H3 g3
 go_wp2_with fail
 refine (KN.out _).mono ?_
 rintro e w6 ⟨rfl, g4⟩
 have H5 : Hid (Blk w6 (w.heap.size) 41 [.int .i64 0, .int .i64 0, .int .i64 0, .string ⟨#[]⟩, .slice none 0 0, .slice none 0 0] /\ Grow w w6) := ⟨(H4.out.1).grow g4, Grow.trans (H4.out.2) g4⟩
 clear H4 g4
 go_wp2_with ((with_reducible refine st_pre (.tmp 2) (.tmp 40) ?_); refine st_all rfl 41 (.tmp 2) (.tmp 40) rfl (w.heap.size) 41 [.int .i64 0, .int .i64 0, .int .i64 0, .string ⟨#[]⟩, .slice none 0 0, .slice none 0 0] [.int .i64 0, .int .i64 0, .int .i64 0, .string ⟨#[]⟩, .slice none 0 0, .slice none 0 0] rfl rfl H5.out.1 rfl sV (ones rfl) ?_)
 intro w7 yy5 mm5
 have H6 : Hid (Blk w7 (w.heap.size) 41 [.int .i64 0, .int .i64 0, .int .i64 0, .string ⟨#[]⟩, .slice none 0 0, .slice none 0 0] /\ Grow w w7) := ⟨yy5, (Below.grown (H5.out.2) mm5 (Below.size (H5.out.2)) (by intro e he; injection he with he; omega))⟩
 clear H5 yy5 mm5
 go_wp2
 exact bodyPost_ret (res_two rfl _ (w.heap.size) 41 _ _ rfl (H6.out.1) Tryz.underlying41 rfl sV) rfl ⟨rfl, H6.out.2⟩
theorem parse_ldp (s R A B : ByteArray) (hl : 19 < A.size) (CP : Hid (∀ W, Calls Tryz.prog 50 #[.string s, .string ⟨#[45]⟩] W fun e w' => e = .returned (.tuple #[.string R, .bool false]) /\ Grow W w'))
 (CT : Hid (∀ W, Calls Tryz.prog 54 #[.string R, .string ⟨#[46]⟩] W fun e w' => e = .returned (.tuple #[.string A, .string B, .bool true]) /\ Grow W w'))
 (KW : Hid (∀ W, Calls Tryz.prog 70 #[.string A] W fun e w' => e = .returned (.bool true) /\ Grow W w'))
 (KP : Hid (∀ W, Calls Tryz.prog 71 #[.string B] W fun e w' => e = .returned (.bool true) /\ Grow W w')) (w : World) :
 Calls Tryz.prog 53 #[.string s] w fun e w' => e = .returned (.tuple #[.agg #[.int .i64 0, .int .i64 0, .int .i64 0, .string ⟨#[]⟩, .slice none 0 0, .slice none 0 0], .int .i64 10]) /\ Grow w w' := by
 go_enter Tryz.func53, Tryz.ntmps53
 go_wp2_with fail
 obtain ⟨w1, HW1, H0⟩ : ∃ w1, (w.alloc (Obj.cells #[.int .i64 0, .int .i64 0, .int .i64 0, .string ⟨#[]⟩, .slice none 0 0, .slice none 0 0] 41)) = w1 /\ Hid (Blk w1 (w.heap.size) 41 [.int .i64 0, .int .i64 0, .int .i64 0, .string ⟨#[]⟩, .slice none 0 0, .slice none 0 0] /\ Grow w w1) := ⟨_, rfl, (blk_at rfl), ((Grow.refl _).alloc _)⟩
 rw [HW1]
 clear HW1
 refine (CP.out _).mono ?_
 rintro e w2 ⟨rfl, g0⟩
 have H1 : Hid (Blk w2 (w.heap.size) 41 [.int .i64 0, .int .i64 0, .int .i64 0, .string ⟨#[]⟩, .slice none 0 0, .slice none 0 0] /\ Grow w w2) := ⟨(H0.out.1).grow g0, Grow.trans (H0.out.2) g0⟩
 clear H0 g0
 go_wp2_with fail
 refine (CT.out _).mono ?_
 rintro e w3 ⟨rfl, g1⟩
 have H2 : Hid (Blk w3 (w.heap.size) 41 [.int .i64 0, .int .i64 0, .int .i64 0, .string ⟨#[]⟩, .slice none 0 0, .slice none 0 0] /\ Grow w w3) := ⟨(H1.out.1).grow g1, Grow.trans (H1.out.2) g1⟩
 clear H1 g1
 go_wp2_with fail
 refine (KW.out _).mono ?_
 rintro e w4 ⟨rfl, g2⟩
 have H3 : Hid (Blk w4 (w.heap.size) 41 [.int .i64 0, .int .i64 0, .int .i64 0, .string ⟨#[]⟩, .slice none 0 0, .slice none 0 0] /\ Grow w w4) := ⟨(H2.out.1).grow g2, Grow.trans (H2.out.2) g2⟩
 clear H2 g2
 go_wp2_with fail
 refine (KP.out _).mono ?_
 rintro e w5 ⟨rfl, g3⟩
 have H4 : Hid (Blk w5 (w.heap.size) 41 [.int .i64 0, .int .i64 0, .int .i64 0, .string ⟨#[]⟩, .slice none 0 0, .slice none 0 0] /\ Grow w w5) := ⟨(H3.out.1).grow g3, Grow.trans (H3.out.2) g3⟩
 clear H3 g3
 go_wp2_with ((with_reducible refine st_pre (.tmp 2) (.tmp 44) ?_); refine st_all rfl 41 (.tmp 2) (.tmp 44) rfl (w.heap.size) 41 [.int .i64 0, .int .i64 0, .int .i64 0, .string ⟨#[]⟩, .slice none 0 0, .slice none 0 0] [.int .i64 0, .int .i64 0, .int .i64 0, .string ⟨#[]⟩, .slice none 0 0, .slice none 0 0] rfl rfl H4.out.1 rfl sV (ones rfl) ?_)
 intro w6 yy4 mm4
 have H5 : Hid (Blk w6 (w.heap.size) 41 [.int .i64 0, .int .i64 0, .int .i64 0, .string ⟨#[]⟩, .slice none 0 0, .slice none 0 0] /\ Grow w w6) := ⟨yy4, (Below.grown (H4.out.2) mm4 (Below.size (H4.out.2)) (by intro e he; injection he with he; omega))⟩
 clear H4 yy4 mm4
 go_wp2
 exact bodyPost_ret (res_two rfl _ (w.heap.size) 41 _ _ rfl (H5.out.1) Tryz.underlying41 rfl sV) rfl ⟨rfl, H5.out.2⟩
theorem parse_vdp (s R A B : ByteArray) (hl : A.size <= 19) (x P h1 l1 y h l : Nat) (r : Rs) (CP : Hid (∀ W, Calls Tryz.prog 50 #[.string s, .string ⟨#[45]⟩] W fun e w' => e = .returned (.tuple #[.string R, .bool false]) /\ Grow W w'))
 (CT : Hid (∀ W, Calls Tryz.prog 54 #[.string R, .string ⟨#[46]⟩] W fun e w' => e = .returned (.tuple #[.string A, .string B, .bool true]) /\ Grow W w'))
 (KW : Hid (∀ W, Calls Tryz.prog 70 #[.string A] W fun e w' => e = .returned (.bool true) /\ Grow W w'))
 (KP : Hid (∀ W, Calls Tryz.prog 71 #[.string B] W fun e w' => e = .returned (.bool true) /\ Grow W w'))
 (W1 : Hid (∀ W, Calls Tryz.prog 74 #[.string A] W fun e w' => e = .returned (.int .u64 (x : Int)) /\ Grow W w'))
 (TE : Hid (∀ W, Calls Tryz.prog 75 #[.int .i64 (B.size : Int)] W fun e w' => e = .returned (.int .u64 (P : Int)) /\ Grow W w'))
 (PR : Hid (∀ W, Calls Tryz.prog 73 #[.int .u64 (x : Int), .int .u64 (P : Int)] W fun e w' => e = .returned (.agg #[.int .u64 (h1 : Int), .int .u64 (l1 : Int)]) /\ Grow W w'))
 (W2 : Hid (∀ W, Calls Tryz.prog 74 #[.string B] W fun e w' => e = .returned (.int .u64 (y : Int)) /\ Grow W w'))
 (PL : Hid (∀ W, Calls Tryz.prog 76 #[.agg #[.int .u64 (h1 : Int), .int .u64 (l1 : Int)], .agg #[.int .u64 0, .int .u64 (y : Int)]] W fun e w' => e = .returned (.agg #[.int .u64 (h : Int), .int .u64 (l : Int)]) /\ Grow W w'))
 (VA : Hid (∀ W, Calls Tryz.prog 77 #[.agg #[.bool false, .int .u64 (h : Int), .int .u64 (l : Int), .int .i64 (B.size : Int)]] W fun e w' => e = .returned (.tuple #[.agg #[.int .i64 r.k, .int .i64 r.n, .int .i64 r.s, .string ⟨#[]⟩, .slice none 0 0, .slice none 0 0], .int .i64 r.e]) /\ Grow W w')) (w : World) :
 Calls Tryz.prog 53 #[.string s] w fun e w' => e = .returned (.tuple #[.agg #[.int .i64 r.k, .int .i64 r.n, .int .i64 r.s, .string ⟨#[]⟩, .slice none 0 0, .slice none 0 0], .int .i64 r.e]) /\ Grow w w' := by
 go_enter Tryz.func53, Tryz.ntmps53
 go_wp2_with fail
 obtain ⟨w1, HW1, H0⟩ : ∃ w1, (w.alloc (Obj.cells #[.int .i64 0, .int .i64 0, .int .i64 0, .string ⟨#[]⟩, .slice none 0 0, .slice none 0 0] 41)) = w1 /\ Hid (Blk w1 (w.heap.size) 41 [.int .i64 0, .int .i64 0, .int .i64 0, .string ⟨#[]⟩, .slice none 0 0, .slice none 0 0] /\ Grow w w1) := ⟨_, rfl, (blk_at rfl), ((Grow.refl _).alloc _)⟩
 rw [HW1]
 clear HW1
 refine (CP.out _).mono ?_
 rintro e w2 ⟨rfl, g0⟩
 have H1 : Hid (Blk w2 (w.heap.size) 41 [.int .i64 0, .int .i64 0, .int .i64 0, .string ⟨#[]⟩, .slice none 0 0, .slice none 0 0] /\ Grow w w2) := ⟨(H0.out.1).grow g0, Grow.trans (H0.out.2) g0⟩
 clear H0 g0
 go_wp2_with fail
 refine (CT.out _).mono ?_
 rintro e w3 ⟨rfl, g1⟩
 have H2 : Hid (Blk w3 (w.heap.size) 41 [.int .i64 0, .int .i64 0, .int .i64 0, .string ⟨#[]⟩, .slice none 0 0, .slice none 0 0] /\ Grow w w3) := ⟨(H1.out.1).grow g1, Grow.trans (H1.out.2) g1⟩
 clear H1 g1
 go_wp2_with fail
 refine (KW.out _).mono ?_
 rintro e w4 ⟨rfl, g2⟩
 have H3 : Hid (Blk w4 (w.heap.size) 41 [.int .i64 0, .int .i64 0, .int .i64 0, .string ⟨#[]⟩, .slice none 0 0, .slice none 0 0] /\ Grow w w4) := ⟨(H2.out.1).grow g2, Grow.trans (H2.out.2) g2⟩
 clear H2 g2
 go_wp2_with fail
 refine (KP.out _).mono ?_
 rintro e w5 ⟨rfl, g3⟩
 have H4 : Hid (Blk w5 (w.heap.size) 41 [.int .i64 0, .int .i64 0, .int .i64 0, .string ⟨#[]⟩, .slice none 0 0, .slice none 0 0] /\ Grow w w5) := ⟨(H3.out.1).grow g3, Grow.trans (H3.out.2) g3⟩
 clear H3 g3
 go_wp2_with fail
 refine (W1.out _).mono ?_
 rintro e w6 ⟨rfl, g4⟩
 have H5 : Hid (Blk w6 (w.heap.size) 41 [.int .i64 0, .int .i64 0, .int .i64 0, .string ⟨#[]⟩, .slice none 0 0, .slice none 0 0] /\ Grow w w6) := ⟨(H4.out.1).grow g4, Grow.trans (H4.out.2) g4⟩
 clear H4 g4
 go_wp2_with fail
 refine (TE.out _).mono ?_
 rintro e w7 ⟨rfl, g5⟩
 have H6 : Hid (Blk w7 (w.heap.size) 41 [.int .i64 0, .int .i64 0, .int .i64 0, .string ⟨#[]⟩, .slice none 0 0, .slice none 0 0] /\ Grow w w7) := ⟨(H5.out.1).grow g5, Grow.trans (H5.out.2) g5⟩
 clear H5 g5
 go_wp2_with fail
 refine (PR.out _).mono ?_
 rintro e w8 ⟨rfl, g6⟩
 have H7 : Hid (Blk w8 (w.heap.size) 41 [.int .i64 0, .int .i64 0, .int .i64 0, .string ⟨#[]⟩, .slice none 0 0, .slice none 0 0] /\ Grow w w8) := ⟨(H6.out.1).grow g6, Grow.trans (H6.out.2) g6⟩
 clear H6 g6
 go_wp2_with fail
 refine (W2.out _).mono ?_
 rintro e w9 ⟨rfl, g7⟩
 have H8 : Hid (Blk w9 (w.heap.size) 41 [.int .i64 0, .int .i64 0, .int .i64 0, .string ⟨#[]⟩, .slice none 0 0, .slice none 0 0] /\ Grow w w9) := ⟨(H7.out.1).grow g7, Grow.trans (H7.out.2) g7⟩
 clear H7 g7
 go_wp2_with fail
 refine (PL.out _).mono ?_
 rintro e w10 ⟨rfl, g8⟩
 have H9 : Hid (Blk w10 (w.heap.size) 41 [.int .i64 0, .int .i64 0, .int .i64 0, .string ⟨#[]⟩, .slice none 0 0, .slice none 0 0] /\ Grow w w10) := ⟨(H8.out.1).grow g8, Grow.trans (H8.out.2) g8⟩
 clear H8 g8
 go_wp2_with (refine al_zero rfl 97 rfl [.int .u64 0, .int .u64 0] zW ?_)
 intro bw vv9 ss9 zz9 xx9
 go_wp2_with (refine st_all rfl 97 (.tmp 10) (.tmp 55) rfl bw 97 [.int .u64 0, .int .u64 0] [.int .u64 (h : Int), .int .u64 (l : Int)] rfl rfl zz9 rfl sW (ones rfl) ?_)
 intro w11 yy9 mm9
 have H10 : Hid (Blk w11 (w.heap.size) 41 [.int .i64 0, .int .i64 0, .int .i64 0, .string ⟨#[]⟩, .slice none 0 0, .slice none 0 0] /\ Blk w11 (bw) 97 [.int .u64 (h : Int), .int .u64 (l : Int)] /\ Grow w w11) := ⟨(((H9.out.1).kept xx9 (by simp)).kept mm9 (by intro e; injection e with e; have := (H9.out.1).lt; omega)), yy9, (by have x1 := H9.out.2; have x2 : Below w.heap.size w vv9 := Below.grown x1 xx9 x1.size (by intro e he; cases he); exact Below.grown x2 mm9 x2.size (by intro e he; injection he with he; have := x1.size; omega))⟩
 clear H9 ss9 zz9 xx9 yy9 mm9
 have q1_0 : w11.cell? ⟨bw, 0, none⟩ = some (.int .u64 (h : Int)) := (H10.out.2.1).cell 0
 have q1_1 : w11.cell? ⟨bw, 1, none⟩ = some (.int .u64 (l : Int)) := (H10.out.2.1).cell 1
 go_wp2_with fail
 clear q1_0 q1_1
 refine (VA.out _).mono ?_
 rintro e w12 ⟨rfl, g10⟩
 have H11 : Hid (Blk w12 (w.heap.size) 41 [.int .i64 0, .int .i64 0, .int .i64 0, .string ⟨#[]⟩, .slice none 0 0, .slice none 0 0] /\ Blk w12 (bw) 97 [.int .u64 (h : Int), .int .u64 (l : Int)] /\ Grow w w12) := ⟨(H10.out.1).grow g10, (H10.out.2.1).grow g10, Grow.trans (H10.out.2.2) g10⟩
 clear H10 g10
 have H12 : Hid (Blk w12 (w.heap.size) 41 [.int .i64 0, .int .i64 0, .int .i64 0, .string ⟨#[]⟩, .slice none 0 0, .slice none 0 0] /\ Grow w w12) := ⟨(H11.out.1), (H11.out.2.2)⟩
 clear H11
 go_wp2_with ((with_reducible refine st_pre (.tmp 2) (.tmp 61) ?_); refine st_all rfl 41 (.tmp 2) (.tmp 61) rfl (w.heap.size) 41 [.int .i64 0, .int .i64 0, .int .i64 0, .string ⟨#[]⟩, .slice none 0 0, .slice none 0 0] [.int .i64 r.k, .int .i64 r.n, .int .i64 r.s, .string ⟨#[]⟩, .slice none 0 0, .slice none 0 0] rfl rfl H12.out.1 rfl sV (ones rfl) ?_)
 intro w14 yy12 mm12
 have H13 : Hid (Blk w14 (w.heap.size) 41 [.int .i64 r.k, .int .i64 r.n, .int .i64 r.s, .string ⟨#[]⟩, .slice none 0 0, .slice none 0 0] /\ Grow w w14) := ⟨yy12, (Below.grown (H12.out.2) mm12 (Below.size (H12.out.2)) (by intro e he; injection he with he; omega))⟩
 clear H12 yy12 mm12
 go_wp2
 exact bodyPost_ret (res_two rfl _ (w.heap.size) 41 _ _ rfl (H13.out.1) Tryz.underlying41 rfl sV) rfl ⟨rfl, H13.out.2⟩
theorem parse_ldn (s R A B : ByteArray) (hl : 19 < A.size) (CP : Hid (∀ W, Calls Tryz.prog 50 #[.string s, .string ⟨#[45]⟩] W fun e w' => e = .returned (.tuple #[.string R, .bool true]) /\ Grow W w'))
 (CT : Hid (∀ W, Calls Tryz.prog 54 #[.string R, .string ⟨#[46]⟩] W fun e w' => e = .returned (.tuple #[.string A, .string B, .bool true]) /\ Grow W w'))
 (KW : Hid (∀ W, Calls Tryz.prog 70 #[.string A] W fun e w' => e = .returned (.bool true) /\ Grow W w'))
 (KP : Hid (∀ W, Calls Tryz.prog 71 #[.string B] W fun e w' => e = .returned (.bool true) /\ Grow W w'))
 (KN : Hid (∀ W, Calls Tryz.prog 72 #[.string R] W fun e w' => e = .returned (.bool false) /\ Grow W w')) (w : World) :
 Calls Tryz.prog 53 #[.string s] w fun e w' => e = .returned (.tuple #[.agg #[.int .i64 0, .int .i64 0, .int .i64 0, .string ⟨#[]⟩, .slice none 0 0, .slice none 0 0], .int .i64 10]) /\ Grow w w' := by
 go_enter Tryz.func53, Tryz.ntmps53
 go_wp2_with fail
 obtain ⟨w1, HW1, H0⟩ : ∃ w1, (w.alloc (Obj.cells #[.int .i64 0, .int .i64 0, .int .i64 0, .string ⟨#[]⟩, .slice none 0 0, .slice none 0 0] 41)) = w1 /\ Hid (Blk w1 (w.heap.size) 41 [.int .i64 0, .int .i64 0, .int .i64 0, .string ⟨#[]⟩, .slice none 0 0, .slice none 0 0] /\ Grow w w1) := ⟨_, rfl, (blk_at rfl), ((Grow.refl _).alloc _)⟩
 rw [HW1]
 clear HW1
 refine (CP.out _).mono ?_
 rintro e w2 ⟨rfl, g0⟩
 have H1 : Hid (Blk w2 (w.heap.size) 41 [.int .i64 0, .int .i64 0, .int .i64 0, .string ⟨#[]⟩, .slice none 0 0, .slice none 0 0] /\ Grow w w2) := ⟨(H0.out.1).grow g0, Grow.trans (H0.out.2) g0⟩
 clear H0 g0
 go_wp2_with fail
 refine (CT.out _).mono ?_
 rintro e w3 ⟨rfl, g1⟩
 have H2 : Hid (Blk w3 (w.heap.size) 41 [.int .i64 0, .int .i64 0, .int .i64 0, .string ⟨#[]⟩, .slice none 0 0, .slice none 0 0] /\ Grow w w3) := ⟨(H1.out.1).grow g1, Grow.trans (H1.out.2) g1⟩
 clear H1 g1
 go_wp2_with fail
 refine (KW.out _).mono ?_
 rintro e w4 ⟨rfl, g2⟩
 have H3 : Hid (Blk w4 (w.heap.size) 41 [.int .i64 0, .int .i64 0, .int .i64 0, .string ⟨#[]⟩, .slice none 0 0, .slice none 0 0] /\ Grow w w4) := ⟨(H2.out.1).grow g2, Grow.trans (H2.out.2) g2⟩
 clear H2 g2
 go_wp2_with fail
 refine (KP.out _).mono ?_
 rintro e w5 ⟨rfl, g3⟩
 have H4 : Hid (Blk w5 (w.heap.size) 41 [.int .i64 0, .int .i64 0, .int .i64 0, .string ⟨#[]⟩, .slice none 0 0, .slice none 0 0] /\ Grow w w5) := ⟨(H3.out.1).grow g3, Grow.trans (H3.out.2) g3⟩
 clear H3 g3
 go_wp2_with fail
 refine (KN.out _).mono ?_
 rintro e w6 ⟨rfl, g4⟩
 have H5 : Hid (Blk w6 (w.heap.size) 41 [.int .i64 0, .int .i64 0, .int .i64 0, .string ⟨#[]⟩, .slice none 0 0, .slice none 0 0] /\ Grow w w6) := ⟨(H4.out.1).grow g4, Grow.trans (H4.out.2) g4⟩
 clear H4 g4
 go_wp2_with ((with_reducible refine st_pre (.tmp 2) (.tmp 44) ?_); refine st_all rfl 41 (.tmp 2) (.tmp 44) rfl (w.heap.size) 41 [.int .i64 0, .int .i64 0, .int .i64 0, .string ⟨#[]⟩, .slice none 0 0, .slice none 0 0] [.int .i64 0, .int .i64 0, .int .i64 0, .string ⟨#[]⟩, .slice none 0 0, .slice none 0 0] rfl rfl H5.out.1 rfl sV (ones rfl) ?_)
 intro w7 yy5 mm5
 have H6 : Hid (Blk w7 (w.heap.size) 41 [.int .i64 0, .int .i64 0, .int .i64 0, .string ⟨#[]⟩, .slice none 0 0, .slice none 0 0] /\ Grow w w7) := ⟨yy5, (Below.grown (H5.out.2) mm5 (Below.size (H5.out.2)) (by intro e he; injection he with he; omega))⟩
 clear H5 yy5 mm5
 go_wp2
 exact bodyPost_ret (res_two rfl _ (w.heap.size) 41 _ _ rfl (H6.out.1) Tryz.underlying41 rfl sV) rfl ⟨rfl, H6.out.2⟩
theorem parse_vdn (s R A B : ByteArray) (hl : A.size <= 19) (x P h1 l1 y h l : Nat) (r : Rs) (CP : Hid (∀ W, Calls Tryz.prog 50 #[.string s, .string ⟨#[45]⟩] W fun e w' => e = .returned (.tuple #[.string R, .bool true]) /\ Grow W w'))
 (CT : Hid (∀ W, Calls Tryz.prog 54 #[.string R, .string ⟨#[46]⟩] W fun e w' => e = .returned (.tuple #[.string A, .string B, .bool true]) /\ Grow W w'))
 (KW : Hid (∀ W, Calls Tryz.prog 70 #[.string A] W fun e w' => e = .returned (.bool true) /\ Grow W w'))
 (KP : Hid (∀ W, Calls Tryz.prog 71 #[.string B] W fun e w' => e = .returned (.bool true) /\ Grow W w'))
 (KN : Hid (∀ W, Calls Tryz.prog 72 #[.string R] W fun e w' => e = .returned (.bool false) /\ Grow W w'))
 (W1 : Hid (∀ W, Calls Tryz.prog 74 #[.string A] W fun e w' => e = .returned (.int .u64 (x : Int)) /\ Grow W w'))
 (TE : Hid (∀ W, Calls Tryz.prog 75 #[.int .i64 (B.size : Int)] W fun e w' => e = .returned (.int .u64 (P : Int)) /\ Grow W w'))
 (PR : Hid (∀ W, Calls Tryz.prog 73 #[.int .u64 (x : Int), .int .u64 (P : Int)] W fun e w' => e = .returned (.agg #[.int .u64 (h1 : Int), .int .u64 (l1 : Int)]) /\ Grow W w'))
 (W2 : Hid (∀ W, Calls Tryz.prog 74 #[.string B] W fun e w' => e = .returned (.int .u64 (y : Int)) /\ Grow W w'))
 (PL : Hid (∀ W, Calls Tryz.prog 76 #[.agg #[.int .u64 (h1 : Int), .int .u64 (l1 : Int)], .agg #[.int .u64 0, .int .u64 (y : Int)]] W fun e w' => e = .returned (.agg #[.int .u64 (h : Int), .int .u64 (l : Int)]) /\ Grow W w'))
 (VA : Hid (∀ W, Calls Tryz.prog 77 #[.agg #[.bool true, .int .u64 (h : Int), .int .u64 (l : Int), .int .i64 (B.size : Int)]] W fun e w' => e = .returned (.tuple #[.agg #[.int .i64 r.k, .int .i64 r.n, .int .i64 r.s, .string ⟨#[]⟩, .slice none 0 0, .slice none 0 0], .int .i64 r.e]) /\ Grow W w')) (w : World) :
 Calls Tryz.prog 53 #[.string s] w fun e w' => e = .returned (.tuple #[.agg #[.int .i64 r.k, .int .i64 r.n, .int .i64 r.s, .string ⟨#[]⟩, .slice none 0 0, .slice none 0 0], .int .i64 r.e]) /\ Grow w w' := by
 go_enter Tryz.func53, Tryz.ntmps53
 go_wp2_with fail
 obtain ⟨w1, HW1, H0⟩ : ∃ w1, (w.alloc (Obj.cells #[.int .i64 0, .int .i64 0, .int .i64 0, .string ⟨#[]⟩, .slice none 0 0, .slice none 0 0] 41)) = w1 /\ Hid (Blk w1 (w.heap.size) 41 [.int .i64 0, .int .i64 0, .int .i64 0, .string ⟨#[]⟩, .slice none 0 0, .slice none 0 0] /\ Grow w w1) := ⟨_, rfl, (blk_at rfl), ((Grow.refl _).alloc _)⟩
 rw [HW1]
 clear HW1
 refine (CP.out _).mono ?_
 rintro e w2 ⟨rfl, g0⟩
 have H1 : Hid (Blk w2 (w.heap.size) 41 [.int .i64 0, .int .i64 0, .int .i64 0, .string ⟨#[]⟩, .slice none 0 0, .slice none 0 0] /\ Grow w w2) := ⟨(H0.out.1).grow g0, Grow.trans (H0.out.2) g0⟩
 clear H0 g0
 go_wp2_with fail
 refine (CT.out _).mono ?_
 rintro e w3 ⟨rfl, g1⟩
 have H2 : Hid (Blk w3 (w.heap.size) 41 [.int .i64 0, .int .i64 0, .int .i64 0, .string ⟨#[]⟩, .slice none 0 0, .slice none 0 0] /\ Grow w w3) := ⟨(H1.out.1).grow g1, Grow.trans (H1.out.2) g1⟩
 clear H1 g1
 go_wp2_with fail
 refine (KW.out _).mono ?_
 rintro e w4 ⟨rfl, g2⟩
 have H3 : Hid (Blk w4 (w.heap.size) 41 [.int .i64 0, .int .i64 0, .int .i64 0, .string ⟨#[]⟩, .slice none 0 0, .slice none 0 0] /\ Grow w w4) := ⟨(H2.out.1).grow g2, Grow.trans (H2.out.2) g2⟩
 clear H2 g2
 go_wp2_with fail
 refine (KP.out _).mono ?_
 rintro e w5 ⟨rfl, g3⟩
 have H4 : Hid (Blk w5 (w.heap.size) 41 [.int .i64 0, .int .i64 0, .int .i64 0, .string ⟨#[]⟩, .slice none 0 0, .slice none 0 0] /\ Grow w w5) := ⟨(H3.out.1).grow g3, Grow.trans (H3.out.2) g3⟩
 clear H3 g3
 go_wp2_with fail
 refine (KN.out _).mono ?_
 rintro e w6 ⟨rfl, g4⟩
 have H5 : Hid (Blk w6 (w.heap.size) 41 [.int .i64 0, .int .i64 0, .int .i64 0, .string ⟨#[]⟩, .slice none 0 0, .slice none 0 0] /\ Grow w w6) := ⟨(H4.out.1).grow g4, Grow.trans (H4.out.2) g4⟩
 clear H4 g4
 go_wp2_with fail
 refine (W1.out _).mono ?_
 rintro e w7 ⟨rfl, g5⟩
 have H6 : Hid (Blk w7 (w.heap.size) 41 [.int .i64 0, .int .i64 0, .int .i64 0, .string ⟨#[]⟩, .slice none 0 0, .slice none 0 0] /\ Grow w w7) := ⟨(H5.out.1).grow g5, Grow.trans (H5.out.2) g5⟩
 clear H5 g5
 go_wp2_with fail
 refine (TE.out _).mono ?_
 rintro e w8 ⟨rfl, g6⟩
 have H7 : Hid (Blk w8 (w.heap.size) 41 [.int .i64 0, .int .i64 0, .int .i64 0, .string ⟨#[]⟩, .slice none 0 0, .slice none 0 0] /\ Grow w w8) := ⟨(H6.out.1).grow g6, Grow.trans (H6.out.2) g6⟩
 clear H6 g6
 go_wp2_with fail
 refine (PR.out _).mono ?_
 rintro e w9 ⟨rfl, g7⟩
 have H8 : Hid (Blk w9 (w.heap.size) 41 [.int .i64 0, .int .i64 0, .int .i64 0, .string ⟨#[]⟩, .slice none 0 0, .slice none 0 0] /\ Grow w w9) := ⟨(H7.out.1).grow g7, Grow.trans (H7.out.2) g7⟩
 clear H7 g7
 go_wp2_with fail
 refine (W2.out _).mono ?_
 rintro e w10 ⟨rfl, g8⟩
 have H9 : Hid (Blk w10 (w.heap.size) 41 [.int .i64 0, .int .i64 0, .int .i64 0, .string ⟨#[]⟩, .slice none 0 0, .slice none 0 0] /\ Grow w w10) := ⟨(H8.out.1).grow g8, Grow.trans (H8.out.2) g8⟩
 clear H8 g8
 go_wp2_with fail
 refine (PL.out _).mono ?_
 rintro e w11 ⟨rfl, g9⟩
 have H10 : Hid (Blk w11 (w.heap.size) 41 [.int .i64 0, .int .i64 0, .int .i64 0, .string ⟨#[]⟩, .slice none 0 0, .slice none 0 0] /\ Grow w w11) := ⟨(H9.out.1).grow g9, Grow.trans (H9.out.2) g9⟩
 clear H9 g9
 go_wp2_with (refine al_zero rfl 97 rfl [.int .u64 0, .int .u64 0] zW ?_)
 intro bw vv10 ss10 zz10 xx10
 go_wp2_with (refine st_all rfl 97 (.tmp 10) (.tmp 55) rfl bw 97 [.int .u64 0, .int .u64 0] [.int .u64 (h : Int), .int .u64 (l : Int)] rfl rfl zz10 rfl sW (ones rfl) ?_)
 intro w12 yy10 mm10
 have H11 : Hid (Blk w12 (w.heap.size) 41 [.int .i64 0, .int .i64 0, .int .i64 0, .string ⟨#[]⟩, .slice none 0 0, .slice none 0 0] /\ Blk w12 (bw) 97 [.int .u64 (h : Int), .int .u64 (l : Int)] /\ Grow w w12) := ⟨(((H10.out.1).kept xx10 (by simp)).kept mm10 (by intro e; injection e with e; have := (H10.out.1).lt; omega)), yy10, (by have x1 := H10.out.2; have x2 : Below w.heap.size w vv10 := Below.grown x1 xx10 x1.size (by intro e he; cases he); exact Below.grown x2 mm10 x2.size (by intro e he; injection he with he; have := x1.size; omega))⟩
 clear H10 ss10 zz10 xx10 yy10 mm10
 have q1_0 : w12.cell? ⟨bw, 0, none⟩ = some (.int .u64 (h : Int)) := (H11.out.2.1).cell 0
 have q1_1 : w12.cell? ⟨bw, 1, none⟩ = some (.int .u64 (l : Int)) := (H11.out.2.1).cell 1
 go_wp2_with fail
 clear q1_0 q1_1
 refine (VA.out _).mono ?_
 rintro e w13 ⟨rfl, g11⟩
 have H12 : Hid (Blk w13 (w.heap.size) 41 [.int .i64 0, .int .i64 0, .int .i64 0, .string ⟨#[]⟩, .slice none 0 0, .slice none 0 0] /\ Blk w13 (bw) 97 [.int .u64 (h : Int), .int .u64 (l : Int)] /\ Grow w w13) := ⟨(H11.out.1).grow g11, (H11.out.2.1).grow g11, Grow.trans (H11.out.2.2) g11⟩
 clear H11 g11
 have H13 : Hid (Blk w13 (w.heap.size) 41 [.int .i64 0, .int .i64 0, .int .i64 0, .string ⟨#[]⟩, .slice none 0 0, .slice none 0 0] /\ Grow w w13) := ⟨(H12.out.1), (H12.out.2.2)⟩
 clear H12
 go_wp2_with ((with_reducible refine st_pre (.tmp 2) (.tmp 61) ?_); refine st_all rfl 41 (.tmp 2) (.tmp 61) rfl (w.heap.size) 41 [.int .i64 0, .int .i64 0, .int .i64 0, .string ⟨#[]⟩, .slice none 0 0, .slice none 0 0] [.int .i64 r.k, .int .i64 r.n, .int .i64 r.s, .string ⟨#[]⟩, .slice none 0 0, .slice none 0 0] rfl rfl H13.out.1 rfl sV (ones rfl) ?_)
 intro w15 yy13 mm13
 have H14 : Hid (Blk w15 (w.heap.size) 41 [.int .i64 r.k, .int .i64 r.n, .int .i64 r.s, .string ⟨#[]⟩, .slice none 0 0, .slice none 0 0] /\ Grow w w15) := ⟨yy13, (Below.grown (H13.out.2) mm13 (Below.size (H13.out.2)) (by intro e he; injection he with he; omega))⟩
 clear H13 yy13 mm13
 go_wp2
 exact bodyPost_ret (res_two rfl _ (w.heap.size) 41 _ _ rfl (H14.out.1) Tryz.underlying41 rfl sV) rfl ⟨rfl, H14.out.2⟩
end Go.Proofs.YtpfiejmhnkcjbaaGreatDoor.D6
