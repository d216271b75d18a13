/-
  DecimalTexts: the law's walk.
-/
import Derived.Test.YtbafmdjlnmeofaaGreatDoorPt
import Derived.Test.YtbafmdjlnmeofaaGreatDoorTpm
import Derived.Test.YtbafmdjlnmeofaaGreatDoorRu
import Derived.Test.YtbafmdjlnmeofaaGreatDoorRzt
import Derived.Test.YtbafmdjlnmeofaaGreatDoorKn
import Derived.Test.YtbafmdjlnmeofaaGreatDoorEq
namespace Go.Proofs.YtbafmdjlnmeofaaGreatDoor
open Go.RowKit
set_option linter.unusedVariables false
set_option maxRecDepth 8000 in
set_option maxHeartbeats 1000000 in
theorem texts_no1 (v : Vv) (s : ByteArray)  (w : World)
    (KP : Hid (∀ W, Calls Tryz.prog 5 #[.agg #[.int .i64 v.k, .int .i64 v.n, .int .i64 v.s, .string v.t, .slice v.na v.nl v.nc, .slice v.ka v.kl v.kc]] W fun e w' => e = .returned (.bool false) ∧ Grow W w')) :
    Calls Tryz.prog 4 #[.agg #[.int .i64 v.k, .int .i64 v.n, .int .i64 v.s, .string v.t, .slice v.na v.nl v.nc, .slice v.ka v.kl v.kc], .string s] w fun e w' => e = .returned (.bool true) ∧ Grow w w' := by
  go_enter Tryz.func4, Tryz.ntmps4
  go_wp2_with fail
  obtain ⟨w1, HW1, H0⟩ : ∃ w1, (w.alloc (Obj.cells #[.int .i64 v.k, .int .i64 v.n, .int .i64 v.s, .string v.t, .slice v.na v.nl v.nc, .slice v.ka v.kl v.kc] 25)) = w1 ∧ Hid (Blk w1 (w.heap.size) 25 [.int .i64 v.k, .int .i64 v.n, .int .i64 v.s, .string v.t, .slice v.na v.nl v.nc, .slice v.ka v.kl v.kc] ∧ Grow w w1) := ⟨_, rfl, (blk_at rfl), ((Grow.refl _).alloc _)⟩
  rw [HW1]
  clear HW1
  refine (KP.out _).mono ?_
  rintro e w2 ⟨rfl, g0⟩
  have H1 : Hid (Blk w2 (w.heap.size) 25 [.int .i64 v.k, .int .i64 v.n, .int .i64 v.s, .string v.t, .slice v.na v.nl v.nc, .slice v.ka v.kl v.kc] ∧ Grow w w2) := ⟨(H0.out.1).grow g0, Grow.trans (H0.out.2) g0⟩
  clear H0 g0
  go_wp2
  go_ret
  exact ⟨rfl, H1.out.2⟩
set_option maxRecDepth 8000 in
set_option maxHeartbeats 1000000 in
theorem texts_no2 (v : Vv) (s : ByteArray) (hs : 500 < s.size) (w : World)
    (KP : Hid (∀ W, Calls Tryz.prog 5 #[.agg #[.int .i64 v.k, .int .i64 v.n, .int .i64 v.s, .string v.t, .slice v.na v.nl v.nc, .slice v.ka v.kl v.kc]] W fun e w' => e = .returned (.bool true) ∧ Grow W w')) :
    Calls Tryz.prog 4 #[.agg #[.int .i64 v.k, .int .i64 v.n, .int .i64 v.s, .string v.t, .slice v.na v.nl v.nc, .slice v.ka v.kl v.kc], .string s] w fun e w' => e = .returned (.bool true) ∧ Grow w w' := by
  go_enter Tryz.func4, Tryz.ntmps4
  go_wp2_with fail
  obtain ⟨w1, HW1, H0⟩ : ∃ w1, (w.alloc (Obj.cells #[.int .i64 v.k, .int .i64 v.n, .int .i64 v.s, .string v.t, .slice v.na v.nl v.nc, .slice v.ka v.kl v.kc] 25)) = w1 ∧ Hid (Blk w1 (w.heap.size) 25 [.int .i64 v.k, .int .i64 v.n, .int .i64 v.s, .string v.t, .slice v.na v.nl v.nc, .slice v.ka v.kl v.kc] ∧ Grow w w1) := ⟨_, rfl, (blk_at rfl), ((Grow.refl _).alloc _)⟩
  rw [HW1]
  clear HW1
  refine (KP.out _).mono ?_
  rintro e w2 ⟨rfl, g0⟩
  have H1 : Hid (Blk w2 (w.heap.size) 25 [.int .i64 v.k, .int .i64 v.n, .int .i64 v.s, .string v.t, .slice v.na v.nl v.nc, .slice v.ka v.kl v.kc] ∧ Grow w w2) := ⟨(H0.out.1).grow g0, Grow.trans (H0.out.2) g0⟩
  clear H0 g0
  go_wp2
  go_ret
  exact ⟨rfl, H1.out.2⟩
set_option maxRecDepth 8000 in
set_option maxHeartbeats 1000000 in
theorem texts_t (v : Vv) (s : ByteArray) (hs : s.size ≤ 500) (X : ByteArray) (kk nn ss ee : Int) (w : World)
    (KP : Hid (∀ W, Calls Tryz.prog 5 #[.agg #[.int .i64 v.k, .int .i64 v.n, .int .i64 v.s, .string v.t, .slice v.na v.nl v.nc, .slice v.ka v.kl v.kc]] W fun e w' => e = .returned (.bool true) ∧ Grow W w'))
    (KT : Hid (∀ W, Grow w W → Calls Tryz.prog 18 #[.agg #[.int .i64 v.k, .int .i64 v.n, .int .i64 v.s, .string v.t, .slice v.na v.nl v.nc, .slice v.ka v.kl v.kc]] W fun e w' => e = .returned (.tuple #[.string X, .int .i64 11]) ∧ Grow W w'))
    (KU : Hid (∀ W, Grow w W → Calls Tryz.prog 19 #[.agg #[.int .i64 v.k, .int .i64 v.n, .int .i64 v.s, .string v.t, .slice v.na v.nl v.nc, .slice v.ka v.kl v.kc]] W fun e w' => e = .returned (.tuple #[.string X, .int .i64 11]) ∧ Grow W w'))
    (KD : Hid (∀ W, Calls Tryz.prog 20 #[.string s] W fun e w' => e = .returned (.tuple #[.agg #[.int .i64 kk, .int .i64 nn, .int .i64 ss, .string ⟨#[]⟩, .slice none 0 0, .slice none 0 0], .int .i64 ee]) ∧ Grow W w'))
    (KR : Hid (∀ W, Calls Tryz.prog 22 #[.string s] W fun e w' => e = .returned (.tuple #[.agg #[.int .i64 kk, .int .i64 nn, .int .i64 ss, .string ⟨#[]⟩, .slice none 0 0, .slice none 0 0], .int .i64 ee]) ∧ Grow W w'))
    (KG : Hid (∀ W, Calls Tryz.prog 16 #[.agg #[.int .i64 kk, .int .i64 nn, .int .i64 ss, .string ⟨#[]⟩, .slice none 0 0, .slice none 0 0], .int .i64 ee, .agg #[.int .i64 kk, .int .i64 nn, .int .i64 ss, .string ⟨#[]⟩, .slice none 0 0, .slice none 0 0], .int .i64 ee] W fun e w' => e = .returned (.bool true) ∧ Grow W w'))
    (KN : Hid (∀ W, Calls Tryz.prog 17 #[] W fun e w' => e = .returned (.bool true) ∧ Grow W w')) :
    Calls Tryz.prog 4 #[.agg #[.int .i64 v.k, .int .i64 v.n, .int .i64 v.s, .string v.t, .slice v.na v.nl v.nc, .slice v.ka v.kl v.kc], .string s] w fun e w' => e = .returned (.bool true) ∧ Grow w w' := by
  go_enter Tryz.func4, Tryz.ntmps4
  go_wp2_with fail
  obtain ⟨w1, HW1, H0⟩ : ∃ w1, (w.alloc (Obj.cells #[.int .i64 v.k, .int .i64 v.n, .int .i64 v.s, .string v.t, .slice v.na v.nl v.nc, .slice v.ka v.kl v.kc] 25)) = w1 ∧ Hid (Blk w1 (w.heap.size) 25 [.int .i64 v.k, .int .i64 v.n, .int .i64 v.s, .string v.t, .slice v.na v.nl v.nc, .slice v.ka v.kl v.kc] ∧ Grow w w1) := ⟨_, rfl, (blk_at rfl), ((Grow.refl _).alloc _)⟩
  rw [HW1]
  clear HW1
  refine (KP.out _).mono ?_
  rintro e w2 ⟨rfl, g0⟩
  have H1 : Hid (Blk w2 (w.heap.size) 25 [.int .i64 v.k, .int .i64 v.n, .int .i64 v.s, .string v.t, .slice v.na v.nl v.nc, .slice v.ka v.kl v.kc] ∧ Grow w w2) := ⟨(H0.out.1).grow g0, Grow.trans (H0.out.2) g0⟩
  clear H0 g0
  have q0_0 : w2.cell? ⟨w.heap.size, 0, none⟩ = some (.int .i64 v.k) := (H1.out.1).cell 0
  have q0_1 : w2.cell? ⟨w.heap.size, 1, none⟩ = some (.int .i64 v.n) := (H1.out.1).cell 1
  have q0_2 : w2.cell? ⟨w.heap.size, 2, none⟩ = some (.int .i64 v.s) := (H1.out.1).cell 2
  have q0_3 : w2.cell? ⟨w.heap.size, 3, none⟩ = some (.string v.t) := (H1.out.1).cell 3
  have q0_4 : w2.cell? ⟨w.heap.size, 4, none⟩ = some (.slice v.na v.nl v.nc) := (H1.out.1).cell 4
  have q0_5 : w2.cell? ⟨w.heap.size, 5, none⟩ = some (.slice v.ka v.kl v.kc) := (H1.out.1).cell 5
  go_wp2_with fail
  clear q0_0 q0_1 q0_2 q0_3 q0_4 q0_5
  refine (KT.out _ (H1.out.2)).mono ?_
  rintro e w3 ⟨rfl, g1⟩
  have H2 : Hid (Blk w3 (w.heap.size) 25 [.int .i64 v.k, .int .i64 v.n, .int .i64 v.s, .string v.t, .slice v.na v.nl v.nc, .slice v.ka v.kl v.kc] ∧ Grow w w3) := ⟨(H1.out.1).grow g1, Grow.trans (H1.out.2) g1⟩
  clear H1 g1
  have q0_0 : w3.cell? ⟨w.heap.size, 0, none⟩ = some (.int .i64 v.k) := (H2.out.1).cell 0
  have q0_1 : w3.cell? ⟨w.heap.size, 1, none⟩ = some (.int .i64 v.n) := (H2.out.1).cell 1
  have q0_2 : w3.cell? ⟨w.heap.size, 2, none⟩ = some (.int .i64 v.s) := (H2.out.1).cell 2
  have q0_3 : w3.cell? ⟨w.heap.size, 3, none⟩ = some (.string v.t) := (H2.out.1).cell 3
  have q0_4 : w3.cell? ⟨w.heap.size, 4, none⟩ = some (.slice v.na v.nl v.nc) := (H2.out.1).cell 4
  have q0_5 : w3.cell? ⟨w.heap.size, 5, none⟩ = some (.slice v.ka v.kl v.kc) := (H2.out.1).cell 5
  go_wp2_with fail
  clear q0_0 q0_1 q0_2 q0_3 q0_4 q0_5
  refine (KU.out _ (H2.out.2)).mono ?_
  rintro e w4 ⟨rfl, g2⟩
  have H3 : Hid (Blk w4 (w.heap.size) 25 [.int .i64 v.k, .int .i64 v.n, .int .i64 v.s, .string v.t, .slice v.na v.nl v.nc, .slice v.ka v.kl v.kc] ∧ Grow w w4) := ⟨(H2.out.1).grow g2, Grow.trans (H2.out.2) g2⟩
  clear H2 g2
  clear KT KU KP
  go_wp2_with fail
  refine (KD.out _).mono ?_
  rintro e w5 ⟨rfl, g3⟩
  have H4 : Hid (Blk w5 (w.heap.size) 25 [.int .i64 v.k, .int .i64 v.n, .int .i64 v.s, .string v.t, .slice v.na v.nl v.nc, .slice v.ka v.kl v.kc] ∧ Grow w w5) := ⟨(H3.out.1).grow g3, Grow.trans (H3.out.2) g3⟩
  clear H3 g3
  go_wp2_with (refine al_zero rfl 25 rfl [.int .i64 0, .int .i64 0, .int .i64 0, .string ⟨#[]⟩, .slice none 0 0, .slice none 0 0] zV ?_)
  intro bc vv4 ss4 zz4 xx4
  go_wp2_with (refine st_all rfl 25 (.tmp 11) (.tmp 59) rfl bc 25 [.int .i64 0, .int .i64 0, .int .i64 0, .string ⟨#[]⟩, .slice none 0 0, .slice none 0 0] [.int .i64 kk, .int .i64 nn, .int .i64 ss, .string ⟨#[]⟩, .slice none 0 0, .slice none 0 0] rfl rfl zz4 rfl sV (ones rfl) ?_)
  intro w6 yy4 mm4
  have lt_bc_0 : w.heap.size < bc := by have := (H4.out.1).lt; omega
  have H5 : Hid (Blk w6 (w.heap.size) 25 [.int .i64 v.k, .int .i64 v.n, .int .i64 v.s, .string v.t, .slice v.na v.nl v.nc, .slice v.ka v.kl v.kc] ∧ Blk w6 (bc) 25 [.int .i64 kk, .int .i64 nn, .int .i64 ss, .string ⟨#[]⟩, .slice none 0 0, .slice none 0 0] ∧ Grow w w6) := ⟨(((H4.out.1).kept xx4 (by simp)).kept mm4 (by intro e; injection e with e; have := (H4.out.1).lt; omega)), yy4, (by have x1 := H4.out.2; have x2 : Below w.heap.size w vv4 := Below.grown x1 xx4 x1.size (by intro e he; cases he); exact Below.grown x2 mm4 x2.size (by intro e he; injection he with he; have := x1.size; omega))⟩
  clear H4 ss4 zz4 xx4 yy4 mm4
  go_wp2_with fail
  refine (KR.out _).mono ?_
  rintro e w7 ⟨rfl, g5⟩
  have H6 : Hid (Blk w7 (w.heap.size) 25 [.int .i64 v.k, .int .i64 v.n, .int .i64 v.s, .string v.t, .slice v.na v.nl v.nc, .slice v.ka v.kl v.kc] ∧ Blk w7 (bc) 25 [.int .i64 kk, .int .i64 nn, .int .i64 ss, .string ⟨#[]⟩, .slice none 0 0, .slice none 0 0] ∧ Grow w w7) := ⟨(H5.out.1).grow g5, (H5.out.2.1).grow g5, Grow.trans (H5.out.2.2) g5⟩
  clear H5 g5
  go_wp2_with (refine al_zero rfl 25 rfl [.int .i64 0, .int .i64 0, .int .i64 0, .string ⟨#[]⟩, .slice none 0 0, .slice none 0 0] zV ?_)
  intro bd vv6 ss6 zz6 xx6
  go_wp2_with (refine st_all rfl 25 (.tmp 13) (.tmp 64) rfl bd 25 [.int .i64 0, .int .i64 0, .int .i64 0, .string ⟨#[]⟩, .slice none 0 0, .slice none 0 0] [.int .i64 kk, .int .i64 nn, .int .i64 ss, .string ⟨#[]⟩, .slice none 0 0, .slice none 0 0] rfl rfl zz6 rfl sV (ones rfl) ?_)
  intro w8 yy6 mm6
  have lt_bd_0 : w.heap.size < bd := by have := (H6.out.1).lt; omega
  have lt_bd_1 : bc < bd := by have := (H6.out.2.1).lt; omega
  have H7 : Hid (Blk w8 (w.heap.size) 25 [.int .i64 v.k, .int .i64 v.n, .int .i64 v.s, .string v.t, .slice v.na v.nl v.nc, .slice v.ka v.kl v.kc] ∧ Blk w8 (bc) 25 [.int .i64 kk, .int .i64 nn, .int .i64 ss, .string ⟨#[]⟩, .slice none 0 0, .slice none 0 0] ∧ Blk w8 (bd) 25 [.int .i64 kk, .int .i64 nn, .int .i64 ss, .string ⟨#[]⟩, .slice none 0 0, .slice none 0 0] ∧ Grow w w8) := ⟨(((H6.out.1).kept xx6 (by simp)).kept mm6 (by intro e; injection e with e; have := (H6.out.1).lt; omega)), (((H6.out.2.1).kept xx6 (by simp)).kept mm6 (by intro e; injection e with e; have := (H6.out.2.1).lt; omega)), yy6, (by have x1 := H6.out.2.2; have x2 : Below w.heap.size w vv6 := Below.grown x1 xx6 x1.size (by intro e he; cases he); exact Below.grown x2 mm6 x2.size (by intro e he; injection he with he; have := x1.size; omega))⟩
  clear H6 ss6 zz6 xx6 yy6 mm6
  have q1_0 : w8.cell? ⟨bc, 0, none⟩ = some (.int .i64 kk) := (H7.out.2.1).cell 0
  have q1_1 : w8.cell? ⟨bc, 1, none⟩ = some (.int .i64 nn) := (H7.out.2.1).cell 1
  have q1_2 : w8.cell? ⟨bc, 2, none⟩ = some (.int .i64 ss) := (H7.out.2.1).cell 2
  have q1_3 : w8.cell? ⟨bc, 3, none⟩ = some (.string ⟨#[]⟩) := (H7.out.2.1).cell 3
  have q1_4 : w8.cell? ⟨bc, 4, none⟩ = some (.slice none 0 0) := (H7.out.2.1).cell 4
  have q1_5 : w8.cell? ⟨bc, 5, none⟩ = some (.slice none 0 0) := (H7.out.2.1).cell 5
  have q2_0 : w8.cell? ⟨bd, 0, none⟩ = some (.int .i64 kk) := (H7.out.2.2.1).cell 0
  have q2_1 : w8.cell? ⟨bd, 1, none⟩ = some (.int .i64 nn) := (H7.out.2.2.1).cell 1
  have q2_2 : w8.cell? ⟨bd, 2, none⟩ = some (.int .i64 ss) := (H7.out.2.2.1).cell 2
  have q2_3 : w8.cell? ⟨bd, 3, none⟩ = some (.string ⟨#[]⟩) := (H7.out.2.2.1).cell 3
  have q2_4 : w8.cell? ⟨bd, 4, none⟩ = some (.slice none 0 0) := (H7.out.2.2.1).cell 4
  have q2_5 : w8.cell? ⟨bd, 5, none⟩ = some (.slice none 0 0) := (H7.out.2.2.1).cell 5
  go_wp2_with fail
  clear q1_0 q1_1 q1_2 q1_3 q1_4 q1_5 q2_0 q2_1 q2_2 q2_3 q2_4 q2_5
  refine (KG.out _).mono ?_
  rintro e w9 ⟨rfl, g7⟩
  have H8 : Hid (Blk w9 (w.heap.size) 25 [.int .i64 v.k, .int .i64 v.n, .int .i64 v.s, .string v.t, .slice v.na v.nl v.nc, .slice v.ka v.kl v.kc] ∧ Blk w9 (bc) 25 [.int .i64 kk, .int .i64 nn, .int .i64 ss, .string ⟨#[]⟩, .slice none 0 0, .slice none 0 0] ∧ Blk w9 (bd) 25 [.int .i64 kk, .int .i64 nn, .int .i64 ss, .string ⟨#[]⟩, .slice none 0 0, .slice none 0 0] ∧ Grow w w9) := ⟨(H7.out.1).grow g7, (H7.out.2.1).grow g7, (H7.out.2.2.1).grow g7, Grow.trans (H7.out.2.2.2) g7⟩
  clear H7 g7
  go_wp2_with fail
  refine (KN.out _).mono ?_
  rintro e w10 ⟨rfl, g8⟩
  have H9 : Hid (Blk w10 (w.heap.size) 25 [.int .i64 v.k, .int .i64 v.n, .int .i64 v.s, .string v.t, .slice v.na v.nl v.nc, .slice v.ka v.kl v.kc] ∧ Blk w10 (bc) 25 [.int .i64 kk, .int .i64 nn, .int .i64 ss, .string ⟨#[]⟩, .slice none 0 0, .slice none 0 0] ∧ Blk w10 (bd) 25 [.int .i64 kk, .int .i64 nn, .int .i64 ss, .string ⟨#[]⟩, .slice none 0 0, .slice none 0 0] ∧ Grow w w10) := ⟨(H8.out.1).grow g8, (H8.out.2.1).grow g8, (H8.out.2.2.1).grow g8, Grow.trans (H8.out.2.2.2) g8⟩
  clear H8 g8
  go_wp2
  go_ret
  exact ⟨rfl, H9.out.2.2.2⟩
set_option maxRecDepth 8000 in
set_option maxHeartbeats 1000000 in
theorem texts_n (v : Vv) (s : ByteArray) (hs : s.size ≤ 500) (X : ByteArray) (k2 n2 s2 kk nn ss ee : Int) (w : World)
    (KP : Hid (∀ W, Calls Tryz.prog 5 #[.agg #[.int .i64 v.k, .int .i64 v.n, .int .i64 v.s, .string v.t, .slice v.na v.nl v.nc, .slice v.ka v.kl v.kc]] W fun e w' => e = .returned (.bool true) ∧ Grow W w'))
    (KT : Hid (∀ W, Grow w W → Calls Tryz.prog 18 #[.agg #[.int .i64 v.k, .int .i64 v.n, .int .i64 v.s, .string v.t, .slice v.na v.nl v.nc, .slice v.ka v.kl v.kc]] W fun e w' => e = .returned (.tuple #[.string X, .int .i64 0]) ∧ Grow W w'))
    (KU : Hid (∀ W, Grow w W → Calls Tryz.prog 19 #[.agg #[.int .i64 v.k, .int .i64 v.n, .int .i64 v.s, .string v.t, .slice v.na v.nl v.nc, .slice v.ka v.kl v.kc]] W fun e w' => e = .returned (.tuple #[.string X, .int .i64 0]) ∧ Grow W w'))
    (KX : Hid (∀ W, Calls Tryz.prog 20 #[.string X] W fun e w' => e = .returned (.tuple #[.agg #[.int .i64 k2, .int .i64 n2, .int .i64 s2, .string ⟨#[]⟩, .slice none 0 0, .slice none 0 0], .int .i64 0]) ∧ Grow W w'))
    (KE : Hid (∀ W, Calls Tryz.prog 21 #[.agg #[.int .i64 v.k, .int .i64 v.n, .int .i64 v.s, .string v.t, .slice v.na v.nl v.nc, .slice v.ka v.kl v.kc], .agg #[.int .i64 k2, .int .i64 n2, .int .i64 s2, .string ⟨#[]⟩, .slice none 0 0, .slice none 0 0]] W fun e w' => e = .returned (.bool true) ∧ Grow W w'))
    (KD : Hid (∀ W, Calls Tryz.prog 20 #[.string s] W fun e w' => e = .returned (.tuple #[.agg #[.int .i64 kk, .int .i64 nn, .int .i64 ss, .string ⟨#[]⟩, .slice none 0 0, .slice none 0 0], .int .i64 ee]) ∧ Grow W w'))
    (KR : Hid (∀ W, Calls Tryz.prog 22 #[.string s] W fun e w' => e = .returned (.tuple #[.agg #[.int .i64 kk, .int .i64 nn, .int .i64 ss, .string ⟨#[]⟩, .slice none 0 0, .slice none 0 0], .int .i64 ee]) ∧ Grow W w'))
    (KG : Hid (∀ W, Calls Tryz.prog 16 #[.agg #[.int .i64 kk, .int .i64 nn, .int .i64 ss, .string ⟨#[]⟩, .slice none 0 0, .slice none 0 0], .int .i64 ee, .agg #[.int .i64 kk, .int .i64 nn, .int .i64 ss, .string ⟨#[]⟩, .slice none 0 0, .slice none 0 0], .int .i64 ee] W fun e w' => e = .returned (.bool true) ∧ Grow W w'))
    (KN : Hid (∀ W, Calls Tryz.prog 17 #[] W fun e w' => e = .returned (.bool true) ∧ Grow W w')) :
    Calls Tryz.prog 4 #[.agg #[.int .i64 v.k, .int .i64 v.n, .int .i64 v.s, .string v.t, .slice v.na v.nl v.nc, .slice v.ka v.kl v.kc], .string s] w fun e w' => e = .returned (.bool true) ∧ Grow w w' := by
  go_enter Tryz.func4, Tryz.ntmps4
  go_wp2_with fail
  obtain ⟨w1, HW1, H0⟩ : ∃ w1, (w.alloc (Obj.cells #[.int .i64 v.k, .int .i64 v.n, .int .i64 v.s, .string v.t, .slice v.na v.nl v.nc, .slice v.ka v.kl v.kc] 25)) = w1 ∧ Hid (Blk w1 (w.heap.size) 25 [.int .i64 v.k, .int .i64 v.n, .int .i64 v.s, .string v.t, .slice v.na v.nl v.nc, .slice v.ka v.kl v.kc] ∧ Grow w w1) := ⟨_, rfl, (blk_at rfl), ((Grow.refl _).alloc _)⟩
  rw [HW1]
  clear HW1
  refine (KP.out _).mono ?_
  rintro e w2 ⟨rfl, g0⟩
  have H1 : Hid (Blk w2 (w.heap.size) 25 [.int .i64 v.k, .int .i64 v.n, .int .i64 v.s, .string v.t, .slice v.na v.nl v.nc, .slice v.ka v.kl v.kc] ∧ Grow w w2) := ⟨(H0.out.1).grow g0, Grow.trans (H0.out.2) g0⟩
  clear H0 g0
  have q0_0 : w2.cell? ⟨w.heap.size, 0, none⟩ = some (.int .i64 v.k) := (H1.out.1).cell 0
  have q0_1 : w2.cell? ⟨w.heap.size, 1, none⟩ = some (.int .i64 v.n) := (H1.out.1).cell 1
  have q0_2 : w2.cell? ⟨w.heap.size, 2, none⟩ = some (.int .i64 v.s) := (H1.out.1).cell 2
  have q0_3 : w2.cell? ⟨w.heap.size, 3, none⟩ = some (.string v.t) := (H1.out.1).cell 3
  have q0_4 : w2.cell? ⟨w.heap.size, 4, none⟩ = some (.slice v.na v.nl v.nc) := (H1.out.1).cell 4
  have q0_5 : w2.cell? ⟨w.heap.size, 5, none⟩ = some (.slice v.ka v.kl v.kc) := (H1.out.1).cell 5
  go_wp2_with fail
  clear q0_0 q0_1 q0_2 q0_3 q0_4 q0_5
  refine (KT.out _ (H1.out.2)).mono ?_
  rintro e w3 ⟨rfl, g1⟩
  have H2 : Hid (Blk w3 (w.heap.size) 25 [.int .i64 v.k, .int .i64 v.n, .int .i64 v.s, .string v.t, .slice v.na v.nl v.nc, .slice v.ka v.kl v.kc] ∧ Grow w w3) := ⟨(H1.out.1).grow g1, Grow.trans (H1.out.2) g1⟩
  clear H1 g1
  have q0_0 : w3.cell? ⟨w.heap.size, 0, none⟩ = some (.int .i64 v.k) := (H2.out.1).cell 0
  have q0_1 : w3.cell? ⟨w.heap.size, 1, none⟩ = some (.int .i64 v.n) := (H2.out.1).cell 1
  have q0_2 : w3.cell? ⟨w.heap.size, 2, none⟩ = some (.int .i64 v.s) := (H2.out.1).cell 2
  have q0_3 : w3.cell? ⟨w.heap.size, 3, none⟩ = some (.string v.t) := (H2.out.1).cell 3
  have q0_4 : w3.cell? ⟨w.heap.size, 4, none⟩ = some (.slice v.na v.nl v.nc) := (H2.out.1).cell 4
  have q0_5 : w3.cell? ⟨w.heap.size, 5, none⟩ = some (.slice v.ka v.kl v.kc) := (H2.out.1).cell 5
  go_wp2_with fail
  clear q0_0 q0_1 q0_2 q0_3 q0_4 q0_5
  refine (KU.out _ (H2.out.2)).mono ?_
  rintro e w4 ⟨rfl, g2⟩
  have H3 : Hid (Blk w4 (w.heap.size) 25 [.int .i64 v.k, .int .i64 v.n, .int .i64 v.s, .string v.t, .slice v.na v.nl v.nc, .slice v.ka v.kl v.kc] ∧ Grow w w4) := ⟨(H2.out.1).grow g2, Grow.trans (H2.out.2) g2⟩
  clear H2 g2
  go_wp2_with fail
  refine (KX.out _).mono ?_
  rintro e w5 ⟨rfl, g3⟩
  have H4 : Hid (Blk w5 (w.heap.size) 25 [.int .i64 v.k, .int .i64 v.n, .int .i64 v.s, .string v.t, .slice v.na v.nl v.nc, .slice v.ka v.kl v.kc] ∧ Grow w w5) := ⟨(H3.out.1).grow g3, Grow.trans (H3.out.2) g3⟩
  clear H3 g3
  go_wp2_with (refine al_zero rfl 25 rfl [.int .i64 0, .int .i64 0, .int .i64 0, .string ⟨#[]⟩, .slice none 0 0, .slice none 0 0] zV ?_)
  intro bb vv4 ss4 zz4 xx4
  go_wp2_with (refine st_all rfl 25 (.tmp 9) (.tmp 46) rfl bb 25 [.int .i64 0, .int .i64 0, .int .i64 0, .string ⟨#[]⟩, .slice none 0 0, .slice none 0 0] [.int .i64 k2, .int .i64 n2, .int .i64 s2, .string ⟨#[]⟩, .slice none 0 0, .slice none 0 0] rfl rfl zz4 rfl sV (ones rfl) ?_)
  intro w6 yy4 mm4
  have lt_bb_0 : w.heap.size < bb := by have := (H4.out.1).lt; omega
  have H5 : Hid (Blk w6 (w.heap.size) 25 [.int .i64 v.k, .int .i64 v.n, .int .i64 v.s, .string v.t, .slice v.na v.nl v.nc, .slice v.ka v.kl v.kc] ∧ Blk w6 (bb) 25 [.int .i64 k2, .int .i64 n2, .int .i64 s2, .string ⟨#[]⟩, .slice none 0 0, .slice none 0 0] ∧ Grow w w6) := ⟨(((H4.out.1).kept xx4 (by simp)).kept mm4 (by intro e; injection e with e; have := (H4.out.1).lt; omega)), yy4, (by have x1 := H4.out.2; have x2 : Below w.heap.size w vv4 := Below.grown x1 xx4 x1.size (by intro e he; cases he); exact Below.grown x2 mm4 x2.size (by intro e he; injection he with he; have := x1.size; omega))⟩
  clear H4 ss4 zz4 xx4 yy4 mm4
  have q0_0 : w6.cell? ⟨w.heap.size, 0, none⟩ = some (.int .i64 v.k) := (H5.out.1).cell 0
  have q0_1 : w6.cell? ⟨w.heap.size, 1, none⟩ = some (.int .i64 v.n) := (H5.out.1).cell 1
  have q0_2 : w6.cell? ⟨w.heap.size, 2, none⟩ = some (.int .i64 v.s) := (H5.out.1).cell 2
  have q0_3 : w6.cell? ⟨w.heap.size, 3, none⟩ = some (.string v.t) := (H5.out.1).cell 3
  have q0_4 : w6.cell? ⟨w.heap.size, 4, none⟩ = some (.slice v.na v.nl v.nc) := (H5.out.1).cell 4
  have q0_5 : w6.cell? ⟨w.heap.size, 5, none⟩ = some (.slice v.ka v.kl v.kc) := (H5.out.1).cell 5
  have q1_0 : w6.cell? ⟨bb, 0, none⟩ = some (.int .i64 k2) := (H5.out.2.1).cell 0
  have q1_1 : w6.cell? ⟨bb, 1, none⟩ = some (.int .i64 n2) := (H5.out.2.1).cell 1
  have q1_2 : w6.cell? ⟨bb, 2, none⟩ = some (.int .i64 s2) := (H5.out.2.1).cell 2
  have q1_3 : w6.cell? ⟨bb, 3, none⟩ = some (.string ⟨#[]⟩) := (H5.out.2.1).cell 3
  have q1_4 : w6.cell? ⟨bb, 4, none⟩ = some (.slice none 0 0) := (H5.out.2.1).cell 4
  have q1_5 : w6.cell? ⟨bb, 5, none⟩ = some (.slice none 0 0) := (H5.out.2.1).cell 5
  go_wp2_with fail
  clear q0_0 q0_1 q0_2 q0_3 q0_4 q0_5 q1_0 q1_1 q1_2 q1_3 q1_4 q1_5
  refine (KE.out _).mono ?_
  rintro e w7 ⟨rfl, g5⟩
  have H6 : Hid (Blk w7 (w.heap.size) 25 [.int .i64 v.k, .int .i64 v.n, .int .i64 v.s, .string v.t, .slice v.na v.nl v.nc, .slice v.ka v.kl v.kc] ∧ Blk w7 (bb) 25 [.int .i64 k2, .int .i64 n2, .int .i64 s2, .string ⟨#[]⟩, .slice none 0 0, .slice none 0 0] ∧ Grow w w7) := ⟨(H5.out.1).grow g5, (H5.out.2.1).grow g5, Grow.trans (H5.out.2.2) g5⟩
  clear H5 g5
  clear KX KE
  clear KT KU KP
  go_wp2_with fail
  refine (KD.out _).mono ?_
  rintro e w8 ⟨rfl, g6⟩
  have H7 : Hid (Blk w8 (w.heap.size) 25 [.int .i64 v.k, .int .i64 v.n, .int .i64 v.s, .string v.t, .slice v.na v.nl v.nc, .slice v.ka v.kl v.kc] ∧ Blk w8 (bb) 25 [.int .i64 k2, .int .i64 n2, .int .i64 s2, .string ⟨#[]⟩, .slice none 0 0, .slice none 0 0] ∧ Grow w w8) := ⟨(H6.out.1).grow g6, (H6.out.2.1).grow g6, Grow.trans (H6.out.2.2) g6⟩
  clear H6 g6
  go_wp2_with (refine al_zero rfl 25 rfl [.int .i64 0, .int .i64 0, .int .i64 0, .string ⟨#[]⟩, .slice none 0 0, .slice none 0 0] zV ?_)
  intro bc vv7 ss7 zz7 xx7
  go_wp2_with (refine st_all rfl 25 (.tmp 11) (.tmp 59) rfl bc 25 [.int .i64 0, .int .i64 0, .int .i64 0, .string ⟨#[]⟩, .slice none 0 0, .slice none 0 0] [.int .i64 kk, .int .i64 nn, .int .i64 ss, .string ⟨#[]⟩, .slice none 0 0, .slice none 0 0] rfl rfl zz7 rfl sV (ones rfl) ?_)
  intro w9 yy7 mm7
  have lt_bc_0 : w.heap.size < bc := by have := (H7.out.1).lt; omega
  have lt_bc_1 : bb < bc := by have := (H7.out.2.1).lt; omega
  have H8 : Hid (Blk w9 (w.heap.size) 25 [.int .i64 v.k, .int .i64 v.n, .int .i64 v.s, .string v.t, .slice v.na v.nl v.nc, .slice v.ka v.kl v.kc] ∧ Blk w9 (bb) 25 [.int .i64 k2, .int .i64 n2, .int .i64 s2, .string ⟨#[]⟩, .slice none 0 0, .slice none 0 0] ∧ Blk w9 (bc) 25 [.int .i64 kk, .int .i64 nn, .int .i64 ss, .string ⟨#[]⟩, .slice none 0 0, .slice none 0 0] ∧ Grow w w9) := ⟨(((H7.out.1).kept xx7 (by simp)).kept mm7 (by intro e; injection e with e; have := (H7.out.1).lt; omega)), (((H7.out.2.1).kept xx7 (by simp)).kept mm7 (by intro e; injection e with e; have := (H7.out.2.1).lt; omega)), yy7, (by have x1 := H7.out.2.2; have x2 : Below w.heap.size w vv7 := Below.grown x1 xx7 x1.size (by intro e he; cases he); exact Below.grown x2 mm7 x2.size (by intro e he; injection he with he; have := x1.size; omega))⟩
  clear H7 ss7 zz7 xx7 yy7 mm7
  go_wp2_with fail
  refine (KR.out _).mono ?_
  rintro e w10 ⟨rfl, g8⟩
  have H9 : Hid (Blk w10 (w.heap.size) 25 [.int .i64 v.k, .int .i64 v.n, .int .i64 v.s, .string v.t, .slice v.na v.nl v.nc, .slice v.ka v.kl v.kc] ∧ Blk w10 (bb) 25 [.int .i64 k2, .int .i64 n2, .int .i64 s2, .string ⟨#[]⟩, .slice none 0 0, .slice none 0 0] ∧ Blk w10 (bc) 25 [.int .i64 kk, .int .i64 nn, .int .i64 ss, .string ⟨#[]⟩, .slice none 0 0, .slice none 0 0] ∧ Grow w w10) := ⟨(H8.out.1).grow g8, (H8.out.2.1).grow g8, (H8.out.2.2.1).grow g8, Grow.trans (H8.out.2.2.2) g8⟩
  clear H8 g8
  go_wp2_with (refine al_zero rfl 25 rfl [.int .i64 0, .int .i64 0, .int .i64 0, .string ⟨#[]⟩, .slice none 0 0, .slice none 0 0] zV ?_)
  intro bd vv9 ss9 zz9 xx9
  go_wp2_with (refine st_all rfl 25 (.tmp 13) (.tmp 64) rfl bd 25 [.int .i64 0, .int .i64 0, .int .i64 0, .string ⟨#[]⟩, .slice none 0 0, .slice none 0 0] [.int .i64 kk, .int .i64 nn, .int .i64 ss, .string ⟨#[]⟩, .slice none 0 0, .slice none 0 0] rfl rfl zz9 rfl sV (ones rfl) ?_)
  intro w11 yy9 mm9
  have lt_bd_0 : w.heap.size < bd := by have := (H9.out.1).lt; omega
  have lt_bd_1 : bb < bd := by have := (H9.out.2.1).lt; omega
  have lt_bd_2 : bc < bd := by have := (H9.out.2.2.1).lt; omega
  have H10 : Hid (Blk w11 (w.heap.size) 25 [.int .i64 v.k, .int .i64 v.n, .int .i64 v.s, .string v.t, .slice v.na v.nl v.nc, .slice v.ka v.kl v.kc] ∧ Blk w11 (bb) 25 [.int .i64 k2, .int .i64 n2, .int .i64 s2, .string ⟨#[]⟩, .slice none 0 0, .slice none 0 0] ∧ Blk w11 (bc) 25 [.int .i64 kk, .int .i64 nn, .int .i64 ss, .string ⟨#[]⟩, .slice none 0 0, .slice none 0 0] ∧ Blk w11 (bd) 25 [.int .i64 kk, .int .i64 nn, .int .i64 ss, .string ⟨#[]⟩, .slice none 0 0, .slice none 0 0] ∧ Grow w w11) := ⟨(((H9.out.1).kept xx9 (by simp)).kept mm9 (by intro e; injection e with e; have := (H9.out.1).lt; omega)), (((H9.out.2.1).kept xx9 (by simp)).kept mm9 (by intro e; injection e with e; have := (H9.out.2.1).lt; omega)), (((H9.out.2.2.1).kept xx9 (by simp)).kept mm9 (by intro e; injection e with e; have := (H9.out.2.2.1).lt; omega)), yy9, (by have x1 := H9.out.2.2.2; have x2 : Below w.heap.size w vv9 := Below.grown x1 xx9 x1.size (by intro e he; cases he); exact Below.grown x2 mm9 x2.size (by intro e he; injection he with he; have := x1.size; omega))⟩
  clear H9 ss9 zz9 xx9 yy9 mm9
  have q2_0 : w11.cell? ⟨bc, 0, none⟩ = some (.int .i64 kk) := (H10.out.2.2.1).cell 0
  have q2_1 : w11.cell? ⟨bc, 1, none⟩ = some (.int .i64 nn) := (H10.out.2.2.1).cell 1
  have q2_2 : w11.cell? ⟨bc, 2, none⟩ = some (.int .i64 ss) := (H10.out.2.2.1).cell 2
  have q2_3 : w11.cell? ⟨bc, 3, none⟩ = some (.string ⟨#[]⟩) := (H10.out.2.2.1).cell 3
  have q2_4 : w11.cell? ⟨bc, 4, none⟩ = some (.slice none 0 0) := (H10.out.2.2.1).cell 4
  have q2_5 : w11.cell? ⟨bc, 5, none⟩ = some (.slice none 0 0) := (H10.out.2.2.1).cell 5
  have q3_0 : w11.cell? ⟨bd, 0, none⟩ = some (.int .i64 kk) := (H10.out.2.2.2.1).cell 0
  have q3_1 : w11.cell? ⟨bd, 1, none⟩ = some (.int .i64 nn) := (H10.out.2.2.2.1).cell 1
  have q3_2 : w11.cell? ⟨bd, 2, none⟩ = some (.int .i64 ss) := (H10.out.2.2.2.1).cell 2
  have q3_3 : w11.cell? ⟨bd, 3, none⟩ = some (.string ⟨#[]⟩) := (H10.out.2.2.2.1).cell 3
  have q3_4 : w11.cell? ⟨bd, 4, none⟩ = some (.slice none 0 0) := (H10.out.2.2.2.1).cell 4
  have q3_5 : w11.cell? ⟨bd, 5, none⟩ = some (.slice none 0 0) := (H10.out.2.2.2.1).cell 5
  go_wp2_with fail
  clear q2_0 q2_1 q2_2 q2_3 q2_4 q2_5 q3_0 q3_1 q3_2 q3_3 q3_4 q3_5
  refine (KG.out _).mono ?_
  rintro e w12 ⟨rfl, g10⟩
  have H11 : Hid (Blk w12 (w.heap.size) 25 [.int .i64 v.k, .int .i64 v.n, .int .i64 v.s, .string v.t, .slice v.na v.nl v.nc, .slice v.ka v.kl v.kc] ∧ Blk w12 (bb) 25 [.int .i64 k2, .int .i64 n2, .int .i64 s2, .string ⟨#[]⟩, .slice none 0 0, .slice none 0 0] ∧ Blk w12 (bc) 25 [.int .i64 kk, .int .i64 nn, .int .i64 ss, .string ⟨#[]⟩, .slice none 0 0, .slice none 0 0] ∧ Blk w12 (bd) 25 [.int .i64 kk, .int .i64 nn, .int .i64 ss, .string ⟨#[]⟩, .slice none 0 0, .slice none 0 0] ∧ Grow w w12) := ⟨(H10.out.1).grow g10, (H10.out.2.1).grow g10, (H10.out.2.2.1).grow g10, (H10.out.2.2.2.1).grow g10, Grow.trans (H10.out.2.2.2.2) g10⟩
  clear H10 g10
  go_wp2_with fail
  refine (KN.out _).mono ?_
  rintro e w13 ⟨rfl, g11⟩
  have H12 : Hid (Blk w13 (w.heap.size) 25 [.int .i64 v.k, .int .i64 v.n, .int .i64 v.s, .string v.t, .slice v.na v.nl v.nc, .slice v.ka v.kl v.kc] ∧ Blk w13 (bb) 25 [.int .i64 k2, .int .i64 n2, .int .i64 s2, .string ⟨#[]⟩, .slice none 0 0, .slice none 0 0] ∧ Blk w13 (bc) 25 [.int .i64 kk, .int .i64 nn, .int .i64 ss, .string ⟨#[]⟩, .slice none 0 0, .slice none 0 0] ∧ Blk w13 (bd) 25 [.int .i64 kk, .int .i64 nn, .int .i64 ss, .string ⟨#[]⟩, .slice none 0 0, .slice none 0 0] ∧ Grow w w13) := ⟨(H11.out.1).grow g11, (H11.out.2.1).grow g11, (H11.out.2.2.1).grow g11, (H11.out.2.2.2.1).grow g11, Grow.trans (H11.out.2.2.2.2) g11⟩
  clear H11 g11
  go_wp2
  go_ret
  exact ⟨rfl, H12.out.2.2.2.2⟩
theorem txt_size (n : Int) (s : Nat) (h1 : -9223372036854775808 ≤ n) (h2 : n < 9223372036854775808) (hs : s ≤ 18) : (txt n s ⟨(Lib.decDigits n.natAbs).toArray⟩).size ≤ 1000 := by
  have hb : (if s = 0 then (⟨(Lib.decDigits n.natAbs).toArray⟩ : ByteArray) else dotN ⟨(Lib.decDigits n.natAbs).toArray⟩ s).size ≤ 100 := by
    split
    · have := (dig_size n.natAbs (by omega)).2
      omega
    · next h =>
      obtain ⟨a, b, e, _, _, e3, _, _, _, e7⟩ := dot_parts n.natAbs s (by omega) (by omega) ⟨(Lib.decDigits n.natAbs).toArray⟩ (by simp)
      rw [size_list, e, List.length_append, List.length_cons]
      omega
  unfold txt
  split
  · rw [append_size_le]
    have : (⟨#[45]⟩ : ByteArray).size = 1 := rfl
    omega
  · omega
theorem texts_walk (v : Vv) (f : v.fit) (s : ByteArray) (w : World) (ht : Ptab w) :
    Calls Tryz.prog 4 #[.agg #[.int .i64 v.k, .int .i64 v.n, .int .i64 v.s, .string v.t, .slice v.na v.nl v.nc, .slice v.ka v.kl v.kc], .string s] w fun e w' => e = .returned (.bool true) ∧ Grow w w' := by
  have P1 : ∀ W, _ := fun W => plain_any v W
  cases h1 : pln v with
  | false =>
    rw [h1] at P1
    exact texts_no1 v s w P1
  | true =>
    rw [h1] at P1
    by_cases hs : 500 < s.size
    · exact texts_no2 v s hs w P1
    · have hs : s.size ≤ 500 := by omega
      obtain ⟨R, b, hm, hR, CP⟩ := minus_any s
      obtain ⟨A, B, d, hc, CT⟩ := cut_any R (by omega)
      have hAB : A.size ≤ 1000 ∧ B.size ≤ 1000 ∧ (d = false → B = ⟨#[]⟩) := by
        cases hc with
        | none q1 q2 q3 => subst q2 q3; exact ⟨by omega, by decide, fun _ => rfl⟩
        | «at» q1 q2 =>
          have := congrArg List.length q1
          rw [List.length_append, List.length_cons, ← size_list, ← size_list, ← size_list] at this
          exact ⟨by omega, by omega, fun e => by cases e⟩
      have KD := fun W => dParse_any s R A B b d (by omega) hAB.1 hAB.2.1 hAB.2.2 CP CT W
      have KR := fun W => rParse_any s R A B b d hm (by omega) hc W
      have KG := fun W => got_any (Po.k (parseV b d R A B)) (Po.n (parseV b d R A B)) (Po.s (parseV b d R A B)) (Po.k (parseV b d R A B)) (Po.n (parseV b d R A B)) (Po.s (parseV b d R A B)) (Po.e (parseV b d R A B)) (Po.e (parseV b d R A B)) none none none none 0 0 0 0 (by simp [same3]) rfl W
      have KN := fun W => known_any W
      have T1 := fun W (g : Grow w W) => (texts_any v f W (ht.grow g)).1
      have T2 := fun W (g : Grow w W) => (texts_any v f W (ht.grow g)).2
      cases hn : v.num with
      | false =>
        have e2 : txE v = 11 := by simp [txE, hn]
        rw [e2] at T1 T2
        exact texts_t v s hs (txV v) _ _ _ _ w P1 T1 T2 KD KR KG KN
      | true =>
        have e2 : txE v = 0 := by simp [txE, hn]
        rw [e2] at T1 T2
        obtain ⟨x1, x2, x3, x4, x5, x6, x7⟩ := v.is hn
        have e1 : txV v = txt v.n v.s.toNat ⟨(Lib.decDigits v.n.natAbs).toArray⟩ := by simp [txV, hn]
        have hz : (txV v).size ≤ 1000 := by rw [e1]; exact txt_size v.n v.s.toNat f.1 f.2 x5
        obtain ⟨R2, b2, hm2, hR2, CP2⟩ := minus_any (txV v)
        obtain ⟨A2, B2, d2, hc2, CT2⟩ := cut_any R2 (by omega)
        have hAB2 : A2.size ≤ 1000 ∧ B2.size ≤ 1000 ∧ (d2 = false → B2 = ⟨#[]⟩) := by
          cases hc2 with
          | none q1 q2 q3 => subst q2 q3; exact ⟨by omega, by decide, fun _ => rfl⟩
          | «at» q1 q2 =>
            have := congrArg List.length q1
            rw [List.length_append, List.length_cons, ← size_list, ← size_list, ← size_list] at this
            exact ⟨by omega, by omega, fun e => by cases e⟩
        have KX := fun W => dParse_any (txV v) R2 A2 B2 b2 d2 (by omega) hAB2.1 hAB2.2.1 hAB2.2.2 CP2 CT2 W
        have pe : parseV b2 d2 R2 A2 B2 = some (.ok v.n v.s.toNat) := by
          refine parse_txt v.n v.s.toNat ⟨f.1, f.2, x5, x6⟩ ⟨(Lib.decDigits v.n.natAbs).toArray⟩ (by simp) R2 A2 B2 b2 d2 ?_ hc2
          rw [← e1]
          exact hm2
        rw [pe] at KX
        have KE : ∀ W, Calls Tryz.prog 21 #[.agg #[.int .i64 v.k, .int .i64 v.n, .int .i64 v.s, .string v.t, .slice v.na v.nl v.nc, .slice v.ka v.kl v.kc], .agg #[.int .i64 (Po.k (some (.ok v.n v.s.toNat))), .int .i64 (Po.n (some (.ok v.n v.s.toNat))), .int .i64 (Po.s (some (.ok v.n v.s.toNat))), .string ⟨#[]⟩, .slice none 0 0, .slice none 0 0]] W fun e w' => e = .returned (.bool true) ∧ Grow W w' := fun W => by
          have := equal_yes v.k v.n v.s v.na none v.ka none v.nc v.kc 0 0 W
          rw [x1, x2, x3]
          show Calls _ _ #[_, .agg #[.int .i64 (kd v.s.toNat), .int .i64 v.n, .int .i64 (v.s.toNat : Int), .string ⟨#[]⟩, .slice none 0 0, .slice none 0 0]] _ _
          rw [← x7, ← x4]
          exact this
        exact texts_n v s hs (txV v) _ _ _ _ _ _ _ w P1 T1 T2 KX KE KD KR KG KN
end Go.Proofs.YtbafmdjlnmeofaaGreatDoor
