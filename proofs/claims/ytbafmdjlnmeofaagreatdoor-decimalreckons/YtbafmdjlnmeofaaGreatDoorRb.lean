/-
  The document's own wide numbers: by, add.
-/
import Derived.Test.YtbafmdjlnmeofaaGreatDoorRl
namespace Go.Proofs.YtbafmdjlnmeofaaGreatDoor
open Go.RowKit
set_option linter.unusedVariables false
theorem mulW (x y h l : Nat) (hx : x < 18446744073709551616) (hy : y < 18446744073709551616) (hw : Wd h l (x * y)) (w : World) :
    Calls Tryz.prog 57 #[.int .u64 (x : Int), .int .u64 (y : Int)] w fun e w' => e = .returned (.tuple #[.int .u64 (h : Int), .int .u64 (l : Int)]) ∧ w' = w := by
  have k := mul60 x y hx hy w
  rw [show x * y / 18446744073709551616 = h by rw [← hw.eq]; have := hw.l1; omega, show x * y % 18446744073709551616 = l by rw [← hw.eq]; have := hw.l1; omega] at k
  exact k
set_option maxRecDepth 8000 in
theorem by_t (h l p ch cl hl h'  : Nat) (b : Bool) 
    (K1 : Hid (∀ W, Calls Tryz.prog 57 #[.int .u64 (l : Int), .int .u64 (p : Int)] W fun e w' => e = .returned (.tuple #[.int .u64 (ch : Int), .int .u64 (cl : Int)]) ∧ w' = W))
    (K2 : Hid (∀ W, Calls Tryz.prog 57 #[.int .u64 (h : Int), .int .u64 (p : Int)] W fun e w' => e = .returned (.tuple #[.int .u64 0, .int .u64 (hl : Int)]) ∧ w' = W))
    (K3 : Hid (∀ W, (callFunc 58 #[.int .u64 (hl : Int), .int .u64 (ch : Int), .int .u64 0]).run Tryz.prog W = .ok (.value (.tuple #[.int .u64 (h' : Int), .int .u64 0])) W)) (w : World) :
    Calls Tryz.prog 27 #[.agg #[.int .u64 (h : Int), .int .u64 (l : Int), .bool b], .int .u64 (p : Int)] w fun e w' => e = .returned (.tuple #[.agg #[.int .u64 (h' : Int), .int .u64 (cl : Int), .bool b], .bool true]) ∧ Grow w w' := by
  have k3 := K3.out
  clear K3
  go_enter Tryz.func27, Tryz.ntmps27
  go_wp2_with fail
  refine (K1.out _).mono ?_
  rintro e w' ⟨rfl, rfl⟩
  go_wp2_with fail
  refine (K2.out _).mono ?_
  rintro e w' ⟨rfl, rfl⟩
  go_wp2
  exact bodyPost_ret (res_two rfl _ (w.heap.size + 1) 57 _ _ rfl (blk_at (by simp)) Tryz.underlying57 rfl sR) rfl ⟨rfl, ((Grow.refl _).alloc _).alloc _⟩
set_option maxRecDepth 8000 in
theorem by_c (h l p ch cl hl h'  : Nat) (b : Bool) 
    (K1 : Hid (∀ W, Calls Tryz.prog 57 #[.int .u64 (l : Int), .int .u64 (p : Int)] W fun e w' => e = .returned (.tuple #[.int .u64 (ch : Int), .int .u64 (cl : Int)]) ∧ w' = W))
    (K2 : Hid (∀ W, Calls Tryz.prog 57 #[.int .u64 (h : Int), .int .u64 (p : Int)] W fun e w' => e = .returned (.tuple #[.int .u64 0, .int .u64 (hl : Int)]) ∧ w' = W))
    (K3 : Hid (∀ W, (callFunc 58 #[.int .u64 (hl : Int), .int .u64 (ch : Int), .int .u64 0]).run Tryz.prog W = .ok (.value (.tuple #[.int .u64 (h' : Int), .int .u64 1])) W)) (w : World) :
    Calls Tryz.prog 27 #[.agg #[.int .u64 (h : Int), .int .u64 (l : Int), .bool b], .int .u64 (p : Int)] w fun e w' => e = .returned (.tuple #[.agg #[.int .u64 (h' : Int), .int .u64 (cl : Int), .bool b], .bool false]) ∧ Grow w w' := by
  have k3 := K3.out
  clear K3
  go_enter Tryz.func27, Tryz.ntmps27
  go_wp2_with fail
  refine (K1.out _).mono ?_
  rintro e w' ⟨rfl, rfl⟩
  go_wp2_with fail
  refine (K2.out _).mono ?_
  rintro e w' ⟨rfl, rfl⟩
  go_wp2
  exact bodyPost_ret (res_two rfl _ (w.heap.size + 1) 57 _ _ rfl (blk_at (by simp)) Tryz.underlying57 rfl sR) rfl ⟨rfl, ((Grow.refl _).alloc _).alloc _⟩
set_option maxRecDepth 8000 in
theorem by_h (h l p ch cl hl h' hh c : Nat) (b : Bool) (hne : ¬ hh = 0)
    (K1 : Hid (∀ W, Calls Tryz.prog 57 #[.int .u64 (l : Int), .int .u64 (p : Int)] W fun e w' => e = .returned (.tuple #[.int .u64 (ch : Int), .int .u64 (cl : Int)]) ∧ w' = W))
    (K2 : Hid (∀ W, Calls Tryz.prog 57 #[.int .u64 (h : Int), .int .u64 (p : Int)] W fun e w' => e = .returned (.tuple #[.int .u64 (hh : Int), .int .u64 (hl : Int)]) ∧ w' = W))
    (K3 : Hid (∀ W, (callFunc 58 #[.int .u64 (hl : Int), .int .u64 (ch : Int), .int .u64 0]).run Tryz.prog W = .ok (.value (.tuple #[.int .u64 (h' : Int), .int .u64 (c : Int)])) W)) (w : World) :
    Calls Tryz.prog 27 #[.agg #[.int .u64 (h : Int), .int .u64 (l : Int), .bool b], .int .u64 (p : Int)] w fun e w' => e = .returned (.tuple #[.agg #[.int .u64 (h' : Int), .int .u64 (cl : Int), .bool b], .bool false]) ∧ Grow w w' := by
  have k3 := K3.out
  clear K3
  go_enter Tryz.func27, Tryz.ntmps27
  go_wp2_with fail
  refine (K1.out _).mono ?_
  rintro e w' ⟨rfl, rfl⟩
  go_wp2_with fail
  refine (K2.out _).mono ?_
  rintro e w' ⟨rfl, rfl⟩
  go_wp2
  exact bodyPost_ret (res_two rfl _ (w.heap.size + 1) 57 _ _ rfl (blk_at (by simp)) Tryz.underlying57 rfl sR) rfl ⟨rfl, ((Grow.refl _).alloc _).alloc _⟩
theorem byR (h l m p h' l' : Nat) (b ok : Bool) (a : Wd h l m) (hp : p < 18446744073709551616) (s : Wd h' l' ((m * p) % 340282366920938463463374607431768211456)) (hk : decide (m * p < 340282366920938463463374607431768211456) = ok) (w : World) :
    Calls Tryz.prog 27 #[.agg #[.int .u64 (h : Int), .int .u64 (l : Int), .bool b], .int .u64 (p : Int)] w fun e w' => e = .returned (.tuple #[.agg #[.int .u64 (h' : Int), .int .u64 (l' : Int), .bool b], .bool ok]) ∧ Grow w w' := by
  have m1 : l * p < 340282366920938463463374607431768211456 := Nat.lt_of_lt_of_le (Nat.mul_lt_mul'' a.l1 hp) (by decide)
  have m2 : h * p < 340282366920938463463374607431768211456 := Nat.lt_of_lt_of_le (Nat.mul_lt_mul'' a.h1 hp) (by decide)
  obtain ⟨ch, cl, W1⟩ := wd_of (l * p) m1
  obtain ⟨hh, hl, W2⟩ := wd_of (h * p) m2
  have e0 : m * p = (h * p) * 18446744073709551616 + l * p := by rw [← a.eq, Nat.add_mul, Nat.mul_right_comm]
  have K1 : ∀ W, _ := fun W => mulW l p ch cl a.l1 hp W1 W
  have K2 : ∀ W, _ := fun W => mulW h p hh hl a.h1 hp W2 W
  have e1 := W1.eq
  have e2 := W2.eq
  have e3 := s.eq
  generalize h * p = X at *
  generalize l * p = Y at *
  generalize m * p = T at *
  have x1 := W1.l1
  have x2 := W1.h1
  have x3 := W2.l1
  have x4 := W2.h1
  have x5 := s.l1
  have x6 := s.h1
  obtain rfl : l' = cl := by omega
  have K3 : ∀ W, (callFunc 58 #[.int .u64 (hl : Int), .int .u64 (ch : Int), .int .u64 0]).run Tryz.prog W = .ok (.value (.tuple #[.int .u64 (h' : Int), .int .u64 (((hl + ch) / 18446744073709551616 : Nat) : Int)])) W := fun W => by
    have := add64 hl ch 0 x3 x2 (by omega) W
    rw [Nat.add_zero, show (hl + ch) % 18446744073709551616 = h' by omega] at this
    exact this
  by_cases z : hh = 0
  · subst z
    by_cases c0 : hl + ch < 18446744073709551616
    · rw [show (hl + ch) / 18446744073709551616 = 0 by omega] at K3
      obtain rfl : ok = true := by rw [← hk]; simp; omega
      exact by_t h l p ch l' hl h' b K1 K2 K3 w
    · rw [show (hl + ch) / 18446744073709551616 = 1 by omega] at K3
      obtain rfl : ok = false := by rw [← hk]; simp; omega
      exact by_c h l p ch l' hl h' b K1 K2 K3 w
  · obtain rfl : ok = false := by rw [← hk]; simp; omega
    exact by_h h l p ch l' hl h' hh _ b z K1 K2 K3 w
set_option maxRecDepth 8000 in
set_option maxHeartbeats 1000000 in
theorem add_st (h1 l1 h2 l2 h l c : Nat) (b1 b2 : Bool) 
    (K1 : Hid (∀ W, (callFunc 58 #[.int .u64 (l1 : Int), .int .u64 (l2 : Int), .int .u64 0]).run Tryz.prog W = .ok (.value (.tuple #[.int .u64 (l : Int), .int .u64 (c : Int)])) W)) (K2 : Hid (∀ W, (callFunc 58 #[.int .u64 (h1 : Int), .int .u64 (h2 : Int), .int .u64 (c : Int)]).run Tryz.prog W = .ok (.value (.tuple #[.int .u64 (h : Int), .int .u64 0])) W)) (w : World) :
    Calls Tryz.prog 29 #[.agg #[.int .u64 (h1 : Int), .int .u64 (l1 : Int), .bool b1], .agg #[.int .u64 (h2 : Int), .int .u64 (l2 : Int), .bool b1]] w fun e w' => e = .returned (.tuple #[.agg #[.int .u64 (h : Int), .int .u64 (l : Int), .bool b1], .bool true]) ∧ Grow w w' := by
  have k1 := K1.out
  have k2 := K2.out
  clear K1 K2
  go_enter Tryz.func29, Tryz.ntmps29
  go_wp2
  exact bodyPost_ret (res_two rfl _ (w.heap.size + 2) 57 _ _ rfl (blk_at (by simp)) Tryz.underlying57 rfl sR) rfl ⟨rfl, (((Grow.refl _).alloc _).alloc _).alloc _⟩
set_option maxRecDepth 8000 in
set_option maxHeartbeats 1000000 in
theorem add_sf (h1 l1 h2 l2 h l c : Nat) (b1 b2 : Bool) 
    (K1 : Hid (∀ W, (callFunc 58 #[.int .u64 (l1 : Int), .int .u64 (l2 : Int), .int .u64 0]).run Tryz.prog W = .ok (.value (.tuple #[.int .u64 (l : Int), .int .u64 (c : Int)])) W)) (K2 : Hid (∀ W, (callFunc 58 #[.int .u64 (h1 : Int), .int .u64 (h2 : Int), .int .u64 (c : Int)]).run Tryz.prog W = .ok (.value (.tuple #[.int .u64 (h : Int), .int .u64 1])) W)) (w : World) :
    Calls Tryz.prog 29 #[.agg #[.int .u64 (h1 : Int), .int .u64 (l1 : Int), .bool b1], .agg #[.int .u64 (h2 : Int), .int .u64 (l2 : Int), .bool b1]] w fun e w' => e = .returned (.tuple #[.agg #[.int .u64 (h : Int), .int .u64 (l : Int), .bool b1], .bool false]) ∧ Grow w w' := by
  have k1 := K1.out
  have k2 := K2.out
  clear K1 K2
  go_enter Tryz.func29, Tryz.ntmps29
  go_wp2
  exact bodyPost_ret (res_two rfl _ (w.heap.size + 2) 57 _ _ rfl (blk_at (by simp)) Tryz.underlying57 rfl sR) rfl ⟨rfl, (((Grow.refl _).alloc _).alloc _).alloc _⟩
set_option maxRecDepth 8000 in
set_option maxHeartbeats 1000000 in
theorem add_ga (h1 l1 h2 l2 h l c : Nat) (b1 b2 : Bool) (hb : ¬ b1 = b2) (h0 : h2 < h1)
    (K1 : Hid (∀ W, (callFunc 59 #[.int .u64 (l1 : Int), .int .u64 (l2 : Int), .int .u64 0]).run Tryz.prog W = .ok (.value (.tuple #[.int .u64 (l : Int), .int .u64 (c : Int)])) W)) (K2 : Hid (∀ W, (callFunc 59 #[.int .u64 (h1 : Int), .int .u64 (h2 : Int), .int .u64 (c : Int)]).run Tryz.prog W = .ok (.value (.tuple #[.int .u64 (h : Int), .int .u64 0])) W)) (w : World) :
    Calls Tryz.prog 29 #[.agg #[.int .u64 (h1 : Int), .int .u64 (l1 : Int), .bool b1], .agg #[.int .u64 (h2 : Int), .int .u64 (l2 : Int), .bool b2]] w fun e w' => e = .returned (.tuple #[.agg #[.int .u64 (h : Int), .int .u64 (l : Int), .bool b1], .bool true]) ∧ Grow w w' := by
  have k1 := K1.out
  have k2 := K2.out
  clear K1 K2
  have hbf : (b1 == b2) = false := by simpa using hb
  go_enter Tryz.func29, Tryz.ntmps29
  go_wp2
  exact bodyPost_ret (res_two rfl _ (w.heap.size + 2) 57 _ _ rfl (blk_at (by simp)) Tryz.underlying57 rfl sR) rfl ⟨rfl, (((Grow.refl _).alloc _).alloc _).alloc _⟩
set_option maxRecDepth 8000 in
set_option maxHeartbeats 1000000 in
theorem add_gb (h1 l1 h2 l2 h l c : Nat) (b1 b2 : Bool) (hb : ¬ b1 = b2) (h0 : h1 = h2) (h3 : l2 ≤ l1)
    (K1 : Hid (∀ W, (callFunc 59 #[.int .u64 (l1 : Int), .int .u64 (l2 : Int), .int .u64 0]).run Tryz.prog W = .ok (.value (.tuple #[.int .u64 (l : Int), .int .u64 (c : Int)])) W)) (K2 : Hid (∀ W, (callFunc 59 #[.int .u64 (h1 : Int), .int .u64 (h2 : Int), .int .u64 (c : Int)]).run Tryz.prog W = .ok (.value (.tuple #[.int .u64 (h : Int), .int .u64 0])) W)) (w : World) :
    Calls Tryz.prog 29 #[.agg #[.int .u64 (h1 : Int), .int .u64 (l1 : Int), .bool b1], .agg #[.int .u64 (h2 : Int), .int .u64 (l2 : Int), .bool b2]] w fun e w' => e = .returned (.tuple #[.agg #[.int .u64 (h : Int), .int .u64 (l : Int), .bool b1], .bool true]) ∧ Grow w w' := by
  subst h0
  have k1 := K1.out
  have k2 := K2.out
  clear K1 K2
  have hbf : (b1 == b2) = false := by simpa using hb
  go_enter Tryz.func29, Tryz.ntmps29
  go_wp2
  exact bodyPost_ret (res_two rfl _ (w.heap.size + 2) 57 _ _ rfl (blk_at (by simp)) Tryz.underlying57 rfl sR) rfl ⟨rfl, (((Grow.refl _).alloc _).alloc _).alloc _⟩
set_option maxRecDepth 8000 in
set_option maxHeartbeats 1000000 in
theorem add_la (h1 l1 h2 l2 h l c : Nat) (b1 b2 : Bool) (hb : ¬ b1 = b2) (h0 : h1 < h2)
    (K1 : Hid (∀ W, (callFunc 59 #[.int .u64 (l2 : Int), .int .u64 (l1 : Int), .int .u64 0]).run Tryz.prog W = .ok (.value (.tuple #[.int .u64 (l : Int), .int .u64 (c : Int)])) W)) (K2 : Hid (∀ W, (callFunc 59 #[.int .u64 (h2 : Int), .int .u64 (h1 : Int), .int .u64 (c : Int)]).run Tryz.prog W = .ok (.value (.tuple #[.int .u64 (h : Int), .int .u64 0])) W)) (w : World) :
    Calls Tryz.prog 29 #[.agg #[.int .u64 (h1 : Int), .int .u64 (l1 : Int), .bool b1], .agg #[.int .u64 (h2 : Int), .int .u64 (l2 : Int), .bool b2]] w fun e w' => e = .returned (.tuple #[.agg #[.int .u64 (h : Int), .int .u64 (l : Int), .bool b2], .bool true]) ∧ Grow w w' := by
  have hbf : (b1 == b2) = false := by simpa using hb
  go_enter Tryz.func29, Tryz.ntmps29
  go_wp2_with (refine al_zero rfl 57 rfl [.int .u64 0, .int .u64 0, .bool false] zR ?_)
  intro bz w1 sz B2 g2
  have H0 : Hid (Blk w1 (w.heap.size) 57 [.int .u64 (h1 : Int), .int .u64 (l1 : Int), .bool b1] ∧ Blk w1 (w.heap.size + 1) 57 [.int .u64 (h2 : Int), .int .u64 (l2 : Int), .bool b2] ∧ Blk w1 (bz) 57 [.int .u64 0, .int .u64 0, .bool false] ∧ Grow w w1) := ⟨(Blk.alloc (blk_at rfl) _).kept g2 (by simp), (blk_at (by simp)).kept g2 (by simp), B2, Below.grown (((Grow.refl _).alloc _).alloc _) g2 (by simp; omega) (by intro e he; cases he)⟩
  clear B2 g2
  have q0_0 : w1.cell? ⟨w.heap.size, 0, none⟩ = some (.int .u64 (h1 : Int)) := (H0.out.1).cell 0
  have q0_1 : w1.cell? ⟨w.heap.size, 1, none⟩ = some (.int .u64 (l1 : Int)) := (H0.out.1).cell 1
  have q0_2 : w1.cell? ⟨w.heap.size, 2, none⟩ = some (.bool b1) := (H0.out.1).cell 2
  have q1_0 : w1.cell? ⟨w.heap.size + 1, 0, none⟩ = some (.int .u64 (h2 : Int)) := (H0.out.2.1).cell 0
  have q1_1 : w1.cell? ⟨w.heap.size + 1, 1, none⟩ = some (.int .u64 (l2 : Int)) := (H0.out.2.1).cell 1
  have q1_2 : w1.cell? ⟨w.heap.size + 1, 2, none⟩ = some (.bool b2) := (H0.out.2.1).cell 2
  go_wp2_with ((with_reducible refine st_pre (.tmp 2) (.tmp 61) ?_); refine st_all rfl 57 (.tmp 2) (.tmp 61) rfl (w.heap.size) 57 [.int .u64 (h1 : Int), .int .u64 (l1 : Int), .bool b1] [.int .u64 (h2 : Int), .int .u64 (l2 : Int), .bool b2] rfl rfl H0.out.1 rfl sR (ones rfl) ?_)
  intro w2 yy0 mm0
  have H1 : Hid (Blk w2 (w.heap.size) 57 [.int .u64 (h2 : Int), .int .u64 (l2 : Int), .bool b2] ∧ Blk w2 (w.heap.size + 1) 57 [.int .u64 (h2 : Int), .int .u64 (l2 : Int), .bool b2] ∧ Blk w2 (bz) 57 [.int .u64 0, .int .u64 0, .bool false] ∧ Grow w w2) := ⟨yy0, ((H0.out.2.1).kept mm0 (by intro e; injection e with e; omega)), ((H0.out.2.2.1).kept mm0 (by intro e; injection e with e; omega)), (Below.grown (H0.out.2.2.2) mm0 (Below.size (H0.out.2.2.2)) (by intro e he; injection he with he; omega))⟩
  clear H0 yy0 mm0
  clear q0_0 q0_1 q0_2 q1_0 q1_1 q1_2
  have q0_0 : w2.cell? ⟨w.heap.size, 0, none⟩ = some (.int .u64 (h2 : Int)) := (H1.out.1).cell 0
  have q0_1 : w2.cell? ⟨w.heap.size, 1, none⟩ = some (.int .u64 (l2 : Int)) := (H1.out.1).cell 1
  have q0_2 : w2.cell? ⟨w.heap.size, 2, none⟩ = some (.bool b2) := (H1.out.1).cell 2
  have q1_0 : w2.cell? ⟨w.heap.size + 1, 0, none⟩ = some (.int .u64 (h2 : Int)) := (H1.out.2.1).cell 0
  have q1_1 : w2.cell? ⟨w.heap.size + 1, 1, none⟩ = some (.int .u64 (l2 : Int)) := (H1.out.2.1).cell 1
  have q1_2 : w2.cell? ⟨w.heap.size + 1, 2, none⟩ = some (.bool b2) := (H1.out.2.1).cell 2
  go_wp2_with ((with_reducible refine st_pre (.tmp 3) (.tmp 62) ?_); refine st_all rfl 57 (.tmp 3) (.tmp 62) rfl (w.heap.size + 1) 57 [.int .u64 (h2 : Int), .int .u64 (l2 : Int), .bool b2] [.int .u64 (h1 : Int), .int .u64 (l1 : Int), .bool b1] rfl rfl H1.out.2.1 rfl sR (ones rfl) ?_)
  intro w3 yy1 mm1
  have H2 : Hid (Blk w3 (w.heap.size) 57 [.int .u64 (h2 : Int), .int .u64 (l2 : Int), .bool b2] ∧ Blk w3 (w.heap.size + 1) 57 [.int .u64 (h1 : Int), .int .u64 (l1 : Int), .bool b1] ∧ Blk w3 (bz) 57 [.int .u64 0, .int .u64 0, .bool false] ∧ Grow w w3) := ⟨((H1.out.1).kept mm1 (by intro e; injection e with e; omega)), yy1, ((H1.out.2.2.1).kept mm1 (by intro e; injection e with e; omega)), (Below.grown (H1.out.2.2.2) mm1 (Below.size (H1.out.2.2.2)) (by intro e he; injection he with he; omega))⟩
  clear H1 yy1 mm1
  clear q0_0 q0_1 q0_2 q1_0 q1_1 q1_2
  have k1 := K1.out
  have k2 := K2.out
  clear K1 K2
  have q0_0 : w3.cell? ⟨w.heap.size, 0, none⟩ = some (.int .u64 (h2 : Int)) := (H2.out.1).cell 0
  have q0_1 : w3.cell? ⟨w.heap.size, 1, none⟩ = some (.int .u64 (l2 : Int)) := (H2.out.1).cell 1
  have q0_2 : w3.cell? ⟨w.heap.size, 2, none⟩ = some (.bool b2) := (H2.out.1).cell 2
  have q1_0 : w3.cell? ⟨w.heap.size + 1, 0, none⟩ = some (.int .u64 (h1 : Int)) := (H2.out.2.1).cell 0
  have q1_1 : w3.cell? ⟨w.heap.size + 1, 1, none⟩ = some (.int .u64 (l1 : Int)) := (H2.out.2.1).cell 1
  have q1_2 : w3.cell? ⟨w.heap.size + 1, 2, none⟩ = some (.bool b1) := (H2.out.2.1).cell 2
  go_wp2_with ((with_reducible refine st_pre (.tmp 4) (.tmp 84) ?_); refine st_all rfl 57 (.tmp 4) (.tmp 84) rfl (bz) 57 [.int .u64 0, .int .u64 0, .bool false] [.int .u64 (h : Int), .int .u64 (l : Int), .bool b2] rfl rfl H2.out.2.2.1 rfl sR (ones rfl) ?_)
  intro w4 yy2 mm2
  have H3 : Hid (Blk w4 (w.heap.size) 57 [.int .u64 (h2 : Int), .int .u64 (l2 : Int), .bool b2] ∧ Blk w4 (w.heap.size + 1) 57 [.int .u64 (h1 : Int), .int .u64 (l1 : Int), .bool b1] ∧ Blk w4 (bz) 57 [.int .u64 (h : Int), .int .u64 (l : Int), .bool b2] ∧ Grow w w4) := ⟨((H2.out.1).kept mm2 (by intro e; injection e with e; omega)), ((H2.out.2.1).kept mm2 (by intro e; injection e with e; omega)), yy2, (Below.grown (H2.out.2.2.2) mm2 (Below.size (H2.out.2.2.2)) (by intro e he; injection he with he; omega))⟩
  clear H2 yy2 mm2
  clear q0_0 q0_1 q0_2 q1_0 q1_1 q1_2
  go_wp2
  exact bodyPost_ret (res_two rfl _ (bz) 57 _ _ rfl (H3.out.2.2.1) Tryz.underlying57 rfl sR) rfl ⟨rfl, H3.out.2.2.2⟩
set_option maxRecDepth 8000 in
set_option maxHeartbeats 1000000 in
theorem add_lb (h1 l1 h2 l2 h l c : Nat) (b1 b2 : Bool) (hb : ¬ b1 = b2) (h0 : h1 = h2) (h3 : l1 < l2)
    (K1 : Hid (∀ W, (callFunc 59 #[.int .u64 (l2 : Int), .int .u64 (l1 : Int), .int .u64 0]).run Tryz.prog W = .ok (.value (.tuple #[.int .u64 (l : Int), .int .u64 (c : Int)])) W)) (K2 : Hid (∀ W, (callFunc 59 #[.int .u64 (h2 : Int), .int .u64 (h1 : Int), .int .u64 (c : Int)]).run Tryz.prog W = .ok (.value (.tuple #[.int .u64 (h : Int), .int .u64 0])) W)) (w : World) :
    Calls Tryz.prog 29 #[.agg #[.int .u64 (h1 : Int), .int .u64 (l1 : Int), .bool b1], .agg #[.int .u64 (h2 : Int), .int .u64 (l2 : Int), .bool b2]] w fun e w' => e = .returned (.tuple #[.agg #[.int .u64 (h : Int), .int .u64 (l : Int), .bool b2], .bool true]) ∧ Grow w w' := by
  subst h0
  have hbf : (b1 == b2) = false := by simpa using hb
  go_enter Tryz.func29, Tryz.ntmps29
  go_wp2_with (refine al_zero rfl 57 rfl [.int .u64 0, .int .u64 0, .bool false] zR ?_)
  intro bz w1 sz B2 g2
  have H0 : Hid (Blk w1 (w.heap.size) 57 [.int .u64 (h1 : Int), .int .u64 (l1 : Int), .bool b1] ∧ Blk w1 (w.heap.size + 1) 57 [.int .u64 (h1 : Int), .int .u64 (l2 : Int), .bool b2] ∧ Blk w1 (bz) 57 [.int .u64 0, .int .u64 0, .bool false] ∧ Grow w w1) := ⟨(Blk.alloc (blk_at rfl) _).kept g2 (by simp), (blk_at (by simp)).kept g2 (by simp), B2, Below.grown (((Grow.refl _).alloc _).alloc _) g2 (by simp; omega) (by intro e he; cases he)⟩
  clear B2 g2
  have q0_0 : w1.cell? ⟨w.heap.size, 0, none⟩ = some (.int .u64 (h1 : Int)) := (H0.out.1).cell 0
  have q0_1 : w1.cell? ⟨w.heap.size, 1, none⟩ = some (.int .u64 (l1 : Int)) := (H0.out.1).cell 1
  have q0_2 : w1.cell? ⟨w.heap.size, 2, none⟩ = some (.bool b1) := (H0.out.1).cell 2
  have q1_0 : w1.cell? ⟨w.heap.size + 1, 0, none⟩ = some (.int .u64 (h1 : Int)) := (H0.out.2.1).cell 0
  have q1_1 : w1.cell? ⟨w.heap.size + 1, 1, none⟩ = some (.int .u64 (l2 : Int)) := (H0.out.2.1).cell 1
  have q1_2 : w1.cell? ⟨w.heap.size + 1, 2, none⟩ = some (.bool b2) := (H0.out.2.1).cell 2
  go_wp2_with ((with_reducible refine st_pre (.tmp 2) (.tmp 61) ?_); refine st_all rfl 57 (.tmp 2) (.tmp 61) rfl (w.heap.size) 57 [.int .u64 (h1 : Int), .int .u64 (l1 : Int), .bool b1] [.int .u64 (h1 : Int), .int .u64 (l2 : Int), .bool b2] rfl rfl H0.out.1 rfl sR (ones rfl) ?_)
  intro w2 yy0 mm0
  have H1 : Hid (Blk w2 (w.heap.size) 57 [.int .u64 (h1 : Int), .int .u64 (l2 : Int), .bool b2] ∧ Blk w2 (w.heap.size + 1) 57 [.int .u64 (h1 : Int), .int .u64 (l2 : Int), .bool b2] ∧ Blk w2 (bz) 57 [.int .u64 0, .int .u64 0, .bool false] ∧ Grow w w2) := ⟨yy0, ((H0.out.2.1).kept mm0 (by intro e; injection e with e; omega)), ((H0.out.2.2.1).kept mm0 (by intro e; injection e with e; omega)), (Below.grown (H0.out.2.2.2) mm0 (Below.size (H0.out.2.2.2)) (by intro e he; injection he with he; omega))⟩
  clear H0 yy0 mm0
  clear q0_0 q0_1 q0_2 q1_0 q1_1 q1_2
  have q0_0 : w2.cell? ⟨w.heap.size, 0, none⟩ = some (.int .u64 (h1 : Int)) := (H1.out.1).cell 0
  have q0_1 : w2.cell? ⟨w.heap.size, 1, none⟩ = some (.int .u64 (l2 : Int)) := (H1.out.1).cell 1
  have q0_2 : w2.cell? ⟨w.heap.size, 2, none⟩ = some (.bool b2) := (H1.out.1).cell 2
  have q1_0 : w2.cell? ⟨w.heap.size + 1, 0, none⟩ = some (.int .u64 (h1 : Int)) := (H1.out.2.1).cell 0
  have q1_1 : w2.cell? ⟨w.heap.size + 1, 1, none⟩ = some (.int .u64 (l2 : Int)) := (H1.out.2.1).cell 1
  have q1_2 : w2.cell? ⟨w.heap.size + 1, 2, none⟩ = some (.bool b2) := (H1.out.2.1).cell 2
  go_wp2_with ((with_reducible refine st_pre (.tmp 3) (.tmp 62) ?_); refine st_all rfl 57 (.tmp 3) (.tmp 62) rfl (w.heap.size + 1) 57 [.int .u64 (h1 : Int), .int .u64 (l2 : Int), .bool b2] [.int .u64 (h1 : Int), .int .u64 (l1 : Int), .bool b1] rfl rfl H1.out.2.1 rfl sR (ones rfl) ?_)
  intro w3 yy1 mm1
  have H2 : Hid (Blk w3 (w.heap.size) 57 [.int .u64 (h1 : Int), .int .u64 (l2 : Int), .bool b2] ∧ Blk w3 (w.heap.size + 1) 57 [.int .u64 (h1 : Int), .int .u64 (l1 : Int), .bool b1] ∧ Blk w3 (bz) 57 [.int .u64 0, .int .u64 0, .bool false] ∧ Grow w w3) := ⟨((H1.out.1).kept mm1 (by intro e; injection e with e; omega)), yy1, ((H1.out.2.2.1).kept mm1 (by intro e; injection e with e; omega)), (Below.grown (H1.out.2.2.2) mm1 (Below.size (H1.out.2.2.2)) (by intro e he; injection he with he; omega))⟩
  clear H1 yy1 mm1
  clear q0_0 q0_1 q0_2 q1_0 q1_1 q1_2
  have k1 := K1.out
  have k2 := K2.out
  clear K1 K2
  have q0_0 : w3.cell? ⟨w.heap.size, 0, none⟩ = some (.int .u64 (h1 : Int)) := (H2.out.1).cell 0
  have q0_1 : w3.cell? ⟨w.heap.size, 1, none⟩ = some (.int .u64 (l2 : Int)) := (H2.out.1).cell 1
  have q0_2 : w3.cell? ⟨w.heap.size, 2, none⟩ = some (.bool b2) := (H2.out.1).cell 2
  have q1_0 : w3.cell? ⟨w.heap.size + 1, 0, none⟩ = some (.int .u64 (h1 : Int)) := (H2.out.2.1).cell 0
  have q1_1 : w3.cell? ⟨w.heap.size + 1, 1, none⟩ = some (.int .u64 (l1 : Int)) := (H2.out.2.1).cell 1
  have q1_2 : w3.cell? ⟨w.heap.size + 1, 2, none⟩ = some (.bool b1) := (H2.out.2.1).cell 2
  go_wp2_with ((with_reducible refine st_pre (.tmp 4) (.tmp 84) ?_); refine st_all rfl 57 (.tmp 4) (.tmp 84) rfl (bz) 57 [.int .u64 0, .int .u64 0, .bool false] [.int .u64 (h : Int), .int .u64 (l : Int), .bool b2] rfl rfl H2.out.2.2.1 rfl sR (ones rfl) ?_)
  intro w4 yy2 mm2
  have H3 : Hid (Blk w4 (w.heap.size) 57 [.int .u64 (h1 : Int), .int .u64 (l2 : Int), .bool b2] ∧ Blk w4 (w.heap.size + 1) 57 [.int .u64 (h1 : Int), .int .u64 (l1 : Int), .bool b1] ∧ Blk w4 (bz) 57 [.int .u64 (h : Int), .int .u64 (l : Int), .bool b2] ∧ Grow w w4) := ⟨((H2.out.1).kept mm2 (by intro e; injection e with e; omega)), ((H2.out.2.1).kept mm2 (by intro e; injection e with e; omega)), yy2, (Below.grown (H2.out.2.2.2) mm2 (Below.size (H2.out.2.2.2)) (by intro e he; injection he with he; omega))⟩
  clear H2 yy2 mm2
  clear q0_0 q0_1 q0_2 q1_0 q1_1 q1_2
  go_wp2
  exact bodyPost_ret (res_two rfl _ (bz) 57 _ _ rfl (H3.out.2.2.1) Tryz.underlying57 rfl sR) rfl ⟨rfl, H3.out.2.2.2⟩
theorem addR_same (h1 l1 m1 h2 l2 m2 h l : Nat) (b ok : Bool) (a : Wd h1 l1 m1) (a2 : Wd h2 l2 m2) (s : Wd h l ((m1 + m2) % 340282366920938463463374607431768211456)) (hk : decide (m1 + m2 < 340282366920938463463374607431768211456) = ok) (w : World) :
    Calls Tryz.prog 29 #[.agg #[.int .u64 (h1 : Int), .int .u64 (l1 : Int), .bool b], .agg #[.int .u64 (h2 : Int), .int .u64 (l2 : Int), .bool b]] w fun e w' => e = .returned (.tuple #[.agg #[.int .u64 (h : Int), .int .u64 (l : Int), .bool b], .bool ok]) ∧ Grow w w' := by
  have x1 := a.eq
  have x2 := a2.eq
  have x3 := s.eq
  have y1 := a.l1
  have y2 := a.h1
  have y3 := a2.l1
  have y4 := a2.h1
  have y5 := s.l1
  have y6 := s.h1
  obtain ⟨c, hc⟩ : ∃ c, (l1 + l2) / 18446744073709551616 = c := ⟨_, rfl⟩
  have K1 : ∀ W, _ := fun W => add64 l1 l2 0 y1 y3 (by omega) W
  have K2 : ∀ W, _ := fun W => add64 h1 h2 c y2 y4 (by omega) W
  rw [Nat.add_zero, hc, show (l1 + l2) % 18446744073709551616 = l by omega] at K1
  rw [show (h1 + h2 + c) % 18446744073709551616 = h by omega] at K2
  by_cases z : m1 + m2 < 340282366920938463463374607431768211456
  · rw [show (h1 + h2 + c) / 18446744073709551616 = 0 by omega] at K2
    obtain rfl : ok = true := by rw [← hk]; simp; omega
    exact add_st h1 l1 h2 l2 h l c b b K1 K2 w
  · rw [show (h1 + h2 + c) / 18446744073709551616 = 1 by omega] at K2
    obtain rfl : ok = false := by rw [← hk]; simp; omega
    exact add_sf h1 l1 h2 l2 h l c b b K1 K2 w
theorem addR_ge (h1 l1 m1 h2 l2 m2 h l : Nat) (b1 b2 : Bool) (hb : ¬ b1 = b2) (a : Wd h1 l1 m1) (a2 : Wd h2 l2 m2) (hle : m2 ≤ m1) (s : Wd h l (m1 - m2)) (w : World) :
    Calls Tryz.prog 29 #[.agg #[.int .u64 (h1 : Int), .int .u64 (l1 : Int), .bool b1], .agg #[.int .u64 (h2 : Int), .int .u64 (l2 : Int), .bool b2]] w fun e w' => e = .returned (.tuple #[.agg #[.int .u64 (h : Int), .int .u64 (l : Int), .bool b1], .bool true]) ∧ Grow w w' := by
  obtain ⟨c, hc, e0, e1, e2⟩ := run_sub a a2 hle s
  have K1 : ∀ W, _ := fun W => sub64 l1 l2 0 (by omega) W
  rw [show (l1 + 18446744073709551616 - l2 - 0) % 18446744073709551616 = l by have := s.l1; have := a.l1; have := a2.l1; omega, Nat.add_zero, e0] at K1
  have K2 : ∀ W, _ := fun W => sub64 h1 h2 c hc W
  rw [show (h1 + 18446744073709551616 - h2 - c) % 18446744073709551616 = h by have := s.h1; omega, if_neg (show ¬ h1 < h2 + c by omega)] at K2
  by_cases z : h2 < h1
  · exact add_ga h1 l1 h2 l2 h l c b1 b2 hb z K1 K2 w
  · have x1 := a.eq
    have x2 := a2.eq
    have y1 := a.l1
    have y3 := a2.l1
    have z1 : h1 = h2 := by omega
    exact add_gb h1 l1 h2 l2 h l c b1 b2 hb z1 (by omega) K1 K2 w
theorem addR_lt (h1 l1 m1 h2 l2 m2 h l : Nat) (b1 b2 : Bool) (hb : ¬ b1 = b2) (a : Wd h1 l1 m1) (a2 : Wd h2 l2 m2) (hlt : m1 < m2) (s : Wd h l (m2 - m1)) (w : World) :
    Calls Tryz.prog 29 #[.agg #[.int .u64 (h1 : Int), .int .u64 (l1 : Int), .bool b1], .agg #[.int .u64 (h2 : Int), .int .u64 (l2 : Int), .bool b2]] w fun e w' => e = .returned (.tuple #[.agg #[.int .u64 (h : Int), .int .u64 (l : Int), .bool b2], .bool true]) ∧ Grow w w' := by
  obtain ⟨c, hc, e0, e1, e2⟩ := run_sub a2 a (by omega) s
  have K1 : ∀ W, _ := fun W => sub64 l2 l1 0 (by omega) W
  rw [show (l2 + 18446744073709551616 - l1 - 0) % 18446744073709551616 = l by have := s.l1; have := a.l1; have := a2.l1; omega, Nat.add_zero, e0] at K1
  have K2 : ∀ W, _ := fun W => sub64 h2 h1 c hc W
  rw [show (h2 + 18446744073709551616 - h1 - c) % 18446744073709551616 = h by have := s.h1; omega, if_neg (show ¬ h2 < h1 + c by omega)] at K2
  by_cases z : h1 < h2
  · exact add_la h1 l1 h2 l2 h l c b1 b2 hb z K1 K2 w
  · have x1 := a.eq
    have x2 := a2.eq
    have y1 := a.l1
    have y3 := a2.l1
    have z1 : h1 = h2 := by omega
    exact add_lb h1 l1 h2 l2 h l c b1 b2 hb z1 (by omega) K1 K2 w
end Go.Proofs.YtbafmdjlnmeofaaGreatDoor
