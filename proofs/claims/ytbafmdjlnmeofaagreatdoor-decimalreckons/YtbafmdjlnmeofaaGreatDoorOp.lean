/-
  decimal's reckon, Make, Neg.
-/
import Derived.Test.YtbafmdjlnmeofaaGreatDoorVa
import Derived.Test.YtbafmdjlnmeofaaGreatDoorCl
namespace Go.Proofs.YtbafmdjlnmeofaaGreatDoor
open Go.RowKit
set_option linter.unusedVariables false
set_option maxRecDepth 8000 in
theorem reckon_no_a (k1 n1 s1 : Int) (t1 : ByteArray) (na1 : Option Addr) (nl1 nc1 : Nat) (ka1 : Option Addr) (kl1 kc1 : Nat) (k2 n2 s2 : Int) (t2 : ByteArray) (na2 : Option Addr) (nl2 nc2 : Nat) (ka2 : Option Addr) (kl2 kc2 : Nat) (hN : isNum k1 n1 s1 t1 nl1 kl1 = false) (f : Value) (w : World) :
    Calls Tryz.prog 23 #[.agg #[.int .i64 k1, .int .i64 n1, .int .i64 s1, .string t1, .slice na1 nl1 nc1, .slice ka1 kl1 kc1], .agg #[.int .i64 k2, .int .i64 n2, .int .i64 s2, .string t2, .slice na2 nl2 nc2, .slice ka2 kl2 kc2], f] w fun e w' => e = .returned (.tuple #[.agg #[.int .i64 0, .int .i64 0, .int .i64 0, .string ⟨#[]⟩, .slice none 0 0, .slice none 0 0], .int .i64 11]) ∧ Grow w w' := by
  have K1 : Hid (∀ W, Calls Tryz.prog 35 #[.agg #[.int .i64 k1, .int .i64 n1, .int .i64 s1, .string t1, .slice na1 nl1 nc1, .slice ka1 kl1 kc1]] W fun e w' => e = .returned (.bool false) ∧ Grow W w') := fun W => by
    have := isNumber_any k1 n1 s1 t1 na1 nl1 nc1 ka1 kl1 kc1 W
    rw [hN] at this
    exact this
  clear hN
  go_enter Tryz.func23, Tryz.ntmps23
  go_wp2_with fail
  obtain ⟨w1, HW1⟩ : ∃ w1, (((w.alloc (Obj.cells #[.int .i64 k1, .int .i64 n1, .int .i64 s1, .string t1, .slice na1 nl1 nc1, .slice ka1 kl1 kc1] 25)).alloc (Obj.cells #[.int .i64 k2, .int .i64 n2, .int .i64 s2, .string t2, .slice na2 nl2 nc2, .slice ka2 kl2 kc2] 25)).alloc (Obj.cells #[.int .i64 0, .int .i64 0, .int .i64 0, .string ⟨#[]⟩, .slice none 0 0, .slice none 0 0] 25)) = w1 := ⟨_, rfl⟩
  obtain ⟨C, hC⟩ : ∃ C : World → Prop, C = fun W => Grow w1 W := ⟨_, rfl⟩
  have GW : Hid (∀ W, C W → Grow w W) := fun W hW => by rw [hC, ← HW1] at hW; exact Grow.trans ((((Grow.refl _).alloc _).alloc _).alloc _) hW
  have B0 : Hid (∀ W, C W → Blk W (w.heap.size) 25 [.int .i64 k1, .int .i64 n1, .int .i64 s1, .string t1, .slice na1 nl1 nc1, .slice ka1 kl1 kc1]) := fun W hW => by rw [hC, ← HW1] at hW; exact Blk.grow (Blk.alloc (Blk.alloc (blk_at rfl) _) _) hW
  have B1 : Hid (∀ W, C W → Blk W (w.heap.size + 1) 25 [.int .i64 k2, .int .i64 n2, .int .i64 s2, .string t2, .slice na2 nl2 nc2, .slice ka2 kl2 kc2]) := fun W hW => by rw [hC, ← HW1] at hW; exact Blk.grow (Blk.alloc (blk_at (by simp)) _) hW
  have B2 : Hid (∀ W, C W → Blk W (w.heap.size + 2) 25 [.int .i64 0, .int .i64 0, .int .i64 0, .string ⟨#[]⟩, .slice none 0 0, .slice none 0 0]) := fun W hW => by rw [hC, ← HW1] at hW; exact Blk.grow (blk_at (by simp)) hW
  have CG : Hid (∀ W W', C W → Grow W W' → C W') := fun W W' h1 h2 => by rw [hC] at h1 ⊢; exact h1.trans h2
  have CW : Hid (C w1) := by rw [hC]; exact Grow.refl _
  rw [HW1]
  clear HW1 hC
  refine (K1.out _).mono ?_
  rintro e w2 ⟨rfl, g2⟩
  have HB : Hid (Blk w2 (w.heap.size + 1) 25 [.int .i64 k2, .int .i64 n2, .int .i64 s2, .string t2, .slice na2 nl2 nc2, .slice ka2 kl2 kc2] ∧ Blk w2 (w.heap.size + 2) 25 [.int .i64 0, .int .i64 0, .int .i64 0, .string ⟨#[]⟩, .slice none 0 0, .slice none 0 0] ∧ Grow w w2) := ⟨(B1.out _ CW.out).grow g2, (B2.out _ CW.out).grow g2, (GW.out _ CW.out).trans g2⟩
  clear B0 B1 B2 GW CG CW g2 K1
  go_wp2_with (refine st_all rfl 25 (.tmp 6) (.tmp 16) rfl (w.heap.size + 2) 25 [.int .i64 0, .int .i64 0, .int .i64 0, .string ⟨#[]⟩, .slice none 0 0, .slice none 0 0] [.int .i64 0, .int .i64 0, .int .i64 0, .string ⟨#[]⟩, .slice none 0 0, .slice none 0 0] rfl rfl HB.out.2.1 rfl sV (ones rfl) ?_)
  intro w5 b5 g5
  have HB5 : Hid (Blk w5 (w.heap.size + 2) 25 [.int .i64 0, .int .i64 0, .int .i64 0, .string ⟨#[]⟩, .slice none 0 0, .slice none 0 0]) := b5
  have HG5 : Hid (Grow w w5) := Below.grown HB.out.2.2 g5 HB.out.2.2.size (by intro e he; injection he with he; omega)
  clear b5 g5 HB
  go_wp2
  exact bodyPost_ret (res_two rfl _ (w.heap.size + 2) 25 _ _ rfl HB5.out Tryz.underlying25 rfl sV) rfl ⟨rfl, HG5.out⟩
set_option maxRecDepth 8000 in
theorem reckon_no_b (k1 n1 s1 : Int) (t1 : ByteArray) (na1 : Option Addr) (nl1 nc1 : Nat) (ka1 : Option Addr) (kl1 kc1 : Nat) (k2 n2 s2 : Int) (t2 : ByteArray) (na2 : Option Addr) (nl2 nc2 : Nat) (ka2 : Option Addr) (kl2 kc2 : Nat) (hY : isNum k1 n1 s1 t1 nl1 kl1 = true) (hN : isNum k2 n2 s2 t2 nl2 kl2 = false) (f : Value) (w : World) :
    Calls Tryz.prog 23 #[.agg #[.int .i64 k1, .int .i64 n1, .int .i64 s1, .string t1, .slice na1 nl1 nc1, .slice ka1 kl1 kc1], .agg #[.int .i64 k2, .int .i64 n2, .int .i64 s2, .string t2, .slice na2 nl2 nc2, .slice ka2 kl2 kc2], f] w fun e w' => e = .returned (.tuple #[.agg #[.int .i64 0, .int .i64 0, .int .i64 0, .string ⟨#[]⟩, .slice none 0 0, .slice none 0 0], .int .i64 11]) ∧ Grow w w' := by
  have K1 : Hid (∀ W, Calls Tryz.prog 35 #[.agg #[.int .i64 k1, .int .i64 n1, .int .i64 s1, .string t1, .slice na1 nl1 nc1, .slice ka1 kl1 kc1]] W fun e w' => e = .returned (.bool true) ∧ Grow W w') := fun W => by
    have := isNumber_any k1 n1 s1 t1 na1 nl1 nc1 ka1 kl1 kc1 W
    rw [hY] at this
    exact this
  have K2 : Hid (∀ W, Calls Tryz.prog 35 #[.agg #[.int .i64 k2, .int .i64 n2, .int .i64 s2, .string t2, .slice na2 nl2 nc2, .slice ka2 kl2 kc2]] W fun e w' => e = .returned (.bool false) ∧ Grow W w') := fun W => by
    have := isNumber_any k2 n2 s2 t2 na2 nl2 nc2 ka2 kl2 kc2 W
    rw [hN] at this
    exact this
  clear hN hY
  go_enter Tryz.func23, Tryz.ntmps23
  go_wp2_with fail
  obtain ⟨w1, HW1⟩ : ∃ w1, (((w.alloc (Obj.cells #[.int .i64 k1, .int .i64 n1, .int .i64 s1, .string t1, .slice na1 nl1 nc1, .slice ka1 kl1 kc1] 25)).alloc (Obj.cells #[.int .i64 k2, .int .i64 n2, .int .i64 s2, .string t2, .slice na2 nl2 nc2, .slice ka2 kl2 kc2] 25)).alloc (Obj.cells #[.int .i64 0, .int .i64 0, .int .i64 0, .string ⟨#[]⟩, .slice none 0 0, .slice none 0 0] 25)) = w1 := ⟨_, rfl⟩
  obtain ⟨C, hC⟩ : ∃ C : World → Prop, C = fun W => Grow w1 W := ⟨_, rfl⟩
  have GW : Hid (∀ W, C W → Grow w W) := fun W hW => by rw [hC, ← HW1] at hW; exact Grow.trans ((((Grow.refl _).alloc _).alloc _).alloc _) hW
  have B0 : Hid (∀ W, C W → Blk W (w.heap.size) 25 [.int .i64 k1, .int .i64 n1, .int .i64 s1, .string t1, .slice na1 nl1 nc1, .slice ka1 kl1 kc1]) := fun W hW => by rw [hC, ← HW1] at hW; exact Blk.grow (Blk.alloc (Blk.alloc (blk_at rfl) _) _) hW
  have B1 : Hid (∀ W, C W → Blk W (w.heap.size + 1) 25 [.int .i64 k2, .int .i64 n2, .int .i64 s2, .string t2, .slice na2 nl2 nc2, .slice ka2 kl2 kc2]) := fun W hW => by rw [hC, ← HW1] at hW; exact Blk.grow (Blk.alloc (blk_at (by simp)) _) hW
  have B2 : Hid (∀ W, C W → Blk W (w.heap.size + 2) 25 [.int .i64 0, .int .i64 0, .int .i64 0, .string ⟨#[]⟩, .slice none 0 0, .slice none 0 0]) := fun W hW => by rw [hC, ← HW1] at hW; exact Blk.grow (blk_at (by simp)) hW
  have CG : Hid (∀ W W', C W → Grow W W' → C W') := fun W W' h1 h2 => by rw [hC] at h1 ⊢; exact h1.trans h2
  have CW : Hid (C w1) := by rw [hC]; exact Grow.refl _
  rw [HW1]
  clear HW1 hC
  refine (K1.out _).mono ?_
  rintro e w2 ⟨rfl, g2⟩
  have HB : Hid (Blk w2 (w.heap.size + 1) 25 [.int .i64 k2, .int .i64 n2, .int .i64 s2, .string t2, .slice na2 nl2 nc2, .slice ka2 kl2 kc2] ∧ Blk w2 (w.heap.size + 2) 25 [.int .i64 0, .int .i64 0, .int .i64 0, .string ⟨#[]⟩, .slice none 0 0, .slice none 0 0] ∧ Grow w w2) := ⟨(B1.out _ CW.out).grow g2, (B2.out _ CW.out).grow g2, (GW.out _ CW.out).trans g2⟩
  clear B0 B1 B2 GW CG CW g2 K1
  have y0 : w2.cell? ⟨w.heap.size + 1, 0, none⟩ = some (.int .i64 k2) := (HB.out.1).cell 0
  have y1 : w2.cell? ⟨w.heap.size + 1, 1, none⟩ = some (.int .i64 n2) := (HB.out.1).cell 1
  have y2 : w2.cell? ⟨w.heap.size + 1, 2, none⟩ = some (.int .i64 s2) := (HB.out.1).cell 2
  have y3 : w2.cell? ⟨w.heap.size + 1, 3, none⟩ = some (.string t2) := (HB.out.1).cell 3
  have y4 : w2.cell? ⟨w.heap.size + 1, 4, none⟩ = some (.slice na2 nl2 nc2) := (HB.out.1).cell 4
  have y5 : w2.cell? ⟨w.heap.size + 1, 5, none⟩ = some (.slice ka2 kl2 kc2) := (HB.out.1).cell 5
  go_wp2_with fail
  clear y0 y1 y2 y3 y4 y5
  refine (K2.out _).mono ?_
  rintro e w3 ⟨rfl, g3⟩
  have HB' : Hid (Blk w3 (w.heap.size + 1) 25 [.int .i64 k2, .int .i64 n2, .int .i64 s2, .string t2, .slice na2 nl2 nc2, .slice ka2 kl2 kc2] ∧ Blk w3 (w.heap.size + 2) 25 [.int .i64 0, .int .i64 0, .int .i64 0, .string ⟨#[]⟩, .slice none 0 0, .slice none 0 0] ∧ Grow w w3) := ⟨HB.out.1.grow g3, HB.out.2.1.grow g3, HB.out.2.2.trans g3⟩
  clear HB g3 K2
  have HB : Hid (Blk w3 (w.heap.size + 1) 25 [.int .i64 k2, .int .i64 n2, .int .i64 s2, .string t2, .slice na2 nl2 nc2, .slice ka2 kl2 kc2] ∧ Blk w3 (w.heap.size + 2) 25 [.int .i64 0, .int .i64 0, .int .i64 0, .string ⟨#[]⟩, .slice none 0 0, .slice none 0 0] ∧ Grow w w3) := HB'.out
  clear HB'
  go_wp2_with (refine st_all rfl 25 (.tmp 6) (.tmp 16) rfl (w.heap.size + 2) 25 [.int .i64 0, .int .i64 0, .int .i64 0, .string ⟨#[]⟩, .slice none 0 0, .slice none 0 0] [.int .i64 0, .int .i64 0, .int .i64 0, .string ⟨#[]⟩, .slice none 0 0, .slice none 0 0] rfl rfl HB.out.2.1 rfl sV (ones rfl) ?_)
  intro w5 b5 g5
  have HB5 : Hid (Blk w5 (w.heap.size + 2) 25 [.int .i64 0, .int .i64 0, .int .i64 0, .string ⟨#[]⟩, .slice none 0 0, .slice none 0 0]) := b5
  have HG5 : Hid (Grow w w5) := Below.grown HB.out.2.2 g5 HB.out.2.2.size (by intro e he; injection he with he; omega)
  clear b5 g5 HB
  go_wp2
  exact bodyPost_ret (res_two rfl _ (w.heap.size + 2) 25 _ _ rfl HB5.out Tryz.underlying25 rfl sV) rfl ⟨rfl, HG5.out⟩
set_option maxRecDepth 8000 in
set_option maxHeartbeats 1000000 in
theorem reckon_yes (k1 n1 : Int) (s1 : Nat) (na1 : Option Addr) (nc1 : Nat) (ka1 : Option Addr) (kc1 : Nat) (k2 n2 : Int) (s2 : Nat) (na2 : Option Addr) (nc2 : Nat) (ka2 : Option Addr) (kc2 : Nat) (h1 : isNum k1 n1 s1 ⟨#[]⟩ 0 0 = true) (h2 : isNum k2 n2 s2 ⟨#[]⟩ 0 0 = true) (kf : Nat) (HE : Hid (∀ (args : Array Value) (w : World), (callFunc kf args).run Tryz.prog w = .ok (.enter kf args) w)) (b1 b2 b : Bool) (l1 l2 h l S : Nat) (r : Rs)
    (N1 : Hid (∀ W, Calls Tryz.prog 36 #[.int .i64 n1, .int .i64 (s1 : Int)] W fun e w' => e = .returned (.agg #[.bool b1, .int .u64 0, .int .u64 (l1 : Int), .int .i64 (s1 : Int)]) ∧ Grow W w'))
    (N2 : Hid (∀ W, Calls Tryz.prog 36 #[.int .i64 n2, .int .i64 (s2 : Int)] W fun e w' => e = .returned (.agg #[.bool b2, .int .u64 0, .int .u64 (l2 : Int), .int .i64 (s2 : Int)]) ∧ Grow W w'))
    (KW : Hid (∀ W, Calls Tryz.prog kf #[.agg #[.bool b1, .int .u64 0, .int .u64 (l1 : Int), .int .i64 (s1 : Int)], .agg #[.bool b2, .int .u64 0, .int .u64 (l2 : Int), .int .i64 (s2 : Int)]] W fun e w' => e = .returned (.agg #[.bool b, .int .u64 (h : Int), .int .u64 (l : Int), .int .i64 (S : Int)]) ∧ Grow W w'))
    (KV : Hid (∀ W, Calls Tryz.prog 38 #[.agg #[.bool b, .int .u64 (h : Int), .int .u64 (l : Int), .int .i64 (S : Int)]] W fun e w' => e = .returned (.tuple #[.agg #[.int .i64 r.k, .int .i64 r.n, .int .i64 r.s, .string ⟨#[]⟩, .slice none 0 0, .slice none 0 0], .int .i64 r.e]) ∧ Grow W w')) (w : World) :
    Calls Tryz.prog 23 #[.agg #[.int .i64 k1, .int .i64 n1, .int .i64 (s1 : Int), .string ⟨#[]⟩, .slice na1 0 nc1, .slice ka1 0 kc1], .agg #[.int .i64 k2, .int .i64 n2, .int .i64 (s2 : Int), .string ⟨#[]⟩, .slice na2 0 nc2, .slice ka2 0 kc2], .func (.func kf) #[] #[]] w fun e w' => e = .returned (.tuple #[.agg #[.int .i64 r.k, .int .i64 r.n, .int .i64 r.s, .string ⟨#[]⟩, .slice none 0 0, .slice none 0 0], .int .i64 r.e]) ∧ Grow w w' := by
  have K1 : Hid (∀ W, Calls Tryz.prog 35 #[.agg #[.int .i64 k1, .int .i64 n1, .int .i64 (s1 : Int), .string ⟨#[]⟩, .slice na1 0 nc1, .slice ka1 0 kc1]] W fun e w' => e = .returned (.bool true) ∧ Grow W w') := fun W => by
    have := isNumber_any k1 n1 s1 ⟨#[]⟩ na1 0 nc1 ka1 0 kc1 W
    rw [h1] at this
    exact this
  have K2 : Hid (∀ W, Calls Tryz.prog 35 #[.agg #[.int .i64 k2, .int .i64 n2, .int .i64 (s2 : Int), .string ⟨#[]⟩, .slice na2 0 nc2, .slice ka2 0 kc2]] W fun e w' => e = .returned (.bool true) ∧ Grow W w') := fun W => by
    have := isNumber_any k2 n2 s2 ⟨#[]⟩ na2 0 nc2 ka2 0 kc2 W
    rw [h2] at this
    exact this
  clear h1 h2
  go_enter Tryz.func23, Tryz.ntmps23
  go_wp2_with fail
  obtain ⟨w1, HW1⟩ : ∃ w1, (((w.alloc (Obj.cells #[.int .i64 k1, .int .i64 n1, .int .i64 (s1 : Int), .string ⟨#[]⟩, .slice na1 0 nc1, .slice ka1 0 kc1] 25)).alloc (Obj.cells #[.int .i64 k2, .int .i64 n2, .int .i64 (s2 : Int), .string ⟨#[]⟩, .slice na2 0 nc2, .slice ka2 0 kc2] 25)).alloc (Obj.cells #[.int .i64 0, .int .i64 0, .int .i64 0, .string ⟨#[]⟩, .slice none 0 0, .slice none 0 0] 25)) = w1 := ⟨_, rfl⟩
  obtain ⟨C, hC⟩ : ∃ C : World → Prop, C = fun W => Grow w1 W := ⟨_, rfl⟩
  have GW : Hid (∀ W, C W → Grow w W) := fun W hW => by rw [hC, ← HW1] at hW; exact Grow.trans ((((Grow.refl _).alloc _).alloc _).alloc _) hW
  have B0 : Hid (∀ W, C W → Blk W (w.heap.size) 25 [.int .i64 k1, .int .i64 n1, .int .i64 (s1 : Int), .string ⟨#[]⟩, .slice na1 0 nc1, .slice ka1 0 kc1]) := fun W hW => by rw [hC, ← HW1] at hW; exact Blk.grow (Blk.alloc (Blk.alloc (blk_at rfl) _) _) hW
  have B1 : Hid (∀ W, C W → Blk W (w.heap.size + 1) 25 [.int .i64 k2, .int .i64 n2, .int .i64 (s2 : Int), .string ⟨#[]⟩, .slice na2 0 nc2, .slice ka2 0 kc2]) := fun W hW => by rw [hC, ← HW1] at hW; exact Blk.grow (Blk.alloc (blk_at (by simp)) _) hW
  have B2 : Hid (∀ W, C W → Blk W (w.heap.size + 2) 25 [.int .i64 0, .int .i64 0, .int .i64 0, .string ⟨#[]⟩, .slice none 0 0, .slice none 0 0]) := fun W hW => by rw [hC, ← HW1] at hW; exact Blk.grow (blk_at (by simp)) hW
  have CG : Hid (∀ W W', C W → Grow W W' → C W') := fun W W' h1 h2 => by rw [hC] at h1 ⊢; exact h1.trans h2
  have CW : Hid (C w1) := by rw [hC]; exact Grow.refl _
  rw [HW1]
  clear HW1 hC
  refine (K1.out _).mono ?_
  rintro e w2 ⟨rfl, g2⟩
  have HB : Hid (C w2) := CG.out _ _ CW.out g2
  clear CW g2 K1
  have y0 : w2.cell? ⟨w.heap.size + 1, 0, none⟩ = some (.int .i64 k2) := (B1.out _ HB.out).cell 0
  have y1 : w2.cell? ⟨w.heap.size + 1, 1, none⟩ = some (.int .i64 n2) := (B1.out _ HB.out).cell 1
  have y2 : w2.cell? ⟨w.heap.size + 1, 2, none⟩ = some (.int .i64 (s2 : Int)) := (B1.out _ HB.out).cell 2
  have y3 : w2.cell? ⟨w.heap.size + 1, 3, none⟩ = some (.string ⟨#[]⟩) := (B1.out _ HB.out).cell 3
  have y4 : w2.cell? ⟨w.heap.size + 1, 4, none⟩ = some (.slice na2 0 nc2) := (B1.out _ HB.out).cell 4
  have y5 : w2.cell? ⟨w.heap.size + 1, 5, none⟩ = some (.slice ka2 0 kc2) := (B1.out _ HB.out).cell 5
  go_wp2_with fail
  clear y0 y1 y2 y3 y4 y5
  refine (K2.out _).mono ?_
  rintro e w6 ⟨rfl, g3⟩
  have CW : Hid (C { w6 with drawn := w6.drawn + 1 }) := CG.out _ _ HB.out (Grow.drew g3)
  clear HB g3 K2
  go_wp2
  refine region_grow [15] (by kernel_rfl) ?_
  generalize ({ w6 with drawn := w6.drawn + 1 } : World) = v0 at *
  have hCp : ∀ p : Prop, (∀ W, C W → p) ↔ p := fun p => ⟨fun h => h _ CW.out, fun h _ _ => h⟩
  refine segR 8 [0, 1, 2, 3, 4, 6, 7, 8, 9] rfl (by kernel_rfl) whole_blind CG.out CW.out (by kernel_rfl) ?_
  change wpQuiet _ _ _ _ (_ :: _ :: _ :: _ :: _ :: _ :: _ :: _ :: _ :: []) _
  repeat (first
    | go_big_quiet_skip
    | (go_big_quiet_want
       first
       | (refine q_one 3 (.inl rfl) (.tmp 18) rfl (w.heap.size) 1 rfl _ (fun W hW => by rw [(B0.out W hW).cell]; rfl) ?_
          simp only [Act.put, List.setIfInBounds_toArray, List.set_cons_zero, List.set_cons_succ]
          go_big_quiet_on)
       | (refine q_one 3 (.inl rfl) (.tmp 20) rfl (w.heap.size) 2 rfl _ (fun W hW => by rw [(B0.out W hW).cell]; rfl) ?_
          simp only [Act.put, List.setIfInBounds_toArray, List.set_cons_zero, List.set_cons_succ]
          go_big_quiet_on)
       | (refine q_one 3 (.inl rfl) (.tmp 23) rfl (w.heap.size + 1) 1 rfl _ (fun W hW => by rw [(B1.out W hW).cell]; rfl) ?_
          simp only [Act.put, List.setIfInBounds_toArray, List.set_cons_zero, List.set_cons_succ]
          go_big_quiet_on)
       | (refine q_one 3 (.inl rfl) (.tmp 25) rfl (w.heap.size + 1) 2 rfl _ (fun W hW => by rw [(B1.out W hW).cell]; rfl) ?_
          simp only [Act.put, List.setIfInBounds_toArray, List.set_cons_zero, List.set_cons_succ]
          go_big_quiet_on)
       | (go_big_quiet_op
          go_big_quiet_on)))
  refine wpQuiet_nil ?_
  refine callR (i := 5) 7 rfl (by kernel_rfl) whole_blind CG.out CW.out rfl (by kernel_rfl) rfl 36 _ _ _ rfl rfl #[.int .i64 n1, .int .i64 (s1 : Int)] (by rw [List.map_toArray]; rfl) (enters Tryz.func36 (by kernel_rfl) rfl) _ (fun W _ => N1.out W) ?_
  simp only [Act.put, List.setIfInBounds_toArray, List.set_cons_zero, List.set_cons_succ]
  refine callR (i := 10) 6 rfl (by kernel_rfl) whole_blind CG.out CW.out rfl (by kernel_rfl) rfl 36 _ _ _ rfl rfl #[.int .i64 n2, .int .i64 (s2 : Int)] (by rw [List.map_toArray]; rfl) (enters Tryz.func36 (by kernel_rfl) rfl) _ (fun W _ => N2.out W) ?_
  simp only [Act.put, List.setIfInBounds_toArray, List.set_cons_zero, List.set_cons_succ]
  refine callR (i := 11) 5 rfl (by kernel_rfl) whole_blind CG.out CW.out rfl (by kernel_rfl) rfl kf _ _ _ rfl rfl #[.agg #[.bool b1, .int .u64 0, .int .u64 (l1 : Int), .int .i64 (s1 : Int)], .agg #[.bool b2, .int .u64 0, .int .u64 (l2 : Int), .int .i64 (s2 : Int)]] (by rw [List.map_toArray]; rfl) HE.out _ (fun W _ => KW.out W) ?_
  simp only [Act.put, List.setIfInBounds_toArray, List.set_cons_zero, List.set_cons_succ]
  refine callR (i := 12) 4 rfl (by kernel_rfl) whole_blind CG.out CW.out rfl (by kernel_rfl) rfl 38 _ _ _ rfl rfl #[.agg #[.bool b, .int .u64 (h : Int), .int .u64 (l : Int), .int .i64 (S : Int)]] (by rw [List.map_toArray]; rfl) (enters Tryz.func38 (by kernel_rfl) rfl) _ (fun W _ => KV.out W) ?_
  simp only [Act.put, List.setIfInBounds_toArray, List.set_cons_zero, List.set_cons_succ]
  refine segR 2 [13, 14] rfl (by kernel_rfl) whole_blind CG.out CW.out (by kernel_rfl) ?_
  change wpQuiet _ _ _ _ (_ :: _ :: []) _
  repeat (first
    | go_big_quiet_skip
    | (go_big_quiet_want
       first
       | (go_big_quiet_op
          go_big_quiet_on)))
  refine wpQuiet_nil ?_
  refine storeR (i := 15) 1 rfl (by kernel_rfl) (by simp) rfl rfl 25 _ _ rfl (w.heap.size + 2) 25 [.int .i64 0, .int .i64 0, .int .i64 0, .string ⟨#[]⟩, .slice none 0 0, .slice none 0 0] [.int .i64 r.k, .int .i64 r.n, .int .i64 r.s, .string ⟨#[]⟩, .slice none 0 0, .slice none 0 0] rfl rfl (B2.out _ CW.out) rfl sV (ones rfl) ?_
  intro w3 b3 g3
  simp only [Act.put]
  refine loneR (C := Grow w3) (i := 16) 0 rfl (by kernel_rfl) rfl rfl (fun _ _ a b => Grow.trans a b) (Grow.refl _) ?_
  repeat (first | go_big_quiet_skip | (go_big_quiet_want; go_big_quiet_op; go_big_quiet_on))
  refine wpQuiet_nil ?_
  refine doneR (by kernel_rfl) ?_
  intro w9 g9
  have HB9 : Hid (Blk w9 (w.heap.size + 2) 25 [.int .i64 r.k, .int .i64 r.n, .int .i64 r.s, .string ⟨#[]⟩, .slice none 0 0, .slice none 0 0]) := b3.grow g9
  have HG9 : Hid (Grow w w9) := by
    have := GW.out _ CW.out
    exact Grow.trans (Chg.below this g3 this.size (by omega)) g9
  clear b3 g3 g9 hCp
  go_wp2
  exact bodyPost_ret (res_two rfl _ (w.heap.size + 2) 25 _ _ rfl HB9.out Tryz.underlying25 rfl sV) rfl ⟨rfl, HG9.out⟩
end Go.Proofs.YtbafmdjlnmeofaaGreatDoor
