/-
  decimal's numbers: plus.
-/
import Derived.Test.YtbafmdjlnmeofaaGreatDoorNc
namespace Go.Proofs.YtbafmdjlnmeofaaGreatDoor
open Go.RowKit
set_option linter.unusedVariables false
theorem run_max {P : Program} (ats : Array TypeId) (ty : TypeId) (x y : Int) (W : World) : (Builtin.max_ ats ty #[.int .i64 x, .int .i64 y]).run P W = .ok (.int .i64 (if x < y then y else x)) W := by
  simp [Builtin.max_, Builtin.max2]
theorem zW : (Tryz.prog.info? 53).map (fun i => i.zero.map (·.cells)) = some (some (List.toArray [.int .u64 0, .int .u64 0])) := by kernel_rfl
set_option maxRecDepth 8000 in
theorem plus_same (b1 b2 : Bool) (h1 l1 s1 h2 l2 s2 S d1 d2 ha la hb lb h l : Nat) (e1 : S = s1 + d1) (e2 : S = s2 + d2) (mx : d1 = 0 ∨ d2 = 0) (q1 : d1 ≤ 18) (q2 : d2 ≤ 18) (hS : S < 4294967296) (a1 : l1 < 18446744073709551616) (a2 : l2 < 18446744073709551616) (Wa : Wd ha la (l1 * 10 ^ d1)) (Wb : Wd hb lb (l2 * 10 ^ d2)) (hbb : b2 = b1) (Ws : Wd h l (l1 * 10 ^ d1 + l2 * 10 ^ d2)) (w : World) :
    Calls Tryz.prog 24 #[.agg #[.bool b1, .int .u64 (h1 : Int), .int .u64 (l1 : Int), .int .i64 (s1 : Int)], .agg #[.bool b2, .int .u64 (h2 : Int), .int .u64 (l2 : Int), .int .i64 (s2 : Int)]] w fun e w' => e = .returned (.agg #[.bool b1, .int .u64 (h : Int), .int .u64 (l : Int), .int .i64 (S : Int)]) ∧ Grow w w' := by
  have K3 : Hid (∀ W, Calls Tryz.prog 53 #[.agg #[.int .u64 (ha : Int), .int .u64 (la : Int)], .agg #[.int .u64 (hb : Int), .int .u64 (lb : Int)]] W fun e w' => e = .returned (.agg #[.int .u64 (h : Int), .int .u64 (l : Int)]) ∧ Grow W w') := fun W => plusW _ _ _ _ _ _ h l Wa Wb Ws W
  clear Ws
  have K1 : Hid (∀ W, Calls Tryz.prog 54 #[.agg #[.bool b1, .int .u64 (h1 : Int), .int .u64 (l1 : Int), .int .i64 (s1 : Int)], .int .i64 (S : Int)] W fun e w' => e = .returned (.agg #[.int .u64 (ha : Int), .int .u64 (la : Int)]) ∧ Grow W w') := fun W => sizeAt_any b1 h1 l1 s1 S d1 e1 q1 hS a1 ha la Wa W
  have K2 : Hid (∀ W, Calls Tryz.prog 54 #[.agg #[.bool b2, .int .u64 (h2 : Int), .int .u64 (l2 : Int), .int .i64 (s2 : Int)], .int .i64 (S : Int)] W fun e w' => e = .returned (.agg #[.int .u64 (hb : Int), .int .u64 (lb : Int)]) ∧ Grow W w') := fun W => sizeAt_any b2 h2 l2 s2 S d2 e2 q2 hS a2 hb lb Wb W
  have hm : ∀ ats ty W, (Builtin.max_ ats ty #[.int .i64 (s1 : Int), .int .i64 (s2 : Int)]).run Tryz.prog W = .ok (.int .i64 (S : Int)) W := fun ats ty W => by
    rw [run_max]
    congr 2
    rcases mx with rfl | rfl <;> split <;> omega
  clear e1 e2 mx q1 q2 a1 a2 Wa Wb
  have HBB : Hid (b2 = b1) := hbb
  clear hbb
  go_enter Tryz.func24, Tryz.ntmps24
  go_wp2
  obtain ⟨w1, HW1⟩ : ∃ w1, (((w.alloc (Obj.cells #[.bool b1, .int .u64 (h1 : Int), .int .u64 (l1 : Int), .int .i64 (s1 : Int)] 55)).alloc (Obj.cells #[.bool b2, .int .u64 (h2 : Int), .int .u64 (l2 : Int), .int .i64 (s2 : Int)] 55)).alloc (Obj.cells #[.bool false, .int .u64 0, .int .u64 0, .int .i64 0] 55)) = w1 := ⟨_, rfl⟩
  obtain ⟨C, hC⟩ : ∃ C : World → Prop, C = fun W => Grow w1 W := ⟨_, rfl⟩
  have GW : Hid (∀ W, C W → Grow w W) := fun W hW => by rw [hC, ← HW1] at hW; exact Grow.trans ((((Grow.refl _).alloc _).alloc _).alloc _) hW
  have B0 : Hid (∀ W, C W → Blk W (w.heap.size) 55 [.bool b1, .int .u64 (h1 : Int), .int .u64 (l1 : Int), .int .i64 (s1 : Int)]) := fun W hW => by rw [hC, ← HW1] at hW; exact Blk.grow (Blk.alloc (Blk.alloc (blk_at rfl) _) _) hW
  have B1 : Hid (∀ W, C W → Blk W (w.heap.size + 1) 55 [.bool b2, .int .u64 (h2 : Int), .int .u64 (l2 : Int), .int .i64 (s2 : Int)]) := fun W hW => by rw [hC, ← HW1] at hW; exact Blk.grow (Blk.alloc (blk_at (by simp)) _) hW
  have B2 : Hid (∀ W, C W → Blk W (w.heap.size + 2) 55 [.bool false, .int .u64 0, .int .u64 0, .int .i64 0]) := fun W hW => by rw [hC, ← HW1] at hW; exact Blk.grow (blk_at (by simp)) hW
  have CG : Hid (∀ W W', C W → Grow W W' → C W') := fun W W' h1 h2 => by rw [hC] at h1 ⊢; exact h1.trans h2
  have CW : Hid (C { w1 with drawn := w1.drawn + 1 }) := by rw [hC]; exact (Grow.refl _).drew
  rw [HW1]
  clear HW1 hC
  refine region_grow [8, 9] (by kernel_rfl) ?_
  generalize ({ w1 with drawn := w1.drawn + 1 } : World) = v0 at *
  have hCp : ∀ p : Prop, (∀ W, C W → p) ↔ p := fun p => ⟨fun h => h _ CW.out, fun h _ _ => h⟩
  refine segR 6 [0, 1, 3, 4] rfl (by kernel_rfl) whole_blind CG.out CW.out (by kernel_rfl) ?_
  change wpQuiet _ _ _ _ (_ :: _ :: _ :: _ :: []) _
  repeat (first
    | go_big_quiet_skip
    | (go_big_quiet_want
       first
       | (refine q_load 55 (.tmp 2) rfl (w.heap.size) 0 rfl _ _ (fun W hW => (B0.out W hW).all) Tryz.underlying55 rfl sN ?_
          simp only [Act.put, List.setIfInBounds_toArray, List.set_cons_zero, List.set_cons_succ]
          go_big_quiet_on)
       | (refine q_load 55 (.tmp 3) rfl (w.heap.size + 1) 0 rfl _ _ (fun W hW => (B1.out W hW).all) Tryz.underlying55 rfl sN ?_
          simp only [Act.put, List.setIfInBounds_toArray, List.set_cons_zero, List.set_cons_succ]
          go_big_quiet_on)
       | (go_big_quiet_op
          go_big_quiet_on)))
  refine wpQuiet_nil ?_
  refine callR (i := 2) 5 rfl (by kernel_rfl) whole_blind CG.out CW.out rfl (by kernel_rfl) rfl 54 _ _ _ rfl rfl #[.agg #[.bool b1, .int .u64 (h1 : Int), .int .u64 (l1 : Int), .int .i64 (s1 : Int)], .int .i64 (S : Int)] (by rw [List.map_toArray]; rfl) (enters Tryz.func54 (by kernel_rfl) rfl) _ (fun W _ => K1.out W) ?_
  simp only [Act.put, List.setIfInBounds_toArray, List.set_cons_zero, List.set_cons_succ]
  refine callR (i := 5) 4 rfl (by kernel_rfl) whole_blind CG.out CW.out rfl (by kernel_rfl) rfl 54 _ _ _ rfl rfl #[.agg #[.bool b2, .int .u64 (h2 : Int), .int .u64 (l2 : Int), .int .i64 (s2 : Int)], .int .i64 (S : Int)] (by rw [List.map_toArray]; rfl) (enters Tryz.func54 (by kernel_rfl) rfl) _ (fun W _ => K2.out W) ?_
  simp only [Act.put, List.setIfInBounds_toArray, List.set_cons_zero, List.set_cons_succ]
  refine newR2 (i := 6) (j := 7) 2 rfl (by kernel_rfl) (by decide) (by kernel_rfl) (by kernel_rfl) rfl rfl rfl rfl 53 53 rfl rfl rfl rfl (by decide) [.int .u64 0, .int .u64 0] [.int .u64 0, .int .u64 0] zW zW ?_
  intro ba bb w2 g2 sa sb hab Ba Bb
  simp only [Act.put, List.setIfInBounds_toArray, List.set_cons_zero, List.set_cons_succ]
  refine storeR (i := 8) 1 rfl (by kernel_rfl) (by simp) rfl rfl 53 _ _ rfl (ba) 53 [.int .u64 0, .int .u64 0] [.int .u64 (ha : Int), .int .u64 (la : Int)] rfl rfl (Ba) rfl sW (ones rfl) ?_
  intro w3 Ba3 ga
  simp only [Act.put]
  refine storeR (i := 9) 0 rfl (by kernel_rfl) (by simp) rfl rfl 53 _ _ rfl (bb) 53 [.int .u64 0, .int .u64 0] [.int .u64 (hb : Int), .int .u64 (lb : Int)] rfl rfl (Bb.chg ga (Ne.symm hab)) rfl sW (ones rfl) ?_
  intro w4 Bb4 gb
  simp only [Act.put]
  refine doneR (by kernel_rfl) ?_
  intro w5 g5
  have HC := CW.out
  have s3 : w.heap.size + 2 < v0.heap.size := (B2.out _ HC).lt
  have c5 : ∀ k t cs, k < v0.heap.size → Blk v0 k t cs → Blk w5 k t cs := fun k t cs hk hb => (((hb.grow g2).chg ga (by omega)).chg gb (by omega)).grow g5
  have D0 := c5 _ _ _ (by omega) (B0.out _ HC)
  have D1 := c5 _ _ _ (by omega) (B1.out _ HC)
  have D2 := c5 _ _ _ (by omega) (B2.out _ HC)
  have Da := (Ba3.chg gb hab).grow g5
  have Db := Bb4.grow g5
  have GG : Grow w w5 := by
    have x0 := GW.out _ HC
    have x1 := x0.trans g2
    have x2 : Below w.heap.size w w3 := Chg.below x1 ga x1.size (by have := x0.size; omega)
    have x3 : Below w.heap.size w w4 := Chg.below x2 gb x2.size (by have := x0.size; omega)
    exact Grow.trans x3 g5
  have HD : Hid (Blk w5 w.heap.size 55 [.bool b1, .int .u64 (h1 : Int), .int .u64 (l1 : Int), .int .i64 (s1 : Int)] ∧ Blk w5 (w.heap.size + 1) 55 [.bool b2, .int .u64 (h2 : Int), .int .u64 (l2 : Int), .int .i64 (s2 : Int)] ∧ Blk w5 (w.heap.size + 2) 55 [.bool false, .int .u64 0, .int .u64 0, .int .i64 0] ∧ Blk w5 ba 53 [.int .u64 (ha : Int), .int .u64 (la : Int)] ∧ Blk w5 bb 53 [.int .u64 (hb : Int), .int .u64 (lb : Int)] ∧ Grow w w5 ∧ w.heap.size + 2 < ba ∧ w.heap.size + 2 < bb) := ⟨D0, D1, D2, Da, Db, GG, by omega, by omega⟩
  clear K1 K2 CW CG GW B0 B1 B2 hCp HC c5 D0 D1 D2 Da Db GG Ba Bb Ba3 Bb4 ga gb g2 g5 sa sb hab s3 hm
  obtain ⟨D0, D1, D2, Da, Db, GG, _, _⟩ := HD.out
  have x0 : w5.cell? ⟨w.heap.size, 0, none⟩ = some (.bool b1) := D0.cell 0
  have x1 : w5.cell? ⟨w.heap.size + 1, 0, none⟩ = some (.bool b2) := D1.cell 0
  have hbb : b1 = b2 := HBB.out.symm
  subst hbb
  clear HBB D1
  go_wp2
  clear x1
  obtain ⟨C, hC⟩ : ∃ C : World → Prop, C = fun W => Grow w5 W := ⟨_, rfl⟩
  have GW : Hid (∀ W, C W → Grow w W) := fun W hW => by rw [hC] at hW; exact Grow.trans (GG) hW
  have B0 : Hid (∀ W, C W → Blk W (w.heap.size) 55 [.bool b1, .int .u64 (h1 : Int), .int .u64 (l1 : Int), .int .i64 (s1 : Int)]) := fun W hW => by rw [hC] at hW; exact Blk.grow (D0) hW
  have B2 : Hid (∀ W, C W → Blk W (w.heap.size + 2) 55 [.bool false, .int .u64 0, .int .u64 0, .int .i64 0]) := fun W hW => by rw [hC] at hW; exact Blk.grow (D2) hW
  have Ba : Hid (∀ W, C W → Blk W (ba) 53 [.int .u64 (ha : Int), .int .u64 (la : Int)]) := fun W hW => by rw [hC] at hW; exact Blk.grow (Da) hW
  have Bb : Hid (∀ W, C W → Blk W (bb) 53 [.int .u64 (hb : Int), .int .u64 (lb : Int)]) := fun W hW => by rw [hC] at hW; exact Blk.grow (Db) hW
  have CG : Hid (∀ W W', C W → Grow W W' → C W') := fun W W' h1 h2 => by rw [hC] at h1 ⊢; exact h1.trans h2
  have CW : Hid (C { w5 with drawn := w5.drawn + 1 }) := by rw [hC]; exact (Grow.refl _).drew
  clear hC
  clear D0 D2 Da Db GG HD x0
  refine region_grow [7] (by kernel_rfl) ?_
  generalize ({ w5 with drawn := w5.drawn + 1 } : World) = v0 at *
  have hCp : ∀ p : Prop, (∀ W, C W → p) ↔ p := fun p => ⟨fun h => h _ CW.out, fun h _ _ => h⟩
  refine segR 3 [0, 1, 2, 3, 5] rfl (by kernel_rfl) whole_blind CG.out CW.out (by kernel_rfl) ?_
  change wpQuiet _ _ _ _ (_ :: _ :: _ :: _ :: _ :: []) _
  repeat (first
    | go_big_quiet_skip
    | (go_big_quiet_want
       first
       | (refine q_one 4 (.inr (.inr rfl)) (.tmp 28) rfl (w.heap.size) 0 rfl _ (fun W hW => by rw [(B0.out W hW).cell]; rfl) ?_
          simp only [Act.put, List.setIfInBounds_toArray, List.set_cons_zero, List.set_cons_succ]
          go_big_quiet_on)
       | (refine q_load 53 (.tmp 6) rfl (ba) 0 rfl _ _ (fun W hW => (Ba.out W hW).all) Tryz.underlying53 rfl sW ?_
          simp only [Act.put, List.setIfInBounds_toArray, List.set_cons_zero, List.set_cons_succ]
          go_big_quiet_on)
       | (refine q_load 53 (.tmp 7) rfl (bb) 0 rfl _ _ (fun W hW => (Bb.out W hW).all) Tryz.underlying53 rfl sW ?_
          simp only [Act.put, List.setIfInBounds_toArray, List.set_cons_zero, List.set_cons_succ]
          go_big_quiet_on)
       | (go_big_quiet_op
          go_big_quiet_on)))
  refine wpQuiet_nil ?_
  refine callR (i := 4) 2 rfl (by kernel_rfl) whole_blind CG.out CW.out rfl (by kernel_rfl) rfl 53 _ _ _ rfl rfl #[.agg #[.int .u64 (ha : Int), .int .u64 (la : Int)], .agg #[.int .u64 (hb : Int), .int .u64 (lb : Int)]] (by rw [List.map_toArray]; rfl) (enters Tryz.func53 (by kernel_rfl) rfl) _ (fun W _ => K3.out W) ?_
  simp only [Act.put, List.setIfInBounds_toArray, List.set_cons_zero, List.set_cons_succ]
  refine segR 1 [6] rfl (by kernel_rfl) whole_blind CG.out CW.out (by kernel_rfl) ?_
  change wpQuiet _ _ _ _ (_ :: []) _
  repeat (first
    | go_big_quiet_skip
    | (go_big_quiet_want
       first
       | (go_big_quiet_op
          go_big_quiet_on)))
  refine wpQuiet_nil ?_
  refine storeR (i := 7) 0 rfl (by kernel_rfl) (by simp) rfl rfl 55 _ _ rfl (w.heap.size + 2) 55 [.bool false, .int .u64 0, .int .u64 0, .int .i64 0] [.bool b1, .int .u64 (h : Int), .int .u64 (l : Int), .int .i64 (S : Int)] rfl rfl (B2.out _ CW.out) rfl sN (ones rfl) ?_
  intro w6 b6 g6
  simp only [Act.put]
  refine doneR (by kernel_rfl) ?_
  intro w9 g9
  have HB9 : Hid (Blk w9 (w.heap.size + 2) 55 [.bool b1, .int .u64 (h : Int), .int .u64 (l : Int), .int .i64 (S : Int)]) := b6.grow g9
  have HG9 : Hid (Grow w w9) := by
    have := GW.out _ CW.out
    exact Grow.trans (Chg.below this g6 this.size (by omega)) g9
  clear b6 g6 g9 hCp
  go_wp2
  exact bodyPost_ret (res_row rfl _ (w.heap.size + 2) 55 _ _ rfl HB9.out Tryz.underlying55 rfl sN) rfl ⟨rfl, HG9.out⟩
set_option maxRecDepth 8000 in
theorem plus_ge (b1 b2 : Bool) (h1 l1 s1 h2 l2 s2 S d1 d2 ha la hb lb h l : Nat) (e1 : S = s1 + d1) (e2 : S = s2 + d2) (mx : d1 = 0 ∨ d2 = 0) (q1 : d1 ≤ 18) (q2 : d2 ≤ 18) (hS : S < 4294967296) (a1 : l1 < 18446744073709551616) (a2 : l2 < 18446744073709551616) (Wa : Wd ha la (l1 * 10 ^ d1)) (Wb : Wd hb lb (l2 * 10 ^ d2)) (hbb : b1 ≠ b2) (hle : l2 * 10 ^ d2 ≤ l1 * 10 ^ d1) (Ws : Wd h l (l1 * 10 ^ d1 - l2 * 10 ^ d2)) (w : World) :
    Calls Tryz.prog 24 #[.agg #[.bool b1, .int .u64 (h1 : Int), .int .u64 (l1 : Int), .int .i64 (s1 : Int)], .agg #[.bool b2, .int .u64 (h2 : Int), .int .u64 (l2 : Int), .int .i64 (s2 : Int)]] w fun e w' => e = .returned (.agg #[.bool b1, .int .u64 (h : Int), .int .u64 (l : Int), .int .i64 (S : Int)]) ∧ Grow w w' := by
  have K3 : Hid (∀ W, Calls Tryz.prog 55 #[.agg #[.int .u64 (ha : Int), .int .u64 (la : Int)], .agg #[.int .u64 (hb : Int), .int .u64 (lb : Int)]] W fun e w' => e = .returned (.tuple #[.agg #[.int .u64 (h : Int), .int .u64 (l : Int)], .bool false]) ∧ Grow W w') := fun W => minusW _ _ _ _ _ _ h l Wa Wb hle Ws W
  clear Ws hle
  have K1 : Hid (∀ W, Calls Tryz.prog 54 #[.agg #[.bool b1, .int .u64 (h1 : Int), .int .u64 (l1 : Int), .int .i64 (s1 : Int)], .int .i64 (S : Int)] W fun e w' => e = .returned (.agg #[.int .u64 (ha : Int), .int .u64 (la : Int)]) ∧ Grow W w') := fun W => sizeAt_any b1 h1 l1 s1 S d1 e1 q1 hS a1 ha la Wa W
  have K2 : Hid (∀ W, Calls Tryz.prog 54 #[.agg #[.bool b2, .int .u64 (h2 : Int), .int .u64 (l2 : Int), .int .i64 (s2 : Int)], .int .i64 (S : Int)] W fun e w' => e = .returned (.agg #[.int .u64 (hb : Int), .int .u64 (lb : Int)]) ∧ Grow W w') := fun W => sizeAt_any b2 h2 l2 s2 S d2 e2 q2 hS a2 hb lb Wb W
  have hm : ∀ ats ty W, (Builtin.max_ ats ty #[.int .i64 (s1 : Int), .int .i64 (s2 : Int)]).run Tryz.prog W = .ok (.int .i64 (S : Int)) W := fun ats ty W => by
    rw [run_max]
    congr 2
    rcases mx with rfl | rfl <;> split <;> omega
  clear e1 e2 mx q1 q2 a1 a2 Wa Wb
  have HNE : Hid ((b1 == b2) = false) := by
    show _ = _
    cases b1 <;> cases b2 <;> simp_all
  clear hbb
  go_enter Tryz.func24, Tryz.ntmps24
  go_wp2
  obtain ⟨w1, HW1⟩ : ∃ w1, (((w.alloc (Obj.cells #[.bool b1, .int .u64 (h1 : Int), .int .u64 (l1 : Int), .int .i64 (s1 : Int)] 55)).alloc (Obj.cells #[.bool b2, .int .u64 (h2 : Int), .int .u64 (l2 : Int), .int .i64 (s2 : Int)] 55)).alloc (Obj.cells #[.bool false, .int .u64 0, .int .u64 0, .int .i64 0] 55)) = w1 := ⟨_, rfl⟩
  obtain ⟨C, hC⟩ : ∃ C : World → Prop, C = fun W => Grow w1 W := ⟨_, rfl⟩
  have GW : Hid (∀ W, C W → Grow w W) := fun W hW => by rw [hC, ← HW1] at hW; exact Grow.trans ((((Grow.refl _).alloc _).alloc _).alloc _) hW
  have B0 : Hid (∀ W, C W → Blk W (w.heap.size) 55 [.bool b1, .int .u64 (h1 : Int), .int .u64 (l1 : Int), .int .i64 (s1 : Int)]) := fun W hW => by rw [hC, ← HW1] at hW; exact Blk.grow (Blk.alloc (Blk.alloc (blk_at rfl) _) _) hW
  have B1 : Hid (∀ W, C W → Blk W (w.heap.size + 1) 55 [.bool b2, .int .u64 (h2 : Int), .int .u64 (l2 : Int), .int .i64 (s2 : Int)]) := fun W hW => by rw [hC, ← HW1] at hW; exact Blk.grow (Blk.alloc (blk_at (by simp)) _) hW
  have B2 : Hid (∀ W, C W → Blk W (w.heap.size + 2) 55 [.bool false, .int .u64 0, .int .u64 0, .int .i64 0]) := fun W hW => by rw [hC, ← HW1] at hW; exact Blk.grow (blk_at (by simp)) hW
  have CG : Hid (∀ W W', C W → Grow W W' → C W') := fun W W' h1 h2 => by rw [hC] at h1 ⊢; exact h1.trans h2
  have CW : Hid (C { w1 with drawn := w1.drawn + 1 }) := by rw [hC]; exact (Grow.refl _).drew
  rw [HW1]
  clear HW1 hC
  refine region_grow [8, 9] (by kernel_rfl) ?_
  generalize ({ w1 with drawn := w1.drawn + 1 } : World) = v0 at *
  have hCp : ∀ p : Prop, (∀ W, C W → p) ↔ p := fun p => ⟨fun h => h _ CW.out, fun h _ _ => h⟩
  refine segR 6 [0, 1, 3, 4] rfl (by kernel_rfl) whole_blind CG.out CW.out (by kernel_rfl) ?_
  change wpQuiet _ _ _ _ (_ :: _ :: _ :: _ :: []) _
  repeat (first
    | go_big_quiet_skip
    | (go_big_quiet_want
       first
       | (refine q_load 55 (.tmp 2) rfl (w.heap.size) 0 rfl _ _ (fun W hW => (B0.out W hW).all) Tryz.underlying55 rfl sN ?_
          simp only [Act.put, List.setIfInBounds_toArray, List.set_cons_zero, List.set_cons_succ]
          go_big_quiet_on)
       | (refine q_load 55 (.tmp 3) rfl (w.heap.size + 1) 0 rfl _ _ (fun W hW => (B1.out W hW).all) Tryz.underlying55 rfl sN ?_
          simp only [Act.put, List.setIfInBounds_toArray, List.set_cons_zero, List.set_cons_succ]
          go_big_quiet_on)
       | (go_big_quiet_op
          go_big_quiet_on)))
  refine wpQuiet_nil ?_
  refine callR (i := 2) 5 rfl (by kernel_rfl) whole_blind CG.out CW.out rfl (by kernel_rfl) rfl 54 _ _ _ rfl rfl #[.agg #[.bool b1, .int .u64 (h1 : Int), .int .u64 (l1 : Int), .int .i64 (s1 : Int)], .int .i64 (S : Int)] (by rw [List.map_toArray]; rfl) (enters Tryz.func54 (by kernel_rfl) rfl) _ (fun W _ => K1.out W) ?_
  simp only [Act.put, List.setIfInBounds_toArray, List.set_cons_zero, List.set_cons_succ]
  refine callR (i := 5) 4 rfl (by kernel_rfl) whole_blind CG.out CW.out rfl (by kernel_rfl) rfl 54 _ _ _ rfl rfl #[.agg #[.bool b2, .int .u64 (h2 : Int), .int .u64 (l2 : Int), .int .i64 (s2 : Int)], .int .i64 (S : Int)] (by rw [List.map_toArray]; rfl) (enters Tryz.func54 (by kernel_rfl) rfl) _ (fun W _ => K2.out W) ?_
  simp only [Act.put, List.setIfInBounds_toArray, List.set_cons_zero, List.set_cons_succ]
  refine newR2 (i := 6) (j := 7) 2 rfl (by kernel_rfl) (by decide) (by kernel_rfl) (by kernel_rfl) rfl rfl rfl rfl 53 53 rfl rfl rfl rfl (by decide) [.int .u64 0, .int .u64 0] [.int .u64 0, .int .u64 0] zW zW ?_
  intro ba bb w2 g2 sa sb hab Ba Bb
  simp only [Act.put, List.setIfInBounds_toArray, List.set_cons_zero, List.set_cons_succ]
  refine storeR (i := 8) 1 rfl (by kernel_rfl) (by simp) rfl rfl 53 _ _ rfl (ba) 53 [.int .u64 0, .int .u64 0] [.int .u64 (ha : Int), .int .u64 (la : Int)] rfl rfl (Ba) rfl sW (ones rfl) ?_
  intro w3 Ba3 ga
  simp only [Act.put]
  refine storeR (i := 9) 0 rfl (by kernel_rfl) (by simp) rfl rfl 53 _ _ rfl (bb) 53 [.int .u64 0, .int .u64 0] [.int .u64 (hb : Int), .int .u64 (lb : Int)] rfl rfl (Bb.chg ga (Ne.symm hab)) rfl sW (ones rfl) ?_
  intro w4 Bb4 gb
  simp only [Act.put]
  refine doneR (by kernel_rfl) ?_
  intro w5 g5
  have HC := CW.out
  have s3 : w.heap.size + 2 < v0.heap.size := (B2.out _ HC).lt
  have c5 : ∀ k t cs, k < v0.heap.size → Blk v0 k t cs → Blk w5 k t cs := fun k t cs hk hb => (((hb.grow g2).chg ga (by omega)).chg gb (by omega)).grow g5
  have D0 := c5 _ _ _ (by omega) (B0.out _ HC)
  have D1 := c5 _ _ _ (by omega) (B1.out _ HC)
  have D2 := c5 _ _ _ (by omega) (B2.out _ HC)
  have Da := (Ba3.chg gb hab).grow g5
  have Db := Bb4.grow g5
  have GG : Grow w w5 := by
    have x0 := GW.out _ HC
    have x1 := x0.trans g2
    have x2 : Below w.heap.size w w3 := Chg.below x1 ga x1.size (by have := x0.size; omega)
    have x3 : Below w.heap.size w w4 := Chg.below x2 gb x2.size (by have := x0.size; omega)
    exact Grow.trans x3 g5
  have HD : Hid (Blk w5 w.heap.size 55 [.bool b1, .int .u64 (h1 : Int), .int .u64 (l1 : Int), .int .i64 (s1 : Int)] ∧ Blk w5 (w.heap.size + 1) 55 [.bool b2, .int .u64 (h2 : Int), .int .u64 (l2 : Int), .int .i64 (s2 : Int)] ∧ Blk w5 (w.heap.size + 2) 55 [.bool false, .int .u64 0, .int .u64 0, .int .i64 0] ∧ Blk w5 ba 53 [.int .u64 (ha : Int), .int .u64 (la : Int)] ∧ Blk w5 bb 53 [.int .u64 (hb : Int), .int .u64 (lb : Int)] ∧ Grow w w5 ∧ w.heap.size + 2 < ba ∧ w.heap.size + 2 < bb) := ⟨D0, D1, D2, Da, Db, GG, by omega, by omega⟩
  clear K1 K2 CW CG GW B0 B1 B2 hCp HC c5 D0 D1 D2 Da Db GG Ba Bb Ba3 Bb4 ga gb g2 g5 sa sb hab s3 hm
  obtain ⟨D0, D1, D2, Da, Db, GG, _, _⟩ := HD.out
  have x0 : w5.cell? ⟨w.heap.size, 0, none⟩ = some (.bool b1) := D0.cell 0
  have x1 : w5.cell? ⟨w.heap.size + 1, 0, none⟩ = some (.bool b2) := D1.cell 0
  have hne := HNE.out
  have yaB := Da
  have ybB := Db
  have ya0 : w5.cell? ⟨ba, 0, none⟩ = some (.int .u64 (ha : Int)) := yaB.cell 0
  have ya1 : w5.cell? ⟨ba, 1, none⟩ = some (.int .u64 (la : Int)) := yaB.cell 1
  have yb0 : w5.cell? ⟨bb, 0, none⟩ = some (.int .u64 (hb : Int)) := ybB.cell 0
  have yb1 : w5.cell? ⟨bb, 1, none⟩ = some (.int .u64 (lb : Int)) := ybB.cell 1
  clear yaB ybB D0 D1 D2 Da Db GG
  go_wp2_with fail
  refine (K3.out _).mono ?_
  rintro e w6 ⟨rfl, g6⟩
  clear x0 x1 ya0 ya1 yb0 yb1
  go_wp2_with (refine al_zero rfl 53 rfl [.int .u64 0, .int .u64 0] zW ?_)
  intro bc w7 sc Bc gc
  go_wp2_with (refine st_all rfl 53 (.tmp 8) (.tmp 39) rfl bc 53 [.int .u64 0, .int .u64 0] [.int .u64 (h : Int), .int .u64 (l : Int)] rfl rfl Bc rfl sW (ones rfl) ?_)
  intro w8 zB gd
  have HE : Hid (Blk w8 w.heap.size 55 [.bool b1, .int .u64 (h1 : Int), .int .u64 (l1 : Int), .int .i64 (s1 : Int)] ∧ Blk w8 (w.heap.size + 2) 55 [.bool false, .int .u64 0, .int .u64 0, .int .i64 0] ∧ Blk w8 bc 53 [.int .u64 (h : Int), .int .u64 (l : Int)] ∧ Grow w w8) := by
    obtain ⟨D0, D1, D2, Da, Db, GG, _, _⟩ := HD.out
    have q0 := (D0.grow g6).lt
    have q2 := (D2.grow g6).lt
    have k : ∀ c t cs, c < w6.heap.size → Blk w6 c t cs → Blk w8 c t cs := fun c t cs hc hb => (hb.kept gc (by simp)).kept gd (by intro e; injection e with e; omega)
    refine ⟨k _ _ _ q0 (D0.grow g6), k _ _ _ q2 (D2.grow g6), zB, ?_⟩
    have x1 := GG.trans g6
    have x2 : Below w.heap.size w w7 := Below.grown x1 gc x1.size (by intro e he; cases he)
    exact Below.grown x2 gd x2.size (by intro e he; injection he with he; have := x1.size; omega)
  clear zB gd Bc gc sc g6 K3 HD
  obtain ⟨E0, E2, zB, GE⟩ := HE.out
  have x0 : w8.cell? ⟨w.heap.size, 0, none⟩ = some (.bool b1) := E0.cell 0
  have z0 : w8.cell? ⟨bc, 0, none⟩ = some (.int .u64 (h : Int)) := zB.cell 0
  have z1 : w8.cell? ⟨bc, 1, none⟩ = some (.int .u64 (l : Int)) := zB.cell 1
  clear zB E0 GE
  go_wp2_with (refine st_all rfl 55 (.tmp 4) (.tmp 47) rfl (w.heap.size + 2) 55 [.bool false, .int .u64 0, .int .u64 0, .int .i64 0] [.bool b1, .int .u64 (h : Int), .int .u64 (l : Int), .int .i64 (S : Int)] rfl rfl E2 rfl sN (ones rfl) ?_)
  intro w9 b9 g9
  have HB9 : Hid (Blk w9 (w.heap.size + 2) 55 [.bool b1, .int .u64 (h : Int), .int .u64 (l : Int), .int .i64 (S : Int)]) := b9
  have HG9 : Hid (Grow w w9) := by
    have x1 := HE.out.2.2.2
    exact Below.grown x1 g9 x1.size (by intro e he; injection he with he; omega)
  clear b9 g9 E2 x0 z0 z1 HE
  go_wp2
  exact bodyPost_ret (res_row rfl _ (w.heap.size + 2) 55 _ _ rfl HB9.out Tryz.underlying55 rfl sN) rfl ⟨rfl, HG9.out⟩
set_option maxRecDepth 8000 in
theorem plus_lt (b1 b2 : Bool) (h1 l1 s1 h2 l2 s2 S d1 d2 ha la hb lb h l : Nat) (e1 : S = s1 + d1) (e2 : S = s2 + d2) (mx : d1 = 0 ∨ d2 = 0) (q1 : d1 ≤ 18) (q2 : d2 ≤ 18) (hS : S < 4294967296) (a1 : l1 < 18446744073709551616) (a2 : l2 < 18446744073709551616) (Wa : Wd ha la (l1 * 10 ^ d1)) (Wb : Wd hb lb (l2 * 10 ^ d2)) (hbb : b1 ≠ b2) (hlt : l1 * 10 ^ d1 < l2 * 10 ^ d2) (Ws : Wd h l (l2 * 10 ^ d2 - l1 * 10 ^ d1)) (w : World) :
    Calls Tryz.prog 24 #[.agg #[.bool b1, .int .u64 (h1 : Int), .int .u64 (l1 : Int), .int .i64 (s1 : Int)], .agg #[.bool b2, .int .u64 (h2 : Int), .int .u64 (l2 : Int), .int .i64 (s2 : Int)]] w fun e w' => e = .returned (.agg #[.bool b2, .int .u64 (h : Int), .int .u64 (l : Int), .int .i64 (S : Int)]) ∧ Grow w w' := by
  have K3 : Hid (∀ W, Calls Tryz.prog 55 #[.agg #[.int .u64 (ha : Int), .int .u64 (la : Int)], .agg #[.int .u64 (hb : Int), .int .u64 (lb : Int)]] W fun e w' => ∃ h l : Int, e = .returned (.tuple #[.agg #[.int .u64 h, .int .u64 l], .bool true]) ∧ Grow W w') := fun W => minusW_no _ _ _ _ _ _ Wa Wb hlt W
  have K4 : Hid (∀ W, Calls Tryz.prog 55 #[.agg #[.int .u64 (hb : Int), .int .u64 (lb : Int)], .agg #[.int .u64 (ha : Int), .int .u64 (la : Int)]] W fun e w' => e = .returned (.tuple #[.agg #[.int .u64 (h : Int), .int .u64 (l : Int)], .bool false]) ∧ Grow W w') := fun W => minusW _ _ _ _ _ _ h l Wb Wa (Nat.le_of_lt hlt) Ws W
  clear Ws hlt
  have K1 : Hid (∀ W, Calls Tryz.prog 54 #[.agg #[.bool b1, .int .u64 (h1 : Int), .int .u64 (l1 : Int), .int .i64 (s1 : Int)], .int .i64 (S : Int)] W fun e w' => e = .returned (.agg #[.int .u64 (ha : Int), .int .u64 (la : Int)]) ∧ Grow W w') := fun W => sizeAt_any b1 h1 l1 s1 S d1 e1 q1 hS a1 ha la Wa W
  have K2 : Hid (∀ W, Calls Tryz.prog 54 #[.agg #[.bool b2, .int .u64 (h2 : Int), .int .u64 (l2 : Int), .int .i64 (s2 : Int)], .int .i64 (S : Int)] W fun e w' => e = .returned (.agg #[.int .u64 (hb : Int), .int .u64 (lb : Int)]) ∧ Grow W w') := fun W => sizeAt_any b2 h2 l2 s2 S d2 e2 q2 hS a2 hb lb Wb W
  have hm : ∀ ats ty W, (Builtin.max_ ats ty #[.int .i64 (s1 : Int), .int .i64 (s2 : Int)]).run Tryz.prog W = .ok (.int .i64 (S : Int)) W := fun ats ty W => by
    rw [run_max]
    congr 2
    rcases mx with rfl | rfl <;> split <;> omega
  clear e1 e2 mx q1 q2 a1 a2 Wa Wb
  have HNE : Hid ((b1 == b2) = false) := by
    show _ = _
    cases b1 <;> cases b2 <;> simp_all
  clear hbb
  go_enter Tryz.func24, Tryz.ntmps24
  go_wp2
  obtain ⟨w1, HW1⟩ : ∃ w1, (((w.alloc (Obj.cells #[.bool b1, .int .u64 (h1 : Int), .int .u64 (l1 : Int), .int .i64 (s1 : Int)] 55)).alloc (Obj.cells #[.bool b2, .int .u64 (h2 : Int), .int .u64 (l2 : Int), .int .i64 (s2 : Int)] 55)).alloc (Obj.cells #[.bool false, .int .u64 0, .int .u64 0, .int .i64 0] 55)) = w1 := ⟨_, rfl⟩
  obtain ⟨C, hC⟩ : ∃ C : World → Prop, C = fun W => Grow w1 W := ⟨_, rfl⟩
  have GW : Hid (∀ W, C W → Grow w W) := fun W hW => by rw [hC, ← HW1] at hW; exact Grow.trans ((((Grow.refl _).alloc _).alloc _).alloc _) hW
  have B0 : Hid (∀ W, C W → Blk W (w.heap.size) 55 [.bool b1, .int .u64 (h1 : Int), .int .u64 (l1 : Int), .int .i64 (s1 : Int)]) := fun W hW => by rw [hC, ← HW1] at hW; exact Blk.grow (Blk.alloc (Blk.alloc (blk_at rfl) _) _) hW
  have B1 : Hid (∀ W, C W → Blk W (w.heap.size + 1) 55 [.bool b2, .int .u64 (h2 : Int), .int .u64 (l2 : Int), .int .i64 (s2 : Int)]) := fun W hW => by rw [hC, ← HW1] at hW; exact Blk.grow (Blk.alloc (blk_at (by simp)) _) hW
  have B2 : Hid (∀ W, C W → Blk W (w.heap.size + 2) 55 [.bool false, .int .u64 0, .int .u64 0, .int .i64 0]) := fun W hW => by rw [hC, ← HW1] at hW; exact Blk.grow (blk_at (by simp)) hW
  have CG : Hid (∀ W W', C W → Grow W W' → C W') := fun W W' h1 h2 => by rw [hC] at h1 ⊢; exact h1.trans h2
  have CW : Hid (C { w1 with drawn := w1.drawn + 1 }) := by rw [hC]; exact (Grow.refl _).drew
  rw [HW1]
  clear HW1 hC
  refine region_grow [8, 9] (by kernel_rfl) ?_
  generalize ({ w1 with drawn := w1.drawn + 1 } : World) = v0 at *
  have hCp : ∀ p : Prop, (∀ W, C W → p) ↔ p := fun p => ⟨fun h => h _ CW.out, fun h _ _ => h⟩
  refine segR 6 [0, 1, 3, 4] rfl (by kernel_rfl) whole_blind CG.out CW.out (by kernel_rfl) ?_
  change wpQuiet _ _ _ _ (_ :: _ :: _ :: _ :: []) _
  repeat (first
    | go_big_quiet_skip
    | (go_big_quiet_want
       first
       | (refine q_load 55 (.tmp 2) rfl (w.heap.size) 0 rfl _ _ (fun W hW => (B0.out W hW).all) Tryz.underlying55 rfl sN ?_
          simp only [Act.put, List.setIfInBounds_toArray, List.set_cons_zero, List.set_cons_succ]
          go_big_quiet_on)
       | (refine q_load 55 (.tmp 3) rfl (w.heap.size + 1) 0 rfl _ _ (fun W hW => (B1.out W hW).all) Tryz.underlying55 rfl sN ?_
          simp only [Act.put, List.setIfInBounds_toArray, List.set_cons_zero, List.set_cons_succ]
          go_big_quiet_on)
       | (go_big_quiet_op
          go_big_quiet_on)))
  refine wpQuiet_nil ?_
  refine callR (i := 2) 5 rfl (by kernel_rfl) whole_blind CG.out CW.out rfl (by kernel_rfl) rfl 54 _ _ _ rfl rfl #[.agg #[.bool b1, .int .u64 (h1 : Int), .int .u64 (l1 : Int), .int .i64 (s1 : Int)], .int .i64 (S : Int)] (by rw [List.map_toArray]; rfl) (enters Tryz.func54 (by kernel_rfl) rfl) _ (fun W _ => K1.out W) ?_
  simp only [Act.put, List.setIfInBounds_toArray, List.set_cons_zero, List.set_cons_succ]
  refine callR (i := 5) 4 rfl (by kernel_rfl) whole_blind CG.out CW.out rfl (by kernel_rfl) rfl 54 _ _ _ rfl rfl #[.agg #[.bool b2, .int .u64 (h2 : Int), .int .u64 (l2 : Int), .int .i64 (s2 : Int)], .int .i64 (S : Int)] (by rw [List.map_toArray]; rfl) (enters Tryz.func54 (by kernel_rfl) rfl) _ (fun W _ => K2.out W) ?_
  simp only [Act.put, List.setIfInBounds_toArray, List.set_cons_zero, List.set_cons_succ]
  refine newR2 (i := 6) (j := 7) 2 rfl (by kernel_rfl) (by decide) (by kernel_rfl) (by kernel_rfl) rfl rfl rfl rfl 53 53 rfl rfl rfl rfl (by decide) [.int .u64 0, .int .u64 0] [.int .u64 0, .int .u64 0] zW zW ?_
  intro ba bb w2 g2 sa sb hab Ba Bb
  simp only [Act.put, List.setIfInBounds_toArray, List.set_cons_zero, List.set_cons_succ]
  refine storeR (i := 8) 1 rfl (by kernel_rfl) (by simp) rfl rfl 53 _ _ rfl (ba) 53 [.int .u64 0, .int .u64 0] [.int .u64 (ha : Int), .int .u64 (la : Int)] rfl rfl (Ba) rfl sW (ones rfl) ?_
  intro w3 Ba3 ga
  simp only [Act.put]
  refine storeR (i := 9) 0 rfl (by kernel_rfl) (by simp) rfl rfl 53 _ _ rfl (bb) 53 [.int .u64 0, .int .u64 0] [.int .u64 (hb : Int), .int .u64 (lb : Int)] rfl rfl (Bb.chg ga (Ne.symm hab)) rfl sW (ones rfl) ?_
  intro w4 Bb4 gb
  simp only [Act.put]
  refine doneR (by kernel_rfl) ?_
  intro w5 g5
  have HC := CW.out
  have s3 : w.heap.size + 2 < v0.heap.size := (B2.out _ HC).lt
  have c5 : ∀ k t cs, k < v0.heap.size → Blk v0 k t cs → Blk w5 k t cs := fun k t cs hk hb => (((hb.grow g2).chg ga (by omega)).chg gb (by omega)).grow g5
  have D0 := c5 _ _ _ (by omega) (B0.out _ HC)
  have D1 := c5 _ _ _ (by omega) (B1.out _ HC)
  have D2 := c5 _ _ _ (by omega) (B2.out _ HC)
  have Da := (Ba3.chg gb hab).grow g5
  have Db := Bb4.grow g5
  have GG : Grow w w5 := by
    have x0 := GW.out _ HC
    have x1 := x0.trans g2
    have x2 : Below w.heap.size w w3 := Chg.below x1 ga x1.size (by have := x0.size; omega)
    have x3 : Below w.heap.size w w4 := Chg.below x2 gb x2.size (by have := x0.size; omega)
    exact Grow.trans x3 g5
  have HD : Hid (Blk w5 w.heap.size 55 [.bool b1, .int .u64 (h1 : Int), .int .u64 (l1 : Int), .int .i64 (s1 : Int)] ∧ Blk w5 (w.heap.size + 1) 55 [.bool b2, .int .u64 (h2 : Int), .int .u64 (l2 : Int), .int .i64 (s2 : Int)] ∧ Blk w5 (w.heap.size + 2) 55 [.bool false, .int .u64 0, .int .u64 0, .int .i64 0] ∧ Blk w5 ba 53 [.int .u64 (ha : Int), .int .u64 (la : Int)] ∧ Blk w5 bb 53 [.int .u64 (hb : Int), .int .u64 (lb : Int)] ∧ Grow w w5 ∧ w.heap.size + 2 < ba ∧ w.heap.size + 2 < bb) := ⟨D0, D1, D2, Da, Db, GG, by omega, by omega⟩
  clear K1 K2 CW CG GW B0 B1 B2 hCp HC c5 D0 D1 D2 Da Db GG Ba Bb Ba3 Bb4 ga gb g2 g5 sa sb hab s3 hm
  obtain ⟨D0, D1, D2, Da, Db, GG, _, _⟩ := HD.out
  have x0 : w5.cell? ⟨w.heap.size, 0, none⟩ = some (.bool b1) := D0.cell 0
  have x1 : w5.cell? ⟨w.heap.size + 1, 0, none⟩ = some (.bool b2) := D1.cell 0
  have hne := HNE.out
  have yaB := Da
  have ybB := Db
  have ya0 : w5.cell? ⟨ba, 0, none⟩ = some (.int .u64 (ha : Int)) := yaB.cell 0
  have ya1 : w5.cell? ⟨ba, 1, none⟩ = some (.int .u64 (la : Int)) := yaB.cell 1
  have yb0 : w5.cell? ⟨bb, 0, none⟩ = some (.int .u64 (hb : Int)) := ybB.cell 0
  have yb1 : w5.cell? ⟨bb, 1, none⟩ = some (.int .u64 (lb : Int)) := ybB.cell 1
  clear yaB ybB D0 D1 D2 Da Db GG
  go_wp2_with fail
  refine (K3.out _).mono ?_
  rintro e w6 ⟨h', l', rfl, g6⟩
  clear x0 x1 ya0 ya1 yb0 yb1
  go_wp2_with (refine al_zero rfl 53 rfl [.int .u64 0, .int .u64 0] zW ?_)
  intro bc w7 sc Bc gc
  go_wp2_with (refine st_all rfl 53 (.tmp 8) (.tmp 39) rfl bc 53 [.int .u64 0, .int .u64 0] [.int .u64 h', .int .u64 l'] rfl rfl Bc rfl sW (ones rfl) ?_)
  intro w8 zB gd
  have HE : Hid (Blk w8 (w.heap.size + 1) 55 [.bool b2, .int .u64 (h2 : Int), .int .u64 (l2 : Int), .int .i64 (s2 : Int)] ∧ Blk w8 (w.heap.size + 2) 55 [.bool false, .int .u64 0, .int .u64 0, .int .i64 0] ∧ Blk w8 ba 53 [.int .u64 (ha : Int), .int .u64 (la : Int)] ∧ Blk w8 bb 53 [.int .u64 (hb : Int), .int .u64 (lb : Int)] ∧ Grow w w8) := by
    obtain ⟨D0, D1, D2, Da, Db, GG, _, _⟩ := HD.out
    have k : ∀ c t cs, Blk w6 c t cs → Blk w8 c t cs := fun c t cs hb => (hb.kept gc (by simp)).kept gd (by intro e; injection e with e; have := hb.lt; omega)
    refine ⟨k _ _ _ (D1.grow g6), k _ _ _ (D2.grow g6), k _ _ _ (Da.grow g6), k _ _ _ (Db.grow g6), ?_⟩
    have x1 := GG.trans g6
    have x2 : Below w.heap.size w w7 := Below.grown x1 gc x1.size (by intro e he; cases he)
    exact Below.grown x2 gd x2.size (by intro e he; injection he with he; have := x1.size; omega)
  clear zB gd Bc gc sc g6 K3 HD
  obtain ⟨E1, E2, yaB, ybB, GE⟩ := HE.out
  have ya0 : w8.cell? ⟨ba, 0, none⟩ = some (.int .u64 (ha : Int)) := yaB.cell 0
  have ya1 : w8.cell? ⟨ba, 1, none⟩ = some (.int .u64 (la : Int)) := yaB.cell 1
  have yb0 : w8.cell? ⟨bb, 0, none⟩ = some (.int .u64 (hb : Int)) := ybB.cell 0
  have yb1 : w8.cell? ⟨bb, 1, none⟩ = some (.int .u64 (lb : Int)) := ybB.cell 1
  clear yaB ybB E1 E2 GE
  go_wp2_with fail
  refine (K4.out _).mono ?_
  rintro e v6 ⟨rfl, g6⟩
  clear ya0 ya1 yb0 yb1
  go_wp2_with (refine al_zero rfl 53 rfl [.int .u64 0, .int .u64 0] zW ?_)
  intro bd v7 sd Bd gc
  go_wp2_with (refine st_all rfl 53 (.tmp 10) (.tmp 52) rfl bd 53 [.int .u64 0, .int .u64 0] [.int .u64 (h : Int), .int .u64 (l : Int)] rfl rfl Bd rfl sW (ones rfl) ?_)
  intro v8 zB gd
  have HF : Hid (Blk v8 (w.heap.size + 1) 55 [.bool b2, .int .u64 (h2 : Int), .int .u64 (l2 : Int), .int .i64 (s2 : Int)] ∧ Blk v8 (w.heap.size + 2) 55 [.bool false, .int .u64 0, .int .u64 0, .int .i64 0] ∧ Blk v8 bd 53 [.int .u64 (h : Int), .int .u64 (l : Int)] ∧ Grow w v8) := by
    obtain ⟨E1, E2, _, _, GE⟩ := HE.out
    have k : ∀ c t cs, Blk v6 c t cs → Blk v8 c t cs := fun c t cs hb => (hb.kept gc (by simp)).kept gd (by intro e; injection e with e; have := hb.lt; omega)
    refine ⟨k _ _ _ (E1.grow g6), k _ _ _ (E2.grow g6), zB, ?_⟩
    have x1 := GE.trans g6
    have x2 : Below w.heap.size w v7 := Below.grown x1 gc x1.size (by intro e he; cases he)
    exact Below.grown x2 gd x2.size (by intro e he; injection he with he; have := x1.size; omega)
  clear zB gd Bd gc sd g6 K4 HE
  obtain ⟨E1, E2, zB, GE⟩ := HF.out
  have x1 : v8.cell? ⟨w.heap.size + 1, 0, none⟩ = some (.bool b2) := E1.cell 0
  have z0 : v8.cell? ⟨bd, 0, none⟩ = some (.int .u64 (h : Int)) := zB.cell 0
  have z1 : v8.cell? ⟨bd, 1, none⟩ = some (.int .u64 (l : Int)) := zB.cell 1
  clear zB E1 GE
  go_wp2_with (refine st_all rfl 55 (.tmp 4) (.tmp 58) rfl (w.heap.size + 2) 55 [.bool false, .int .u64 0, .int .u64 0, .int .i64 0] [.bool b2, .int .u64 (h : Int), .int .u64 (l : Int), .int .i64 (S : Int)] rfl rfl E2 rfl sN (ones rfl) ?_)
  intro w9 b9 g9
  have HB9 : Hid (Blk w9 (w.heap.size + 2) 55 [.bool b2, .int .u64 (h : Int), .int .u64 (l : Int), .int .i64 (S : Int)]) := b9
  have HG9 : Hid (Grow w w9) := by
    have x1 := HF.out.2.2.2
    exact Below.grown x1 g9 x1.size (by intro e he; injection he with he; omega)
  clear b9 g9 E2 x1 z0 z1 HF
  go_wp2
  exact bodyPost_ret (res_row rfl _ (w.heap.size + 2) 55 _ _ rfl HB9.out Tryz.underlying55 rfl sN) rfl ⟨rfl, HG9.out⟩
end Go.Proofs.YtbafmdjlnmeofaaGreatDoor
