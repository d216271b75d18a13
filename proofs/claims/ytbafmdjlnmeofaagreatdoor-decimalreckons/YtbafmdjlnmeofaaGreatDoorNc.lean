/-
  decimal's numbers: times, minus.
-/
import Derived.Test.YtbafmdjlnmeofaaGreatDoorNb
namespace Go.Proofs.YtbafmdjlnmeofaaGreatDoor
open Go.RowKit
set_option linter.unusedVariables false
set_option maxRecDepth 8000 in
theorem times_any (b1 b2 : Bool) (h1 l1 s1 h2 l2 s2 h l : Nat) (a1 : l1 < 18446744073709551616) (a2 : l2 < 18446744073709551616) (hs1 : s1 < 4294967296) (hs2 : s2 < 4294967296) (hw : Wd h l (l1 * l2)) (w : World) :
    Calls Tryz.prog 33 #[.agg #[.bool b1, .int .u64 (h1 : Int), .int .u64 (l1 : Int), .int .i64 (s1 : Int)], .agg #[.bool b2, .int .u64 (h2 : Int), .int .u64 (l2 : Int), .int .i64 (s2 : Int)]] w fun e w' => e = .returned (.agg #[.bool (b1 != b2), .int .u64 (h : Int), .int .u64 (l : Int), .int .i64 ((s1 : Int) + (s2 : Int))]) ∧ Grow w w' := by
  have K : Hid (∀ W, Calls Tryz.prog 50 #[.int .u64 (l1 : Int), .int .u64 (l2 : Int)] W fun e w' => e = .returned (.agg #[.int .u64 (h : Int), .int .u64 (l : Int)]) ∧ Grow W w') := fun W => product_any l1 l2 h l a1 a2 hw W
  clear a1 a2 hw
  go_enter Tryz.func33, Tryz.ntmps33
  go_wp2
  obtain ⟨w1, HW1⟩ : ∃ w1, (((w.alloc (Obj.cells #[.bool b1, .int .u64 (h1 : Int), .int .u64 (l1 : Int), .int .i64 (s1 : Int)] 55)).alloc (Obj.cells #[.bool b2, .int .u64 (h2 : Int), .int .u64 (l2 : Int), .int .i64 (s2 : Int)] 55)).alloc (Obj.cells #[.bool false, .int .u64 0, .int .u64 0, .int .i64 0] 55)) = w1 := ⟨_, rfl⟩
  obtain ⟨C, hC⟩ : ∃ C : World → Prop, C = fun W => Grow w1 W := ⟨_, rfl⟩
  have GW : Hid (∀ W, C W → Grow w W) := fun W hW => by rw [hC, ← HW1] at hW; exact Grow.trans ((((Grow.refl _).alloc _).alloc _).alloc _) hW
  have B0 : Hid (∀ W, C W → Blk W (w.heap.size) 55 [.bool b1, .int .u64 (h1 : Int), .int .u64 (l1 : Int), .int .i64 (s1 : Int)]) := fun W hW => by rw [hC, ← HW1] at hW; exact Blk.grow (Blk.alloc (Blk.alloc (blk_at rfl) _) _) hW
  have B1 : Hid (∀ W, C W → Blk W (w.heap.size + 1) 55 [.bool b2, .int .u64 (h2 : Int), .int .u64 (l2 : Int), .int .i64 (s2 : Int)]) := fun W hW => by rw [hC, ← HW1] at hW; exact Blk.grow (Blk.alloc (blk_at (by simp)) _) hW
  have B2 : Hid (∀ W, C W → Blk W (w.heap.size + 2) 55 [.bool false, .int .u64 0, .int .u64 0, .int .i64 0]) := fun W hW => by rw [hC, ← HW1] at hW; exact Blk.grow (blk_at (by simp)) hW
  have CG : Hid (∀ W W', C W → Grow W W' → C W') := fun W W' h1 h2 => by rw [hC] at h1 ⊢; exact h1.trans h2
  have CW : Hid (C { w1 with drawn := w1.drawn + 1 }) := by rw [hC]; exact (Grow.refl _).drew
  rw [HW1]
  clear HW1 hC
  refine region_grow [18] (by kernel_rfl) ?_
  generalize ({ w1 with drawn := w1.drawn + 1 } : World) = v0 at *
  have hCp : ∀ p : Prop, (∀ W, C W → p) ↔ p := fun p => ⟨fun h => h _ CW.out, fun h _ _ => h⟩
  refine segR 3 [0, 1, 2, 3, 4, 5, 6, 7, 8, 9, 10, 12, 13, 14, 15, 16] rfl (by kernel_rfl) whole_blind CG.out CW.out (by kernel_rfl) ?_
  change wpQuiet _ _ _ _ (_ :: _ :: _ :: _ :: _ :: _ :: _ :: _ :: _ :: _ :: _ :: _ :: _ :: _ :: _ :: _ :: []) _
  repeat (first
    | go_big_quiet_skip
    | (go_big_quiet_want
       first
       | (refine q_one 4 (.inr (.inr rfl)) (.tmp 5) rfl (w.heap.size) 0 rfl _ (fun W hW => by rw [(B0.out W hW).cell]; rfl) ?_
          simp only [Act.put, List.setIfInBounds_toArray, List.set_cons_zero, List.set_cons_succ]
          go_big_quiet_on)
       | (refine q_one 4 (.inr (.inr rfl)) (.tmp 7) rfl (w.heap.size + 1) 0 rfl _ (fun W hW => by rw [(B1.out W hW).cell]; rfl) ?_
          simp only [Act.put, List.setIfInBounds_toArray, List.set_cons_zero, List.set_cons_succ]
          go_big_quiet_on)
       | (refine q_one 51 (.inr (.inl rfl)) (.tmp 11) rfl (w.heap.size) 2 rfl _ (fun W hW => by rw [(B0.out W hW).cell]; rfl) ?_
          simp only [Act.put, List.setIfInBounds_toArray, List.set_cons_zero, List.set_cons_succ]
          go_big_quiet_on)
       | (refine q_one 51 (.inr (.inl rfl)) (.tmp 14) rfl (w.heap.size + 1) 2 rfl _ (fun W hW => by rw [(B1.out W hW).cell]; rfl) ?_
          simp only [Act.put, List.setIfInBounds_toArray, List.set_cons_zero, List.set_cons_succ]
          go_big_quiet_on)
       | (refine q_one 3 (.inl rfl) (.tmp 17) rfl (w.heap.size) 3 rfl _ (fun W hW => by rw [(B0.out W hW).cell]; rfl) ?_
          simp only [Act.put, List.setIfInBounds_toArray, List.set_cons_zero, List.set_cons_succ]
          go_big_quiet_on)
       | (refine q_one 3 (.inl rfl) (.tmp 19) rfl (w.heap.size + 1) 3 rfl _ (fun W hW => by rw [(B1.out W hW).cell]; rfl) ?_
          simp only [Act.put, List.setIfInBounds_toArray, List.set_cons_zero, List.set_cons_succ]
          go_big_quiet_on)
       | (go_big_quiet_op
          go_big_quiet_on)))
  refine wpQuiet_nil ?_
  refine callR (i := 11) 2 rfl (by kernel_rfl) whole_blind CG.out CW.out rfl (by kernel_rfl) rfl 50 _ _ _ rfl rfl #[.int .u64 (l1 : Int), .int .u64 (l2 : Int)] (by rw [List.map_toArray]; rfl) (enters Tryz.func50 (by kernel_rfl) rfl) _ (fun W _ => K.out W) ?_
  simp only [Act.put, List.setIfInBounds_toArray, List.set_cons_zero, List.set_cons_succ]
  refine segR 1 [17] rfl (by kernel_rfl) whole_blind CG.out CW.out (by kernel_rfl) ?_
  change wpQuiet _ _ _ _ (_ :: []) _
  repeat (first
    | go_big_quiet_skip
    | (go_big_quiet_want
       first
       | (go_big_quiet_op
          go_big_quiet_on)))
  refine wpQuiet_nil ?_
  refine storeR (i := 18) 0 rfl (by kernel_rfl) (by simp) rfl rfl 55 _ _ rfl (w.heap.size + 2) 55 [.bool false, .int .u64 0, .int .u64 0, .int .i64 0] [.bool (b1 != b2), .int .u64 (h : Int), .int .u64 (l : Int), .int .i64 ((s1 : Int) + (s2 : Int))] rfl rfl (B2.out _ CW.out) rfl sN (ones rfl) ?_
  intro w3 b3 g3
  simp only [Act.put]
  refine doneR (by kernel_rfl) ?_
  intro w4 g4
  have HB4 : Hid (Blk w4 (w.heap.size + 2) 55 [.bool (b1 != b2), .int .u64 (h : Int), .int .u64 (l : Int), .int .i64 ((s1 : Int) + (s2 : Int))]) := b3.grow g4
  have HG4 : Hid (Grow w w4) := by
    have := GW.out _ CW.out
    exact Grow.trans (Chg.below this g3 this.size (by omega)) g4
  clear b3 g3 g4 hCp
  go_wp2
  exact bodyPost_ret (res_row rfl _ (w.heap.size + 2) 55 _ _ rfl HB4.out Tryz.underlying55 rfl sN) rfl ⟨rfl, HG4.out⟩
set_option maxRecDepth 8000 in
theorem minus_of (b1 b2 b : Bool) (h1 l1 s1 h2 l2 s2 h l s : Nat) (K : Hid (∀ W, Calls Tryz.prog 24 #[.agg #[.bool b1, .int .u64 (h1 : Int), .int .u64 (l1 : Int), .int .i64 (s1 : Int)], .agg #[.bool (!b2), .int .u64 (h2 : Int), .int .u64 (l2 : Int), .int .i64 (s2 : Int)]] W fun e w' => e = .returned (.agg #[.bool b, .int .u64 (h : Int), .int .u64 (l : Int), .int .i64 (s : Int)]) ∧ Grow W w')) (w : World) :
    Calls Tryz.prog 31 #[.agg #[.bool b1, .int .u64 (h1 : Int), .int .u64 (l1 : Int), .int .i64 (s1 : Int)], .agg #[.bool b2, .int .u64 (h2 : Int), .int .u64 (l2 : Int), .int .i64 (s2 : Int)]] w fun e w' => e = .returned (.agg #[.bool b, .int .u64 (h : Int), .int .u64 (l : Int), .int .i64 (s : Int)]) ∧ Grow w w' := by
  go_enter Tryz.func31, Tryz.ntmps31
  go_wp2
  obtain ⟨w1, HW1⟩ : ∃ w1, (((w.alloc (Obj.cells #[.bool b1, .int .u64 (h1 : Int), .int .u64 (l1 : Int), .int .i64 (s1 : Int)] 55)).alloc (Obj.cells #[.bool b2, .int .u64 (h2 : Int), .int .u64 (l2 : Int), .int .i64 (s2 : Int)] 55)).alloc (Obj.cells #[.bool false, .int .u64 0, .int .u64 0, .int .i64 0] 55)) = w1 := ⟨_, rfl⟩
  obtain ⟨C, hC⟩ : ∃ C : World → Prop, C = fun W => Grow w1 W := ⟨_, rfl⟩
  have GW : Hid (∀ W, C W → Grow w W) := fun W hW => by rw [hC, ← HW1] at hW; exact Grow.trans ((((Grow.refl _).alloc _).alloc _).alloc _) hW
  have B0 : Hid (∀ W, C W → Blk W (w.heap.size) 55 [.bool b1, .int .u64 (h1 : Int), .int .u64 (l1 : Int), .int .i64 (s1 : Int)]) := fun W hW => by rw [hC, ← HW1] at hW; exact Blk.grow (Blk.alloc (Blk.alloc (blk_at rfl) _) _) hW
  have B1 : Hid (∀ W, C W → Blk W (w.heap.size + 1) 55 [.bool b2, .int .u64 (h2 : Int), .int .u64 (l2 : Int), .int .i64 (s2 : Int)]) := fun W hW => by rw [hC, ← HW1] at hW; exact Blk.grow (Blk.alloc (blk_at (by simp)) _) hW
  have B2 : Hid (∀ W, C W → Blk W (w.heap.size + 2) 55 [.bool false, .int .u64 0, .int .u64 0, .int .i64 0]) := fun W hW => by rw [hC, ← HW1] at hW; exact Blk.grow (blk_at (by simp)) hW
  have CG : Hid (∀ W W', C W → Grow W W' → C W') := fun W W' h1 h2 => by rw [hC] at h1 ⊢; exact h1.trans h2
  have CW : Hid (C { w1 with drawn := w1.drawn + 1 }) := by rw [hC]; exact (Grow.refl _).drew
  rw [HW1]
  clear HW1 hC
  refine region_grow [4] (by kernel_rfl) ?_
  generalize ({ w1 with drawn := w1.drawn + 1 } : World) = v0 at *
  have hCp : ∀ p : Prop, (∀ W, C W → p) ↔ p := fun p => ⟨fun h => h _ CW.out, fun h _ _ => h⟩
  refine segR 3 [0, 1] rfl (by kernel_rfl) whole_blind CG.out CW.out (by kernel_rfl) ?_
  change wpQuiet _ _ _ _ (_ :: _ :: []) _
  repeat (first
    | go_big_quiet_skip
    | (go_big_quiet_want
       first
       | (refine q_load 55 (.tmp 2) rfl (w.heap.size) 0 rfl _ _ (fun W hW => (B0.out W hW).all) Tryz.underlying55 rfl sN ?_
          simp only [Act.put, List.setIfInBounds_toArray, List.set_cons_zero, List.set_cons_succ]
          go_big_quiet_on)
       | (refine q_load 55 (.tmp 3) rfl (w.heap.size + 1) 0 rfl _ _ (fun W hW => (B1.out W hW).all) Tryz.underlying55 rfl sN ?_
          simp only [Act.put, List.setIfInBounds_toArray, List.set_cons_zero, List.set_cons_succ]
          go_big_quiet_on)
       | (go_big_quiet_op
          go_big_quiet_on)))
  refine wpQuiet_nil ?_
  refine callR (i := 2) 2 rfl (by kernel_rfl) whole_blind CG.out CW.out rfl (by kernel_rfl) rfl 37 _ _ _ rfl rfl #[.agg #[.bool b2, .int .u64 (h2 : Int), .int .u64 (l2 : Int), .int .i64 (s2 : Int)]] (by rw [List.map_toArray]; rfl) (enters Tryz.func37 (by kernel_rfl) rfl) _ (fun W _ => turned_any b2 h2 l2 s2 W) ?_
  simp only [Act.put, List.setIfInBounds_toArray, List.set_cons_zero, List.set_cons_succ]
  refine callR (i := 3) 1 rfl (by kernel_rfl) whole_blind CG.out CW.out rfl (by kernel_rfl) rfl 24 _ _ _ rfl rfl #[.agg #[.bool b1, .int .u64 (h1 : Int), .int .u64 (l1 : Int), .int .i64 (s1 : Int)], .agg #[.bool (!b2), .int .u64 (h2 : Int), .int .u64 (l2 : Int), .int .i64 (s2 : Int)]] (by rw [List.map_toArray]; rfl) (enters Tryz.func24 (by kernel_rfl) rfl) _ (fun W _ => K.out W) ?_
  simp only [Act.put, List.setIfInBounds_toArray, List.set_cons_zero, List.set_cons_succ]
  refine storeR (i := 4) 0 rfl (by kernel_rfl) (by simp) rfl rfl 55 _ _ rfl (w.heap.size + 2) 55 [.bool false, .int .u64 0, .int .u64 0, .int .i64 0] [.bool b, .int .u64 (h : Int), .int .u64 (l : Int), .int .i64 (s : Int)] rfl rfl (B2.out _ CW.out) rfl sN (ones rfl) ?_
  intro w3 b3 g3
  simp only [Act.put]
  refine doneR (by kernel_rfl) ?_
  intro w4 g4
  have HB4 : Hid (Blk w4 (w.heap.size + 2) 55 [.bool b, .int .u64 (h : Int), .int .u64 (l : Int), .int .i64 (s : Int)]) := b3.grow g4
  have HG4 : Hid (Grow w w4) := by
    have := GW.out _ CW.out
    exact Grow.trans (Chg.below this g3 this.size (by omega)) g4
  clear b3 g3 g4 hCp
  go_wp2
  exact bodyPost_ret (res_row rfl _ (w.heap.size + 2) 55 _ _ rfl HB4.out Tryz.underlying55 rfl sN) rfl ⟨rfl, HG4.out⟩
end Go.Proofs.YtbafmdjlnmeofaaGreatDoor
