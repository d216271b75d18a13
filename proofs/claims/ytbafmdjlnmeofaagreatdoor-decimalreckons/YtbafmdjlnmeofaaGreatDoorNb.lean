/-
  decimal's numbers: numberOf, turned, sizeAt, times.
-/
import Derived.Test.YtbafmdjlnmeofaaGreatDoorWd
namespace Go.Proofs.YtbafmdjlnmeofaaGreatDoor
open Go.RowKit
set_option linter.unusedVariables false
set_option maxRecDepth 8000 in
theorem numberOf_any (n s : Int) (A : Nat) (hA : n.natAbs = A) (b : Bool) (hb : decide (n < 0) = b) (h0 : -9223372036854775808 ≤ n) (h1 : n < 9223372036854775808) (w : World) :
    Calls Tryz.prog 36 #[.int .i64 n, .int .i64 s] w fun e w' => e = .returned (.agg #[.bool b, .int .u64 0, .int .u64 (A : Int), .int .i64 s]) ∧ Grow w w' := by
  cases b
  · have hn : ¬ n < 0 := by simpa using hb
    have e : n = (A : Int) := by omega
    subst e
    clear hb hA
    go_enter Tryz.func36, Tryz.ntmps36
    go_wp2
    exact bodyPost_ret (res_row rfl _ w.heap.size 55 _ _ rfl (blk_at rfl) Tryz.underlying55 rfl sN) rfl ⟨rfl, (Grow.refl _).alloc _⟩
  · have hn : n < 0 := by simpa using hb
    have e : IntKind.u64.wrap (-IntKind.u64.wrap n) = (A : Int) := by simp only [IntKind.wrap_u64]; omega
    clear hb hA
    go_enter Tryz.func36, Tryz.ntmps36
    go_wp2
    exact bodyPost_ret (res_row rfl _ w.heap.size 55 _ _ rfl (blk_at rfl) Tryz.underlying55 rfl sN) rfl ⟨rfl, (Grow.refl _).alloc _⟩
theorem turned_any (b : Bool) (h l : Nat) (s : Int) (w : World) :
    Calls Tryz.prog 37 #[.agg #[.bool b, .int .u64 (h : Int), .int .u64 (l : Int), .int .i64 s]] w fun e w' => e = .returned (.agg #[.bool (!b), .int .u64 (h : Int), .int .u64 (l : Int), .int .i64 s]) ∧ Grow w w' := by
  go_enter Tryz.func37, Tryz.ntmps37
  go_wp2
  exact bodyPost_ret (res_row rfl _ (w.heap.size + 1) 55 _ _ rfl (blk_at (by simp)) Tryz.underlying55 rfl sN) rfl ⟨rfl, ((Grow.refl _).alloc _).alloc _⟩
/-- A load of one cell. -/
theorem q_one {C : World → Prop} {a : Act} {o : Oper} {K : Act → Prop} (T : TypeId) (hT : T = 3 ∨ T = 51 ∨ T = 4) (x : Operand) (ho : o.op = .load T x) (b k : Nat) (hx : a.eval x = .pointer (some ⟨b, k, none⟩)) (v : Value) (hS : ∀ w, C w → w.cell? ⟨b, k, none⟩ = some v)
    (hk : K (a.put o.dst v)) : o.quiet Tryz.prog a C K :=
  ⟨_, fun w hw => by
    have h := hS w hw
    unfold Oper.quietAt execOp
    rcases hT with rfl | rfl | rfl <;> simp only [ho, hx] <;> go_simp, hk⟩
set_option maxRecDepth 8000 in
theorem sizeAt_any (b : Bool) (h l s S d : Nat) (hd : S = s + d) (h18 : d ≤ 18) (hS : S < 4294967296) (hl : l < 18446744073709551616) (h' l' : Nat) (hw : Wd h' l' (l * 10 ^ d)) (w : World) :
    Calls Tryz.prog 54 #[.agg #[.bool b, .int .u64 (h : Int), .int .u64 (l : Int), .int .i64 (s : Int)], .int .i64 (S : Int)] w fun e w' => e = .returned (.agg #[.int .u64 (h' : Int), .int .u64 (l' : Int)]) ∧ Grow w w' := by
  have tb : (10 ^ d : Nat) < 18446744073709551616 := Nat.lt_of_le_of_lt (pow_le h18) (by decide)
  have k1 := fun W => tensD d h18 W
  have k2 := fun W => product_any l (10 ^ d) h' l' hl tb hw W
  generalize 10 ^ d = T at *
  have K1 : Hid (∀ W, Calls Tryz.prog 52 #[.int .i64 (d : Int)] W fun e w' => e = .returned (.int .u64 (T : Int)) ∧ Grow W w') := fun W => (k1 W).mono fun e w' ⟨he, hw⟩ => ⟨he, by rw [hw]; exact Grow.refl _⟩
  have K2 : Hid (∀ W, Calls Tryz.prog 50 #[.int .u64 (l : Int), .int .u64 (T : Int)] W fun e w' => e = .returned (.agg #[.int .u64 (h' : Int), .int .u64 (l' : Int)]) ∧ Grow W w') := k2
  have e1 : (S : Int) - (s : Int) = (d : Int) := by omega
  clear k1 k2 tb hw hl hd h18
  go_enter Tryz.func54, Tryz.ntmps54
  go_wp2
  obtain ⟨w1, HW1⟩ : ∃ w1, ((w.alloc (Obj.cells #[Value.bool b, Value.int IntKind.u64 (h : Int), Value.int IntKind.u64 (l : Int), Value.int IntKind.i64 (s : Int)] 55)).alloc (Obj.cells #[Value.int IntKind.u64 0, Value.int IntKind.u64 0] 53)) = w1 := ⟨_, rfl⟩
  obtain ⟨C, hC⟩ : ∃ C : World → Prop, C = fun W => Grow w1 W := ⟨_, rfl⟩
  have B1 : Blk w1 w.heap.size 55 [.bool b, .int .u64 (h : Int), .int .u64 (l : Int), .int .i64 (s : Int)] := by rw [← HW1]; exact (blk_at rfl).alloc _
  have B2 : Blk w1 (w.heap.size + 1) 53 [.int .u64 0, .int .u64 0] := by rw [← HW1]; exact blk_at (by simp)
  have G1 : Hid (Grow w w1) := by rw [← HW1]; exact ((Grow.refl _).alloc _).alloc _
  have c1 : Hid (∀ W, C W → W.cell? ⟨w.heap.size, 2, none⟩ = some (.int .u64 (l : Int))) := fun W hW => by rw [hC] at hW; rw [(B1.grow hW).cell]; rfl
  have c2 : Hid (∀ W, C W → W.cell? ⟨w.heap.size, 3, none⟩ = some (.int .i64 (s : Int))) := fun W hW => by rw [hC] at hW; rw [(B1.grow hW).cell]; rfl
  have c3 : Hid (∀ W, C W → Blk W (w.heap.size + 1) 53 [.int .u64 0, .int .u64 0] ∧ Grow w W) := fun W hW => by rw [hC] at hW; exact ⟨B2.grow hW, G1.out.trans hW⟩
  have CG : Hid (∀ W W', C W → Grow W W' → C W') := fun W W' h1 h2 => by rw [hC] at h1 ⊢; exact h1.trans h2
  have CW : Hid (C { w1 with drawn := w1.drawn + 1 }) := by rw [hC]; exact (Grow.refl _).drew
  rw [HW1]
  clear HW1 hC B1 B2 G1
  refine region_grow [9] (by kernel_rfl) ?_
  generalize ({ w1 with drawn := w1.drawn + 1 } : World) = v0 at *
  have hCp : ∀ p : Prop, (∀ W, C W → p) ↔ p := fun p => ⟨fun h => h _ CW.out, fun h _ _ => h⟩
  refine segR 3 [0, 1, 2, 3, 4, 5, 6] rfl (by kernel_rfl) whole_blind CG.out CW.out (by kernel_rfl) ?_
  change wpQuiet _ _ _ _ (_ :: _ :: _ :: _ :: _ :: _ :: _ :: []) _
  repeat (first
    | go_big_quiet_skip
    | (go_big_quiet_want
       first
       | (refine q_one 51 (.inr (.inl rfl)) (.tmp 6) rfl w.heap.size 2 rfl _ c1.out ?_
          simp only [Act.put, List.setIfInBounds_toArray, List.set_cons_zero, List.set_cons_succ]
          go_big_quiet_on)
       | (refine q_one 3 (.inl rfl) (.tmp 9) rfl w.heap.size 3 rfl _ c2.out ?_
          simp only [Act.put, List.setIfInBounds_toArray, List.set_cons_zero, List.set_cons_succ]
          go_big_quiet_on)
       | (go_big_quiet_op
          go_big_quiet_on)))
  refine wpQuiet_nil ?_
  refine callR (i := 7) 2 rfl (by kernel_rfl) whole_blind CG.out CW.out rfl (by kernel_rfl) rfl 52 _ _ _ rfl rfl #[.int .i64 (d : Int)] (by rw [List.map_toArray]; rfl) (enters Tryz.func52 (by kernel_rfl) rfl) _ (fun W _ => K1.out W) ?_
  simp only [Act.put, List.setIfInBounds_toArray, List.set_cons_zero, List.set_cons_succ]
  refine callR (i := 8) 1 rfl (by kernel_rfl) whole_blind CG.out CW.out rfl (by kernel_rfl) rfl 50 _ _ _ rfl rfl #[.int .u64 (l : Int), .int .u64 (T : Int)] (by rw [List.map_toArray]; rfl) (enters Tryz.func50 (by kernel_rfl) rfl) _ (fun W _ => K2.out W) ?_
  simp only [Act.put, List.setIfInBounds_toArray, List.set_cons_zero, List.set_cons_succ]
  refine storeR (i := 9) 0 rfl (by kernel_rfl) (by simp) rfl rfl 53 _ _ rfl (w.heap.size + 1) 53 [.int .u64 0, .int .u64 0] [.int .u64 (h' : Int), .int .u64 (l' : Int)] rfl rfl (c3.out _ CW.out).1 rfl sW (ones rfl) ?_
  intro w3 b3 g3
  refine doneR (by kernel_rfl) ?_
  intro w4 g4
  have HB4 : Hid (Blk w4 (w.heap.size + 1) 53 [.int .u64 (h' : Int), .int .u64 (l' : Int)]) := b3.grow g4
  have HG4 : Hid (Grow w w4) := by
    have := c3.out _ CW.out
    exact Grow.trans (Chg.below this.2 g3 this.2.size (by omega)) g4
  clear b3 g3 g4 hCp
  simp only [Act.put]
  go_wp2
  exact bodyPost_ret (res_row rfl _ (w.heap.size + 1) 53 _ _ rfl HB4.out Tryz.underlying53 rfl sW) rfl ⟨rfl, HG4.out⟩
end Go.Proofs.YtbafmdjlnmeofaaGreatDoor
