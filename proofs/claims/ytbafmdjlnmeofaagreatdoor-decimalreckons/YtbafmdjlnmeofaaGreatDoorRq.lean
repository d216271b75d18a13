/-
  The document's own sums, differences, products, and turned round: their walks.
-/
import Derived.Test.YtbafmdjlnmeofaaGreatDoorRb
import Derived.Test.YtbafmdjlnmeofaaGreatDoorOrh
import Derived.Test.YtbafmdjlnmeofaaGreatDoorRa
import Derived.Test.YtbafmdjlnmeofaaGreatDoorRc
import Derived.Test.YtbafmdjlnmeofaaGreatDoorKn
import Derived.Test.YtbafmdjlnmeofaaGreatDoorNuz
namespace Go.Proofs.YtbafmdjlnmeofaaGreatDoor
open Go.RowKit
set_option linter.unusedVariables false
theorem sB : (Tryz.prog.info? 4).map (·.size) = some 1 := by kernel_rfl
theorem oper_one {o : Oper} {a : Act} {w : World} {K : Act → World → Prop} {Q : Exit → Act → World → Prop} (x : Operand) (ho : o.op = .load 3 x) (b k : Nat) (hx : a.eval x = .pointer (some ⟨b, k, none⟩)) (v : Value) (hS : w.cell? ⟨b, k, none⟩ = some v)
    (h : K (a.put o.dst v) w) : Oper.wp Tryz.prog o a w K Q := by
  unfold Oper.wp execOp
  simp only [ho, hx]
  go_simp
  exact h
set_option maxRecDepth 8000 in
set_option maxHeartbeats 1000000 in
theorem negR (k1 n1 : Int) (s1 : Nat) (na1 : Option Addr) (nc1 : Nat) (ka1 : Option Addr) (kc1 : Nat) (A1 : Nat) (b1 : Bool) (O1 : Hid (∀ W, Calls Tryz.prog 26 #[.int .i64 n1] W fun e w' => e = .returned (.agg #[.int .u64 0, .int .u64 (A1 : Int), .bool b1]) ∧ Grow W w')) (w : World) :
    Calls Tryz.prog 32 #[.agg #[.int .i64 k1, .int .i64 n1, .int .i64 (s1 : Int), .string ⟨#[]⟩, .slice na1 0 nc1, .slice ka1 0 kc1]] w fun e w' => e = .returned (.tuple #[.agg #[.int .u64 0, .int .u64 (A1 : Int), .bool (!b1)], .int .i64 (s1 : Int)]) ∧ Grow w w' := by
  go_enter Tryz.func32, Tryz.ntmps32
  go_wp2_with fail
  obtain ⟨w1, HW1, H0⟩ : ∃ w1, ((w.alloc (Obj.cells #[.int .i64 k1, .int .i64 n1, .int .i64 (s1 : Int), .string ⟨#[]⟩, .slice na1 0 nc1, .slice ka1 0 kc1] 25)).alloc (Obj.cells #[.int .u64 0, .int .u64 0, .bool false] 57)) = w1 ∧ Hid (Blk w1 (w.heap.size) 25 [.int .i64 k1, .int .i64 n1, .int .i64 (s1 : Int), .string ⟨#[]⟩, .slice na1 0 nc1, .slice ka1 0 kc1] ∧ Blk w1 (w.heap.size + 1) 57 [.int .u64 0, .int .u64 0, .bool false] ∧ Grow w w1) := ⟨_, rfl, (Blk.alloc (blk_at rfl) _), (blk_at (by simp)), (((Grow.refl _).alloc _).alloc _)⟩
  rw [HW1]
  clear HW1
  refine (O1.out _).mono ?_
  rintro e w2 ⟨rfl, g0⟩
  have H1 : Hid (Blk w2 (w.heap.size) 25 [.int .i64 k1, .int .i64 n1, .int .i64 (s1 : Int), .string ⟨#[]⟩, .slice na1 0 nc1, .slice ka1 0 kc1] ∧ Blk w2 (w.heap.size + 1) 57 [.int .u64 0, .int .u64 0, .bool false] ∧ Grow w w2) := ⟨(H0.out.1).grow g0, (H0.out.2.1).grow g0, Grow.trans (H0.out.2.2) g0⟩
  clear H0 g0
  go_wp2_with (refine al_zero rfl 57 rfl [.int .u64 0, .int .u64 0, .bool false] zR ?_)
  intro bv vv1 ss1 zz1 xx1
  go_wp2_with (refine st_all rfl 57 (.tmp 4) (.tmp 7) rfl bv 57 [.int .u64 0, .int .u64 0, .bool false] [.int .u64 0, .int .u64 (A1 : Int), .bool b1] rfl rfl zz1 rfl sR (ones rfl) ?_)
  intro w3 yy1 mm1
  have lt_bv_0 : w.heap.size < bv := by have := (H1.out.1).lt; omega
  have lt_bv_1 : w.heap.size + 1 < bv := by have := (H1.out.2.1).lt; omega
  have H2 : Hid (Blk w3 (w.heap.size) 25 [.int .i64 k1, .int .i64 n1, .int .i64 (s1 : Int), .string ⟨#[]⟩, .slice na1 0 nc1, .slice ka1 0 kc1] ∧ Blk w3 (w.heap.size + 1) 57 [.int .u64 0, .int .u64 0, .bool false] ∧ Blk w3 (bv) 57 [.int .u64 0, .int .u64 (A1 : Int), .bool b1] ∧ Grow w w3) := ⟨(((H1.out.1).kept xx1 (by simp)).kept mm1 (by intro e; injection e with e; have := (H1.out.1).lt; omega)), (((H1.out.2.1).kept xx1 (by simp)).kept mm1 (by intro e; injection e with e; have := (H1.out.2.1).lt; omega)), yy1, (by have x1 := H1.out.2.2; have x2 : Below w.heap.size w vv1 := Below.grown x1 xx1 x1.size (by intro e he; cases he); exact Below.grown x2 mm1 x2.size (by intro e he; injection he with he; have := x1.size; omega))⟩
  clear H1 ss1 zz1 xx1 yy1 mm1
  have q2_0 : w3.cell? ⟨bv, 0, none⟩ = some (.int .u64 0) := (H2.out.2.2.1).cell 0
  have q2_1 : w3.cell? ⟨bv, 1, none⟩ = some (.int .u64 (A1 : Int)) := (H2.out.2.2.1).cell 1
  have q2_2 : w3.cell? ⟨bv, 2, none⟩ = some (.bool b1) := (H2.out.2.2.1).cell 2
  go_wp2_with ((with_reducible refine st_pre (.tmp 11) (.tmp 10) ?_); refine st_one rfl 4 (.tmp 11) (.tmp 10) rfl (bv) 2 57 [.int .u64 0, .int .u64 (A1 : Int), .bool b1] (.bool (!b1)) rfl rfl rfl rfl (by simp) H2.out.2.2.1 sB ?_)
  intro w4 yy2 mm2
  have H3 : Hid (Blk w4 (w.heap.size) 25 [.int .i64 k1, .int .i64 n1, .int .i64 (s1 : Int), .string ⟨#[]⟩, .slice na1 0 nc1, .slice ka1 0 kc1] ∧ Blk w4 (w.heap.size + 1) 57 [.int .u64 0, .int .u64 0, .bool false] ∧ Blk w4 (bv) 57 [.int .u64 0, .int .u64 (A1 : Int), .bool (!b1)] ∧ Grow w w4) := ⟨((H2.out.1).kept mm2 (by intro e; injection e with e; omega)), ((H2.out.2.1).kept mm2 (by intro e; injection e with e; omega)), yy2, (Below.grown (H2.out.2.2.2) mm2 (Below.size (H2.out.2.2.2)) (by intro e he; injection he with he; omega))⟩
  clear H2 yy2 mm2
  clear q2_0 q2_1 q2_2
  go_wp2
  obtain ⟨C, hC⟩ : ∃ C : World → Prop, C = fun W => Grow w4 W := ⟨_, rfl⟩
  have GW : Hid (∀ W, C W → Grow w W) := fun W hW => by rw [hC] at hW; exact Grow.trans (H3.out.2.2.2) hW
  have B0 : Hid (∀ W, C W → Blk W (w.heap.size) 25 [.int .i64 k1, .int .i64 n1, .int .i64 (s1 : Int), .string ⟨#[]⟩, .slice na1 0 nc1, .slice ka1 0 kc1]) := fun W hW => by rw [hC] at hW; exact Blk.grow (H3.out.1) hW
  have B1 : Hid (∀ W, C W → Blk W (w.heap.size + 1) 57 [.int .u64 0, .int .u64 0, .bool false]) := fun W hW => by rw [hC] at hW; exact Blk.grow (H3.out.2.1) hW
  have B2 : Hid (∀ W, C W → Blk W (bv) 57 [.int .u64 0, .int .u64 (A1 : Int), .bool (!b1)]) := fun W hW => by rw [hC] at hW; exact Blk.grow (H3.out.2.2.1) hW
  have CG : Hid (∀ W W', C W → Grow W W' → C W') := fun W W' h1 h2 => by rw [hC] at h1 ⊢; exact h1.trans h2
  have CW : Hid (C { w4 with drawn := w4.drawn + 1 }) := by rw [hC]; exact (Grow.refl _).drew
  clear hC
  clear H3
  refine region_grow [3] (by kernel_rfl) ?_
  generalize ({ w4 with drawn := w4.drawn + 1 } : World) = v0 at *
  have hCp : ∀ p : Prop, (∀ W, C W → p) ↔ p := fun p => ⟨fun h => h _ CW.out, fun h _ _ => h⟩
  refine segR 4 [0] rfl (by kernel_rfl) whole_blind CG.out CW.out (by decide +kernel) ?_
  change wpQuiet _ _ _ _ (_ :: []) _
  repeat (first
    | go_big_quiet_skip
    | (go_big_quiet_want
       first
       | (refine q_load 57 (.tmp 4) rfl bv 0 rfl _ _ (fun W hW => (B2.out W hW).all) Tryz.underlying57 rfl sR ?_
          simp only [Act.put, List.setIfInBounds_toArray, List.set_cons_zero, List.set_cons_succ]
          go_big_quiet_on)
       | (go_big_quiet_op
          go_big_quiet_on)))
  refine wpQuiet_nil ?_
  have hCq := anyw_p v0
  refine segF 3 [1] rfl (by kernel_rfl) whole_blind (by decide +kernel) ?_
  change wpQuiet _ _ _ _ (_ :: []) _
  repeat (first
    | go_big_quiet_skip
    | (go_big_quiet_want
       first
       | (go_big_quiet_op
          go_big_quiet_on)))
  refine wpQuiet_nil ?_
  clear hCq
  refine one_ofR 2 rfl [2, 3] (by kernel_rfl) (by simp) fun j hj => ?_
  rcases (show j = 2 ∨ j = 3 by simpa using hj) with rfl | rfl
  · refine ⟨_, rfl, rfl, fun w' hg K hK => ?_⟩
    have D1 := (B1.out _ CW.out).grow hg
    refine oper_one (.tmp 13) rfl w.heap.size 2 rfl (.int .i64 (s1 : Int)) (by rw [((B0.out _ CW.out).grow hg).cell]; rfl) (hK _ _ (.inr (Grow.refl _)) ?_)
    clear hK
    simp only [Act.put, List.setIfInBounds_toArray, List.set_cons_zero, List.set_cons_succ]
    refine storeR (i := 3) 1 rfl (by kernel_rfl) (by simp) rfl rfl 57 _ _ rfl (w.heap.size + 1) 57 [.int .u64 0, .int .u64 0, .bool false] [.int .u64 0, .int .u64 (A1 : Int), .bool (!b1)] rfl rfl D1 rfl sR (ones rfl) ?_
    intro vb Bb gb
    clear D1
    simp only [Act.put]
    refine loneR (C := Grow vb) (i := 4) 0 rfl (by kernel_rfl) rfl rfl (fun _ _ a b => Grow.trans a b) (Grow.refl _) ?_
    repeat (first | go_big_quiet_skip | (go_big_quiet_want; go_big_quiet_op; go_big_quiet_on))
    refine wpQuiet_nil ?_
    refine doneR (by kernel_rfl) ?_
    intro w9 gc
    have HB : Hid (Blk w9 (w.heap.size + 1) 57 [.int .u64 0, .int .u64 (A1 : Int), .bool (!b1)]) := Bb.grow gc
    have HG : Hid (Grow w w9) := by
      have x0 := (GW.out _ CW.out).trans hg
      have x2 : Below w.heap.size w vb := Chg.below x0 gb x0.size (by omega)
      exact Grow.trans x2 gc
    clear CW CG GW B0 B1 B2 hCp Bb gb gc hg
    go_wp2
    exact bodyPost_ret (res_two rfl _ (w.heap.size + 1) 57 _ _ rfl HB.out Tryz.underlying57 rfl sR) rfl ⟨rfl, HG.out⟩
  · refine ⟨_, rfl, rfl, fun w' hg K hK => ?_⟩
    have D1 := (B1.out _ CW.out).grow hg
    have D0 := (B0.out _ CW.out).grow hg
    refine oper_row 57 _ _ rfl (w.heap.size + 1) 0 57 [] [.int .u64 0, .int .u64 0, .bool false] [] [.int .u64 0, .int .u64 (A1 : Int), .bool (!b1)] rfl rfl rfl (by simpa using D1) rfl sR (ones rfl) fun vb b5 gb => hK _ _ (.inl (by simp)) ?_
    clear hK
    have Bb : Blk vb (w.heap.size + 1) 57 [.int .u64 0, .int .u64 (A1 : Int), .bool (!b1)] := by simpa using b5
    have D2 : Blk vb w.heap.size 25 [.int .i64 k1, .int .i64 n1, .int .i64 (s1 : Int), .string ⟨#[]⟩, .slice na1 0 nc1, .slice ka1 0 kc1] := D0.kept gb (by intro e; injection e with e; omega)
    clear b5 D0 D1
    simp only [Act.put]
    have hCr : ∀ p : Prop, (∀ W, Grow vb W → p) ↔ p := fun p => ⟨fun h => h _ (Grow.refl _), fun h _ _ => h⟩
    refine loneR (C := Grow vb) (i := 2) 1 rfl (by kernel_rfl) rfl rfl (fun _ _ a b => Grow.trans a b) (Grow.refl _) ?_
    repeat (first
      | go_big_quiet_skip
      | (go_big_quiet_want
         first
         | (refine q_one 3 (.inl rfl) (.tmp 13) rfl w.heap.size 2 rfl (.int .i64 (s1 : Int)) (fun W hW => by rw [(D2.grow hW).cell]; rfl) ?_
            simp only [Act.put, List.setIfInBounds_toArray, List.set_cons_zero, List.set_cons_succ]
            go_big_quiet_on)
         | (go_big_quiet_op
            go_big_quiet_on)))
    refine wpQuiet_nil ?_
    clear D2
    refine loneR (C := Grow vb) (i := 4) 0 rfl (by kernel_rfl) rfl rfl (fun _ _ a b => Grow.trans a b) (Grow.refl _) ?_
    repeat (first | go_big_quiet_skip | (go_big_quiet_want; go_big_quiet_op; go_big_quiet_on))
    refine wpQuiet_nil ?_
    clear hCr
    refine doneR (by kernel_rfl) ?_
    intro w9 gc
    have HB : Hid (Blk w9 (w.heap.size + 1) 57 [.int .u64 0, .int .u64 (A1 : Int), .bool (!b1)]) := Bb.grow gc
    have HG : Hid (Grow w w9) := by
      have x0 := (GW.out _ CW.out).trans hg
      have x2 : Below w.heap.size w vb := Below.grown x0 gb x0.size (by intro e he; injection he with he; omega)
      exact Grow.trans x2 gc
    clear CW CG GW B0 B1 B2 hCp Bb gb gc hg
    go_wp2
    exact bodyPost_ret (res_two rfl _ (w.heap.size + 1) 57 _ _ rfl HB.out Tryz.underlying57 rfl sR) rfl ⟨rfl, HG.out⟩
set_option maxRecDepth 8000 in
set_option maxHeartbeats 1000000 in
theorem addR_yes (k1 n1 : Int) (s1 : Nat) (na1 : Option Addr) (nc1 : Nat) (ka1 : Option Addr) (kc1 : Nat) (k2 n2 : Int) (s2 : Nat) (na2 : Option Addr) (nc2 : Nat) (ka2 : Option Addr) (kc2 : Nat) (S A1 A2 P1 P2 ha la hb lb h l : Nat) (b1 b2 b : Bool) (r : Rs) (q1 : s1 ≤ S) (q2 : s2 ≤ S) (q3 : S ≤ 18) (HM : Hid (∀ ats ty W, (Builtin.max_ ats ty #[.int .i64 (s1 : Int), .int .i64 (s2 : Int)]).run Tryz.prog W = .ok (.int .i64 (S : Int)) W)) 
    (K1 : Hid (∀ W, Calls Tryz.prog 25 #[.agg #[.int .i64 k1, .int .i64 n1, .int .i64 (s1 : Int), .string ⟨#[]⟩, .slice na1 0 nc1, .slice ka1 0 kc1]] W fun e w' => e = .returned (.bool true) ∧ Grow W w'))
    (K2 : Hid (∀ W, Calls Tryz.prog 25 #[.agg #[.int .i64 k2, .int .i64 n2, .int .i64 (s2 : Int), .string ⟨#[]⟩, .slice na2 0 nc2, .slice ka2 0 kc2]] W fun e w' => e = .returned (.bool true) ∧ Grow W w'))
    (O1 : Hid (∀ W, Calls Tryz.prog 26 #[.int .i64 n1] W fun e w' => e = .returned (.agg #[.int .u64 0, .int .u64 (A1 : Int), .bool b1]) ∧ Grow W w'))
    (T1 : Hid (∀ W, Calls Tryz.prog 28 #[.int .i64 ((S : Int) - (s1 : Int))] W fun e w' => e = .returned (.int .u64 (P1 : Int)) ∧ Grow W w'))
    (Y1 : Hid (∀ W, Calls Tryz.prog 27 #[.agg #[.int .u64 0, .int .u64 (A1 : Int), .bool b1], .int .u64 (P1 : Int)] W fun e w' => e = .returned (.tuple #[.agg #[.int .u64 (ha : Int), .int .u64 (la : Int), .bool b1], .bool true]) ∧ Grow W w'))
    (T2 : Hid (∀ W, Calls Tryz.prog 28 #[.int .i64 ((S : Int) - (s2 : Int))] W fun e w' => e = .returned (.int .u64 (P2 : Int)) ∧ Grow W w'))
    (Y2 : Hid (∀ W, Calls Tryz.prog 27 #[.agg #[.int .u64 0, .int .u64 (A2 : Int), .bool b2], .int .u64 (P2 : Int)] W fun e w' => e = .returned (.tuple #[.agg #[.int .u64 (hb : Int), .int .u64 (lb : Int), .bool b2], .bool true]) ∧ Grow W w'))
    (D : Hid (∀ W, Calls Tryz.prog 29 #[.agg #[.int .u64 (ha : Int), .int .u64 (la : Int), .bool b1], .agg #[.int .u64 (hb : Int), .int .u64 (lb : Int), .bool b2]] W fun e w' => e = .returned (.tuple #[.agg #[.int .u64 (h : Int), .int .u64 (l : Int), .bool b], .bool true]) ∧ Grow W w'))
    (L : Hid (∀ W, Calls Tryz.prog 30 #[.agg #[.int .u64 (h : Int), .int .u64 (l : Int), .bool b], .int .i64 (S : Int)] W fun e w' => e = .returned (.tuple #[.agg #[.int .i64 r.k, .int .i64 r.n, .int .i64 r.s, .string ⟨#[]⟩, .slice none 0 0, .slice none 0 0], .int .i64 r.e]) ∧ Grow W w'))
    (O2 : Hid (∀ W, Calls Tryz.prog 26 #[.int .i64 n2] W fun e w' => e = .returned (.agg #[.int .u64 0, .int .u64 (A2 : Int), .bool b2]) ∧ Grow W w')) (w : World) :
    Calls Tryz.prog 7 #[.agg #[.int .i64 k1, .int .i64 n1, .int .i64 (s1 : Int), .string ⟨#[]⟩, .slice na1 0 nc1, .slice ka1 0 kc1], .agg #[.int .i64 k2, .int .i64 n2, .int .i64 (s2 : Int), .string ⟨#[]⟩, .slice na2 0 nc2, .slice ka2 0 kc2]] w fun e w' => e = .returned (.tuple #[.agg #[.int .i64 r.k, .int .i64 r.n, .int .i64 r.s, .string ⟨#[]⟩, .slice none 0 0, .slice none 0 0], .int .i64 r.e]) ∧ Grow w w' := by
  go_enter Tryz.func7, Tryz.ntmps7
  go_wp2_with fail
  obtain ⟨w1, HW1, H0⟩ : ∃ w1, (((w.alloc (Obj.cells #[.int .i64 k1, .int .i64 n1, .int .i64 (s1 : Int), .string ⟨#[]⟩, .slice na1 0 nc1, .slice ka1 0 kc1] 25)).alloc (Obj.cells #[.int .i64 k2, .int .i64 n2, .int .i64 (s2 : Int), .string ⟨#[]⟩, .slice na2 0 nc2, .slice ka2 0 kc2] 25)).alloc (Obj.cells #[.int .i64 0, .int .i64 0, .int .i64 0, .string ⟨#[]⟩, .slice none 0 0, .slice none 0 0] 25)) = w1 ∧ Hid (Blk w1 (w.heap.size) 25 [.int .i64 k1, .int .i64 n1, .int .i64 (s1 : Int), .string ⟨#[]⟩, .slice na1 0 nc1, .slice ka1 0 kc1] ∧ Blk w1 (w.heap.size + 1) 25 [.int .i64 k2, .int .i64 n2, .int .i64 (s2 : Int), .string ⟨#[]⟩, .slice na2 0 nc2, .slice ka2 0 kc2] ∧ Blk w1 (w.heap.size + 2) 25 [.int .i64 0, .int .i64 0, .int .i64 0, .string ⟨#[]⟩, .slice none 0 0, .slice none 0 0] ∧ Grow w w1) := ⟨_, rfl, (Blk.alloc (Blk.alloc (blk_at rfl) _) _), (Blk.alloc (blk_at (by simp)) _), (blk_at (by simp)), ((((Grow.refl _).alloc _).alloc _).alloc _)⟩
  rw [HW1]
  clear HW1
  refine (K1.out _).mono ?_
  rintro e w2 ⟨rfl, g0⟩
  have H1 : Hid (Blk w2 (w.heap.size) 25 [.int .i64 k1, .int .i64 n1, .int .i64 (s1 : Int), .string ⟨#[]⟩, .slice na1 0 nc1, .slice ka1 0 kc1] ∧ Blk w2 (w.heap.size + 1) 25 [.int .i64 k2, .int .i64 n2, .int .i64 (s2 : Int), .string ⟨#[]⟩, .slice na2 0 nc2, .slice ka2 0 kc2] ∧ Blk w2 (w.heap.size + 2) 25 [.int .i64 0, .int .i64 0, .int .i64 0, .string ⟨#[]⟩, .slice none 0 0, .slice none 0 0] ∧ Grow w w2) := ⟨(H0.out.1).grow g0, (H0.out.2.1).grow g0, (H0.out.2.2.1).grow g0, Grow.trans (H0.out.2.2.2) g0⟩
  clear H0 g0
  have q1_0 : w2.cell? ⟨w.heap.size + 1, 0, none⟩ = some (.int .i64 k2) := (H1.out.2.1).cell 0
  have q1_1 : w2.cell? ⟨w.heap.size + 1, 1, none⟩ = some (.int .i64 n2) := (H1.out.2.1).cell 1
  have q1_2 : w2.cell? ⟨w.heap.size + 1, 2, none⟩ = some (.int .i64 (s2 : Int)) := (H1.out.2.1).cell 2
  have q1_3 : w2.cell? ⟨w.heap.size + 1, 3, none⟩ = some (.string ⟨#[]⟩) := (H1.out.2.1).cell 3
  have q1_4 : w2.cell? ⟨w.heap.size + 1, 4, none⟩ = some (.slice na2 0 nc2) := (H1.out.2.1).cell 4
  have q1_5 : w2.cell? ⟨w.heap.size + 1, 5, none⟩ = some (.slice ka2 0 kc2) := (H1.out.2.1).cell 5
  go_wp2_with fail
  clear q1_0 q1_1 q1_2 q1_3 q1_4 q1_5
  refine (K2.out _).mono ?_
  rintro e w3 ⟨rfl, g1⟩
  have H2 : Hid (Blk w3 (w.heap.size) 25 [.int .i64 k1, .int .i64 n1, .int .i64 (s1 : Int), .string ⟨#[]⟩, .slice na1 0 nc1, .slice ka1 0 kc1] ∧ Blk w3 (w.heap.size + 1) 25 [.int .i64 k2, .int .i64 n2, .int .i64 (s2 : Int), .string ⟨#[]⟩, .slice na2 0 nc2, .slice ka2 0 kc2] ∧ Blk w3 (w.heap.size + 2) 25 [.int .i64 0, .int .i64 0, .int .i64 0, .string ⟨#[]⟩, .slice none 0 0, .slice none 0 0] ∧ Grow w w3) := ⟨(H1.out.1).grow g1, (H1.out.2.1).grow g1, (H1.out.2.2.1).grow g1, Grow.trans (H1.out.2.2.2) g1⟩
  clear H1 g1
  have hm := HM.out
  clear HM
  have q0_0 : w3.cell? ⟨w.heap.size, 0, none⟩ = some (.int .i64 k1) := (H2.out.1).cell 0
  have q0_1 : w3.cell? ⟨w.heap.size, 1, none⟩ = some (.int .i64 n1) := (H2.out.1).cell 1
  have q0_2 : w3.cell? ⟨w.heap.size, 2, none⟩ = some (.int .i64 (s1 : Int)) := (H2.out.1).cell 2
  have q0_3 : w3.cell? ⟨w.heap.size, 3, none⟩ = some (.string ⟨#[]⟩) := (H2.out.1).cell 3
  have q0_4 : w3.cell? ⟨w.heap.size, 4, none⟩ = some (.slice na1 0 nc1) := (H2.out.1).cell 4
  have q0_5 : w3.cell? ⟨w.heap.size, 5, none⟩ = some (.slice ka1 0 kc1) := (H2.out.1).cell 5
  have q1_0 : w3.cell? ⟨w.heap.size + 1, 0, none⟩ = some (.int .i64 k2) := (H2.out.2.1).cell 0
  have q1_1 : w3.cell? ⟨w.heap.size + 1, 1, none⟩ = some (.int .i64 n2) := (H2.out.2.1).cell 1
  have q1_2 : w3.cell? ⟨w.heap.size + 1, 2, none⟩ = some (.int .i64 (s2 : Int)) := (H2.out.2.1).cell 2
  have q1_3 : w3.cell? ⟨w.heap.size + 1, 3, none⟩ = some (.string ⟨#[]⟩) := (H2.out.2.1).cell 3
  have q1_4 : w3.cell? ⟨w.heap.size + 1, 4, none⟩ = some (.slice na2 0 nc2) := (H2.out.2.1).cell 4
  have q1_5 : w3.cell? ⟨w.heap.size + 1, 5, none⟩ = some (.slice ka2 0 kc2) := (H2.out.2.1).cell 5
  go_wp2
  clear q0_0 q0_1 q0_2 q0_3 q0_4 q0_5 q1_0 q1_1 q1_2 q1_3 q1_4 q1_5
  clear hm
  obtain ⟨C, hC⟩ : ∃ C : World → Prop, C = fun W => Grow w3 W := ⟨_, rfl⟩
  have GW : Hid (∀ W, C W → Grow w W) := fun W hW => by rw [hC] at hW; exact Grow.trans (H2.out.2.2.2) hW
  have B0 : Hid (∀ W, C W → Blk W (w.heap.size) 25 [.int .i64 k1, .int .i64 n1, .int .i64 (s1 : Int), .string ⟨#[]⟩, .slice na1 0 nc1, .slice ka1 0 kc1]) := fun W hW => by rw [hC] at hW; exact Blk.grow (H2.out.1) hW
  have B1 : Hid (∀ W, C W → Blk W (w.heap.size + 1) 25 [.int .i64 k2, .int .i64 n2, .int .i64 (s2 : Int), .string ⟨#[]⟩, .slice na2 0 nc2, .slice ka2 0 kc2]) := fun W hW => by rw [hC] at hW; exact Blk.grow (H2.out.2.1) hW
  have B2 : Hid (∀ W, C W → Blk W (w.heap.size + 2) 25 [.int .i64 0, .int .i64 0, .int .i64 0, .string ⟨#[]⟩, .slice none 0 0, .slice none 0 0]) := fun W hW => by rw [hC] at hW; exact Blk.grow (H2.out.2.2.1) hW
  have CG : Hid (∀ W W', C W → Grow W W' → C W') := fun W W' h1 h2 => by rw [hC] at h1 ⊢; exact h1.trans h2
  have CW : Hid (C { w3 with drawn := w3.drawn + 1 }) := by rw [hC]; exact (Grow.refl _).drew
  clear hC
  clear H2
  refine region_grow [13] (by kernel_rfl) ?_
  generalize ({ w3 with drawn := w3.drawn + 1 } : World) = v0 at *
  have hCp : ∀ p : Prop, (∀ W, C W → p) ↔ p := fun p => ⟨fun h => h _ CW.out, fun h _ _ => h⟩
  refine segR 9 [0, 1, 3, 4, 5, 6] rfl (by kernel_rfl) whole_blind CG.out CW.out (by kernel_rfl) ?_
  change wpQuiet _ _ _ _ (_ :: _ :: _ :: _ :: _ :: _ :: []) _
  repeat (first
    | go_big_quiet_skip
    | (go_big_quiet_want
       first
       | (refine q_one 3 (.inl rfl) (.tmp 28) rfl (w.heap.size) 1 rfl _ (fun W hW => by rw [(B0.out W hW).cell]; rfl) ?_
          simp only [Act.put, List.setIfInBounds_toArray, List.set_cons_zero, List.set_cons_succ]
          go_big_quiet_on)
       | (refine q_one 3 (.inl rfl) (.tmp 32) rfl (w.heap.size) 2 rfl _ (fun W hW => by rw [(B0.out W hW).cell]; rfl) ?_
          simp only [Act.put, List.setIfInBounds_toArray, List.set_cons_zero, List.set_cons_succ]
          go_big_quiet_on)
       | (go_big_quiet_op
          go_big_quiet_on)))
  refine wpQuiet_nil ?_
  refine callR (i := 2) 8 rfl (by kernel_rfl) whole_blind CG.out CW.out rfl (by kernel_rfl) rfl 26 _ _ _ rfl rfl #[.int .i64 n1] (by rw [List.map_toArray]; rfl) (enters Tryz.func26 (by kernel_rfl) rfl) _ (fun W _ => O1.out W) ?_
  simp only [Act.put, List.setIfInBounds_toArray, List.set_cons_zero, List.set_cons_succ]
  refine callR (i := 7) 7 rfl (by kernel_rfl) whole_blind CG.out CW.out rfl (by kernel_rfl) rfl 28 _ _ _ rfl rfl #[.int .i64 ((S : Int) - (s1 : Int))] (by rw [List.map_toArray]; rfl) (enters Tryz.func28 (by kernel_rfl) rfl) _ (fun W _ => T1.out W) ?_
  simp only [Act.put, List.setIfInBounds_toArray, List.set_cons_zero, List.set_cons_succ]
  refine callR (i := 8) 6 rfl (by kernel_rfl) whole_blind CG.out CW.out rfl (by kernel_rfl) rfl 27 _ _ _ rfl rfl #[.agg #[.int .u64 0, .int .u64 (A1 : Int), .bool b1], .int .u64 (P1 : Int)] (by rw [List.map_toArray]; rfl) (enters Tryz.func27 (by kernel_rfl) rfl) _ (fun W _ => Y1.out W) ?_
  simp only [Act.put, List.setIfInBounds_toArray, List.set_cons_zero, List.set_cons_succ]
  refine segR 4 [9, 10] rfl (by kernel_rfl) whole_blind CG.out CW.out (by kernel_rfl) ?_
  change wpQuiet _ _ _ _ (_ :: _ :: []) _
  repeat (first
    | go_big_quiet_skip
    | (go_big_quiet_want
       first
       | (go_big_quiet_op
          go_big_quiet_on)))
  refine wpQuiet_nil ?_
  have hCq := anyw_p v0
  refine segF 3 [11] rfl (by kernel_rfl) whole_blind (by decide +kernel) ?_
  change wpQuiet _ _ _ _ (_ :: []) _
  repeat (first
    | go_big_quiet_skip
    | (go_big_quiet_want
       first
       | (go_big_quiet_op
          go_big_quiet_on)))
  refine wpQuiet_nil ?_
  clear hCq
  refine newR (i := 12) 2 rfl (by kernel_rfl) rfl rfl 57 rfl [.int .u64 0, .int .u64 0, .bool false] zR ?_
  intro bx va2 ga2 sa2 Ba2
  simp only [Act.put, List.setIfInBounds_toArray, List.set_cons_zero, List.set_cons_succ]
  refine storeR (i := 13) 1 rfl (by kernel_rfl) (by simp) rfl rfl 57 _ _ rfl (bx) 57 [.int .u64 0, .int .u64 0, .bool false] [.int .u64 (ha : Int), .int .u64 (la : Int), .bool b1] rfl rfl (Ba2) rfl sR (ones rfl) ?_
  intro vb2 Bb2 gb2
  simp only [Act.put]
  refine loneR (C := Grow vb2) (i := 14) 0 rfl (by kernel_rfl) rfl rfl (fun _ _ a b => Grow.trans a b) (Grow.refl _) ?_
  repeat (first | go_big_quiet_skip | (go_big_quiet_want; go_big_quiet_op; go_big_quiet_on))
  refine wpQuiet_nil ?_
  refine doneR (by kernel_rfl) ?_
  intro w4 gc2
  have HC := CW.out
  have H3 : Hid (Blk w4 (w.heap.size) 25 [.int .i64 k1, .int .i64 n1, .int .i64 (s1 : Int), .string ⟨#[]⟩, .slice na1 0 nc1, .slice ka1 0 kc1] ∧ Blk w4 (w.heap.size + 1) 25 [.int .i64 k2, .int .i64 n2, .int .i64 (s2 : Int), .string ⟨#[]⟩, .slice na2 0 nc2, .slice ka2 0 kc2] ∧ Blk w4 (w.heap.size + 2) 25 [.int .i64 0, .int .i64 0, .int .i64 0, .string ⟨#[]⟩, .slice none 0 0, .slice none 0 0] ∧ Blk w4 (bx) 57 [.int .u64 (ha : Int), .int .u64 (la : Int), .bool b1] ∧ Grow w w4) := ⟨(((B0.out _ HC).grow ga2).chg gb2 (by have := (B0.out _ HC).lt; omega)).grow gc2, (((B1.out _ HC).grow ga2).chg gb2 (by have := (B1.out _ HC).lt; omega)).grow gc2, (((B2.out _ HC).grow ga2).chg gb2 (by have := (B2.out _ HC).lt; omega)).grow gc2, Bb2.grow gc2, (by have x0 := GW.out _ HC; have x1 := x0.trans ga2; have x2 : Below w.heap.size w vb2 := Chg.below x1 gb2 x1.size (by have := x0.size; omega); exact Grow.trans x2 gc2)⟩
  clear HC CW CG GW B0 B1 B2 hCp ga2 sa2 Ba2 Bb2 gb2 gc2
  go_wp2
  obtain ⟨C, hC⟩ : ∃ C : World → Prop, C = fun W => Grow w4 W := ⟨_, rfl⟩
  have GW : Hid (∀ W, C W → Grow w W) := fun W hW => by rw [hC] at hW; exact Grow.trans (H3.out.2.2.2.2) hW
  have B0 : Hid (∀ W, C W → Blk W (w.heap.size) 25 [.int .i64 k1, .int .i64 n1, .int .i64 (s1 : Int), .string ⟨#[]⟩, .slice na1 0 nc1, .slice ka1 0 kc1]) := fun W hW => by rw [hC] at hW; exact Blk.grow (H3.out.1) hW
  have B1 : Hid (∀ W, C W → Blk W (w.heap.size + 1) 25 [.int .i64 k2, .int .i64 n2, .int .i64 (s2 : Int), .string ⟨#[]⟩, .slice na2 0 nc2, .slice ka2 0 kc2]) := fun W hW => by rw [hC] at hW; exact Blk.grow (H3.out.2.1) hW
  have B2 : Hid (∀ W, C W → Blk W (w.heap.size + 2) 25 [.int .i64 0, .int .i64 0, .int .i64 0, .string ⟨#[]⟩, .slice none 0 0, .slice none 0 0]) := fun W hW => by rw [hC] at hW; exact Blk.grow (H3.out.2.2.1) hW
  have B3 : Hid (∀ W, C W → Blk W (bx) 57 [.int .u64 (ha : Int), .int .u64 (la : Int), .bool b1]) := fun W hW => by rw [hC] at hW; exact Blk.grow (H3.out.2.2.2.1) hW
  have CG : Hid (∀ W W', C W → Grow W W' → C W') := fun W W' h1 h2 => by rw [hC] at h1 ⊢; exact h1.trans h2
  have CW : Hid (C { w4 with drawn := w4.drawn + 1 }) := by rw [hC]; exact (Grow.refl _).drew
  clear hC
  clear H3
  refine region_grow [13] (by kernel_rfl) ?_
  generalize ({ w4 with drawn := w4.drawn + 1 } : World) = v0 at *
  have hCp : ∀ p : Prop, (∀ W, C W → p) ↔ p := fun p => ⟨fun h => h _ CW.out, fun h _ _ => h⟩
  refine segR 9 [0, 1, 3, 4, 5, 6] rfl (by kernel_rfl) whole_blind CG.out CW.out (by kernel_rfl) ?_
  change wpQuiet _ _ _ _ (_ :: _ :: _ :: _ :: _ :: _ :: []) _
  repeat (first
    | go_big_quiet_skip
    | (go_big_quiet_want
       first
       | (refine q_one 3 (.inl rfl) (.tmp 40) rfl (w.heap.size + 1) 1 rfl _ (fun W hW => by rw [(B1.out W hW).cell]; rfl) ?_
          simp only [Act.put, List.setIfInBounds_toArray, List.set_cons_zero, List.set_cons_succ]
          go_big_quiet_on)
       | (refine q_one 3 (.inl rfl) (.tmp 44) rfl (w.heap.size + 1) 2 rfl _ (fun W hW => by rw [(B1.out W hW).cell]; rfl) ?_
          simp only [Act.put, List.setIfInBounds_toArray, List.set_cons_zero, List.set_cons_succ]
          go_big_quiet_on)
       | (go_big_quiet_op
          go_big_quiet_on)))
  refine wpQuiet_nil ?_
  refine callR (i := 2) 8 rfl (by kernel_rfl) whole_blind CG.out CW.out rfl (by kernel_rfl) rfl 26 _ _ _ rfl rfl #[.int .i64 n2] (by rw [List.map_toArray]; rfl) (enters Tryz.func26 (by kernel_rfl) rfl) _ (fun W _ => O2.out W) ?_
  simp only [Act.put, List.setIfInBounds_toArray, List.set_cons_zero, List.set_cons_succ]
  refine callR (i := 7) 7 rfl (by kernel_rfl) whole_blind CG.out CW.out rfl (by kernel_rfl) rfl 28 _ _ _ rfl rfl #[.int .i64 ((S : Int) - (s2 : Int))] (by rw [List.map_toArray]; rfl) (enters Tryz.func28 (by kernel_rfl) rfl) _ (fun W _ => T2.out W) ?_
  simp only [Act.put, List.setIfInBounds_toArray, List.set_cons_zero, List.set_cons_succ]
  refine callR (i := 8) 6 rfl (by kernel_rfl) whole_blind CG.out CW.out rfl (by kernel_rfl) rfl 27 _ _ _ rfl rfl #[.agg #[.int .u64 0, .int .u64 (A2 : Int), .bool b2], .int .u64 (P2 : Int)] (by rw [List.map_toArray]; rfl) (enters Tryz.func27 (by kernel_rfl) rfl) _ (fun W _ => Y2.out W) ?_
  simp only [Act.put, List.setIfInBounds_toArray, List.set_cons_zero, List.set_cons_succ]
  refine segR 4 [9, 10] rfl (by kernel_rfl) whole_blind CG.out CW.out (by kernel_rfl) ?_
  change wpQuiet _ _ _ _ (_ :: _ :: []) _
  repeat (first
    | go_big_quiet_skip
    | (go_big_quiet_want
       first
       | (go_big_quiet_op
          go_big_quiet_on)))
  refine wpQuiet_nil ?_
  have hCq := anyw_p v0
  refine segF 3 [11] rfl (by kernel_rfl) whole_blind (by decide +kernel) ?_
  change wpQuiet _ _ _ _ (_ :: []) _
  repeat (first
    | go_big_quiet_skip
    | (go_big_quiet_want
       first
       | (go_big_quiet_op
          go_big_quiet_on)))
  refine wpQuiet_nil ?_
  clear hCq
  refine newR (i := 12) 2 rfl (by kernel_rfl) rfl rfl 57 rfl [.int .u64 0, .int .u64 0, .bool false] zR ?_
  intro bxy va3 ga3 sa3 Ba3
  simp only [Act.put, List.setIfInBounds_toArray, List.set_cons_zero, List.set_cons_succ]
  refine storeR (i := 13) 1 rfl (by kernel_rfl) (by simp) rfl rfl 57 _ _ rfl (bxy) 57 [.int .u64 0, .int .u64 0, .bool false] [.int .u64 (hb : Int), .int .u64 (lb : Int), .bool b2] rfl rfl (Ba3) rfl sR (ones rfl) ?_
  intro vb3 Bb3 gb3
  simp only [Act.put]
  refine loneR (C := Grow vb3) (i := 14) 0 rfl (by kernel_rfl) rfl rfl (fun _ _ a b => Grow.trans a b) (Grow.refl _) ?_
  repeat (first | go_big_quiet_skip | (go_big_quiet_want; go_big_quiet_op; go_big_quiet_on))
  refine wpQuiet_nil ?_
  refine doneR (by kernel_rfl) ?_
  intro w5 gc3
  have HC := CW.out
  have H4 : Hid (Blk w5 (w.heap.size) 25 [.int .i64 k1, .int .i64 n1, .int .i64 (s1 : Int), .string ⟨#[]⟩, .slice na1 0 nc1, .slice ka1 0 kc1] ∧ Blk w5 (w.heap.size + 1) 25 [.int .i64 k2, .int .i64 n2, .int .i64 (s2 : Int), .string ⟨#[]⟩, .slice na2 0 nc2, .slice ka2 0 kc2] ∧ Blk w5 (w.heap.size + 2) 25 [.int .i64 0, .int .i64 0, .int .i64 0, .string ⟨#[]⟩, .slice none 0 0, .slice none 0 0] ∧ Blk w5 (bx) 57 [.int .u64 (ha : Int), .int .u64 (la : Int), .bool b1] ∧ Blk w5 (bxy) 57 [.int .u64 (hb : Int), .int .u64 (lb : Int), .bool b2] ∧ Grow w w5) := ⟨(((B0.out _ HC).grow ga3).chg gb3 (by have := (B0.out _ HC).lt; omega)).grow gc3, (((B1.out _ HC).grow ga3).chg gb3 (by have := (B1.out _ HC).lt; omega)).grow gc3, (((B2.out _ HC).grow ga3).chg gb3 (by have := (B2.out _ HC).lt; omega)).grow gc3, (((B3.out _ HC).grow ga3).chg gb3 (by have := (B3.out _ HC).lt; omega)).grow gc3, Bb3.grow gc3, (by have x0 := GW.out _ HC; have x1 := x0.trans ga3; have x2 : Below w.heap.size w vb3 := Chg.below x1 gb3 x1.size (by have := x0.size; omega); exact Grow.trans x2 gc3)⟩
  clear HC CW CG GW B0 B1 B2 B3 hCp ga3 sa3 Ba3 Bb3 gb3 gc3
  have q3_0 : w5.cell? ⟨bx, 0, none⟩ = some (.int .u64 (ha : Int)) := (H4.out.2.2.2.1).cell 0
  have q3_1 : w5.cell? ⟨bx, 1, none⟩ = some (.int .u64 (la : Int)) := (H4.out.2.2.2.1).cell 1
  have q3_2 : w5.cell? ⟨bx, 2, none⟩ = some (.bool b1) := (H4.out.2.2.2.1).cell 2
  have q4_0 : w5.cell? ⟨bxy, 0, none⟩ = some (.int .u64 (hb : Int)) := (H4.out.2.2.2.2.1).cell 0
  have q4_1 : w5.cell? ⟨bxy, 1, none⟩ = some (.int .u64 (lb : Int)) := (H4.out.2.2.2.2.1).cell 1
  have q4_2 : w5.cell? ⟨bxy, 2, none⟩ = some (.bool b2) := (H4.out.2.2.2.2.1).cell 2
  go_wp2_with fail
  clear q3_0 q3_1 q3_2 q4_0 q4_1 q4_2
  refine (D.out _).mono ?_
  rintro e w6 ⟨rfl, g4⟩
  have H5 : Hid (Blk w6 (w.heap.size) 25 [.int .i64 k1, .int .i64 n1, .int .i64 (s1 : Int), .string ⟨#[]⟩, .slice na1 0 nc1, .slice ka1 0 kc1] ∧ Blk w6 (w.heap.size + 1) 25 [.int .i64 k2, .int .i64 n2, .int .i64 (s2 : Int), .string ⟨#[]⟩, .slice na2 0 nc2, .slice ka2 0 kc2] ∧ Blk w6 (w.heap.size + 2) 25 [.int .i64 0, .int .i64 0, .int .i64 0, .string ⟨#[]⟩, .slice none 0 0, .slice none 0 0] ∧ Blk w6 (bx) 57 [.int .u64 (ha : Int), .int .u64 (la : Int), .bool b1] ∧ Blk w6 (bxy) 57 [.int .u64 (hb : Int), .int .u64 (lb : Int), .bool b2] ∧ Grow w w6) := ⟨(H4.out.1).grow g4, (H4.out.2.1).grow g4, (H4.out.2.2.1).grow g4, (H4.out.2.2.2.1).grow g4, (H4.out.2.2.2.2.1).grow g4, Grow.trans (H4.out.2.2.2.2.2) g4⟩
  clear H4 g4
  go_wp2_with (refine al_zero rfl 57 rfl [.int .u64 0, .int .u64 0, .bool false] zR ?_)
  intro bv vv5 ss5 zz5 xx5
  go_wp2_with (refine st_all rfl 57 (.tmp 11) (.tmp 55) rfl bv 57 [.int .u64 0, .int .u64 0, .bool false] [.int .u64 (h : Int), .int .u64 (l : Int), .bool b] rfl rfl zz5 rfl sR (ones rfl) ?_)
  intro w7 yy5 mm5
  have H6 : Hid (Blk w7 (w.heap.size) 25 [.int .i64 k1, .int .i64 n1, .int .i64 (s1 : Int), .string ⟨#[]⟩, .slice na1 0 nc1, .slice ka1 0 kc1] ∧ Blk w7 (w.heap.size + 1) 25 [.int .i64 k2, .int .i64 n2, .int .i64 (s2 : Int), .string ⟨#[]⟩, .slice na2 0 nc2, .slice ka2 0 kc2] ∧ Blk w7 (w.heap.size + 2) 25 [.int .i64 0, .int .i64 0, .int .i64 0, .string ⟨#[]⟩, .slice none 0 0, .slice none 0 0] ∧ Blk w7 (bx) 57 [.int .u64 (ha : Int), .int .u64 (la : Int), .bool b1] ∧ Blk w7 (bxy) 57 [.int .u64 (hb : Int), .int .u64 (lb : Int), .bool b2] ∧ Blk w7 (bv) 57 [.int .u64 (h : Int), .int .u64 (l : Int), .bool b] ∧ Grow w w7) := ⟨(((H5.out.1).kept xx5 (by simp)).kept mm5 (by intro e; injection e with e; have := (H5.out.1).lt; omega)), (((H5.out.2.1).kept xx5 (by simp)).kept mm5 (by intro e; injection e with e; have := (H5.out.2.1).lt; omega)), (((H5.out.2.2.1).kept xx5 (by simp)).kept mm5 (by intro e; injection e with e; have := (H5.out.2.2.1).lt; omega)), (((H5.out.2.2.2.1).kept xx5 (by simp)).kept mm5 (by intro e; injection e with e; have := (H5.out.2.2.2.1).lt; omega)), (((H5.out.2.2.2.2.1).kept xx5 (by simp)).kept mm5 (by intro e; injection e with e; have := (H5.out.2.2.2.2.1).lt; omega)), yy5, (by have x1 := H5.out.2.2.2.2.2; have x2 : Below w.heap.size w vv5 := Below.grown x1 xx5 x1.size (by intro e he; cases he); exact Below.grown x2 mm5 x2.size (by intro e he; injection he with he; have := x1.size; omega))⟩
  clear H5 ss5 zz5 xx5 yy5 mm5
  have q5_0 : w7.cell? ⟨bv, 0, none⟩ = some (.int .u64 (h : Int)) := (H6.out.2.2.2.2.2.1).cell 0
  have q5_1 : w7.cell? ⟨bv, 1, none⟩ = some (.int .u64 (l : Int)) := (H6.out.2.2.2.2.2.1).cell 1
  have q5_2 : w7.cell? ⟨bv, 2, none⟩ = some (.bool b) := (H6.out.2.2.2.2.2.1).cell 2
  go_wp2_with fail
  clear q5_0 q5_1 q5_2
  refine (L.out _).mono ?_
  rintro e w8 ⟨rfl, g6⟩
  have H7 : Hid (Blk w8 (w.heap.size) 25 [.int .i64 k1, .int .i64 n1, .int .i64 (s1 : Int), .string ⟨#[]⟩, .slice na1 0 nc1, .slice ka1 0 kc1] ∧ Blk w8 (w.heap.size + 1) 25 [.int .i64 k2, .int .i64 n2, .int .i64 (s2 : Int), .string ⟨#[]⟩, .slice na2 0 nc2, .slice ka2 0 kc2] ∧ Blk w8 (w.heap.size + 2) 25 [.int .i64 0, .int .i64 0, .int .i64 0, .string ⟨#[]⟩, .slice none 0 0, .slice none 0 0] ∧ Blk w8 (bx) 57 [.int .u64 (ha : Int), .int .u64 (la : Int), .bool b1] ∧ Blk w8 (bxy) 57 [.int .u64 (hb : Int), .int .u64 (lb : Int), .bool b2] ∧ Blk w8 (bv) 57 [.int .u64 (h : Int), .int .u64 (l : Int), .bool b] ∧ Grow w w8) := ⟨(H6.out.1).grow g6, (H6.out.2.1).grow g6, (H6.out.2.2.1).grow g6, (H6.out.2.2.2.1).grow g6, (H6.out.2.2.2.2.1).grow g6, (H6.out.2.2.2.2.2.1).grow g6, Grow.trans (H6.out.2.2.2.2.2.2) g6⟩
  clear H6 g6
  have H8 : Hid (Blk w8 (w.heap.size + 2) 25 [.int .i64 0, .int .i64 0, .int .i64 0, .string ⟨#[]⟩, .slice none 0 0, .slice none 0 0] ∧ Grow w w8) := ⟨(H7.out.2.2.1), (H7.out.2.2.2.2.2.2)⟩
  clear H7
  go_wp2_with ((with_reducible refine st_pre (.tmp 4) (.tmp 71) ?_); refine st_all rfl 25 (.tmp 4) (.tmp 71) rfl (w.heap.size + 2) 25 [.int .i64 0, .int .i64 0, .int .i64 0, .string ⟨#[]⟩, .slice none 0 0, .slice none 0 0] [.int .i64 r.k, .int .i64 r.n, .int .i64 r.s, .string ⟨#[]⟩, .slice none 0 0, .slice none 0 0] rfl rfl H8.out.1 rfl sV (ones rfl) ?_)
  intro w10 yy8 mm8
  have H9 : Hid (Blk w10 (w.heap.size + 2) 25 [.int .i64 r.k, .int .i64 r.n, .int .i64 r.s, .string ⟨#[]⟩, .slice none 0 0, .slice none 0 0] ∧ Grow w w10) := ⟨yy8, (Below.grown (H8.out.2) mm8 (Below.size (H8.out.2)) (by intro e he; injection he with he; omega))⟩
  clear H8 yy8 mm8
  go_wp2
  exact bodyPost_ret (res_two rfl _ (w.heap.size + 2) 25 _ _ rfl (H9.out.1) Tryz.underlying25 rfl sV) rfl ⟨rfl, H9.out.2⟩
set_option maxRecDepth 8000 in
set_option maxHeartbeats 1000000 in
theorem subR_yes (k1 n1 : Int) (s1 : Nat) (na1 : Option Addr) (nc1 : Nat) (ka1 : Option Addr) (kc1 : Nat) (k2 n2 : Int) (s2 : Nat) (na2 : Option Addr) (nc2 : Nat) (ka2 : Option Addr) (kc2 : Nat) (S A1 A2 P1 P2 ha la hb lb h l : Nat) (b1 b2 c2 b : Bool) (r : Rs) (q1 : s1 ≤ S) (q2 : s2 ≤ S) (q3 : S ≤ 18) (HM : Hid (∀ ats ty W, (Builtin.max_ ats ty #[.int .i64 (s1 : Int), .int .i64 (s2 : Int)]).run Tryz.prog W = .ok (.int .i64 (S : Int)) W)) 
    (K1 : Hid (∀ W, Calls Tryz.prog 25 #[.agg #[.int .i64 k1, .int .i64 n1, .int .i64 (s1 : Int), .string ⟨#[]⟩, .slice na1 0 nc1, .slice ka1 0 kc1]] W fun e w' => e = .returned (.bool true) ∧ Grow W w'))
    (K2 : Hid (∀ W, Calls Tryz.prog 25 #[.agg #[.int .i64 k2, .int .i64 n2, .int .i64 (s2 : Int), .string ⟨#[]⟩, .slice na2 0 nc2, .slice ka2 0 kc2]] W fun e w' => e = .returned (.bool true) ∧ Grow W w'))
    (O1 : Hid (∀ W, Calls Tryz.prog 26 #[.int .i64 n1] W fun e w' => e = .returned (.agg #[.int .u64 0, .int .u64 (A1 : Int), .bool b1]) ∧ Grow W w'))
    (T1 : Hid (∀ W, Calls Tryz.prog 28 #[.int .i64 ((S : Int) - (s1 : Int))] W fun e w' => e = .returned (.int .u64 (P1 : Int)) ∧ Grow W w'))
    (Y1 : Hid (∀ W, Calls Tryz.prog 27 #[.agg #[.int .u64 0, .int .u64 (A1 : Int), .bool b1], .int .u64 (P1 : Int)] W fun e w' => e = .returned (.tuple #[.agg #[.int .u64 (ha : Int), .int .u64 (la : Int), .bool b1], .bool true]) ∧ Grow W w'))
    (T2 : Hid (∀ W, Calls Tryz.prog 28 #[.int .i64 ((S : Int) - (s2 : Int))] W fun e w' => e = .returned (.int .u64 (P2 : Int)) ∧ Grow W w'))
    (Y2 : Hid (∀ W, Calls Tryz.prog 27 #[.agg #[.int .u64 0, .int .u64 (A2 : Int), .bool c2], .int .u64 (P2 : Int)] W fun e w' => e = .returned (.tuple #[.agg #[.int .u64 (hb : Int), .int .u64 (lb : Int), .bool c2], .bool true]) ∧ Grow W w'))
    (D : Hid (∀ W, Calls Tryz.prog 29 #[.agg #[.int .u64 (ha : Int), .int .u64 (la : Int), .bool b1], .agg #[.int .u64 (hb : Int), .int .u64 (lb : Int), .bool c2]] W fun e w' => e = .returned (.tuple #[.agg #[.int .u64 (h : Int), .int .u64 (l : Int), .bool b], .bool true]) ∧ Grow W w'))
    (L : Hid (∀ W, Calls Tryz.prog 30 #[.agg #[.int .u64 (h : Int), .int .u64 (l : Int), .bool b], .int .i64 (S : Int)] W fun e w' => e = .returned (.tuple #[.agg #[.int .i64 r.k, .int .i64 r.n, .int .i64 r.s, .string ⟨#[]⟩, .slice none 0 0, .slice none 0 0], .int .i64 r.e]) ∧ Grow W w'))
    (N : Hid (∀ W, Calls Tryz.prog 32 #[.agg #[.int .i64 k2, .int .i64 n2, .int .i64 (s2 : Int), .string ⟨#[]⟩, .slice na2 0 nc2, .slice ka2 0 kc2]] W fun e w' => e = .returned (.tuple #[.agg #[.int .u64 0, .int .u64 (A2 : Int), .bool c2], .int .i64 (s2 : Int)]) ∧ Grow W w')) (w : World) :
    Calls Tryz.prog 9 #[.agg #[.int .i64 k1, .int .i64 n1, .int .i64 (s1 : Int), .string ⟨#[]⟩, .slice na1 0 nc1, .slice ka1 0 kc1], .agg #[.int .i64 k2, .int .i64 n2, .int .i64 (s2 : Int), .string ⟨#[]⟩, .slice na2 0 nc2, .slice ka2 0 kc2]] w fun e w' => e = .returned (.tuple #[.agg #[.int .i64 r.k, .int .i64 r.n, .int .i64 r.s, .string ⟨#[]⟩, .slice none 0 0, .slice none 0 0], .int .i64 r.e]) ∧ Grow w w' := by
  go_enter Tryz.func9, Tryz.ntmps9
  go_wp2_with fail
  obtain ⟨w1, HW1, H0⟩ : ∃ w1, (((w.alloc (Obj.cells #[.int .i64 k1, .int .i64 n1, .int .i64 (s1 : Int), .string ⟨#[]⟩, .slice na1 0 nc1, .slice ka1 0 kc1] 25)).alloc (Obj.cells #[.int .i64 k2, .int .i64 n2, .int .i64 (s2 : Int), .string ⟨#[]⟩, .slice na2 0 nc2, .slice ka2 0 kc2] 25)).alloc (Obj.cells #[.int .i64 0, .int .i64 0, .int .i64 0, .string ⟨#[]⟩, .slice none 0 0, .slice none 0 0] 25)) = w1 ∧ Hid (Blk w1 (w.heap.size) 25 [.int .i64 k1, .int .i64 n1, .int .i64 (s1 : Int), .string ⟨#[]⟩, .slice na1 0 nc1, .slice ka1 0 kc1] ∧ Blk w1 (w.heap.size + 1) 25 [.int .i64 k2, .int .i64 n2, .int .i64 (s2 : Int), .string ⟨#[]⟩, .slice na2 0 nc2, .slice ka2 0 kc2] ∧ Blk w1 (w.heap.size + 2) 25 [.int .i64 0, .int .i64 0, .int .i64 0, .string ⟨#[]⟩, .slice none 0 0, .slice none 0 0] ∧ Grow w w1) := ⟨_, rfl, (Blk.alloc (Blk.alloc (blk_at rfl) _) _), (Blk.alloc (blk_at (by simp)) _), (blk_at (by simp)), ((((Grow.refl _).alloc _).alloc _).alloc _)⟩
  rw [HW1]
  clear HW1
  refine (K1.out _).mono ?_
  rintro e w2 ⟨rfl, g0⟩
  have H1 : Hid (Blk w2 (w.heap.size) 25 [.int .i64 k1, .int .i64 n1, .int .i64 (s1 : Int), .string ⟨#[]⟩, .slice na1 0 nc1, .slice ka1 0 kc1] ∧ Blk w2 (w.heap.size + 1) 25 [.int .i64 k2, .int .i64 n2, .int .i64 (s2 : Int), .string ⟨#[]⟩, .slice na2 0 nc2, .slice ka2 0 kc2] ∧ Blk w2 (w.heap.size + 2) 25 [.int .i64 0, .int .i64 0, .int .i64 0, .string ⟨#[]⟩, .slice none 0 0, .slice none 0 0] ∧ Grow w w2) := ⟨(H0.out.1).grow g0, (H0.out.2.1).grow g0, (H0.out.2.2.1).grow g0, Grow.trans (H0.out.2.2.2) g0⟩
  clear H0 g0
  have q1_0 : w2.cell? ⟨w.heap.size + 1, 0, none⟩ = some (.int .i64 k2) := (H1.out.2.1).cell 0
  have q1_1 : w2.cell? ⟨w.heap.size + 1, 1, none⟩ = some (.int .i64 n2) := (H1.out.2.1).cell 1
  have q1_2 : w2.cell? ⟨w.heap.size + 1, 2, none⟩ = some (.int .i64 (s2 : Int)) := (H1.out.2.1).cell 2
  have q1_3 : w2.cell? ⟨w.heap.size + 1, 3, none⟩ = some (.string ⟨#[]⟩) := (H1.out.2.1).cell 3
  have q1_4 : w2.cell? ⟨w.heap.size + 1, 4, none⟩ = some (.slice na2 0 nc2) := (H1.out.2.1).cell 4
  have q1_5 : w2.cell? ⟨w.heap.size + 1, 5, none⟩ = some (.slice ka2 0 kc2) := (H1.out.2.1).cell 5
  go_wp2_with fail
  clear q1_0 q1_1 q1_2 q1_3 q1_4 q1_5
  refine (K2.out _).mono ?_
  rintro e w3 ⟨rfl, g1⟩
  have H2 : Hid (Blk w3 (w.heap.size) 25 [.int .i64 k1, .int .i64 n1, .int .i64 (s1 : Int), .string ⟨#[]⟩, .slice na1 0 nc1, .slice ka1 0 kc1] ∧ Blk w3 (w.heap.size + 1) 25 [.int .i64 k2, .int .i64 n2, .int .i64 (s2 : Int), .string ⟨#[]⟩, .slice na2 0 nc2, .slice ka2 0 kc2] ∧ Blk w3 (w.heap.size + 2) 25 [.int .i64 0, .int .i64 0, .int .i64 0, .string ⟨#[]⟩, .slice none 0 0, .slice none 0 0] ∧ Grow w w3) := ⟨(H1.out.1).grow g1, (H1.out.2.1).grow g1, (H1.out.2.2.1).grow g1, Grow.trans (H1.out.2.2.2) g1⟩
  clear H1 g1
  have hm := HM.out
  clear HM
  have q0_0 : w3.cell? ⟨w.heap.size, 0, none⟩ = some (.int .i64 k1) := (H2.out.1).cell 0
  have q0_1 : w3.cell? ⟨w.heap.size, 1, none⟩ = some (.int .i64 n1) := (H2.out.1).cell 1
  have q0_2 : w3.cell? ⟨w.heap.size, 2, none⟩ = some (.int .i64 (s1 : Int)) := (H2.out.1).cell 2
  have q0_3 : w3.cell? ⟨w.heap.size, 3, none⟩ = some (.string ⟨#[]⟩) := (H2.out.1).cell 3
  have q0_4 : w3.cell? ⟨w.heap.size, 4, none⟩ = some (.slice na1 0 nc1) := (H2.out.1).cell 4
  have q0_5 : w3.cell? ⟨w.heap.size, 5, none⟩ = some (.slice ka1 0 kc1) := (H2.out.1).cell 5
  have q1_0 : w3.cell? ⟨w.heap.size + 1, 0, none⟩ = some (.int .i64 k2) := (H2.out.2.1).cell 0
  have q1_1 : w3.cell? ⟨w.heap.size + 1, 1, none⟩ = some (.int .i64 n2) := (H2.out.2.1).cell 1
  have q1_2 : w3.cell? ⟨w.heap.size + 1, 2, none⟩ = some (.int .i64 (s2 : Int)) := (H2.out.2.1).cell 2
  have q1_3 : w3.cell? ⟨w.heap.size + 1, 3, none⟩ = some (.string ⟨#[]⟩) := (H2.out.2.1).cell 3
  have q1_4 : w3.cell? ⟨w.heap.size + 1, 4, none⟩ = some (.slice na2 0 nc2) := (H2.out.2.1).cell 4
  have q1_5 : w3.cell? ⟨w.heap.size + 1, 5, none⟩ = some (.slice ka2 0 kc2) := (H2.out.2.1).cell 5
  go_wp2_with fail
  clear q0_0 q0_1 q0_2 q0_3 q0_4 q0_5 q1_0 q1_1 q1_2 q1_3 q1_4 q1_5
  clear hm
  refine (N.out _).mono ?_
  rintro e w4 ⟨rfl, g2⟩
  have H3 : Hid (Blk w4 (w.heap.size) 25 [.int .i64 k1, .int .i64 n1, .int .i64 (s1 : Int), .string ⟨#[]⟩, .slice na1 0 nc1, .slice ka1 0 kc1] ∧ Blk w4 (w.heap.size + 1) 25 [.int .i64 k2, .int .i64 n2, .int .i64 (s2 : Int), .string ⟨#[]⟩, .slice na2 0 nc2, .slice ka2 0 kc2] ∧ Blk w4 (w.heap.size + 2) 25 [.int .i64 0, .int .i64 0, .int .i64 0, .string ⟨#[]⟩, .slice none 0 0, .slice none 0 0] ∧ Grow w w4) := ⟨(H2.out.1).grow g2, (H2.out.2.1).grow g2, (H2.out.2.2.1).grow g2, Grow.trans (H2.out.2.2.2) g2⟩
  clear H2 g2
  go_wp2_with (refine al_zero rfl 57 rfl [.int .u64 0, .int .u64 0, .bool false] zR ?_)
  intro bn vv3 ss3 zz3 xx3
  go_wp2_with (refine st_all rfl 57 (.tmp 7) (.tmp 32) rfl bn 57 [.int .u64 0, .int .u64 0, .bool false] [.int .u64 0, .int .u64 (A2 : Int), .bool c2] rfl rfl zz3 rfl sR (ones rfl) ?_)
  intro w5 yy3 mm3
  have H4 : Hid (Blk w5 (w.heap.size) 25 [.int .i64 k1, .int .i64 n1, .int .i64 (s1 : Int), .string ⟨#[]⟩, .slice na1 0 nc1, .slice ka1 0 kc1] ∧ Blk w5 (w.heap.size + 1) 25 [.int .i64 k2, .int .i64 n2, .int .i64 (s2 : Int), .string ⟨#[]⟩, .slice na2 0 nc2, .slice ka2 0 kc2] ∧ Blk w5 (w.heap.size + 2) 25 [.int .i64 0, .int .i64 0, .int .i64 0, .string ⟨#[]⟩, .slice none 0 0, .slice none 0 0] ∧ Blk w5 (bn) 57 [.int .u64 0, .int .u64 (A2 : Int), .bool c2] ∧ Grow w w5) := ⟨(((H3.out.1).kept xx3 (by simp)).kept mm3 (by intro e; injection e with e; have := (H3.out.1).lt; omega)), (((H3.out.2.1).kept xx3 (by simp)).kept mm3 (by intro e; injection e with e; have := (H3.out.2.1).lt; omega)), (((H3.out.2.2.1).kept xx3 (by simp)).kept mm3 (by intro e; injection e with e; have := (H3.out.2.2.1).lt; omega)), yy3, (by have x1 := H3.out.2.2.2; have x2 : Below w.heap.size w vv3 := Below.grown x1 xx3 x1.size (by intro e he; cases he); exact Below.grown x2 mm3 x2.size (by intro e he; injection he with he; have := x1.size; omega))⟩
  clear H3 ss3 zz3 xx3 yy3 mm3
  go_wp2
  obtain ⟨C, hC⟩ : ∃ C : World → Prop, C = fun W => Grow w5 W := ⟨_, rfl⟩
  have GW : Hid (∀ W, C W → Grow w W) := fun W hW => by rw [hC] at hW; exact Grow.trans (H4.out.2.2.2.2) hW
  have B0 : Hid (∀ W, C W → Blk W (w.heap.size) 25 [.int .i64 k1, .int .i64 n1, .int .i64 (s1 : Int), .string ⟨#[]⟩, .slice na1 0 nc1, .slice ka1 0 kc1]) := fun W hW => by rw [hC] at hW; exact Blk.grow (H4.out.1) hW
  have B1 : Hid (∀ W, C W → Blk W (w.heap.size + 1) 25 [.int .i64 k2, .int .i64 n2, .int .i64 (s2 : Int), .string ⟨#[]⟩, .slice na2 0 nc2, .slice ka2 0 kc2]) := fun W hW => by rw [hC] at hW; exact Blk.grow (H4.out.2.1) hW
  have B2 : Hid (∀ W, C W → Blk W (w.heap.size + 2) 25 [.int .i64 0, .int .i64 0, .int .i64 0, .string ⟨#[]⟩, .slice none 0 0, .slice none 0 0]) := fun W hW => by rw [hC] at hW; exact Blk.grow (H4.out.2.2.1) hW
  have B3 : Hid (∀ W, C W → Blk W (bn) 57 [.int .u64 0, .int .u64 (A2 : Int), .bool c2]) := fun W hW => by rw [hC] at hW; exact Blk.grow (H4.out.2.2.2.1) hW
  have CG : Hid (∀ W W', C W → Grow W W' → C W') := fun W W' h1 h2 => by rw [hC] at h1 ⊢; exact h1.trans h2
  have CW : Hid (C { w5 with drawn := w5.drawn + 1 }) := by rw [hC]; exact (Grow.refl _).drew
  clear hC
  clear H4
  refine region_grow [13] (by kernel_rfl) ?_
  generalize ({ w5 with drawn := w5.drawn + 1 } : World) = v0 at *
  have hCp : ∀ p : Prop, (∀ W, C W → p) ↔ p := fun p => ⟨fun h => h _ CW.out, fun h _ _ => h⟩
  refine segR 9 [0, 1, 3, 4, 5, 6] rfl (by kernel_rfl) whole_blind CG.out CW.out (by kernel_rfl) ?_
  change wpQuiet _ _ _ _ (_ :: _ :: _ :: _ :: _ :: _ :: []) _
  repeat (first
    | go_big_quiet_skip
    | (go_big_quiet_want
       first
       | (refine q_one 3 (.inl rfl) (.tmp 35) rfl (w.heap.size) 1 rfl _ (fun W hW => by rw [(B0.out W hW).cell]; rfl) ?_
          simp only [Act.put, List.setIfInBounds_toArray, List.set_cons_zero, List.set_cons_succ]
          go_big_quiet_on)
       | (refine q_one 3 (.inl rfl) (.tmp 39) rfl (w.heap.size) 2 rfl _ (fun W hW => by rw [(B0.out W hW).cell]; rfl) ?_
          simp only [Act.put, List.setIfInBounds_toArray, List.set_cons_zero, List.set_cons_succ]
          go_big_quiet_on)
       | (go_big_quiet_op
          go_big_quiet_on)))
  refine wpQuiet_nil ?_
  refine callR (i := 2) 8 rfl (by kernel_rfl) whole_blind CG.out CW.out rfl (by kernel_rfl) rfl 26 _ _ _ rfl rfl #[.int .i64 n1] (by rw [List.map_toArray]; rfl) (enters Tryz.func26 (by kernel_rfl) rfl) _ (fun W _ => O1.out W) ?_
  simp only [Act.put, List.setIfInBounds_toArray, List.set_cons_zero, List.set_cons_succ]
  refine callR (i := 7) 7 rfl (by kernel_rfl) whole_blind CG.out CW.out rfl (by kernel_rfl) rfl 28 _ _ _ rfl rfl #[.int .i64 ((S : Int) - (s1 : Int))] (by rw [List.map_toArray]; rfl) (enters Tryz.func28 (by kernel_rfl) rfl) _ (fun W _ => T1.out W) ?_
  simp only [Act.put, List.setIfInBounds_toArray, List.set_cons_zero, List.set_cons_succ]
  refine callR (i := 8) 6 rfl (by kernel_rfl) whole_blind CG.out CW.out rfl (by kernel_rfl) rfl 27 _ _ _ rfl rfl #[.agg #[.int .u64 0, .int .u64 (A1 : Int), .bool b1], .int .u64 (P1 : Int)] (by rw [List.map_toArray]; rfl) (enters Tryz.func27 (by kernel_rfl) rfl) _ (fun W _ => Y1.out W) ?_
  simp only [Act.put, List.setIfInBounds_toArray, List.set_cons_zero, List.set_cons_succ]
  refine segR 4 [9, 10] rfl (by kernel_rfl) whole_blind CG.out CW.out (by kernel_rfl) ?_
  change wpQuiet _ _ _ _ (_ :: _ :: []) _
  repeat (first
    | go_big_quiet_skip
    | (go_big_quiet_want
       first
       | (go_big_quiet_op
          go_big_quiet_on)))
  refine wpQuiet_nil ?_
  have hCq := anyw_p v0
  refine segF 3 [11] rfl (by kernel_rfl) whole_blind (by decide +kernel) ?_
  change wpQuiet _ _ _ _ (_ :: []) _
  repeat (first
    | go_big_quiet_skip
    | (go_big_quiet_want
       first
       | (go_big_quiet_op
          go_big_quiet_on)))
  refine wpQuiet_nil ?_
  clear hCq
  refine newR (i := 12) 2 rfl (by kernel_rfl) rfl rfl 57 rfl [.int .u64 0, .int .u64 0, .bool false] zR ?_
  intro bx va4 ga4 sa4 Ba4
  simp only [Act.put, List.setIfInBounds_toArray, List.set_cons_zero, List.set_cons_succ]
  refine storeR (i := 13) 1 rfl (by kernel_rfl) (by simp) rfl rfl 57 _ _ rfl (bx) 57 [.int .u64 0, .int .u64 0, .bool false] [.int .u64 (ha : Int), .int .u64 (la : Int), .bool b1] rfl rfl (Ba4) rfl sR (ones rfl) ?_
  intro vb4 Bb4 gb4
  simp only [Act.put]
  refine loneR (C := Grow vb4) (i := 14) 0 rfl (by kernel_rfl) rfl rfl (fun _ _ a b => Grow.trans a b) (Grow.refl _) ?_
  repeat (first | go_big_quiet_skip | (go_big_quiet_want; go_big_quiet_op; go_big_quiet_on))
  refine wpQuiet_nil ?_
  refine doneR (by kernel_rfl) ?_
  intro w6 gc4
  have HC := CW.out
  have H5 : Hid (Blk w6 (w.heap.size) 25 [.int .i64 k1, .int .i64 n1, .int .i64 (s1 : Int), .string ⟨#[]⟩, .slice na1 0 nc1, .slice ka1 0 kc1] ∧ Blk w6 (w.heap.size + 1) 25 [.int .i64 k2, .int .i64 n2, .int .i64 (s2 : Int), .string ⟨#[]⟩, .slice na2 0 nc2, .slice ka2 0 kc2] ∧ Blk w6 (w.heap.size + 2) 25 [.int .i64 0, .int .i64 0, .int .i64 0, .string ⟨#[]⟩, .slice none 0 0, .slice none 0 0] ∧ Blk w6 (bn) 57 [.int .u64 0, .int .u64 (A2 : Int), .bool c2] ∧ Blk w6 (bx) 57 [.int .u64 (ha : Int), .int .u64 (la : Int), .bool b1] ∧ Grow w w6) := ⟨(((B0.out _ HC).grow ga4).chg gb4 (by have := (B0.out _ HC).lt; omega)).grow gc4, (((B1.out _ HC).grow ga4).chg gb4 (by have := (B1.out _ HC).lt; omega)).grow gc4, (((B2.out _ HC).grow ga4).chg gb4 (by have := (B2.out _ HC).lt; omega)).grow gc4, (((B3.out _ HC).grow ga4).chg gb4 (by have := (B3.out _ HC).lt; omega)).grow gc4, Bb4.grow gc4, (by have x0 := GW.out _ HC; have x1 := x0.trans ga4; have x2 : Below w.heap.size w vb4 := Chg.below x1 gb4 x1.size (by have := x0.size; omega); exact Grow.trans x2 gc4)⟩
  clear HC CW CG GW B0 B1 B2 B3 hCp ga4 sa4 Ba4 Bb4 gb4 gc4
  go_wp2
  obtain ⟨C, hC⟩ : ∃ C : World → Prop, C = fun W => Grow w6 W := ⟨_, rfl⟩
  have GW : Hid (∀ W, C W → Grow w W) := fun W hW => by rw [hC] at hW; exact Grow.trans (H5.out.2.2.2.2.2) hW
  have B0 : Hid (∀ W, C W → Blk W (w.heap.size) 25 [.int .i64 k1, .int .i64 n1, .int .i64 (s1 : Int), .string ⟨#[]⟩, .slice na1 0 nc1, .slice ka1 0 kc1]) := fun W hW => by rw [hC] at hW; exact Blk.grow (H5.out.1) hW
  have B1 : Hid (∀ W, C W → Blk W (w.heap.size + 1) 25 [.int .i64 k2, .int .i64 n2, .int .i64 (s2 : Int), .string ⟨#[]⟩, .slice na2 0 nc2, .slice ka2 0 kc2]) := fun W hW => by rw [hC] at hW; exact Blk.grow (H5.out.2.1) hW
  have B2 : Hid (∀ W, C W → Blk W (w.heap.size + 2) 25 [.int .i64 0, .int .i64 0, .int .i64 0, .string ⟨#[]⟩, .slice none 0 0, .slice none 0 0]) := fun W hW => by rw [hC] at hW; exact Blk.grow (H5.out.2.2.1) hW
  have B3 : Hid (∀ W, C W → Blk W (bn) 57 [.int .u64 0, .int .u64 (A2 : Int), .bool c2]) := fun W hW => by rw [hC] at hW; exact Blk.grow (H5.out.2.2.2.1) hW
  have B4 : Hid (∀ W, C W → Blk W (bx) 57 [.int .u64 (ha : Int), .int .u64 (la : Int), .bool b1]) := fun W hW => by rw [hC] at hW; exact Blk.grow (H5.out.2.2.2.2.1) hW
  have CG : Hid (∀ W W', C W → Grow W W' → C W') := fun W W' h1 h2 => by rw [hC] at h1 ⊢; exact h1.trans h2
  have CW : Hid (C { w6 with drawn := w6.drawn + 1 }) := by rw [hC]; exact (Grow.refl _).drew
  clear hC
  clear H5
  refine region_grow [11] (by kernel_rfl) ?_
  generalize ({ w6 with drawn := w6.drawn + 1 } : World) = v0 at *
  have hCp : ∀ p : Prop, (∀ W, C W → p) ↔ p := fun p => ⟨fun h => h _ CW.out, fun h _ _ => h⟩
  refine segR 8 [0, 1, 2, 3, 4] rfl (by kernel_rfl) whole_blind CG.out CW.out (by kernel_rfl) ?_
  change wpQuiet _ _ _ _ (_ :: _ :: _ :: _ :: _ :: []) _
  repeat (first
    | go_big_quiet_skip
    | (go_big_quiet_want
       first
       | (refine q_load 57 (.tmp 7) rfl (bn) 0 rfl _ _ (fun W hW => (B3.out W hW).all) Tryz.underlying57 rfl sR ?_
          simp only [Act.put, List.setIfInBounds_toArray, List.set_cons_zero, List.set_cons_succ]
          go_big_quiet_on)
       | (refine q_one 3 (.inl rfl) (.tmp 49) rfl (w.heap.size + 1) 2 rfl _ (fun W hW => by rw [(B1.out W hW).cell]; rfl) ?_
          simp only [Act.put, List.setIfInBounds_toArray, List.set_cons_zero, List.set_cons_succ]
          go_big_quiet_on)
       | (go_big_quiet_op
          go_big_quiet_on)))
  refine wpQuiet_nil ?_
  refine callR (i := 5) 7 rfl (by kernel_rfl) whole_blind CG.out CW.out rfl (by kernel_rfl) rfl 28 _ _ _ rfl rfl #[.int .i64 ((S : Int) - (s2 : Int))] (by rw [List.map_toArray]; rfl) (enters Tryz.func28 (by kernel_rfl) rfl) _ (fun W _ => T2.out W) ?_
  simp only [Act.put, List.setIfInBounds_toArray, List.set_cons_zero, List.set_cons_succ]
  refine callR (i := 6) 6 rfl (by kernel_rfl) whole_blind CG.out CW.out rfl (by kernel_rfl) rfl 27 _ _ _ rfl rfl #[.agg #[.int .u64 0, .int .u64 (A2 : Int), .bool c2], .int .u64 (P2 : Int)] (by rw [List.map_toArray]; rfl) (enters Tryz.func27 (by kernel_rfl) rfl) _ (fun W _ => Y2.out W) ?_
  simp only [Act.put, List.setIfInBounds_toArray, List.set_cons_zero, List.set_cons_succ]
  refine segR 4 [7, 8] rfl (by kernel_rfl) whole_blind CG.out CW.out (by kernel_rfl) ?_
  change wpQuiet _ _ _ _ (_ :: _ :: []) _
  repeat (first
    | go_big_quiet_skip
    | (go_big_quiet_want
       first
       | (go_big_quiet_op
          go_big_quiet_on)))
  refine wpQuiet_nil ?_
  have hCq := anyw_p v0
  refine segF 3 [9] rfl (by kernel_rfl) whole_blind (by decide +kernel) ?_
  change wpQuiet _ _ _ _ (_ :: []) _
  repeat (first
    | go_big_quiet_skip
    | (go_big_quiet_want
       first
       | (go_big_quiet_op
          go_big_quiet_on)))
  refine wpQuiet_nil ?_
  clear hCq
  refine newR (i := 10) 2 rfl (by kernel_rfl) rfl rfl 57 rfl [.int .u64 0, .int .u64 0, .bool false] zR ?_
  intro bxy va5 ga5 sa5 Ba5
  simp only [Act.put, List.setIfInBounds_toArray, List.set_cons_zero, List.set_cons_succ]
  refine storeR (i := 11) 1 rfl (by kernel_rfl) (by simp) rfl rfl 57 _ _ rfl (bxy) 57 [.int .u64 0, .int .u64 0, .bool false] [.int .u64 (hb : Int), .int .u64 (lb : Int), .bool c2] rfl rfl (Ba5) rfl sR (ones rfl) ?_
  intro vb5 Bb5 gb5
  simp only [Act.put]
  refine loneR (C := Grow vb5) (i := 12) 0 rfl (by kernel_rfl) rfl rfl (fun _ _ a b => Grow.trans a b) (Grow.refl _) ?_
  repeat (first | go_big_quiet_skip | (go_big_quiet_want; go_big_quiet_op; go_big_quiet_on))
  refine wpQuiet_nil ?_
  refine doneR (by kernel_rfl) ?_
  intro w7 gc5
  have HC := CW.out
  have H6 : Hid (Blk w7 (w.heap.size) 25 [.int .i64 k1, .int .i64 n1, .int .i64 (s1 : Int), .string ⟨#[]⟩, .slice na1 0 nc1, .slice ka1 0 kc1] ∧ Blk w7 (w.heap.size + 1) 25 [.int .i64 k2, .int .i64 n2, .int .i64 (s2 : Int), .string ⟨#[]⟩, .slice na2 0 nc2, .slice ka2 0 kc2] ∧ Blk w7 (w.heap.size + 2) 25 [.int .i64 0, .int .i64 0, .int .i64 0, .string ⟨#[]⟩, .slice none 0 0, .slice none 0 0] ∧ Blk w7 (bn) 57 [.int .u64 0, .int .u64 (A2 : Int), .bool c2] ∧ Blk w7 (bx) 57 [.int .u64 (ha : Int), .int .u64 (la : Int), .bool b1] ∧ Blk w7 (bxy) 57 [.int .u64 (hb : Int), .int .u64 (lb : Int), .bool c2] ∧ Grow w w7) := ⟨(((B0.out _ HC).grow ga5).chg gb5 (by have := (B0.out _ HC).lt; omega)).grow gc5, (((B1.out _ HC).grow ga5).chg gb5 (by have := (B1.out _ HC).lt; omega)).grow gc5, (((B2.out _ HC).grow ga5).chg gb5 (by have := (B2.out _ HC).lt; omega)).grow gc5, (((B3.out _ HC).grow ga5).chg gb5 (by have := (B3.out _ HC).lt; omega)).grow gc5, (((B4.out _ HC).grow ga5).chg gb5 (by have := (B4.out _ HC).lt; omega)).grow gc5, Bb5.grow gc5, (by have x0 := GW.out _ HC; have x1 := x0.trans ga5; have x2 : Below w.heap.size w vb5 := Chg.below x1 gb5 x1.size (by have := x0.size; omega); exact Grow.trans x2 gc5)⟩
  clear HC CW CG GW B0 B1 B2 B3 B4 hCp ga5 sa5 Ba5 Bb5 gb5 gc5
  have q4_0 : w7.cell? ⟨bx, 0, none⟩ = some (.int .u64 (ha : Int)) := (H6.out.2.2.2.2.1).cell 0
  have q4_1 : w7.cell? ⟨bx, 1, none⟩ = some (.int .u64 (la : Int)) := (H6.out.2.2.2.2.1).cell 1
  have q4_2 : w7.cell? ⟨bx, 2, none⟩ = some (.bool b1) := (H6.out.2.2.2.2.1).cell 2
  have q5_0 : w7.cell? ⟨bxy, 0, none⟩ = some (.int .u64 (hb : Int)) := (H6.out.2.2.2.2.2.1).cell 0
  have q5_1 : w7.cell? ⟨bxy, 1, none⟩ = some (.int .u64 (lb : Int)) := (H6.out.2.2.2.2.2.1).cell 1
  have q5_2 : w7.cell? ⟨bxy, 2, none⟩ = some (.bool c2) := (H6.out.2.2.2.2.2.1).cell 2
  go_wp2_with fail
  clear q4_0 q4_1 q4_2 q5_0 q5_1 q5_2
  refine (D.out _).mono ?_
  rintro e w8 ⟨rfl, g6⟩
  have H7 : Hid (Blk w8 (w.heap.size) 25 [.int .i64 k1, .int .i64 n1, .int .i64 (s1 : Int), .string ⟨#[]⟩, .slice na1 0 nc1, .slice ka1 0 kc1] ∧ Blk w8 (w.heap.size + 1) 25 [.int .i64 k2, .int .i64 n2, .int .i64 (s2 : Int), .string ⟨#[]⟩, .slice na2 0 nc2, .slice ka2 0 kc2] ∧ Blk w8 (w.heap.size + 2) 25 [.int .i64 0, .int .i64 0, .int .i64 0, .string ⟨#[]⟩, .slice none 0 0, .slice none 0 0] ∧ Blk w8 (bn) 57 [.int .u64 0, .int .u64 (A2 : Int), .bool c2] ∧ Blk w8 (bx) 57 [.int .u64 (ha : Int), .int .u64 (la : Int), .bool b1] ∧ Blk w8 (bxy) 57 [.int .u64 (hb : Int), .int .u64 (lb : Int), .bool c2] ∧ Grow w w8) := ⟨(H6.out.1).grow g6, (H6.out.2.1).grow g6, (H6.out.2.2.1).grow g6, (H6.out.2.2.2.1).grow g6, (H6.out.2.2.2.2.1).grow g6, (H6.out.2.2.2.2.2.1).grow g6, Grow.trans (H6.out.2.2.2.2.2.2) g6⟩
  clear H6 g6
  go_wp2_with (refine al_zero rfl 57 rfl [.int .u64 0, .int .u64 0, .bool false] zR ?_)
  intro bv vv7 ss7 zz7 xx7
  go_wp2_with (refine st_all rfl 57 (.tmp 13) (.tmp 60) rfl bv 57 [.int .u64 0, .int .u64 0, .bool false] [.int .u64 (h : Int), .int .u64 (l : Int), .bool b] rfl rfl zz7 rfl sR (ones rfl) ?_)
  intro w9 yy7 mm7
  have H8 : Hid (Blk w9 (w.heap.size) 25 [.int .i64 k1, .int .i64 n1, .int .i64 (s1 : Int), .string ⟨#[]⟩, .slice na1 0 nc1, .slice ka1 0 kc1] ∧ Blk w9 (w.heap.size + 1) 25 [.int .i64 k2, .int .i64 n2, .int .i64 (s2 : Int), .string ⟨#[]⟩, .slice na2 0 nc2, .slice ka2 0 kc2] ∧ Blk w9 (w.heap.size + 2) 25 [.int .i64 0, .int .i64 0, .int .i64 0, .string ⟨#[]⟩, .slice none 0 0, .slice none 0 0] ∧ Blk w9 (bn) 57 [.int .u64 0, .int .u64 (A2 : Int), .bool c2] ∧ Blk w9 (bx) 57 [.int .u64 (ha : Int), .int .u64 (la : Int), .bool b1] ∧ Blk w9 (bxy) 57 [.int .u64 (hb : Int), .int .u64 (lb : Int), .bool c2] ∧ Blk w9 (bv) 57 [.int .u64 (h : Int), .int .u64 (l : Int), .bool b] ∧ Grow w w9) := ⟨(((H7.out.1).kept xx7 (by simp)).kept mm7 (by intro e; injection e with e; have := (H7.out.1).lt; omega)), (((H7.out.2.1).kept xx7 (by simp)).kept mm7 (by intro e; injection e with e; have := (H7.out.2.1).lt; omega)), (((H7.out.2.2.1).kept xx7 (by simp)).kept mm7 (by intro e; injection e with e; have := (H7.out.2.2.1).lt; omega)), (((H7.out.2.2.2.1).kept xx7 (by simp)).kept mm7 (by intro e; injection e with e; have := (H7.out.2.2.2.1).lt; omega)), (((H7.out.2.2.2.2.1).kept xx7 (by simp)).kept mm7 (by intro e; injection e with e; have := (H7.out.2.2.2.2.1).lt; omega)), (((H7.out.2.2.2.2.2.1).kept xx7 (by simp)).kept mm7 (by intro e; injection e with e; have := (H7.out.2.2.2.2.2.1).lt; omega)), yy7, (by have x1 := H7.out.2.2.2.2.2.2; have x2 : Below w.heap.size w vv7 := Below.grown x1 xx7 x1.size (by intro e he; cases he); exact Below.grown x2 mm7 x2.size (by intro e he; injection he with he; have := x1.size; omega))⟩
  clear H7 ss7 zz7 xx7 yy7 mm7
  have q6_0 : w9.cell? ⟨bv, 0, none⟩ = some (.int .u64 (h : Int)) := (H8.out.2.2.2.2.2.2.1).cell 0
  have q6_1 : w9.cell? ⟨bv, 1, none⟩ = some (.int .u64 (l : Int)) := (H8.out.2.2.2.2.2.2.1).cell 1
  have q6_2 : w9.cell? ⟨bv, 2, none⟩ = some (.bool b) := (H8.out.2.2.2.2.2.2.1).cell 2
  go_wp2_with fail
  clear q6_0 q6_1 q6_2
  refine (L.out _).mono ?_
  rintro e w10 ⟨rfl, g8⟩
  have H9 : Hid (Blk w10 (w.heap.size) 25 [.int .i64 k1, .int .i64 n1, .int .i64 (s1 : Int), .string ⟨#[]⟩, .slice na1 0 nc1, .slice ka1 0 kc1] ∧ Blk w10 (w.heap.size + 1) 25 [.int .i64 k2, .int .i64 n2, .int .i64 (s2 : Int), .string ⟨#[]⟩, .slice na2 0 nc2, .slice ka2 0 kc2] ∧ Blk w10 (w.heap.size + 2) 25 [.int .i64 0, .int .i64 0, .int .i64 0, .string ⟨#[]⟩, .slice none 0 0, .slice none 0 0] ∧ Blk w10 (bn) 57 [.int .u64 0, .int .u64 (A2 : Int), .bool c2] ∧ Blk w10 (bx) 57 [.int .u64 (ha : Int), .int .u64 (la : Int), .bool b1] ∧ Blk w10 (bxy) 57 [.int .u64 (hb : Int), .int .u64 (lb : Int), .bool c2] ∧ Blk w10 (bv) 57 [.int .u64 (h : Int), .int .u64 (l : Int), .bool b] ∧ Grow w w10) := ⟨(H8.out.1).grow g8, (H8.out.2.1).grow g8, (H8.out.2.2.1).grow g8, (H8.out.2.2.2.1).grow g8, (H8.out.2.2.2.2.1).grow g8, (H8.out.2.2.2.2.2.1).grow g8, (H8.out.2.2.2.2.2.2.1).grow g8, Grow.trans (H8.out.2.2.2.2.2.2.2) g8⟩
  clear H8 g8
  have H10 : Hid (Blk w10 (w.heap.size + 2) 25 [.int .i64 0, .int .i64 0, .int .i64 0, .string ⟨#[]⟩, .slice none 0 0, .slice none 0 0] ∧ Grow w w10) := ⟨(H9.out.2.2.1), (H9.out.2.2.2.2.2.2.2)⟩
  clear H9
  go_wp2_with ((with_reducible refine st_pre (.tmp 4) (.tmp 76) ?_); refine st_all rfl 25 (.tmp 4) (.tmp 76) rfl (w.heap.size + 2) 25 [.int .i64 0, .int .i64 0, .int .i64 0, .string ⟨#[]⟩, .slice none 0 0, .slice none 0 0] [.int .i64 r.k, .int .i64 r.n, .int .i64 r.s, .string ⟨#[]⟩, .slice none 0 0, .slice none 0 0] rfl rfl H10.out.1 rfl sV (ones rfl) ?_)
  intro w12 yy10 mm10
  have H11 : Hid (Blk w12 (w.heap.size + 2) 25 [.int .i64 r.k, .int .i64 r.n, .int .i64 r.s, .string ⟨#[]⟩, .slice none 0 0, .slice none 0 0] ∧ Grow w w12) := ⟨yy10, (Below.grown (H10.out.2) mm10 (Below.size (H10.out.2)) (by intro e he; injection he with he; omega))⟩
  clear H10 yy10 mm10
  go_wp2
  exact bodyPost_ret (res_two rfl _ (w.heap.size + 2) 25 _ _ rfl (H11.out.1) Tryz.underlying25 rfl sV) rfl ⟨rfl, H11.out.2⟩
set_option maxRecDepth 8000 in
set_option maxHeartbeats 1000000 in
theorem mulR_yes (k1 n1 : Int) (s1 : Nat) (na1 : Option Addr) (nc1 : Nat) (ka1 : Option Addr) (kc1 : Nat) (k2 n2 : Int) (s2 : Nat) (na2 : Option Addr) (nc2 : Nat) (ka2 : Option Addr) (kc2 : Nat) (A1 A2 h l : Nat) (b1 : Bool) (r : Rs) (q1 : s1 ≤ 18) (q2 : s2 ≤ 18) 
    (K1 : Hid (∀ W, Calls Tryz.prog 25 #[.agg #[.int .i64 k1, .int .i64 n1, .int .i64 (s1 : Int), .string ⟨#[]⟩, .slice na1 0 nc1, .slice ka1 0 kc1]] W fun e w' => e = .returned (.bool true) ∧ Grow W w'))
    (K2 : Hid (∀ W, Calls Tryz.prog 25 #[.agg #[.int .i64 k2, .int .i64 n2, .int .i64 (s2 : Int), .string ⟨#[]⟩, .slice na2 0 nc2, .slice ka2 0 kc2]] W fun e w' => e = .returned (.bool true) ∧ Grow W w'))
    (O1 : Hid (∀ W, Calls Tryz.prog 26 #[.int .i64 n1] W fun e w' => e = .returned (.agg #[.int .u64 0, .int .u64 (A1 : Int), .bool b1]) ∧ Grow W w'))
    (U2 : Hid (∀ W, Calls Tryz.prog 34 #[.int .i64 n2] W fun e w' => e = .returned (.int .u64 (A2 : Int)) ∧ Grow W w'))
    (Y1 : Hid (∀ W, Calls Tryz.prog 27 #[.agg #[.int .u64 0, .int .u64 (A1 : Int), .bool b1], .int .u64 (A2 : Int)] W fun e w' => e = .returned (.tuple #[.agg #[.int .u64 (h : Int), .int .u64 (l : Int), .bool b1], .bool true]) ∧ Grow W w'))
    (L : Hid (∀ W, Calls Tryz.prog 30 #[.agg #[.int .u64 (h : Int), .int .u64 (l : Int), .bool (decide (n1 < 0) != decide (n2 < 0))], .int .i64 ((s1 : Int) + (s2 : Int))] W fun e w' => e = .returned (.tuple #[.agg #[.int .i64 r.k, .int .i64 r.n, .int .i64 r.s, .string ⟨#[]⟩, .slice none 0 0, .slice none 0 0], .int .i64 r.e]) ∧ Grow W w')) (w : World) :
    Calls Tryz.prog 11 #[.agg #[.int .i64 k1, .int .i64 n1, .int .i64 (s1 : Int), .string ⟨#[]⟩, .slice na1 0 nc1, .slice ka1 0 kc1], .agg #[.int .i64 k2, .int .i64 n2, .int .i64 (s2 : Int), .string ⟨#[]⟩, .slice na2 0 nc2, .slice ka2 0 kc2]] w fun e w' => e = .returned (.tuple #[.agg #[.int .i64 r.k, .int .i64 r.n, .int .i64 r.s, .string ⟨#[]⟩, .slice none 0 0, .slice none 0 0], .int .i64 r.e]) ∧ Grow w w' := by
  go_enter Tryz.func11, Tryz.ntmps11
  go_wp2_with fail
  obtain ⟨w1, HW1, H0⟩ : ∃ w1, (((w.alloc (Obj.cells #[.int .i64 k1, .int .i64 n1, .int .i64 (s1 : Int), .string ⟨#[]⟩, .slice na1 0 nc1, .slice ka1 0 kc1] 25)).alloc (Obj.cells #[.int .i64 k2, .int .i64 n2, .int .i64 (s2 : Int), .string ⟨#[]⟩, .slice na2 0 nc2, .slice ka2 0 kc2] 25)).alloc (Obj.cells #[.int .i64 0, .int .i64 0, .int .i64 0, .string ⟨#[]⟩, .slice none 0 0, .slice none 0 0] 25)) = w1 ∧ Hid (Blk w1 (w.heap.size) 25 [.int .i64 k1, .int .i64 n1, .int .i64 (s1 : Int), .string ⟨#[]⟩, .slice na1 0 nc1, .slice ka1 0 kc1] ∧ Blk w1 (w.heap.size + 1) 25 [.int .i64 k2, .int .i64 n2, .int .i64 (s2 : Int), .string ⟨#[]⟩, .slice na2 0 nc2, .slice ka2 0 kc2] ∧ Blk w1 (w.heap.size + 2) 25 [.int .i64 0, .int .i64 0, .int .i64 0, .string ⟨#[]⟩, .slice none 0 0, .slice none 0 0] ∧ Grow w w1) := ⟨_, rfl, (Blk.alloc (Blk.alloc (blk_at rfl) _) _), (Blk.alloc (blk_at (by simp)) _), (blk_at (by simp)), ((((Grow.refl _).alloc _).alloc _).alloc _)⟩
  rw [HW1]
  clear HW1
  refine (K1.out _).mono ?_
  rintro e w2 ⟨rfl, g0⟩
  have H1 : Hid (Blk w2 (w.heap.size) 25 [.int .i64 k1, .int .i64 n1, .int .i64 (s1 : Int), .string ⟨#[]⟩, .slice na1 0 nc1, .slice ka1 0 kc1] ∧ Blk w2 (w.heap.size + 1) 25 [.int .i64 k2, .int .i64 n2, .int .i64 (s2 : Int), .string ⟨#[]⟩, .slice na2 0 nc2, .slice ka2 0 kc2] ∧ Blk w2 (w.heap.size + 2) 25 [.int .i64 0, .int .i64 0, .int .i64 0, .string ⟨#[]⟩, .slice none 0 0, .slice none 0 0] ∧ Grow w w2) := ⟨(H0.out.1).grow g0, (H0.out.2.1).grow g0, (H0.out.2.2.1).grow g0, Grow.trans (H0.out.2.2.2) g0⟩
  clear H0 g0
  have q1_0 : w2.cell? ⟨w.heap.size + 1, 0, none⟩ = some (.int .i64 k2) := (H1.out.2.1).cell 0
  have q1_1 : w2.cell? ⟨w.heap.size + 1, 1, none⟩ = some (.int .i64 n2) := (H1.out.2.1).cell 1
  have q1_2 : w2.cell? ⟨w.heap.size + 1, 2, none⟩ = some (.int .i64 (s2 : Int)) := (H1.out.2.1).cell 2
  have q1_3 : w2.cell? ⟨w.heap.size + 1, 3, none⟩ = some (.string ⟨#[]⟩) := (H1.out.2.1).cell 3
  have q1_4 : w2.cell? ⟨w.heap.size + 1, 4, none⟩ = some (.slice na2 0 nc2) := (H1.out.2.1).cell 4
  have q1_5 : w2.cell? ⟨w.heap.size + 1, 5, none⟩ = some (.slice ka2 0 kc2) := (H1.out.2.1).cell 5
  go_wp2_with fail
  clear q1_0 q1_1 q1_2 q1_3 q1_4 q1_5
  refine (K2.out _).mono ?_
  rintro e w3 ⟨rfl, g1⟩
  have H2 : Hid (Blk w3 (w.heap.size) 25 [.int .i64 k1, .int .i64 n1, .int .i64 (s1 : Int), .string ⟨#[]⟩, .slice na1 0 nc1, .slice ka1 0 kc1] ∧ Blk w3 (w.heap.size + 1) 25 [.int .i64 k2, .int .i64 n2, .int .i64 (s2 : Int), .string ⟨#[]⟩, .slice na2 0 nc2, .slice ka2 0 kc2] ∧ Blk w3 (w.heap.size + 2) 25 [.int .i64 0, .int .i64 0, .int .i64 0, .string ⟨#[]⟩, .slice none 0 0, .slice none 0 0] ∧ Grow w w3) := ⟨(H1.out.1).grow g1, (H1.out.2.1).grow g1, (H1.out.2.2.1).grow g1, Grow.trans (H1.out.2.2.2) g1⟩
  clear H1 g1
  go_wp2
  obtain ⟨C, hC⟩ : ∃ C : World → Prop, C = fun W => Grow w3 W := ⟨_, rfl⟩
  have GW : Hid (∀ W, C W → Grow w W) := fun W hW => by rw [hC] at hW; exact Grow.trans (H2.out.2.2.2) hW
  have B0 : Hid (∀ W, C W → Blk W (w.heap.size) 25 [.int .i64 k1, .int .i64 n1, .int .i64 (s1 : Int), .string ⟨#[]⟩, .slice na1 0 nc1, .slice ka1 0 kc1]) := fun W hW => by rw [hC] at hW; exact Blk.grow (H2.out.1) hW
  have B1 : Hid (∀ W, C W → Blk W (w.heap.size + 1) 25 [.int .i64 k2, .int .i64 n2, .int .i64 (s2 : Int), .string ⟨#[]⟩, .slice na2 0 nc2, .slice ka2 0 kc2]) := fun W hW => by rw [hC] at hW; exact Blk.grow (H2.out.2.1) hW
  have B2 : Hid (∀ W, C W → Blk W (w.heap.size + 2) 25 [.int .i64 0, .int .i64 0, .int .i64 0, .string ⟨#[]⟩, .slice none 0 0, .slice none 0 0]) := fun W hW => by rw [hC] at hW; exact Blk.grow (H2.out.2.2.1) hW
  have CG : Hid (∀ W W', C W → Grow W W' → C W') := fun W W' h1 h2 => by rw [hC] at h1 ⊢; exact h1.trans h2
  have CW : Hid (C { w3 with drawn := w3.drawn + 1 }) := by rw [hC]; exact (Grow.refl _).drew
  clear hC
  clear H2
  refine region_grow [11] (by kernel_rfl) ?_
  generalize ({ w3 with drawn := w3.drawn + 1 } : World) = v0 at *
  have hCp : ∀ p : Prop, (∀ W, C W → p) ↔ p := fun p => ⟨fun h => h _ CW.out, fun h _ _ => h⟩
  refine segR 9 [0, 1, 3, 4] rfl (by kernel_rfl) whole_blind CG.out CW.out (by kernel_rfl) ?_
  change wpQuiet _ _ _ _ (_ :: _ :: _ :: _ :: []) _
  repeat (first
    | go_big_quiet_skip
    | (go_big_quiet_want
       first
       | (refine q_one 3 (.inl rfl) (.tmp 18) rfl (w.heap.size) 1 rfl _ (fun W hW => by rw [(B0.out W hW).cell]; rfl) ?_
          simp only [Act.put, List.setIfInBounds_toArray, List.set_cons_zero, List.set_cons_succ]
          go_big_quiet_on)
       | (refine q_one 3 (.inl rfl) (.tmp 21) rfl (w.heap.size + 1) 1 rfl _ (fun W hW => by rw [(B1.out W hW).cell]; rfl) ?_
          simp only [Act.put, List.setIfInBounds_toArray, List.set_cons_zero, List.set_cons_succ]
          go_big_quiet_on)
       | (go_big_quiet_op
          go_big_quiet_on)))
  refine wpQuiet_nil ?_
  refine callR (i := 2) 8 rfl (by kernel_rfl) whole_blind CG.out CW.out rfl (by kernel_rfl) rfl 26 _ _ _ rfl rfl #[.int .i64 n1] (by rw [List.map_toArray]; rfl) (enters Tryz.func26 (by kernel_rfl) rfl) _ (fun W _ => O1.out W) ?_
  simp only [Act.put, List.setIfInBounds_toArray, List.set_cons_zero, List.set_cons_succ]
  refine callR (i := 5) 7 rfl (by kernel_rfl) whole_blind CG.out CW.out rfl (by kernel_rfl) rfl 34 _ _ _ rfl rfl #[.int .i64 n2] (by rw [List.map_toArray]; rfl) (enters Tryz.func34 (by kernel_rfl) rfl) _ (fun W _ => U2.out W) ?_
  simp only [Act.put, List.setIfInBounds_toArray, List.set_cons_zero, List.set_cons_succ]
  refine callR (i := 6) 6 rfl (by kernel_rfl) whole_blind CG.out CW.out rfl (by kernel_rfl) rfl 27 _ _ _ rfl rfl #[.agg #[.int .u64 0, .int .u64 (A1 : Int), .bool b1], .int .u64 (A2 : Int)] (by rw [List.map_toArray]; rfl) (enters Tryz.func27 (by kernel_rfl) rfl) _ (fun W _ => Y1.out W) ?_
  simp only [Act.put, List.setIfInBounds_toArray, List.set_cons_zero, List.set_cons_succ]
  refine segR 4 [7, 8] rfl (by kernel_rfl) whole_blind CG.out CW.out (by kernel_rfl) ?_
  change wpQuiet _ _ _ _ (_ :: _ :: []) _
  repeat (first
    | go_big_quiet_skip
    | (go_big_quiet_want
       first
       | (go_big_quiet_op
          go_big_quiet_on)))
  refine wpQuiet_nil ?_
  have hCq := anyw_p v0
  refine segF 3 [9] rfl (by kernel_rfl) whole_blind (by decide +kernel) ?_
  change wpQuiet _ _ _ _ (_ :: []) _
  repeat (first
    | go_big_quiet_skip
    | (go_big_quiet_want
       first
       | (go_big_quiet_op
          go_big_quiet_on)))
  refine wpQuiet_nil ?_
  clear hCq
  refine newR (i := 10) 2 rfl (by kernel_rfl) rfl rfl 57 rfl [.int .u64 0, .int .u64 0, .bool false] zR ?_
  intro bx va2 ga2 sa2 Ba2
  simp only [Act.put, List.setIfInBounds_toArray, List.set_cons_zero, List.set_cons_succ]
  refine storeR (i := 11) 1 rfl (by kernel_rfl) (by simp) rfl rfl 57 _ _ rfl (bx) 57 [.int .u64 0, .int .u64 0, .bool false] [.int .u64 (h : Int), .int .u64 (l : Int), .bool b1] rfl rfl (Ba2) rfl sR (ones rfl) ?_
  intro vb2 Bb2 gb2
  simp only [Act.put]
  refine loneR (C := Grow vb2) (i := 12) 0 rfl (by kernel_rfl) rfl rfl (fun _ _ a b => Grow.trans a b) (Grow.refl _) ?_
  repeat (first | go_big_quiet_skip | (go_big_quiet_want; go_big_quiet_op; go_big_quiet_on))
  refine wpQuiet_nil ?_
  refine doneR (by kernel_rfl) ?_
  intro w4 gc2
  have HC := CW.out
  have lt_bx_0 : w.heap.size < bx := by have := (B0.out _ HC).lt; omega
  have lt_bx_1 : w.heap.size + 1 < bx := by have := (B1.out _ HC).lt; omega
  have lt_bx_2 : w.heap.size + 2 < bx := by have := (B2.out _ HC).lt; omega
  have H3 : Hid (Blk w4 (w.heap.size) 25 [.int .i64 k1, .int .i64 n1, .int .i64 (s1 : Int), .string ⟨#[]⟩, .slice na1 0 nc1, .slice ka1 0 kc1] ∧ Blk w4 (w.heap.size + 1) 25 [.int .i64 k2, .int .i64 n2, .int .i64 (s2 : Int), .string ⟨#[]⟩, .slice na2 0 nc2, .slice ka2 0 kc2] ∧ Blk w4 (w.heap.size + 2) 25 [.int .i64 0, .int .i64 0, .int .i64 0, .string ⟨#[]⟩, .slice none 0 0, .slice none 0 0] ∧ Blk w4 (bx) 57 [.int .u64 (h : Int), .int .u64 (l : Int), .bool b1] ∧ Grow w w4) := ⟨(((B0.out _ HC).grow ga2).chg gb2 (by have := (B0.out _ HC).lt; omega)).grow gc2, (((B1.out _ HC).grow ga2).chg gb2 (by have := (B1.out _ HC).lt; omega)).grow gc2, (((B2.out _ HC).grow ga2).chg gb2 (by have := (B2.out _ HC).lt; omega)).grow gc2, Bb2.grow gc2, (by have x0 := GW.out _ HC; have x1 := x0.trans ga2; have x2 : Below w.heap.size w vb2 := Chg.below x1 gb2 x1.size (by have := x0.size; omega); exact Grow.trans x2 gc2)⟩
  clear HC CW CG GW B0 B1 B2 hCp ga2 sa2 Ba2 Bb2 gb2 gc2
  have q0_0 : w4.cell? ⟨w.heap.size, 0, none⟩ = some (.int .i64 k1) := (H3.out.1).cell 0
  have q0_1 : w4.cell? ⟨w.heap.size, 1, none⟩ = some (.int .i64 n1) := (H3.out.1).cell 1
  have q0_2 : w4.cell? ⟨w.heap.size, 2, none⟩ = some (.int .i64 (s1 : Int)) := (H3.out.1).cell 2
  have q0_3 : w4.cell? ⟨w.heap.size, 3, none⟩ = some (.string ⟨#[]⟩) := (H3.out.1).cell 3
  have q0_4 : w4.cell? ⟨w.heap.size, 4, none⟩ = some (.slice na1 0 nc1) := (H3.out.1).cell 4
  have q0_5 : w4.cell? ⟨w.heap.size, 5, none⟩ = some (.slice ka1 0 kc1) := (H3.out.1).cell 5
  have q1_0 : w4.cell? ⟨w.heap.size + 1, 0, none⟩ = some (.int .i64 k2) := (H3.out.2.1).cell 0
  have q1_1 : w4.cell? ⟨w.heap.size + 1, 1, none⟩ = some (.int .i64 n2) := (H3.out.2.1).cell 1
  have q1_2 : w4.cell? ⟨w.heap.size + 1, 2, none⟩ = some (.int .i64 (s2 : Int)) := (H3.out.2.1).cell 2
  have q1_3 : w4.cell? ⟨w.heap.size + 1, 3, none⟩ = some (.string ⟨#[]⟩) := (H3.out.2.1).cell 3
  have q1_4 : w4.cell? ⟨w.heap.size + 1, 4, none⟩ = some (.slice na2 0 nc2) := (H3.out.2.1).cell 4
  have q1_5 : w4.cell? ⟨w.heap.size + 1, 5, none⟩ = some (.slice ka2 0 kc2) := (H3.out.2.1).cell 5
  go_wp2_with ((with_reducible refine st_pre (.tmp 34) (.tmp 33) ?_); refine st_one rfl 4 (.tmp 34) (.tmp 33) rfl (bx) 2 57 [.int .u64 (h : Int), .int .u64 (l : Int), .bool b1] (.bool (decide (n1 < 0) != decide (n2 < 0))) rfl rfl rfl rfl (by simp) H3.out.2.2.2.1 sB ?_)
  intro w5 yy3 mm3
  have H4 : Hid (Blk w5 (w.heap.size) 25 [.int .i64 k1, .int .i64 n1, .int .i64 (s1 : Int), .string ⟨#[]⟩, .slice na1 0 nc1, .slice ka1 0 kc1] ∧ Blk w5 (w.heap.size + 1) 25 [.int .i64 k2, .int .i64 n2, .int .i64 (s2 : Int), .string ⟨#[]⟩, .slice na2 0 nc2, .slice ka2 0 kc2] ∧ Blk w5 (w.heap.size + 2) 25 [.int .i64 0, .int .i64 0, .int .i64 0, .string ⟨#[]⟩, .slice none 0 0, .slice none 0 0] ∧ Blk w5 (bx) 57 [.int .u64 (h : Int), .int .u64 (l : Int), .bool (decide (n1 < 0) != decide (n2 < 0))] ∧ Grow w w5) := ⟨((H3.out.1).kept mm3 (by intro e; injection e with e; omega)), ((H3.out.2.1).kept mm3 (by intro e; injection e with e; omega)), ((H3.out.2.2.1).kept mm3 (by intro e; injection e with e; omega)), yy3, (Below.grown (H3.out.2.2.2.2) mm3 (Below.size (H3.out.2.2.2.2)) (by intro e he; injection he with he; omega))⟩
  clear H3 yy3 mm3
  clear q0_0 q0_1 q0_2 q0_3 q0_4 q0_5 q1_0 q1_1 q1_2 q1_3 q1_4 q1_5
  have q0_0 : w5.cell? ⟨w.heap.size, 0, none⟩ = some (.int .i64 k1) := (H4.out.1).cell 0
  have q0_1 : w5.cell? ⟨w.heap.size, 1, none⟩ = some (.int .i64 n1) := (H4.out.1).cell 1
  have q0_2 : w5.cell? ⟨w.heap.size, 2, none⟩ = some (.int .i64 (s1 : Int)) := (H4.out.1).cell 2
  have q0_3 : w5.cell? ⟨w.heap.size, 3, none⟩ = some (.string ⟨#[]⟩) := (H4.out.1).cell 3
  have q0_4 : w5.cell? ⟨w.heap.size, 4, none⟩ = some (.slice na1 0 nc1) := (H4.out.1).cell 4
  have q0_5 : w5.cell? ⟨w.heap.size, 5, none⟩ = some (.slice ka1 0 kc1) := (H4.out.1).cell 5
  have q1_0 : w5.cell? ⟨w.heap.size + 1, 0, none⟩ = some (.int .i64 k2) := (H4.out.2.1).cell 0
  have q1_1 : w5.cell? ⟨w.heap.size + 1, 1, none⟩ = some (.int .i64 n2) := (H4.out.2.1).cell 1
  have q1_2 : w5.cell? ⟨w.heap.size + 1, 2, none⟩ = some (.int .i64 (s2 : Int)) := (H4.out.2.1).cell 2
  have q1_3 : w5.cell? ⟨w.heap.size + 1, 3, none⟩ = some (.string ⟨#[]⟩) := (H4.out.2.1).cell 3
  have q1_4 : w5.cell? ⟨w.heap.size + 1, 4, none⟩ = some (.slice na2 0 nc2) := (H4.out.2.1).cell 4
  have q1_5 : w5.cell? ⟨w.heap.size + 1, 5, none⟩ = some (.slice ka2 0 kc2) := (H4.out.2.1).cell 5
  have q3_0 : w5.cell? ⟨bx, 0, none⟩ = some (.int .u64 (h : Int)) := (H4.out.2.2.2.1).cell 0
  have q3_1 : w5.cell? ⟨bx, 1, none⟩ = some (.int .u64 (l : Int)) := (H4.out.2.2.2.1).cell 1
  have q3_2 : w5.cell? ⟨bx, 2, none⟩ = some (.bool (decide (n1 < 0) != decide (n2 < 0))) := (H4.out.2.2.2.1).cell 2
  go_wp2_with fail
  clear q0_0 q0_1 q0_2 q0_3 q0_4 q0_5 q1_0 q1_1 q1_2 q1_3 q1_4 q1_5 q3_0 q3_1 q3_2
  refine (L.out _).mono ?_
  rintro e w6 ⟨rfl, g4⟩
  have H5 : Hid (Blk w6 (w.heap.size) 25 [.int .i64 k1, .int .i64 n1, .int .i64 (s1 : Int), .string ⟨#[]⟩, .slice na1 0 nc1, .slice ka1 0 kc1] ∧ Blk w6 (w.heap.size + 1) 25 [.int .i64 k2, .int .i64 n2, .int .i64 (s2 : Int), .string ⟨#[]⟩, .slice na2 0 nc2, .slice ka2 0 kc2] ∧ Blk w6 (w.heap.size + 2) 25 [.int .i64 0, .int .i64 0, .int .i64 0, .string ⟨#[]⟩, .slice none 0 0, .slice none 0 0] ∧ Blk w6 (bx) 57 [.int .u64 (h : Int), .int .u64 (l : Int), .bool (decide (n1 < 0) != decide (n2 < 0))] ∧ Grow w w6) := ⟨(H4.out.1).grow g4, (H4.out.2.1).grow g4, (H4.out.2.2.1).grow g4, (H4.out.2.2.2.1).grow g4, Grow.trans (H4.out.2.2.2.2) g4⟩
  clear H4 g4
  have H6 : Hid (Blk w6 (w.heap.size + 2) 25 [.int .i64 0, .int .i64 0, .int .i64 0, .string ⟨#[]⟩, .slice none 0 0, .slice none 0 0] ∧ Grow w w6) := ⟨(H5.out.2.2.1), (H5.out.2.2.2.2)⟩
  clear H5
  go_wp2_with ((with_reducible refine st_pre (.tmp 4) (.tmp 42) ?_); refine st_all rfl 25 (.tmp 4) (.tmp 42) rfl (w.heap.size + 2) 25 [.int .i64 0, .int .i64 0, .int .i64 0, .string ⟨#[]⟩, .slice none 0 0, .slice none 0 0] [.int .i64 r.k, .int .i64 r.n, .int .i64 r.s, .string ⟨#[]⟩, .slice none 0 0, .slice none 0 0] rfl rfl H6.out.1 rfl sV (ones rfl) ?_)
  intro w8 yy6 mm6
  have H7 : Hid (Blk w8 (w.heap.size + 2) 25 [.int .i64 r.k, .int .i64 r.n, .int .i64 r.s, .string ⟨#[]⟩, .slice none 0 0, .slice none 0 0] ∧ Grow w w8) := ⟨yy6, (Below.grown (H6.out.2) mm6 (Below.size (H6.out.2)) (by intro e he; injection he with he; omega))⟩
  clear H6 yy6 mm6
  go_wp2
  exact bodyPost_ret (res_two rfl _ (w.heap.size + 2) 25 _ _ rfl (H7.out.1) Tryz.underlying25 rfl sV) rfl ⟨rfl, H7.out.2⟩
set_option maxRecDepth 8000 in
set_option maxHeartbeats 1000000 in
theorem negR_yes (k1 n1 : Int) (s1 : Nat) (na1 : Option Addr) (nc1 : Nat) (ka1 : Option Addr) (kc1 : Nat) (A1 : Nat) (b : Bool) (r : Rs) (K1 : Hid (∀ W, Calls Tryz.prog 25 #[.agg #[.int .i64 k1, .int .i64 n1, .int .i64 (s1 : Int), .string ⟨#[]⟩, .slice na1 0 nc1, .slice ka1 0 kc1]] W fun e w' => e = .returned (.bool true) ∧ Grow W w')) (N : Hid (∀ W, Calls Tryz.prog 32 #[.agg #[.int .i64 k1, .int .i64 n1, .int .i64 (s1 : Int), .string ⟨#[]⟩, .slice na1 0 nc1, .slice ka1 0 kc1]] W fun e w' => e = .returned (.tuple #[.agg #[.int .u64 0, .int .u64 (A1 : Int), .bool b], .int .i64 (s1 : Int)]) ∧ Grow W w')) (L : Hid (∀ W, Calls Tryz.prog 30 #[.agg #[.int .u64 0, .int .u64 (A1 : Int), .bool b], .int .i64 (s1 : Int)] W fun e w' => e = .returned (.tuple #[.agg #[.int .i64 r.k, .int .i64 r.n, .int .i64 r.s, .string ⟨#[]⟩, .slice none 0 0, .slice none 0 0], .int .i64 r.e]) ∧ Grow W w')) (w : World) :
    Calls Tryz.prog 13 #[.agg #[.int .i64 k1, .int .i64 n1, .int .i64 (s1 : Int), .string ⟨#[]⟩, .slice na1 0 nc1, .slice ka1 0 kc1]] w fun e w' => e = .returned (.tuple #[.agg #[.int .i64 r.k, .int .i64 r.n, .int .i64 r.s, .string ⟨#[]⟩, .slice none 0 0, .slice none 0 0], .int .i64 r.e]) ∧ Grow w w' := by
  go_enter Tryz.func13, Tryz.ntmps13
  go_wp2_with fail
  obtain ⟨w1, HW1, H0⟩ : ∃ w1, ((w.alloc (Obj.cells #[.int .i64 k1, .int .i64 n1, .int .i64 (s1 : Int), .string ⟨#[]⟩, .slice na1 0 nc1, .slice ka1 0 kc1] 25)).alloc (Obj.cells #[.int .i64 0, .int .i64 0, .int .i64 0, .string ⟨#[]⟩, .slice none 0 0, .slice none 0 0] 25)) = w1 ∧ Hid (Blk w1 (w.heap.size) 25 [.int .i64 k1, .int .i64 n1, .int .i64 (s1 : Int), .string ⟨#[]⟩, .slice na1 0 nc1, .slice ka1 0 kc1] ∧ Blk w1 (w.heap.size + 1) 25 [.int .i64 0, .int .i64 0, .int .i64 0, .string ⟨#[]⟩, .slice none 0 0, .slice none 0 0] ∧ Grow w w1) := ⟨_, rfl, (Blk.alloc (blk_at rfl) _), (blk_at (by simp)), (((Grow.refl _).alloc _).alloc _)⟩
  rw [HW1]
  clear HW1
  refine (K1.out _).mono ?_
  rintro e w2 ⟨rfl, g0⟩
  have H1 : Hid (Blk w2 (w.heap.size) 25 [.int .i64 k1, .int .i64 n1, .int .i64 (s1 : Int), .string ⟨#[]⟩, .slice na1 0 nc1, .slice ka1 0 kc1] ∧ Blk w2 (w.heap.size + 1) 25 [.int .i64 0, .int .i64 0, .int .i64 0, .string ⟨#[]⟩, .slice none 0 0, .slice none 0 0] ∧ Grow w w2) := ⟨(H0.out.1).grow g0, (H0.out.2.1).grow g0, Grow.trans (H0.out.2.2) g0⟩
  clear H0 g0
  have q0_0 : w2.cell? ⟨w.heap.size, 0, none⟩ = some (.int .i64 k1) := (H1.out.1).cell 0
  have q0_1 : w2.cell? ⟨w.heap.size, 1, none⟩ = some (.int .i64 n1) := (H1.out.1).cell 1
  have q0_2 : w2.cell? ⟨w.heap.size, 2, none⟩ = some (.int .i64 (s1 : Int)) := (H1.out.1).cell 2
  have q0_3 : w2.cell? ⟨w.heap.size, 3, none⟩ = some (.string ⟨#[]⟩) := (H1.out.1).cell 3
  have q0_4 : w2.cell? ⟨w.heap.size, 4, none⟩ = some (.slice na1 0 nc1) := (H1.out.1).cell 4
  have q0_5 : w2.cell? ⟨w.heap.size, 5, none⟩ = some (.slice ka1 0 kc1) := (H1.out.1).cell 5
  go_wp2_with fail
  clear q0_0 q0_1 q0_2 q0_3 q0_4 q0_5
  refine (N.out _).mono ?_
  rintro e w3 ⟨rfl, g1⟩
  have H2 : Hid (Blk w3 (w.heap.size) 25 [.int .i64 k1, .int .i64 n1, .int .i64 (s1 : Int), .string ⟨#[]⟩, .slice na1 0 nc1, .slice ka1 0 kc1] ∧ Blk w3 (w.heap.size + 1) 25 [.int .i64 0, .int .i64 0, .int .i64 0, .string ⟨#[]⟩, .slice none 0 0, .slice none 0 0] ∧ Grow w w3) := ⟨(H1.out.1).grow g1, (H1.out.2.1).grow g1, Grow.trans (H1.out.2.2) g1⟩
  clear H1 g1
  go_wp2_with (refine al_zero rfl 57 rfl [.int .u64 0, .int .u64 0, .bool false] zR ?_)
  intro bv vv2 ss2 zz2 xx2
  go_wp2_with (refine st_all rfl 57 (.tmp 4) (.tmp 13) rfl bv 57 [.int .u64 0, .int .u64 0, .bool false] [.int .u64 0, .int .u64 (A1 : Int), .bool b] rfl rfl zz2 rfl sR (ones rfl) ?_)
  intro w4 yy2 mm2
  have H3 : Hid (Blk w4 (w.heap.size) 25 [.int .i64 k1, .int .i64 n1, .int .i64 (s1 : Int), .string ⟨#[]⟩, .slice na1 0 nc1, .slice ka1 0 kc1] ∧ Blk w4 (w.heap.size + 1) 25 [.int .i64 0, .int .i64 0, .int .i64 0, .string ⟨#[]⟩, .slice none 0 0, .slice none 0 0] ∧ Blk w4 (bv) 57 [.int .u64 0, .int .u64 (A1 : Int), .bool b] ∧ Grow w w4) := ⟨(((H2.out.1).kept xx2 (by simp)).kept mm2 (by intro e; injection e with e; have := (H2.out.1).lt; omega)), (((H2.out.2.1).kept xx2 (by simp)).kept mm2 (by intro e; injection e with e; have := (H2.out.2.1).lt; omega)), yy2, (by have x1 := H2.out.2.2; have x2 : Below w.heap.size w vv2 := Below.grown x1 xx2 x1.size (by intro e he; cases he); exact Below.grown x2 mm2 x2.size (by intro e he; injection he with he; have := x1.size; omega))⟩
  clear H2 ss2 zz2 xx2 yy2 mm2
  have q2_0 : w4.cell? ⟨bv, 0, none⟩ = some (.int .u64 0) := (H3.out.2.2.1).cell 0
  have q2_1 : w4.cell? ⟨bv, 1, none⟩ = some (.int .u64 (A1 : Int)) := (H3.out.2.2.1).cell 1
  have q2_2 : w4.cell? ⟨bv, 2, none⟩ = some (.bool b) := (H3.out.2.2.1).cell 2
  go_wp2_with fail
  clear q2_0 q2_1 q2_2
  refine (L.out _).mono ?_
  rintro e w5 ⟨rfl, g3⟩
  have H4 : Hid (Blk w5 (w.heap.size) 25 [.int .i64 k1, .int .i64 n1, .int .i64 (s1 : Int), .string ⟨#[]⟩, .slice na1 0 nc1, .slice ka1 0 kc1] ∧ Blk w5 (w.heap.size + 1) 25 [.int .i64 0, .int .i64 0, .int .i64 0, .string ⟨#[]⟩, .slice none 0 0, .slice none 0 0] ∧ Blk w5 (bv) 57 [.int .u64 0, .int .u64 (A1 : Int), .bool b] ∧ Grow w w5) := ⟨(H3.out.1).grow g3, (H3.out.2.1).grow g3, (H3.out.2.2.1).grow g3, Grow.trans (H3.out.2.2.2) g3⟩
  clear H3 g3
  have H5 : Hid (Blk w5 (w.heap.size + 1) 25 [.int .i64 0, .int .i64 0, .int .i64 0, .string ⟨#[]⟩, .slice none 0 0, .slice none 0 0] ∧ Grow w w5) := ⟨(H4.out.2.1), (H4.out.2.2.2)⟩
  clear H4
  go_wp2_with ((with_reducible refine st_pre (.tmp 2) (.tmp 18) ?_); refine st_all rfl 25 (.tmp 2) (.tmp 18) rfl (w.heap.size + 1) 25 [.int .i64 0, .int .i64 0, .int .i64 0, .string ⟨#[]⟩, .slice none 0 0, .slice none 0 0] [.int .i64 r.k, .int .i64 r.n, .int .i64 r.s, .string ⟨#[]⟩, .slice none 0 0, .slice none 0 0] rfl rfl H5.out.1 rfl sV (ones rfl) ?_)
  intro w7 yy5 mm5
  have H6 : Hid (Blk w7 (w.heap.size + 1) 25 [.int .i64 r.k, .int .i64 r.n, .int .i64 r.s, .string ⟨#[]⟩, .slice none 0 0, .slice none 0 0] ∧ Grow w w7) := ⟨yy5, (Below.grown (H5.out.2) mm5 (Below.size (H5.out.2)) (by intro e he; injection he with he; omega))⟩
  clear H5 yy5 mm5
  go_wp2
  exact bodyPost_ret (res_two rfl _ (w.heap.size + 1) 25 _ _ rfl (H6.out.1) Tryz.underlying25 rfl sV) rfl ⟨rfl, H6.out.2⟩
set_option maxRecDepth 8000 in
set_option maxHeartbeats 1000000 in
theorem addR_no1 (v1 : Vv) (v2 : Vv) (K1 : Hid (∀ W, Calls Tryz.prog 25 #[.agg #[.int .i64 v1.k, .int .i64 v1.n, .int .i64 v1.s, .string v1.t, .slice v1.na v1.nl v1.nc, .slice v1.ka v1.kl v1.kc]] W fun e w' => e = .returned (.bool false) ∧ Grow W w')) (w : World) :
    Calls Tryz.prog 7 #[.agg #[.int .i64 v1.k, .int .i64 v1.n, .int .i64 v1.s, .string v1.t, .slice v1.na v1.nl v1.nc, .slice v1.ka v1.kl v1.kc], .agg #[.int .i64 v2.k, .int .i64 v2.n, .int .i64 v2.s, .string v2.t, .slice v2.na v2.nl v2.nc, .slice v2.ka v2.kl v2.kc]] w fun e w' => e = .returned (.tuple #[.agg #[.int .i64 0, .int .i64 0, .int .i64 0, .string ⟨#[]⟩, .slice none 0 0, .slice none 0 0], .int .i64 11]) ∧ Grow w w' := by
  go_enter Tryz.func7, Tryz.ntmps7
  go_wp2_with fail
  obtain ⟨w1, HW1, H0⟩ : ∃ w1, (((w.alloc (Obj.cells #[.int .i64 v1.k, .int .i64 v1.n, .int .i64 v1.s, .string v1.t, .slice v1.na v1.nl v1.nc, .slice v1.ka v1.kl v1.kc] 25)).alloc (Obj.cells #[.int .i64 v2.k, .int .i64 v2.n, .int .i64 v2.s, .string v2.t, .slice v2.na v2.nl v2.nc, .slice v2.ka v2.kl v2.kc] 25)).alloc (Obj.cells #[.int .i64 0, .int .i64 0, .int .i64 0, .string ⟨#[]⟩, .slice none 0 0, .slice none 0 0] 25)) = w1 ∧ Hid (Blk w1 (w.heap.size) 25 [.int .i64 v1.k, .int .i64 v1.n, .int .i64 v1.s, .string v1.t, .slice v1.na v1.nl v1.nc, .slice v1.ka v1.kl v1.kc] ∧ Blk w1 (w.heap.size + 1) 25 [.int .i64 v2.k, .int .i64 v2.n, .int .i64 v2.s, .string v2.t, .slice v2.na v2.nl v2.nc, .slice v2.ka v2.kl v2.kc] ∧ Blk w1 (w.heap.size + 2) 25 [.int .i64 0, .int .i64 0, .int .i64 0, .string ⟨#[]⟩, .slice none 0 0, .slice none 0 0] ∧ Grow w w1) := ⟨_, rfl, (Blk.alloc (Blk.alloc (blk_at rfl) _) _), (Blk.alloc (blk_at (by simp)) _), (blk_at (by simp)), ((((Grow.refl _).alloc _).alloc _).alloc _)⟩
  rw [HW1]
  clear HW1
  refine (K1.out _).mono ?_
  rintro e w2 ⟨rfl, g0⟩
  have H1 : Hid (Blk w2 (w.heap.size) 25 [.int .i64 v1.k, .int .i64 v1.n, .int .i64 v1.s, .string v1.t, .slice v1.na v1.nl v1.nc, .slice v1.ka v1.kl v1.kc] ∧ Blk w2 (w.heap.size + 1) 25 [.int .i64 v2.k, .int .i64 v2.n, .int .i64 v2.s, .string v2.t, .slice v2.na v2.nl v2.nc, .slice v2.ka v2.kl v2.kc] ∧ Blk w2 (w.heap.size + 2) 25 [.int .i64 0, .int .i64 0, .int .i64 0, .string ⟨#[]⟩, .slice none 0 0, .slice none 0 0] ∧ Grow w w2) := ⟨(H0.out.1).grow g0, (H0.out.2.1).grow g0, (H0.out.2.2.1).grow g0, Grow.trans (H0.out.2.2.2) g0⟩
  clear H0 g0
  have H2 : Hid (Blk w2 (w.heap.size + 2) 25 [.int .i64 0, .int .i64 0, .int .i64 0, .string ⟨#[]⟩, .slice none 0 0, .slice none 0 0] ∧ Grow w w2) := ⟨(H1.out.2.2.1), (H1.out.2.2.2)⟩
  clear H1
  go_wp2_with ((with_reducible refine st_pre (.tmp 4) (.tmp 21) ?_); refine st_all rfl 25 (.tmp 4) (.tmp 21) rfl (w.heap.size + 2) 25 [.int .i64 0, .int .i64 0, .int .i64 0, .string ⟨#[]⟩, .slice none 0 0, .slice none 0 0] [.int .i64 0, .int .i64 0, .int .i64 0, .string ⟨#[]⟩, .slice none 0 0, .slice none 0 0] rfl rfl H2.out.1 rfl sV (ones rfl) ?_)
  intro w4 yy2 mm2
  have H3 : Hid (Blk w4 (w.heap.size + 2) 25 [.int .i64 0, .int .i64 0, .int .i64 0, .string ⟨#[]⟩, .slice none 0 0, .slice none 0 0] ∧ Grow w w4) := ⟨yy2, (Below.grown (H2.out.2) mm2 (Below.size (H2.out.2)) (by intro e he; injection he with he; omega))⟩
  clear H2 yy2 mm2
  go_wp2
  exact bodyPost_ret (res_two rfl _ (w.heap.size + 2) 25 _ _ rfl (H3.out.1) Tryz.underlying25 rfl sV) rfl ⟨rfl, H3.out.2⟩
set_option maxRecDepth 8000 in
set_option maxHeartbeats 1000000 in
theorem addR_no2 (v1 : Vv) (v2 : Vv) (K1 : Hid (∀ W, Calls Tryz.prog 25 #[.agg #[.int .i64 v1.k, .int .i64 v1.n, .int .i64 v1.s, .string v1.t, .slice v1.na v1.nl v1.nc, .slice v1.ka v1.kl v1.kc]] W fun e w' => e = .returned (.bool true) ∧ Grow W w')) (K2 : Hid (∀ W, Calls Tryz.prog 25 #[.agg #[.int .i64 v2.k, .int .i64 v2.n, .int .i64 v2.s, .string v2.t, .slice v2.na v2.nl v2.nc, .slice v2.ka v2.kl v2.kc]] W fun e w' => e = .returned (.bool false) ∧ Grow W w')) (w : World) :
    Calls Tryz.prog 7 #[.agg #[.int .i64 v1.k, .int .i64 v1.n, .int .i64 v1.s, .string v1.t, .slice v1.na v1.nl v1.nc, .slice v1.ka v1.kl v1.kc], .agg #[.int .i64 v2.k, .int .i64 v2.n, .int .i64 v2.s, .string v2.t, .slice v2.na v2.nl v2.nc, .slice v2.ka v2.kl v2.kc]] w fun e w' => e = .returned (.tuple #[.agg #[.int .i64 0, .int .i64 0, .int .i64 0, .string ⟨#[]⟩, .slice none 0 0, .slice none 0 0], .int .i64 11]) ∧ Grow w w' := by
  go_enter Tryz.func7, Tryz.ntmps7
  go_wp2_with fail
  obtain ⟨w1, HW1, H0⟩ : ∃ w1, (((w.alloc (Obj.cells #[.int .i64 v1.k, .int .i64 v1.n, .int .i64 v1.s, .string v1.t, .slice v1.na v1.nl v1.nc, .slice v1.ka v1.kl v1.kc] 25)).alloc (Obj.cells #[.int .i64 v2.k, .int .i64 v2.n, .int .i64 v2.s, .string v2.t, .slice v2.na v2.nl v2.nc, .slice v2.ka v2.kl v2.kc] 25)).alloc (Obj.cells #[.int .i64 0, .int .i64 0, .int .i64 0, .string ⟨#[]⟩, .slice none 0 0, .slice none 0 0] 25)) = w1 ∧ Hid (Blk w1 (w.heap.size) 25 [.int .i64 v1.k, .int .i64 v1.n, .int .i64 v1.s, .string v1.t, .slice v1.na v1.nl v1.nc, .slice v1.ka v1.kl v1.kc] ∧ Blk w1 (w.heap.size + 1) 25 [.int .i64 v2.k, .int .i64 v2.n, .int .i64 v2.s, .string v2.t, .slice v2.na v2.nl v2.nc, .slice v2.ka v2.kl v2.kc] ∧ Blk w1 (w.heap.size + 2) 25 [.int .i64 0, .int .i64 0, .int .i64 0, .string ⟨#[]⟩, .slice none 0 0, .slice none 0 0] ∧ Grow w w1) := ⟨_, rfl, (Blk.alloc (Blk.alloc (blk_at rfl) _) _), (Blk.alloc (blk_at (by simp)) _), (blk_at (by simp)), ((((Grow.refl _).alloc _).alloc _).alloc _)⟩
  rw [HW1]
  clear HW1
  refine (K1.out _).mono ?_
  rintro e w2 ⟨rfl, g0⟩
  have H1 : Hid (Blk w2 (w.heap.size) 25 [.int .i64 v1.k, .int .i64 v1.n, .int .i64 v1.s, .string v1.t, .slice v1.na v1.nl v1.nc, .slice v1.ka v1.kl v1.kc] ∧ Blk w2 (w.heap.size + 1) 25 [.int .i64 v2.k, .int .i64 v2.n, .int .i64 v2.s, .string v2.t, .slice v2.na v2.nl v2.nc, .slice v2.ka v2.kl v2.kc] ∧ Blk w2 (w.heap.size + 2) 25 [.int .i64 0, .int .i64 0, .int .i64 0, .string ⟨#[]⟩, .slice none 0 0, .slice none 0 0] ∧ Grow w w2) := ⟨(H0.out.1).grow g0, (H0.out.2.1).grow g0, (H0.out.2.2.1).grow g0, Grow.trans (H0.out.2.2.2) g0⟩
  clear H0 g0
  have q1_0 : w2.cell? ⟨w.heap.size + 1, 0, none⟩ = some (.int .i64 v2.k) := (H1.out.2.1).cell 0
  have q1_1 : w2.cell? ⟨w.heap.size + 1, 1, none⟩ = some (.int .i64 v2.n) := (H1.out.2.1).cell 1
  have q1_2 : w2.cell? ⟨w.heap.size + 1, 2, none⟩ = some (.int .i64 v2.s) := (H1.out.2.1).cell 2
  have q1_3 : w2.cell? ⟨w.heap.size + 1, 3, none⟩ = some (.string v2.t) := (H1.out.2.1).cell 3
  have q1_4 : w2.cell? ⟨w.heap.size + 1, 4, none⟩ = some (.slice v2.na v2.nl v2.nc) := (H1.out.2.1).cell 4
  have q1_5 : w2.cell? ⟨w.heap.size + 1, 5, none⟩ = some (.slice v2.ka v2.kl v2.kc) := (H1.out.2.1).cell 5
  go_wp2_with fail
  clear q1_0 q1_1 q1_2 q1_3 q1_4 q1_5
  refine (K2.out _).mono ?_
  rintro e w3 ⟨rfl, g1⟩
  have H2 : Hid (Blk w3 (w.heap.size) 25 [.int .i64 v1.k, .int .i64 v1.n, .int .i64 v1.s, .string v1.t, .slice v1.na v1.nl v1.nc, .slice v1.ka v1.kl v1.kc] ∧ Blk w3 (w.heap.size + 1) 25 [.int .i64 v2.k, .int .i64 v2.n, .int .i64 v2.s, .string v2.t, .slice v2.na v2.nl v2.nc, .slice v2.ka v2.kl v2.kc] ∧ Blk w3 (w.heap.size + 2) 25 [.int .i64 0, .int .i64 0, .int .i64 0, .string ⟨#[]⟩, .slice none 0 0, .slice none 0 0] ∧ Grow w w3) := ⟨(H1.out.1).grow g1, (H1.out.2.1).grow g1, (H1.out.2.2.1).grow g1, Grow.trans (H1.out.2.2.2) g1⟩
  clear H1 g1
  have H3 : Hid (Blk w3 (w.heap.size + 2) 25 [.int .i64 0, .int .i64 0, .int .i64 0, .string ⟨#[]⟩, .slice none 0 0, .slice none 0 0] ∧ Grow w w3) := ⟨(H2.out.2.2.1), (H2.out.2.2.2)⟩
  clear H2
  go_wp2_with ((with_reducible refine st_pre (.tmp 4) (.tmp 21) ?_); refine st_all rfl 25 (.tmp 4) (.tmp 21) rfl (w.heap.size + 2) 25 [.int .i64 0, .int .i64 0, .int .i64 0, .string ⟨#[]⟩, .slice none 0 0, .slice none 0 0] [.int .i64 0, .int .i64 0, .int .i64 0, .string ⟨#[]⟩, .slice none 0 0, .slice none 0 0] rfl rfl H3.out.1 rfl sV (ones rfl) ?_)
  intro w5 yy3 mm3
  have H4 : Hid (Blk w5 (w.heap.size + 2) 25 [.int .i64 0, .int .i64 0, .int .i64 0, .string ⟨#[]⟩, .slice none 0 0, .slice none 0 0] ∧ Grow w w5) := ⟨yy3, (Below.grown (H3.out.2) mm3 (Below.size (H3.out.2)) (by intro e he; injection he with he; omega))⟩
  clear H3 yy3 mm3
  go_wp2
  exact bodyPost_ret (res_two rfl _ (w.heap.size + 2) 25 _ _ rfl (H4.out.1) Tryz.underlying25 rfl sV) rfl ⟨rfl, H4.out.2⟩
set_option maxRecDepth 8000 in
set_option maxHeartbeats 1000000 in
theorem subR_no1 (v1 : Vv) (v2 : Vv) (K1 : Hid (∀ W, Calls Tryz.prog 25 #[.agg #[.int .i64 v1.k, .int .i64 v1.n, .int .i64 v1.s, .string v1.t, .slice v1.na v1.nl v1.nc, .slice v1.ka v1.kl v1.kc]] W fun e w' => e = .returned (.bool false) ∧ Grow W w')) (w : World) :
    Calls Tryz.prog 9 #[.agg #[.int .i64 v1.k, .int .i64 v1.n, .int .i64 v1.s, .string v1.t, .slice v1.na v1.nl v1.nc, .slice v1.ka v1.kl v1.kc], .agg #[.int .i64 v2.k, .int .i64 v2.n, .int .i64 v2.s, .string v2.t, .slice v2.na v2.nl v2.nc, .slice v2.ka v2.kl v2.kc]] w fun e w' => e = .returned (.tuple #[.agg #[.int .i64 0, .int .i64 0, .int .i64 0, .string ⟨#[]⟩, .slice none 0 0, .slice none 0 0], .int .i64 11]) ∧ Grow w w' := by
  go_enter Tryz.func9, Tryz.ntmps9
  go_wp2_with fail
  obtain ⟨w1, HW1, H0⟩ : ∃ w1, (((w.alloc (Obj.cells #[.int .i64 v1.k, .int .i64 v1.n, .int .i64 v1.s, .string v1.t, .slice v1.na v1.nl v1.nc, .slice v1.ka v1.kl v1.kc] 25)).alloc (Obj.cells #[.int .i64 v2.k, .int .i64 v2.n, .int .i64 v2.s, .string v2.t, .slice v2.na v2.nl v2.nc, .slice v2.ka v2.kl v2.kc] 25)).alloc (Obj.cells #[.int .i64 0, .int .i64 0, .int .i64 0, .string ⟨#[]⟩, .slice none 0 0, .slice none 0 0] 25)) = w1 ∧ Hid (Blk w1 (w.heap.size) 25 [.int .i64 v1.k, .int .i64 v1.n, .int .i64 v1.s, .string v1.t, .slice v1.na v1.nl v1.nc, .slice v1.ka v1.kl v1.kc] ∧ Blk w1 (w.heap.size + 1) 25 [.int .i64 v2.k, .int .i64 v2.n, .int .i64 v2.s, .string v2.t, .slice v2.na v2.nl v2.nc, .slice v2.ka v2.kl v2.kc] ∧ Blk w1 (w.heap.size + 2) 25 [.int .i64 0, .int .i64 0, .int .i64 0, .string ⟨#[]⟩, .slice none 0 0, .slice none 0 0] ∧ Grow w w1) := ⟨_, rfl, (Blk.alloc (Blk.alloc (blk_at rfl) _) _), (Blk.alloc (blk_at (by simp)) _), (blk_at (by simp)), ((((Grow.refl _).alloc _).alloc _).alloc _)⟩
  rw [HW1]
  clear HW1
  refine (K1.out _).mono ?_
  rintro e w2 ⟨rfl, g0⟩
  have H1 : Hid (Blk w2 (w.heap.size) 25 [.int .i64 v1.k, .int .i64 v1.n, .int .i64 v1.s, .string v1.t, .slice v1.na v1.nl v1.nc, .slice v1.ka v1.kl v1.kc] ∧ Blk w2 (w.heap.size + 1) 25 [.int .i64 v2.k, .int .i64 v2.n, .int .i64 v2.s, .string v2.t, .slice v2.na v2.nl v2.nc, .slice v2.ka v2.kl v2.kc] ∧ Blk w2 (w.heap.size + 2) 25 [.int .i64 0, .int .i64 0, .int .i64 0, .string ⟨#[]⟩, .slice none 0 0, .slice none 0 0] ∧ Grow w w2) := ⟨(H0.out.1).grow g0, (H0.out.2.1).grow g0, (H0.out.2.2.1).grow g0, Grow.trans (H0.out.2.2.2) g0⟩
  clear H0 g0
  have H2 : Hid (Blk w2 (w.heap.size + 2) 25 [.int .i64 0, .int .i64 0, .int .i64 0, .string ⟨#[]⟩, .slice none 0 0, .slice none 0 0] ∧ Grow w w2) := ⟨(H1.out.2.2.1), (H1.out.2.2.2)⟩
  clear H1
  go_wp2_with ((with_reducible refine st_pre (.tmp 4) (.tmp 23) ?_); refine st_all rfl 25 (.tmp 4) (.tmp 23) rfl (w.heap.size + 2) 25 [.int .i64 0, .int .i64 0, .int .i64 0, .string ⟨#[]⟩, .slice none 0 0, .slice none 0 0] [.int .i64 0, .int .i64 0, .int .i64 0, .string ⟨#[]⟩, .slice none 0 0, .slice none 0 0] rfl rfl H2.out.1 rfl sV (ones rfl) ?_)
  intro w4 yy2 mm2
  have H3 : Hid (Blk w4 (w.heap.size + 2) 25 [.int .i64 0, .int .i64 0, .int .i64 0, .string ⟨#[]⟩, .slice none 0 0, .slice none 0 0] ∧ Grow w w4) := ⟨yy2, (Below.grown (H2.out.2) mm2 (Below.size (H2.out.2)) (by intro e he; injection he with he; omega))⟩
  clear H2 yy2 mm2
  go_wp2
  exact bodyPost_ret (res_two rfl _ (w.heap.size + 2) 25 _ _ rfl (H3.out.1) Tryz.underlying25 rfl sV) rfl ⟨rfl, H3.out.2⟩
set_option maxRecDepth 8000 in
set_option maxHeartbeats 1000000 in
theorem subR_no2 (v1 : Vv) (v2 : Vv) (K1 : Hid (∀ W, Calls Tryz.prog 25 #[.agg #[.int .i64 v1.k, .int .i64 v1.n, .int .i64 v1.s, .string v1.t, .slice v1.na v1.nl v1.nc, .slice v1.ka v1.kl v1.kc]] W fun e w' => e = .returned (.bool true) ∧ Grow W w')) (K2 : Hid (∀ W, Calls Tryz.prog 25 #[.agg #[.int .i64 v2.k, .int .i64 v2.n, .int .i64 v2.s, .string v2.t, .slice v2.na v2.nl v2.nc, .slice v2.ka v2.kl v2.kc]] W fun e w' => e = .returned (.bool false) ∧ Grow W w')) (w : World) :
    Calls Tryz.prog 9 #[.agg #[.int .i64 v1.k, .int .i64 v1.n, .int .i64 v1.s, .string v1.t, .slice v1.na v1.nl v1.nc, .slice v1.ka v1.kl v1.kc], .agg #[.int .i64 v2.k, .int .i64 v2.n, .int .i64 v2.s, .string v2.t, .slice v2.na v2.nl v2.nc, .slice v2.ka v2.kl v2.kc]] w fun e w' => e = .returned (.tuple #[.agg #[.int .i64 0, .int .i64 0, .int .i64 0, .string ⟨#[]⟩, .slice none 0 0, .slice none 0 0], .int .i64 11]) ∧ Grow w w' := by
  go_enter Tryz.func9, Tryz.ntmps9
  go_wp2_with fail
  obtain ⟨w1, HW1, H0⟩ : ∃ w1, (((w.alloc (Obj.cells #[.int .i64 v1.k, .int .i64 v1.n, .int .i64 v1.s, .string v1.t, .slice v1.na v1.nl v1.nc, .slice v1.ka v1.kl v1.kc] 25)).alloc (Obj.cells #[.int .i64 v2.k, .int .i64 v2.n, .int .i64 v2.s, .string v2.t, .slice v2.na v2.nl v2.nc, .slice v2.ka v2.kl v2.kc] 25)).alloc (Obj.cells #[.int .i64 0, .int .i64 0, .int .i64 0, .string ⟨#[]⟩, .slice none 0 0, .slice none 0 0] 25)) = w1 ∧ Hid (Blk w1 (w.heap.size) 25 [.int .i64 v1.k, .int .i64 v1.n, .int .i64 v1.s, .string v1.t, .slice v1.na v1.nl v1.nc, .slice v1.ka v1.kl v1.kc] ∧ Blk w1 (w.heap.size + 1) 25 [.int .i64 v2.k, .int .i64 v2.n, .int .i64 v2.s, .string v2.t, .slice v2.na v2.nl v2.nc, .slice v2.ka v2.kl v2.kc] ∧ Blk w1 (w.heap.size + 2) 25 [.int .i64 0, .int .i64 0, .int .i64 0, .string ⟨#[]⟩, .slice none 0 0, .slice none 0 0] ∧ Grow w w1) := ⟨_, rfl, (Blk.alloc (Blk.alloc (blk_at rfl) _) _), (Blk.alloc (blk_at (by simp)) _), (blk_at (by simp)), ((((Grow.refl _).alloc _).alloc _).alloc _)⟩
  rw [HW1]
  clear HW1
  refine (K1.out _).mono ?_
  rintro e w2 ⟨rfl, g0⟩
  have H1 : Hid (Blk w2 (w.heap.size) 25 [.int .i64 v1.k, .int .i64 v1.n, .int .i64 v1.s, .string v1.t, .slice v1.na v1.nl v1.nc, .slice v1.ka v1.kl v1.kc] ∧ Blk w2 (w.heap.size + 1) 25 [.int .i64 v2.k, .int .i64 v2.n, .int .i64 v2.s, .string v2.t, .slice v2.na v2.nl v2.nc, .slice v2.ka v2.kl v2.kc] ∧ Blk w2 (w.heap.size + 2) 25 [.int .i64 0, .int .i64 0, .int .i64 0, .string ⟨#[]⟩, .slice none 0 0, .slice none 0 0] ∧ Grow w w2) := ⟨(H0.out.1).grow g0, (H0.out.2.1).grow g0, (H0.out.2.2.1).grow g0, Grow.trans (H0.out.2.2.2) g0⟩
  clear H0 g0
  have q1_0 : w2.cell? ⟨w.heap.size + 1, 0, none⟩ = some (.int .i64 v2.k) := (H1.out.2.1).cell 0
  have q1_1 : w2.cell? ⟨w.heap.size + 1, 1, none⟩ = some (.int .i64 v2.n) := (H1.out.2.1).cell 1
  have q1_2 : w2.cell? ⟨w.heap.size + 1, 2, none⟩ = some (.int .i64 v2.s) := (H1.out.2.1).cell 2
  have q1_3 : w2.cell? ⟨w.heap.size + 1, 3, none⟩ = some (.string v2.t) := (H1.out.2.1).cell 3
  have q1_4 : w2.cell? ⟨w.heap.size + 1, 4, none⟩ = some (.slice v2.na v2.nl v2.nc) := (H1.out.2.1).cell 4
  have q1_5 : w2.cell? ⟨w.heap.size + 1, 5, none⟩ = some (.slice v2.ka v2.kl v2.kc) := (H1.out.2.1).cell 5
  go_wp2_with fail
  clear q1_0 q1_1 q1_2 q1_3 q1_4 q1_5
  refine (K2.out _).mono ?_
  rintro e w3 ⟨rfl, g1⟩
  have H2 : Hid (Blk w3 (w.heap.size) 25 [.int .i64 v1.k, .int .i64 v1.n, .int .i64 v1.s, .string v1.t, .slice v1.na v1.nl v1.nc, .slice v1.ka v1.kl v1.kc] ∧ Blk w3 (w.heap.size + 1) 25 [.int .i64 v2.k, .int .i64 v2.n, .int .i64 v2.s, .string v2.t, .slice v2.na v2.nl v2.nc, .slice v2.ka v2.kl v2.kc] ∧ Blk w3 (w.heap.size + 2) 25 [.int .i64 0, .int .i64 0, .int .i64 0, .string ⟨#[]⟩, .slice none 0 0, .slice none 0 0] ∧ Grow w w3) := ⟨(H1.out.1).grow g1, (H1.out.2.1).grow g1, (H1.out.2.2.1).grow g1, Grow.trans (H1.out.2.2.2) g1⟩
  clear H1 g1
  have H3 : Hid (Blk w3 (w.heap.size + 2) 25 [.int .i64 0, .int .i64 0, .int .i64 0, .string ⟨#[]⟩, .slice none 0 0, .slice none 0 0] ∧ Grow w w3) := ⟨(H2.out.2.2.1), (H2.out.2.2.2)⟩
  clear H2
  go_wp2_with ((with_reducible refine st_pre (.tmp 4) (.tmp 23) ?_); refine st_all rfl 25 (.tmp 4) (.tmp 23) rfl (w.heap.size + 2) 25 [.int .i64 0, .int .i64 0, .int .i64 0, .string ⟨#[]⟩, .slice none 0 0, .slice none 0 0] [.int .i64 0, .int .i64 0, .int .i64 0, .string ⟨#[]⟩, .slice none 0 0, .slice none 0 0] rfl rfl H3.out.1 rfl sV (ones rfl) ?_)
  intro w5 yy3 mm3
  have H4 : Hid (Blk w5 (w.heap.size + 2) 25 [.int .i64 0, .int .i64 0, .int .i64 0, .string ⟨#[]⟩, .slice none 0 0, .slice none 0 0] ∧ Grow w w5) := ⟨yy3, (Below.grown (H3.out.2) mm3 (Below.size (H3.out.2)) (by intro e he; injection he with he; omega))⟩
  clear H3 yy3 mm3
  go_wp2
  exact bodyPost_ret (res_two rfl _ (w.heap.size + 2) 25 _ _ rfl (H4.out.1) Tryz.underlying25 rfl sV) rfl ⟨rfl, H4.out.2⟩
set_option maxRecDepth 8000 in
set_option maxHeartbeats 1000000 in
theorem mulR_no1 (v1 : Vv) (v2 : Vv) (K1 : Hid (∀ W, Calls Tryz.prog 25 #[.agg #[.int .i64 v1.k, .int .i64 v1.n, .int .i64 v1.s, .string v1.t, .slice v1.na v1.nl v1.nc, .slice v1.ka v1.kl v1.kc]] W fun e w' => e = .returned (.bool false) ∧ Grow W w')) (w : World) :
    Calls Tryz.prog 11 #[.agg #[.int .i64 v1.k, .int .i64 v1.n, .int .i64 v1.s, .string v1.t, .slice v1.na v1.nl v1.nc, .slice v1.ka v1.kl v1.kc], .agg #[.int .i64 v2.k, .int .i64 v2.n, .int .i64 v2.s, .string v2.t, .slice v2.na v2.nl v2.nc, .slice v2.ka v2.kl v2.kc]] w fun e w' => e = .returned (.tuple #[.agg #[.int .i64 0, .int .i64 0, .int .i64 0, .string ⟨#[]⟩, .slice none 0 0, .slice none 0 0], .int .i64 11]) ∧ Grow w w' := by
  go_enter Tryz.func11, Tryz.ntmps11
  go_wp2_with fail
  obtain ⟨w1, HW1, H0⟩ : ∃ w1, (((w.alloc (Obj.cells #[.int .i64 v1.k, .int .i64 v1.n, .int .i64 v1.s, .string v1.t, .slice v1.na v1.nl v1.nc, .slice v1.ka v1.kl v1.kc] 25)).alloc (Obj.cells #[.int .i64 v2.k, .int .i64 v2.n, .int .i64 v2.s, .string v2.t, .slice v2.na v2.nl v2.nc, .slice v2.ka v2.kl v2.kc] 25)).alloc (Obj.cells #[.int .i64 0, .int .i64 0, .int .i64 0, .string ⟨#[]⟩, .slice none 0 0, .slice none 0 0] 25)) = w1 ∧ Hid (Blk w1 (w.heap.size) 25 [.int .i64 v1.k, .int .i64 v1.n, .int .i64 v1.s, .string v1.t, .slice v1.na v1.nl v1.nc, .slice v1.ka v1.kl v1.kc] ∧ Blk w1 (w.heap.size + 1) 25 [.int .i64 v2.k, .int .i64 v2.n, .int .i64 v2.s, .string v2.t, .slice v2.na v2.nl v2.nc, .slice v2.ka v2.kl v2.kc] ∧ Blk w1 (w.heap.size + 2) 25 [.int .i64 0, .int .i64 0, .int .i64 0, .string ⟨#[]⟩, .slice none 0 0, .slice none 0 0] ∧ Grow w w1) := ⟨_, rfl, (Blk.alloc (Blk.alloc (blk_at rfl) _) _), (Blk.alloc (blk_at (by simp)) _), (blk_at (by simp)), ((((Grow.refl _).alloc _).alloc _).alloc _)⟩
  rw [HW1]
  clear HW1
  refine (K1.out _).mono ?_
  rintro e w2 ⟨rfl, g0⟩
  have H1 : Hid (Blk w2 (w.heap.size) 25 [.int .i64 v1.k, .int .i64 v1.n, .int .i64 v1.s, .string v1.t, .slice v1.na v1.nl v1.nc, .slice v1.ka v1.kl v1.kc] ∧ Blk w2 (w.heap.size + 1) 25 [.int .i64 v2.k, .int .i64 v2.n, .int .i64 v2.s, .string v2.t, .slice v2.na v2.nl v2.nc, .slice v2.ka v2.kl v2.kc] ∧ Blk w2 (w.heap.size + 2) 25 [.int .i64 0, .int .i64 0, .int .i64 0, .string ⟨#[]⟩, .slice none 0 0, .slice none 0 0] ∧ Grow w w2) := ⟨(H0.out.1).grow g0, (H0.out.2.1).grow g0, (H0.out.2.2.1).grow g0, Grow.trans (H0.out.2.2.2) g0⟩
  clear H0 g0
  have H2 : Hid (Blk w2 (w.heap.size + 2) 25 [.int .i64 0, .int .i64 0, .int .i64 0, .string ⟨#[]⟩, .slice none 0 0, .slice none 0 0] ∧ Grow w w2) := ⟨(H1.out.2.2.1), (H1.out.2.2.2)⟩
  clear H1
  go_wp2_with ((with_reducible refine st_pre (.tmp 4) (.tmp 16) ?_); refine st_all rfl 25 (.tmp 4) (.tmp 16) rfl (w.heap.size + 2) 25 [.int .i64 0, .int .i64 0, .int .i64 0, .string ⟨#[]⟩, .slice none 0 0, .slice none 0 0] [.int .i64 0, .int .i64 0, .int .i64 0, .string ⟨#[]⟩, .slice none 0 0, .slice none 0 0] rfl rfl H2.out.1 rfl sV (ones rfl) ?_)
  intro w4 yy2 mm2
  have H3 : Hid (Blk w4 (w.heap.size + 2) 25 [.int .i64 0, .int .i64 0, .int .i64 0, .string ⟨#[]⟩, .slice none 0 0, .slice none 0 0] ∧ Grow w w4) := ⟨yy2, (Below.grown (H2.out.2) mm2 (Below.size (H2.out.2)) (by intro e he; injection he with he; omega))⟩
  clear H2 yy2 mm2
  go_wp2
  exact bodyPost_ret (res_two rfl _ (w.heap.size + 2) 25 _ _ rfl (H3.out.1) Tryz.underlying25 rfl sV) rfl ⟨rfl, H3.out.2⟩
set_option maxRecDepth 8000 in
set_option maxHeartbeats 1000000 in
theorem mulR_no2 (v1 : Vv) (v2 : Vv) (K1 : Hid (∀ W, Calls Tryz.prog 25 #[.agg #[.int .i64 v1.k, .int .i64 v1.n, .int .i64 v1.s, .string v1.t, .slice v1.na v1.nl v1.nc, .slice v1.ka v1.kl v1.kc]] W fun e w' => e = .returned (.bool true) ∧ Grow W w')) (K2 : Hid (∀ W, Calls Tryz.prog 25 #[.agg #[.int .i64 v2.k, .int .i64 v2.n, .int .i64 v2.s, .string v2.t, .slice v2.na v2.nl v2.nc, .slice v2.ka v2.kl v2.kc]] W fun e w' => e = .returned (.bool false) ∧ Grow W w')) (w : World) :
    Calls Tryz.prog 11 #[.agg #[.int .i64 v1.k, .int .i64 v1.n, .int .i64 v1.s, .string v1.t, .slice v1.na v1.nl v1.nc, .slice v1.ka v1.kl v1.kc], .agg #[.int .i64 v2.k, .int .i64 v2.n, .int .i64 v2.s, .string v2.t, .slice v2.na v2.nl v2.nc, .slice v2.ka v2.kl v2.kc]] w fun e w' => e = .returned (.tuple #[.agg #[.int .i64 0, .int .i64 0, .int .i64 0, .string ⟨#[]⟩, .slice none 0 0, .slice none 0 0], .int .i64 11]) ∧ Grow w w' := by
  go_enter Tryz.func11, Tryz.ntmps11
  go_wp2_with fail
  obtain ⟨w1, HW1, H0⟩ : ∃ w1, (((w.alloc (Obj.cells #[.int .i64 v1.k, .int .i64 v1.n, .int .i64 v1.s, .string v1.t, .slice v1.na v1.nl v1.nc, .slice v1.ka v1.kl v1.kc] 25)).alloc (Obj.cells #[.int .i64 v2.k, .int .i64 v2.n, .int .i64 v2.s, .string v2.t, .slice v2.na v2.nl v2.nc, .slice v2.ka v2.kl v2.kc] 25)).alloc (Obj.cells #[.int .i64 0, .int .i64 0, .int .i64 0, .string ⟨#[]⟩, .slice none 0 0, .slice none 0 0] 25)) = w1 ∧ Hid (Blk w1 (w.heap.size) 25 [.int .i64 v1.k, .int .i64 v1.n, .int .i64 v1.s, .string v1.t, .slice v1.na v1.nl v1.nc, .slice v1.ka v1.kl v1.kc] ∧ Blk w1 (w.heap.size + 1) 25 [.int .i64 v2.k, .int .i64 v2.n, .int .i64 v2.s, .string v2.t, .slice v2.na v2.nl v2.nc, .slice v2.ka v2.kl v2.kc] ∧ Blk w1 (w.heap.size + 2) 25 [.int .i64 0, .int .i64 0, .int .i64 0, .string ⟨#[]⟩, .slice none 0 0, .slice none 0 0] ∧ Grow w w1) := ⟨_, rfl, (Blk.alloc (Blk.alloc (blk_at rfl) _) _), (Blk.alloc (blk_at (by simp)) _), (blk_at (by simp)), ((((Grow.refl _).alloc _).alloc _).alloc _)⟩
  rw [HW1]
  clear HW1
  refine (K1.out _).mono ?_
  rintro e w2 ⟨rfl, g0⟩
  have H1 : Hid (Blk w2 (w.heap.size) 25 [.int .i64 v1.k, .int .i64 v1.n, .int .i64 v1.s, .string v1.t, .slice v1.na v1.nl v1.nc, .slice v1.ka v1.kl v1.kc] ∧ Blk w2 (w.heap.size + 1) 25 [.int .i64 v2.k, .int .i64 v2.n, .int .i64 v2.s, .string v2.t, .slice v2.na v2.nl v2.nc, .slice v2.ka v2.kl v2.kc] ∧ Blk w2 (w.heap.size + 2) 25 [.int .i64 0, .int .i64 0, .int .i64 0, .string ⟨#[]⟩, .slice none 0 0, .slice none 0 0] ∧ Grow w w2) := ⟨(H0.out.1).grow g0, (H0.out.2.1).grow g0, (H0.out.2.2.1).grow g0, Grow.trans (H0.out.2.2.2) g0⟩
  clear H0 g0
  have q1_0 : w2.cell? ⟨w.heap.size + 1, 0, none⟩ = some (.int .i64 v2.k) := (H1.out.2.1).cell 0
  have q1_1 : w2.cell? ⟨w.heap.size + 1, 1, none⟩ = some (.int .i64 v2.n) := (H1.out.2.1).cell 1
  have q1_2 : w2.cell? ⟨w.heap.size + 1, 2, none⟩ = some (.int .i64 v2.s) := (H1.out.2.1).cell 2
  have q1_3 : w2.cell? ⟨w.heap.size + 1, 3, none⟩ = some (.string v2.t) := (H1.out.2.1).cell 3
  have q1_4 : w2.cell? ⟨w.heap.size + 1, 4, none⟩ = some (.slice v2.na v2.nl v2.nc) := (H1.out.2.1).cell 4
  have q1_5 : w2.cell? ⟨w.heap.size + 1, 5, none⟩ = some (.slice v2.ka v2.kl v2.kc) := (H1.out.2.1).cell 5
  go_wp2_with fail
  clear q1_0 q1_1 q1_2 q1_3 q1_4 q1_5
  refine (K2.out _).mono ?_
  rintro e w3 ⟨rfl, g1⟩
  have H2 : Hid (Blk w3 (w.heap.size) 25 [.int .i64 v1.k, .int .i64 v1.n, .int .i64 v1.s, .string v1.t, .slice v1.na v1.nl v1.nc, .slice v1.ka v1.kl v1.kc] ∧ Blk w3 (w.heap.size + 1) 25 [.int .i64 v2.k, .int .i64 v2.n, .int .i64 v2.s, .string v2.t, .slice v2.na v2.nl v2.nc, .slice v2.ka v2.kl v2.kc] ∧ Blk w3 (w.heap.size + 2) 25 [.int .i64 0, .int .i64 0, .int .i64 0, .string ⟨#[]⟩, .slice none 0 0, .slice none 0 0] ∧ Grow w w3) := ⟨(H1.out.1).grow g1, (H1.out.2.1).grow g1, (H1.out.2.2.1).grow g1, Grow.trans (H1.out.2.2.2) g1⟩
  clear H1 g1
  have H3 : Hid (Blk w3 (w.heap.size + 2) 25 [.int .i64 0, .int .i64 0, .int .i64 0, .string ⟨#[]⟩, .slice none 0 0, .slice none 0 0] ∧ Grow w w3) := ⟨(H2.out.2.2.1), (H2.out.2.2.2)⟩
  clear H2
  go_wp2_with ((with_reducible refine st_pre (.tmp 4) (.tmp 16) ?_); refine st_all rfl 25 (.tmp 4) (.tmp 16) rfl (w.heap.size + 2) 25 [.int .i64 0, .int .i64 0, .int .i64 0, .string ⟨#[]⟩, .slice none 0 0, .slice none 0 0] [.int .i64 0, .int .i64 0, .int .i64 0, .string ⟨#[]⟩, .slice none 0 0, .slice none 0 0] rfl rfl H3.out.1 rfl sV (ones rfl) ?_)
  intro w5 yy3 mm3
  have H4 : Hid (Blk w5 (w.heap.size + 2) 25 [.int .i64 0, .int .i64 0, .int .i64 0, .string ⟨#[]⟩, .slice none 0 0, .slice none 0 0] ∧ Grow w w5) := ⟨yy3, (Below.grown (H3.out.2) mm3 (Below.size (H3.out.2)) (by intro e he; injection he with he; omega))⟩
  clear H3 yy3 mm3
  go_wp2
  exact bodyPost_ret (res_two rfl _ (w.heap.size + 2) 25 _ _ rfl (H4.out.1) Tryz.underlying25 rfl sV) rfl ⟨rfl, H4.out.2⟩
set_option maxRecDepth 8000 in
set_option maxHeartbeats 1000000 in
theorem negRR_no1 (v1 : Vv) (K1 : Hid (∀ W, Calls Tryz.prog 25 #[.agg #[.int .i64 v1.k, .int .i64 v1.n, .int .i64 v1.s, .string v1.t, .slice v1.na v1.nl v1.nc, .slice v1.ka v1.kl v1.kc]] W fun e w' => e = .returned (.bool false) ∧ Grow W w')) (w : World) :
    Calls Tryz.prog 13 #[.agg #[.int .i64 v1.k, .int .i64 v1.n, .int .i64 v1.s, .string v1.t, .slice v1.na v1.nl v1.nc, .slice v1.ka v1.kl v1.kc]] w fun e w' => e = .returned (.tuple #[.agg #[.int .i64 0, .int .i64 0, .int .i64 0, .string ⟨#[]⟩, .slice none 0 0, .slice none 0 0], .int .i64 11]) ∧ Grow w w' := by
  go_enter Tryz.func13, Tryz.ntmps13
  go_wp2_with fail
  obtain ⟨w1, HW1, H0⟩ : ∃ w1, ((w.alloc (Obj.cells #[.int .i64 v1.k, .int .i64 v1.n, .int .i64 v1.s, .string v1.t, .slice v1.na v1.nl v1.nc, .slice v1.ka v1.kl v1.kc] 25)).alloc (Obj.cells #[.int .i64 0, .int .i64 0, .int .i64 0, .string ⟨#[]⟩, .slice none 0 0, .slice none 0 0] 25)) = w1 ∧ Hid (Blk w1 (w.heap.size) 25 [.int .i64 v1.k, .int .i64 v1.n, .int .i64 v1.s, .string v1.t, .slice v1.na v1.nl v1.nc, .slice v1.ka v1.kl v1.kc] ∧ Blk w1 (w.heap.size + 1) 25 [.int .i64 0, .int .i64 0, .int .i64 0, .string ⟨#[]⟩, .slice none 0 0, .slice none 0 0] ∧ Grow w w1) := ⟨_, rfl, (Blk.alloc (blk_at rfl) _), (blk_at (by simp)), (((Grow.refl _).alloc _).alloc _)⟩
  rw [HW1]
  clear HW1
  refine (K1.out _).mono ?_
  rintro e w2 ⟨rfl, g0⟩
  have H1 : Hid (Blk w2 (w.heap.size) 25 [.int .i64 v1.k, .int .i64 v1.n, .int .i64 v1.s, .string v1.t, .slice v1.na v1.nl v1.nc, .slice v1.ka v1.kl v1.kc] ∧ Blk w2 (w.heap.size + 1) 25 [.int .i64 0, .int .i64 0, .int .i64 0, .string ⟨#[]⟩, .slice none 0 0, .slice none 0 0] ∧ Grow w w2) := ⟨(H0.out.1).grow g0, (H0.out.2.1).grow g0, Grow.trans (H0.out.2.2) g0⟩
  clear H0 g0
  have H2 : Hid (Blk w2 (w.heap.size + 1) 25 [.int .i64 0, .int .i64 0, .int .i64 0, .string ⟨#[]⟩, .slice none 0 0, .slice none 0 0] ∧ Grow w w2) := ⟨(H1.out.2.1), (H1.out.2.2)⟩
  clear H1
  go_wp2_with ((with_reducible refine st_pre (.tmp 2) (.tmp 9) ?_); refine st_all rfl 25 (.tmp 2) (.tmp 9) rfl (w.heap.size + 1) 25 [.int .i64 0, .int .i64 0, .int .i64 0, .string ⟨#[]⟩, .slice none 0 0, .slice none 0 0] [.int .i64 0, .int .i64 0, .int .i64 0, .string ⟨#[]⟩, .slice none 0 0, .slice none 0 0] rfl rfl H2.out.1 rfl sV (ones rfl) ?_)
  intro w4 yy2 mm2
  have H3 : Hid (Blk w4 (w.heap.size + 1) 25 [.int .i64 0, .int .i64 0, .int .i64 0, .string ⟨#[]⟩, .slice none 0 0, .slice none 0 0] ∧ Grow w w4) := ⟨yy2, (Below.grown (H2.out.2) mm2 (Below.size (H2.out.2)) (by intro e he; injection he with he; omega))⟩
  clear H2 yy2 mm2
  go_wp2
  exact bodyPost_ret (res_two rfl _ (w.heap.size + 1) 25 _ _ rfl (H3.out.1) Tryz.underlying25 rfl sV) rfl ⟨rfl, H3.out.2⟩
end Go.Proofs.YtbafmdjlnmeofaaGreatDoor
