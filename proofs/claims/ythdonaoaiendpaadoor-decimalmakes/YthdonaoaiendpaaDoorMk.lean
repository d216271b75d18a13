/-
  The document's own Make; DecimalMakes' walk.
-/
import Derived.Test.YthdonaoaiendpaaDoorRa
import Derived.Test.YthdonaoaiendpaaDoorKn
namespace Go.Proofs.YthdonaoaiendpaaDoor
open Go.RowKit
set_option linter.unusedVariables false
set_option maxRecDepth 8000 in
theorem makeR_no (n s : Int) (hs : s < 0) (w : World) :
    Calls Tryd.prog 9 #[.int .i64 n, .int .i64 s] w fun e w' => e = .returned (.tuple #[.agg #[.int .i64 0, .int .i64 0, .int .i64 0, .string ⟨#[]⟩, .slice none 0 0, .slice none 0 0], .int .i64 10]) ∧ Grow w w' := by
  go_enter Tryd.func9, Tryd.ntmps9
  go_wp2
  exact bodyPost_ret (res_two rfl _ w.heap.size 25 _ _ rfl (blk_at rfl) Tryd.underlying25 rfl sV) rfl ⟨rfl, (Grow.refl _).alloc _⟩
set_option maxRecDepth 8000 in
theorem makeR_yes (n : Int) (s : Nat) (hs : s < 9223372036854775808) (f : -9223372036854775808 ≤ n ∧ n < 9223372036854775808) (r : Rs) (hr : rs n s = r) (w : World) :
    Calls Tryd.prog 9 #[.int .i64 n, .int .i64 (s : Int)] w fun e w' => e = .returned (.tuple #[.agg #[.int .i64 r.k, .int .i64 r.n, .int .i64 r.s, .string ⟨#[]⟩, .slice none 0 0, .slice none 0 0], .int .i64 r.e]) ∧ Grow w w' := by
  have g := sgn_abs n
  have K1 : Hid (∀ W, Calls Tryd.prog 21 #[.int .i64 n] W fun e w' => e = .returned (.agg #[.int .u64 0, .int .u64 (n.natAbs : Int), .bool (decide (n < 0))]) ∧ Grow W w') := fun W => ofR_any n _ rfl _ rfl f.1 f.2 W
  have K2 : Hid (∀ W, Calls Tryd.prog 20 #[.agg #[.int .u64 0, .int .u64 (n.natAbs : Int), .bool (decide (n < 0))], .int .i64 (s : Int)] W fun e w' => e = .returned (.tuple #[.agg #[.int .i64 r.k, .int .i64 r.n, .int .i64 r.s, .string ⟨#[]⟩, .slice none 0 0, .slice none 0 0], .int .i64 r.e]) ∧ Grow W w') := fun W => leastR_any (decide (n < 0)) 0 n.natAbs n.natAbs s hs ⟨by omega, by omega, by omega⟩ r (by rw [g]; exact hr) W
  generalize n.natAbs = A at *
  generalize decide (n < 0) = B at *
  clear g f hr
  go_enter Tryd.func9, Tryd.ntmps9
  go_wp2_with fail
  obtain ⟨w1, HW1⟩ : ∃ w1, (w.alloc (Obj.cells #[.int .i64 0, .int .i64 0, .int .i64 0, .string ⟨#[]⟩, .slice none 0 0, .slice none 0 0] 25)) = w1 := ⟨_, rfl⟩
  obtain ⟨C, hC⟩ : ∃ C : World → Prop, C = fun W => Grow w1 W := ⟨_, rfl⟩
  have GW : Hid (∀ W, C W → Grow w W) := fun W hW => by rw [hC, ← HW1] at hW; exact Grow.trans ((Grow.refl _).alloc _) hW
  have B0 : Hid (∀ W, C W → Blk W (w.heap.size) 25 [.int .i64 0, .int .i64 0, .int .i64 0, .string ⟨#[]⟩, .slice none 0 0, .slice none 0 0]) := fun W hW => by rw [hC, ← HW1] at hW; exact Blk.grow (blk_at rfl) hW
  have CG : Hid (∀ W W', C W → Grow W W' → C W') := fun W W' h1 h2 => by rw [hC] at h1 ⊢; exact h1.trans h2
  have CW : Hid (C w1) := by rw [hC]; exact Grow.refl _
  rw [HW1]
  clear HW1 hC
  refine (K1.out _).mono ?_
  rintro e w2 ⟨rfl, g2⟩
  go_wp2_with fail
  refine (K2.out _).mono ?_
  rintro e w3 ⟨rfl, g3⟩
  have HB : Hid (Blk w3 w.heap.size 25 [.int .i64 0, .int .i64 0, .int .i64 0, .string ⟨#[]⟩, .slice none 0 0, .slice none 0 0] ∧ Grow w w3) := ⟨((B0.out _ CW.out).grow g2).grow g3, ((GW.out _ CW.out).trans g2).trans g3⟩
  clear B0 GW CG CW g2 g3 K1 K2
  go_wp2_with (refine st_all rfl 25 (.tmp 4) (.tmp 13) rfl w.heap.size 25 [.int .i64 0, .int .i64 0, .int .i64 0, .string ⟨#[]⟩, .slice none 0 0, .slice none 0 0] [.int .i64 r.k, .int .i64 r.n, .int .i64 r.s, .string ⟨#[]⟩, .slice none 0 0, .slice none 0 0] rfl rfl HB.out.1 rfl sV (ones rfl) ?_)
  intro w5 b5 g5
  have HB5 : Hid (Blk w5 w.heap.size 25 [.int .i64 r.k, .int .i64 r.n, .int .i64 r.s, .string ⟨#[]⟩, .slice none 0 0, .slice none 0 0]) := b5
  have HG5 : Hid (Grow w w5) := Below.grown HB.out.2 g5 HB.out.2.size (by intro e he; injection he with he; omega)
  clear b5 g5 HB
  go_wp2
  exact bodyPost_ret (res_two rfl _ w.heap.size 25 _ _ rfl HB5.out Tryd.underlying25 rfl sV) rfl ⟨rfl, HG5.out⟩
theorem makeR_any (n s : Int) (f : -9223372036854775808 ≤ n ∧ n < 9223372036854775808) (hs : s < 9223372036854775808) (w : World) :
    Calls Tryd.prog 9 #[.int .i64 n, .int .i64 s] w fun e w' => e = .returned (.tuple #[.agg #[.int .i64 (mkR n s).k, .int .i64 (mkR n s).n, .int .i64 (mkR n s).s, .string ⟨#[]⟩, .slice none 0 0, .slice none 0 0], .int .i64 (mkR n s).e]) ∧ Grow w w' := by
  by_cases h : s < 0
  · have e : mkR n s = .rg := by simp [mkR, h]
    rw [e]
    exact makeR_no n s h w
  · have e : mkR n s = rs n s.toNat := by simp [mkR, h]
    rw [e]
    have := makeR_yes n s.toNat (by omega) f _ rfl w
    rw [show ((s.toNat : Nat) : Int) = s by omega] at this
    exact this
set_option maxRecDepth 8000 in
set_option maxHeartbeats 1000000 in
theorem makes_in (a b k1 n1 s1 e1 : Int) (M1 : Hid (∀ W, Calls Tryd.prog 8 #[.int .i64 a, .int .i64 b] W fun e w' => e = .returned (.tuple #[.agg #[.int .i64 k1, .int .i64 n1, .int .i64 s1, .string ⟨#[]⟩, .slice none 0 0, .slice none 0 0], .int .i64 e1]) ∧ Grow W w')) (M2 : Hid (∀ W, Calls Tryd.prog 9 #[.int .i64 a, .int .i64 b] W fun e w' => e = .returned (.tuple #[.agg #[.int .i64 k1, .int .i64 n1, .int .i64 s1, .string ⟨#[]⟩, .slice none 0 0, .slice none 0 0], .int .i64 e1]) ∧ Grow W w')) (w : World) :
    Calls Tryd.prog 3 #[.int .i64 a, .int .i64 b] w fun e w' => e = .returned (.bool true) ∧ Grow w w' := by
  go_enter Tryd.func3, Tryd.ntmps3
  go_wp2_with fail
  have H0 : Hid (Grow w w) := Grow.refl _
  refine (M1.out _).mono ?_
  rintro e w2 ⟨rfl, g0⟩
  have H1 : Hid (Grow w w2) := Grow.trans (H0.out) g0
  clear H0 g0
  go_wp2_with (refine al_zero rfl 25 rfl [.int .i64 0, .int .i64 0, .int .i64 0, .string ⟨#[]⟩, .slice none 0 0, .slice none 0 0] zV ?_)
  intro b1 vv1 ss1 zz1 xx1
  go_wp2_with (refine st_all rfl 25 (.tmp 5) (.tmp 13) rfl b1 25 [.int .i64 0, .int .i64 0, .int .i64 0, .string ⟨#[]⟩, .slice none 0 0, .slice none 0 0] [.int .i64 k1, .int .i64 n1, .int .i64 s1, .string ⟨#[]⟩, .slice none 0 0, .slice none 0 0] rfl rfl zz1 rfl sV (ones rfl) ?_)
  intro w3 yy1 mm1
  have H2 : Hid (Blk w3 (b1) 25 [.int .i64 k1, .int .i64 n1, .int .i64 s1, .string ⟨#[]⟩, .slice none 0 0, .slice none 0 0] ∧ Grow w w3) := ⟨yy1, (by have x1 := H1.out; have x2 : Below w.heap.size w vv1 := Below.grown x1 xx1 x1.size (by intro e he; cases he); exact Below.grown x2 mm1 x2.size (by intro e he; injection he with he; have := x1.size; omega))⟩
  clear H1 ss1 zz1 xx1 yy1 mm1
  go_wp2_with fail
  refine (M2.out _).mono ?_
  rintro e w4 ⟨rfl, g2⟩
  have H3 : Hid (Blk w4 (b1) 25 [.int .i64 k1, .int .i64 n1, .int .i64 s1, .string ⟨#[]⟩, .slice none 0 0, .slice none 0 0] ∧ Grow w w4) := ⟨(H2.out.1).grow g2, Grow.trans (H2.out.2) g2⟩
  clear H2 g2
  go_wp2_with (refine al_zero rfl 25 rfl [.int .i64 0, .int .i64 0, .int .i64 0, .string ⟨#[]⟩, .slice none 0 0, .slice none 0 0] zV ?_)
  intro b2 vv3 ss3 zz3 xx3
  go_wp2_with (refine st_all rfl 25 (.tmp 7) (.tmp 19) rfl b2 25 [.int .i64 0, .int .i64 0, .int .i64 0, .string ⟨#[]⟩, .slice none 0 0, .slice none 0 0] [.int .i64 k1, .int .i64 n1, .int .i64 s1, .string ⟨#[]⟩, .slice none 0 0, .slice none 0 0] rfl rfl zz3 rfl sV (ones rfl) ?_)
  intro w5 yy3 mm3
  have H4 : Hid (Blk w5 (b1) 25 [.int .i64 k1, .int .i64 n1, .int .i64 s1, .string ⟨#[]⟩, .slice none 0 0, .slice none 0 0] ∧ Blk w5 (b2) 25 [.int .i64 k1, .int .i64 n1, .int .i64 s1, .string ⟨#[]⟩, .slice none 0 0, .slice none 0 0] ∧ Grow w w5) := ⟨(((H3.out.1).kept xx3 (by simp)).kept mm3 (by intro e; injection e with e; have := (H3.out.1).lt; omega)), yy3, (by have x1 := H3.out.2; have x2 : Below w.heap.size w vv3 := Below.grown x1 xx3 x1.size (by intro e he; cases he); exact Below.grown x2 mm3 x2.size (by intro e he; injection he with he; have := x1.size; omega))⟩
  clear H3 ss3 zz3 xx3 yy3 mm3
  have q0_0 : w5.cell? ⟨b1, 0, none⟩ = some (.int .i64 k1) := (H4.out.1).cell 0
  have q0_1 : w5.cell? ⟨b1, 1, none⟩ = some (.int .i64 n1) := (H4.out.1).cell 1
  have q0_2 : w5.cell? ⟨b1, 2, none⟩ = some (.int .i64 s1) := (H4.out.1).cell 2
  have q0_3 : w5.cell? ⟨b1, 3, none⟩ = some (.string ⟨#[]⟩) := (H4.out.1).cell 3
  have q0_4 : w5.cell? ⟨b1, 4, none⟩ = some (.slice none 0 0) := (H4.out.1).cell 4
  have q0_5 : w5.cell? ⟨b1, 5, none⟩ = some (.slice none 0 0) := (H4.out.1).cell 5
  have q1_0 : w5.cell? ⟨b2, 0, none⟩ = some (.int .i64 k1) := (H4.out.2.1).cell 0
  have q1_1 : w5.cell? ⟨b2, 1, none⟩ = some (.int .i64 n1) := (H4.out.2.1).cell 1
  have q1_2 : w5.cell? ⟨b2, 2, none⟩ = some (.int .i64 s1) := (H4.out.2.1).cell 2
  have q1_3 : w5.cell? ⟨b2, 3, none⟩ = some (.string ⟨#[]⟩) := (H4.out.2.1).cell 3
  have q1_4 : w5.cell? ⟨b2, 4, none⟩ = some (.slice none 0 0) := (H4.out.2.1).cell 4
  have q1_5 : w5.cell? ⟨b2, 5, none⟩ = some (.slice none 0 0) := (H4.out.2.1).cell 5
  go_wp2_with fail
  clear q0_0 q0_1 q0_2 q0_3 q0_4 q0_5 q1_0 q1_1 q1_2 q1_3 q1_4 q1_5
  refine (got_any k1 n1 s1 k1 n1 s1 e1 e1 none none none none 0 0 0 0 (by simp [same3]) rfl _).mono ?_
  rintro e w6 ⟨rfl, g4⟩
  have H5 : Hid (Blk w6 (b1) 25 [.int .i64 k1, .int .i64 n1, .int .i64 s1, .string ⟨#[]⟩, .slice none 0 0, .slice none 0 0] ∧ Blk w6 (b2) 25 [.int .i64 k1, .int .i64 n1, .int .i64 s1, .string ⟨#[]⟩, .slice none 0 0, .slice none 0 0] ∧ Grow w w6) := ⟨(H4.out.1).grow g4, (H4.out.2.1).grow g4, Grow.trans (H4.out.2.2) g4⟩
  clear H4 g4
  go_wp2_with fail
  refine (known_any _).mono ?_
  rintro e w7 ⟨rfl, g5⟩
  have H6 : Hid (Blk w7 (b1) 25 [.int .i64 k1, .int .i64 n1, .int .i64 s1, .string ⟨#[]⟩, .slice none 0 0, .slice none 0 0] ∧ Blk w7 (b2) 25 [.int .i64 k1, .int .i64 n1, .int .i64 s1, .string ⟨#[]⟩, .slice none 0 0, .slice none 0 0] ∧ Grow w w7) := ⟨(H5.out.1).grow g5, (H5.out.2.1).grow g5, Grow.trans (H5.out.2.2) g5⟩
  clear H5 g5
  go_wp2
  go_ret
  exact ⟨rfl, H6.out.2.2⟩
theorem lit_i64 {n : Int} (h : (Lit.int .i64 n).wf = true) : -9223372036854775808 ≤ n ∧ n < 9223372036854775808 := by
  have h1 : (decide (IntKind.i64.min ≤ n) && decide (n ≤ IntKind.i64.max)) = true := h
  rw [show IntKind.i64.min = -9223372036854775808 by decide, show IntKind.i64.max = 9223372036854775807 by decide] at h1
  simp only [Bool.and_eq_true, decide_eq_true_eq] at h1
  omega
theorem makes_walk (a b : Int) (f : -9223372036854775808 ≤ a ∧ a < 9223372036854775808) (hb : b < 9223372036854775808) (w : World) :
    Calls Tryd.prog 3 #[.int .i64 a, .int .i64 b] w fun e w' => e = .returned (.bool true) ∧ Grow w w' :=
  makes_in a b (mkR a b).k (mkR a b).n (mkR a b).s (mkR a b).e (fun W => make_any a b f hb W) (fun W => makeR_any a b f hb W) w
end Go.Proofs.YthdonaoaiendpaaDoor
