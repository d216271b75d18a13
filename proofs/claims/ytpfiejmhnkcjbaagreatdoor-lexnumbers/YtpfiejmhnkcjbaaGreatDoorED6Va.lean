/-
  decimal's numbers: value.
-/
import Derived.Test.YtpfiejmhnkcjbaaGreatDoorED6Le
namespace Go.Proofs.YtpfiejmhnkcjbaaGreatDoor.D6
open Go.RowKit
set_option linter.unusedVariables false
/-- What is answered: no number was handed in; it leaves its digits; a number. -/
inductive Rs where
  | ty : Rs
  | rg : Rs
  | ok (y : Int) (t : Nat) : Rs
def kd (t : Nat) : Int := if t = 0 then 3 else 4
def Rs.k : Rs → Int
  | .ok _ t => kd t
  | _ => 0
def Rs.n : Rs → Int
  | .ok y _ => y
  | _ => 0
def Rs.s : Rs → Int
  | .ok _ t => (t : Int)
  | _ => 0
def Rs.e : Rs → Int
  | .ty => 11
  | .rg => 10
  | .ok _ _ => 0
/-- The least form of z, s times divided by ten, or that it leaves its digits. -/
def rs (z : Int) (s : Nat) : Rs := match res z s with
  | some (y, t) => .ok y t
  | none => .rg
def sgn (b : Bool) (m : Nat) : Int := if b then -(m : Int) else (m : Int)
theorem rs_zero (s : Nat) : rs 0 s = .ok 0 0 := by
  have : dn 0 s = (0, 0) := by simp [dn, dnN_zero]
  simp [rs, res, this, fits]
theorem dn_sgn (b : Bool) {m s m' s' : Nat} (hm : m ≠ 0) (h : dnN m s = (m', s')) : dn (sgn b m) s = (sgn b m', s') := by
  cases b
  · have e : sgn false m = (m : Int) := rfl
    have e2 : sgn false m' = (m' : Int) := rfl
    rw [e, e2]
    unfold dn
    simp only [Int.natAbs_natCast, h]
    rw [if_neg (by omega)]
  · have e : sgn true m = -(m : Int) := rfl
    have e2 : sgn true m' = -(m' : Int) := rfl
    rw [e, e2]
    unfold dn
    simp only [Int.natAbs_neg, Int.natAbs_natCast, h]
    rw [if_pos (by omega)]
theorem rs_ok (b : Bool) {m s m' s' : Nat} (hm : m ≠ 0) (h : dnN m s = (m', s')) (h1 : s' ≤ 18) (h2 : m' ≤ 9223372036854775807 + b.toNat) : rs (sgn b m) s = .ok (sgn b m') s' := by
  have : fits (sgn b m', s') = true := by
    simp only [fits, Bool.and_eq_true, decide_eq_true_eq]
    cases b <;> simp only [sgn, Bool.toNat_true, Bool.toNat_false] at * <;> refine ⟨⟨h1, ?_⟩, ?_⟩ <;> simp <;> omega
  simp [rs, res, dn_sgn b hm h, this]
theorem rs_no (b : Bool) {m s m' s' : Nat} (hm : m ≠ 0) (h : dnN m s = (m', s')) (h1 : 18 < s' ∨ 9223372036854775807 + b.toNat < m') : rs (sgn b m) s = .rg := by
  have : fits (sgn b m', s') = false := by
    cases hf : fits (sgn b m', s') with
    | false => rfl
    | true =>
      exfalso
      simp only [fits, Bool.and_eq_true, decide_eq_true_eq] at hf
      obtain ⟨⟨f1, f2⟩, f3⟩ := hf
      cases b <;> simp only [sgn, Bool.toNat_true, Bool.toNat_false] at * <;> simp at f2 f3 <;> omega
  simp [rs, res, dn_sgn b hm h, this]
theorem conv_neg (l : Nat) (hl : l ≤ 9223372036854775808) : IntKind.i64.wrap (IntKind.u64.wrap (-(l : Int))) = -(l : Int) := by
  rw [IntKind.wrap_u64, IntKind.wrap_i64]
  omega
theorem conv_neg' (l : Nat) (hl : l ≤ 9223372036854775808) : wrap64 (IntKind.u64.wrap (-(l : Int))) = -(l : Int) := by
  have h := conv_neg l hl
  rw [IntKind.wrap_i64] at h
  unfold wrap64
  exact h
set_option maxRecDepth 8000 in
theorem value_zero (b : Bool) (s : Int) (w : World) :
    Calls Tryz.prog 77 #[.agg #[.bool b, .int .u64 0, .int .u64 0, .int .i64 s]] w fun e w' => e = .returned (.tuple #[.agg #[.int .i64 3, .int .i64 0, .int .i64 0, .string ⟨#[]⟩, .slice none 0 0, .slice none 0 0], .int .i64 0]) ∧ Grow w w' := by
  have K : Hid (∀ W, Calls Tryz.prog 101 #[.agg #[.bool b, .int .u64 0, .int .u64 0, .int .i64 s]] W fun e w' => e = .returned (.agg #[.bool false, .int .u64 0, .int .u64 0, .int .i64 0]) ∧ Grow W w') := fun W => least_zero b s W
  go_enter Tryz.func77, Tryz.ntmps77
  go_wp2_with fail
  obtain ⟨w1, HW1⟩ : ∃ w1, ((w.alloc (Obj.cells #[.bool b, .int .u64 0, .int .u64 0, .int .i64 s] 102)).alloc (Obj.cells #[.int .i64 0, .int .i64 0, .int .i64 0, .string ⟨#[]⟩, .slice none 0 0, .slice none 0 0] 41)) = w1 := ⟨_, rfl⟩
  obtain ⟨C, hC⟩ : ∃ C : World → Prop, C = fun W => Grow w1 W := ⟨_, rfl⟩
  have GW : Hid (∀ W, C W → Grow w W) := fun W hW => by rw [hC, ← HW1] at hW; exact Grow.trans (((Grow.refl _).alloc _).alloc _) hW
  have B0 : Hid (∀ W, C W → Blk W (w.heap.size) 102 [.bool b, .int .u64 0, .int .u64 0, .int .i64 s]) := fun W hW => by rw [hC, ← HW1] at hW; exact Blk.grow (Blk.alloc (blk_at rfl) _) hW
  have B1 : Hid (∀ W, C W → Blk W (w.heap.size + 1) 41 [.int .i64 0, .int .i64 0, .int .i64 0, .string ⟨#[]⟩, .slice none 0 0, .slice none 0 0]) := fun W hW => by rw [hC, ← HW1] at hW; exact Blk.grow (blk_at (by simp)) hW
  have CG : Hid (∀ W W', C W → Grow W W' → C W') := fun W W' h1 h2 => by rw [hC] at h1 ⊢; exact h1.trans h2
  have CW : Hid (C w1) := by rw [hC]; exact Grow.refl _
  rw [HW1]
  clear HW1 hC
  refine (K.out _).mono ?_
  rintro e w2 ⟨rfl, g2⟩
  have HB : Hid (Blk w2 w.heap.size 102 [.bool b, .int .u64 0, .int .u64 0, .int .i64 s] ∧ Blk w2 (w.heap.size + 1) 41 [.int .i64 0, .int .i64 0, .int .i64 0, .string ⟨#[]⟩, .slice none 0 0, .slice none 0 0] ∧ Grow w w2) := ⟨(B0.out _ CW.out).grow g2, (B1.out _ CW.out).grow g2, (GW.out _ CW.out).trans g2⟩
  clear B0 B1 GW CG CW g2 K
  go_wp2_with (refine st_all rfl 102 (.tmp 1) (.tmp 8) rfl w.heap.size 102 [.bool b, .int .u64 0, .int .u64 0, .int .i64 s] [.bool false, .int .u64 0, .int .u64 0, .int .i64 0] rfl rfl HB.out.1 rfl sN (ones rfl) ?_)
  intro w3 b3 g3
  have HC : Hid (∀ q, Blk (w3.drewN q) w.heap.size 102 [.bool false, .int .u64 0, .int .u64 0, .int .i64 0] ∧ Blk (w3.drewN q) (w.heap.size + 1) 41 [.int .i64 0, .int .i64 0, .int .i64 0, .string ⟨#[]⟩, .slice none 0 0, .slice none 0 0] ∧ Grow w (w3.drewN q)) := fun q =>
    ⟨b3.grow (grow_dq _ _), (HB.out.2.1.kept g3 (by intro e; injection e with e; omega)).grow (grow_dq _ _), Grow.trans (Below.grown HB.out.2.2 g3 HB.out.2.2.size (by intro e he; injection he with he; omega)) (grow_dq _ _)⟩
  have yB := b3
  have y0 : w3.cell? ⟨w.heap.size, 0, none⟩ = some (.bool false) := yB.cell 0
  have y1 : w3.cell? ⟨w.heap.size, 1, none⟩ = some (.int .u64 0) := yB.cell 1
  have y2 : w3.cell? ⟨w.heap.size, 2, none⟩ = some (.int .u64 0) := yB.cell 2
  have y3 : w3.cell? ⟨w.heap.size, 3, none⟩ = some (.int .i64 0) := yB.cell 3
  clear yB b3 g3 HB
  go_wp2
  go_quiet (fail)
  generalize hw4 : w3.drewN nq = w4
  have HD : Hid (Blk w4 w.heap.size 102 [.bool false, .int .u64 0, .int .u64 0, .int .i64 0] ∧ Blk w4 (w.heap.size + 1) 41 [.int .i64 0, .int .i64 0, .int .i64 0, .string ⟨#[]⟩, .slice none 0 0, .slice none 0 0] ∧ Grow w w4) := by rw [← hw4]; exact HC.out nq
  clear y0 y1 y2 y3 HC hw4
  have xB := HD.out.1
  have x0 : w4.cell? ⟨w.heap.size, 0, none⟩ = some (.bool false) := xB.cell 0
  have x1 : w4.cell? ⟨w.heap.size, 1, none⟩ = some (.int .u64 0) := xB.cell 1
  have x2 : w4.cell? ⟨w.heap.size, 2, none⟩ = some (.int .u64 0) := xB.cell 2
  have x3 : w4.cell? ⟨w.heap.size, 3, none⟩ = some (.int .i64 0) := xB.cell 3
  clear xB
  go_wp2_with (refine st_all rfl 41 (.tmp 2) (.tmp 43) rfl (w.heap.size + 1) 41 [.int .i64 0, .int .i64 0, .int .i64 0, .string ⟨#[]⟩, .slice none 0 0, .slice none 0 0] [.int .i64 3, .int .i64 0, .int .i64 0, .string ⟨#[]⟩, .slice none 0 0, .slice none 0 0] rfl rfl HD.out.2.1 rfl sV (ones rfl) ?_)
  intro w5 b5 g5
  have HB5 : Hid (Blk w5 (w.heap.size + 1) 41 [.int .i64 3, .int .i64 0, .int .i64 0, .string ⟨#[]⟩, .slice none 0 0, .slice none 0 0]) := b5
  have HG5 : Hid (Grow w w5) := Below.grown HD.out.2.2 g5 HD.out.2.2.size (by intro e he; injection he with he; omega)
  clear b5 g5 x0 x1 x2 x3 HD
  go_wp2
  exact bodyPost_ret (res_two rfl _ (w.heap.size + 1) 41 _ _ rfl HB5.out Tryz.underlying41 rfl sV) rfl ⟨rfl, HG5.out⟩
/-- What value answers of what is left: its cells, and the answer. -/
inductive Vw (h l s : Nat) : Bool → Int → Int → Int → Int → Int → Int → Prop
  | s (b) : 18 < s → Vw h l s b h s 0 0 0 10
  | h (b) : s ≤ 18 → ¬ h = 0 → Vw h l s b h s 0 0 0 10
  | lp : s ≤ 18 → h = 0 → 9223372036854775807 < l → Vw h l s false 0 s 0 0 0 10
  | lm : s ≤ 18 → h = 0 → 9223372036854775808 < l → Vw h l s true 0 s 0 0 0 10
  | ip : s = 0 → h = 0 → l ≤ 9223372036854775807 → Vw h l s false 0 0 3 l 0 0
  | im : s = 0 → h = 0 → l ≤ 9223372036854775808 → Vw h l s true 0 0 3 (-(l : Int)) 0 0
  | dp : 0 < s → s ≤ 18 → h = 0 → l ≤ 9223372036854775807 → Vw h l s false 0 s 4 l s 0
  | dm : 0 < s → s ≤ 18 → h = 0 → l ≤ 9223372036854775808 → Vw h l s true 0 s 4 (-(l : Int)) s 0
theorem Vw.z {h l s b z S k n p x} (d : Vw h l s b z S k n p x) : z = (h : Int) := by cases d <;> simp_all
theorem Vw.t {h l s b z S k n p x} (d : Vw h l s b z S k n p x) : S = (s : Int) := by cases d <;> simp_all
set_option maxRecDepth 8000 in
set_option maxHeartbeats 4000000 in
theorem value_at (b : Bool) (h l m s : Nat) (hs : s < 9223372036854775808) (hw : Wd h l m) (hm : m ≠ 0) (h' l' m' s' : Nat) (hd : dnN m s = (m', s')) (hw' : Wd h' l' m') (z S k n p x : Int) (HD : Hid (Vw h' l' s' b z S k n p x)) (w : World) :
    Calls Tryz.prog 77 #[.agg #[.bool b, .int .u64 (h : Int), .int .u64 (l : Int), .int .i64 (s : Int)]] w fun e w' => e = .returned (.tuple #[.agg #[.int .i64 k, .int .i64 n, .int .i64 p, .string ⟨#[]⟩, .slice none 0 0, .slice none 0 0], .int .i64 x]) ∧ Grow w w' := by
  have K : Hid (∀ W, Calls Tryz.prog 101 #[.agg #[.bool b, .int .u64 (h : Int), .int .u64 (l : Int), .int .i64 (s : Int)]] W fun e w' => e = .returned (.agg #[.bool b, .int .u64 (h' : Int), .int .u64 (l' : Int), .int .i64 (s' : Int)]) ∧ Grow W w') := fun W => least_any b h l m s hs hw hm h' l' m' s' hd hw' W
  have hl' : l' < 18446744073709551616 := hw'.l1
  rw [← HD.out.z, ← HD.out.t] at K
  clear hw hm hd hw'
  go_enter Tryz.func77, Tryz.ntmps77
  go_wp2_with fail
  obtain ⟨w1, HW1⟩ : ∃ w1, ((w.alloc (Obj.cells #[.bool b, .int .u64 (h : Int), .int .u64 (l : Int), .int .i64 (s : Int)] 102)).alloc (Obj.cells #[.int .i64 0, .int .i64 0, .int .i64 0, .string ⟨#[]⟩, .slice none 0 0, .slice none 0 0] 41)) = w1 := ⟨_, rfl⟩
  obtain ⟨C, hC⟩ : ∃ C : World → Prop, C = fun W => Grow w1 W := ⟨_, rfl⟩
  have GW : Hid (∀ W, C W → Grow w W) := fun W hW => by rw [hC, ← HW1] at hW; exact Grow.trans (((Grow.refl _).alloc _).alloc _) hW
  have B0 : Hid (∀ W, C W → Blk W (w.heap.size) 102 [.bool b, .int .u64 (h : Int), .int .u64 (l : Int), .int .i64 (s : Int)]) := fun W hW => by rw [hC, ← HW1] at hW; exact Blk.grow (Blk.alloc (blk_at rfl) _) hW
  have B1 : Hid (∀ W, C W → Blk W (w.heap.size + 1) 41 [.int .i64 0, .int .i64 0, .int .i64 0, .string ⟨#[]⟩, .slice none 0 0, .slice none 0 0]) := fun W hW => by rw [hC, ← HW1] at hW; exact Blk.grow (blk_at (by simp)) hW
  have CG : Hid (∀ W W', C W → Grow W W' → C W') := fun W W' h1 h2 => by rw [hC] at h1 ⊢; exact h1.trans h2
  have CW : Hid (C w1) := by rw [hC]; exact Grow.refl _
  rw [HW1]
  clear HW1 hC
  refine (K.out _).mono ?_
  rintro e w2 ⟨rfl, g2⟩
  have HB : Hid (Blk w2 w.heap.size 102 [.bool b, .int .u64 (h : Int), .int .u64 (l : Int), .int .i64 (s : Int)] ∧ Blk w2 (w.heap.size + 1) 41 [.int .i64 0, .int .i64 0, .int .i64 0, .string ⟨#[]⟩, .slice none 0 0, .slice none 0 0] ∧ Grow w w2) := ⟨(B0.out _ CW.out).grow g2, (B1.out _ CW.out).grow g2, (GW.out _ CW.out).trans g2⟩
  clear B0 B1 GW CG CW g2 K
  go_wp2_with (refine st_all rfl 102 (.tmp 1) (.tmp 8) rfl w.heap.size 102 [.bool b, .int .u64 (h : Int), .int .u64 (l : Int), .int .i64 (s : Int)] [.bool b, .int .u64 z, .int .u64 (l' : Int), .int .i64 S] rfl rfl HB.out.1 rfl sN (ones rfl) ?_)
  intro w3 b3 g3
  have HC : Hid (∀ q, Blk (w3.drewN q) w.heap.size 102 [.bool b, .int .u64 z, .int .u64 (l' : Int), .int .i64 S] ∧ Blk (w3.drewN q) (w.heap.size + 1) 41 [.int .i64 0, .int .i64 0, .int .i64 0, .string ⟨#[]⟩, .slice none 0 0, .slice none 0 0] ∧ Grow w (w3.drewN q)) := fun q =>
    ⟨b3.grow (grow_dq _ _), (HB.out.2.1.kept g3 (by intro e; injection e with e; omega)).grow (grow_dq _ _), Grow.trans (Below.grown HB.out.2.2 g3 HB.out.2.2.size (by intro e he; injection he with he; omega)) (grow_dq _ _)⟩
  have yB := b3
  have y0 : w3.cell? ⟨w.heap.size, 0, none⟩ = some (.bool b) := yB.cell 0
  have y1 : w3.cell? ⟨w.heap.size, 1, none⟩ = some (.int .u64 z) := yB.cell 1
  have y2 : w3.cell? ⟨w.heap.size, 2, none⟩ = some (.int .u64 (l' : Int)) := yB.cell 2
  have y3 : w3.cell? ⟨w.heap.size, 3, none⟩ = some (.int .i64 S) := yB.cell 3
  have X0 : Hid (∀ q, (w3.drewN q).cell? ⟨w.heap.size, 0, none⟩ = some (.bool b)) := fun q => (HC.out q).1.cell 0
  have X1 : Hid (∀ q, (w3.drewN q).cell? ⟨w.heap.size, 1, none⟩ = some (.int .u64 z)) := fun q => (HC.out q).1.cell 1
  have X2 : Hid (∀ q, (w3.drewN q).cell? ⟨w.heap.size, 2, none⟩ = some (.int .u64 (l' : Int))) := fun q => (HC.out q).1.cell 2
  have X3 : Hid (∀ q, (w3.drewN q).cell? ⟨w.heap.size, 3, none⟩ = some (.int .i64 S)) := fun q => (HC.out q).1.cell 3
  have HE : Hid (∀ q, Blk (w3.drewN q) (w.heap.size + 1) 41 [.int .i64 0, .int .i64 0, .int .i64 0, .string ⟨#[]⟩, .slice none 0 0, .slice none 0 0] ∧ Grow w (w3.drewN q)) := fun q => (HC.out q).2
  clear yB b3 g3 HB HC
  have hD := HD.out
  clear HD
  cases hD
  all_goals try (cases b)
  all_goals
    go_wp2
    go_quiet (fail)
    have x0 := X0.out nq
    have x1 := X1.out nq
    have x2 := X2.out nq
    have x3 := X3.out nq
    have HF := HE.out nq
    generalize w3.drewN nq = w4 at x0 x1 x2 x3 HF ⊢
    have HD : Hid (Blk w4 (w.heap.size + 1) 41 [.int .i64 0, .int .i64 0, .int .i64 0, .string ⟨#[]⟩, .slice none 0 0, .slice none 0 0] ∧ Grow w w4) := HF
    clear y0 y1 y2 y3 X0 X1 X2 X3 HE HF
    try have e1 := conv_neg l' (by omega)
    try have e2 := conv_neg' l' (by omega)
    go_wp2_with (refine st_all rfl 41 (.tmp 2) _ rfl (w.heap.size + 1) 41 [.int .i64 0, .int .i64 0, .int .i64 0, .string ⟨#[]⟩, .slice none 0 0, .slice none 0 0] [.int .i64 _, .int .i64 _, .int .i64 _, .string ⟨#[]⟩, .slice none 0 0, .slice none 0 0] rfl rfl HD.out.1 rfl sV (ones rfl) ?_)
    intro w5 b5 g5
    have HB5 : Hid (Blk w5 (w.heap.size + 1) 41 _) := b5
    have HG5 : Hid (Grow w w5) := Below.grown HD.out.2 g5 HD.out.2.size (by intro e he; injection he with he; omega)
    clear b5 g5 x0 x1 x2 x3 HD
    go_wp2
    exact bodyPost_ret (res_two rfl _ (w.heap.size + 1) 41 _ _ rfl HB5.out Tryz.underlying41 rfl sV) rfl ⟨rfl, HG5.out⟩
set_option maxRecDepth 8000 in
/-- The value that a number is, or that it leaves its digits. -/
theorem value_any (b : Bool) (h l m s : Nat) (hs : s < 9223372036854775808) (hw : Wd h l m) (r : Rs) (hr : rs (sgn b m) s = r) (w : World) :
    Calls Tryz.prog 77 #[.agg #[.bool b, .int .u64 (h : Int), .int .u64 (l : Int), .int .i64 (s : Int)]] w fun e w' => e = .returned (.tuple #[.agg #[.int .i64 r.k, .int .i64 r.n, .int .i64 r.s, .string ⟨#[]⟩, .slice none 0 0, .slice none 0 0], .int .i64 r.e]) ∧ Grow w w' := by
  by_cases hm : m = 0
  · obtain ⟨rfl, rfl⟩ := hw.zero.1 hm
    subst hm
    have e : r = .ok 0 0 := by
      rw [← hr]
      have : sgn b 0 = 0 := by cases b <;> rfl
      rw [this, rs_zero]
    subst e
    exact value_zero b s w
  obtain ⟨⟨m', s'⟩, hd⟩ : ∃ d, dnN m s = d := ⟨_, rfl⟩
  have hle : m' ≤ m := by have := dnN_small s m; rw [hd] at this; exact this
  obtain ⟨h', l', hw'⟩ := wd_of m' (Nat.lt_of_le_of_lt hle hw.lt)
  by_cases hf : s' ≤ 18 ∧ m' ≤ 9223372036854775807 + b.toNat
  · rw [rs_ok b hm hd hf.1 hf.2] at hr
    subst hr
    obtain ⟨w1, w2, w3⟩ := hw'
    have hb : b.toNat ≤ 1 := by cases b <;> decide
    obtain rfl : m' = l' := by omega
    have HW : Wd 0 m' m' := ⟨by rw [Nat.zero_mul, Nat.zero_add], by omega, by omega⟩
    by_cases h0 : s' = 0
    · subst h0
      cases b
      · exact value_at false h l m s hs hw hm 0 m' m' 0 hd HW _ _ _ _ _ _ (Vw.ip rfl rfl (by simpa using hf.2)) w
      · exact value_at true h l m s hs hw hm 0 m' m' 0 hd HW _ _ _ _ _ _ (Vw.im rfl rfl (by simpa using hf.2)) w
    · have e4 : kd s' = 4 := by simp [kd, h0]
      show Calls _ _ _ _ fun e w' => e = .returned (.tuple #[.agg #[.int .i64 (kd s'), _, _, _, _, _], _]) ∧ _
      rw [e4]
      cases b
      · exact value_at false h l m s hs hw hm 0 m' m' s' hd HW _ _ _ _ _ _ (Vw.dp (by omega) hf.1 rfl (by simpa using hf.2)) w
      · exact value_at true h l m s hs hw hm 0 m' m' s' hd HW _ _ _ _ _ _ (Vw.dm (by omega) hf.1 rfl (by simpa using hf.2)) w
  · rw [rs_no b hm hd (by omega)] at hr
    subst hr
    by_cases h1 : 18 < s'
    · cases b
      · exact value_at false h l m s hs hw hm h' l' m' s' hd hw' _ _ _ _ _ _ (Vw.s _ h1) w
      · exact value_at true h l m s hs hw hm h' l' m' s' hd hw' _ _ _ _ _ _ (Vw.s _ h1) w
    · by_cases h2 : h' = 0
      · have w1 := hw'.eq
        have hb : 9223372036854775807 + b.toNat < l' := by omega
        cases b
        · exact value_at false h l m s hs hw hm h' l' m' s' hd hw' _ _ _ _ _ _ (Vw.lp (by omega) h2 (by simpa using hb)) w
        · exact value_at true h l m s hs hw hm h' l' m' s' hd hw' _ _ _ _ _ _ (Vw.lm (by omega) h2 (by simpa using hb)) w
      · cases b
        · exact value_at false h l m s hs hw hm h' l' m' s' hd hw' _ _ _ _ _ _ (Vw.h _ (by omega) h2) w
        · exact value_at true h l m s hs hw hm h' l' m' s' hd hw' _ _ _ _ _ _ (Vw.h _ (by omega) h2) w
end Go.Proofs.YtpfiejmhnkcjbaaGreatDoor.D6
