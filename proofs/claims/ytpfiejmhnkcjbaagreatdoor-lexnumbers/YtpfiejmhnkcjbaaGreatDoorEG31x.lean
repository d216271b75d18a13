/-
  Numbers of two words: product, plus, minus, tenth. · decimal's numbers: numberOf, turned, sizeAt, times. · decimal's numbers: times, minus. · decimal's numbers: plus.
-/
import Derived.Test.YtpfiejmhnkcjbaaGreatDoorED6Dv
import Derived.Test.YtpfiejmhnkcjbaaGreatDoorED6Dm
namespace Go.Proofs.YtpfiejmhnkcjbaaGreatDoor.D6
open Go.RowKit
set_option linter.unusedVariables false
theorem blk_at {X : World} {t : TypeId} {vs : List Value} {b : Nat} (hb : X.heap.size = b) : Blk (X.alloc (.cells vs.toArray t)) b t vs := hb ▸ blk_new X t vs
theorem ones {l : List Value} (h : l.all Value.oneCell' = true) : ∀ v ∈ l, v.oneCell' = true := List.all_eq_true.1 h
theorem sW : (Tryz.prog.info? 97).map (·.size) = some 2 := by kernel_rfl
theorem sN : (Tryz.prog.info? 102).map (·.size) = some 4 := by kernel_rfl
theorem sV : (Tryz.prog.info? 41).map (·.size) = some 6 := by kernel_rfl
/-- A number in two words. -/
structure Wd (h l m : Nat) : Prop where
  eq : h * 18446744073709551616 + l = m
  l1 : l < 18446744073709551616
  h1 : h < 18446744073709551616
theorem wd_of (m : Nat) (hm : m < 340282366920938463463374607431768211456) : ∃ h l, Wd h l m := ⟨m / 18446744073709551616, m % 18446744073709551616, by omega, by omega, by omega⟩
set_option maxRecDepth 8000 in
theorem product_any (a b h l : Nat) (ha : a < 18446744073709551616) (hb : b < 18446744073709551616) (hw : Wd h l (a * b)) (w : World) :
    Calls Tryz.prog 73 #[.int .u64 (a : Int), .int .u64 (b : Int)] w fun e w' => e = .returned (.agg #[.int .u64 (h : Int), .int .u64 (l : Int)]) ∧ Grow w w' := by
  have k := fun W => mul60 a b ha hb W
  rw [show a * b / 18446744073709551616 = h by rw [← hw.eq]; have := hw.l1; omega, show a * b % 18446744073709551616 = l by rw [← hw.eq]; have := hw.l1; omega] at k
  have HK : Hid (∀ W, Calls Tryz.prog 81 #[.int .u64 (a : Int), .int .u64 (b : Int)] W fun e w' => e = .returned (.tuple #[.int .u64 (h : Int), .int .u64 (l : Int)]) ∧ w' = W) := k
  clear k hw ha hb
  go_enter Tryz.func73, Tryz.ntmps73
  go_wp2_with (go_at_call 81; refine (HK.out _).mono ?_; rintro e w' ⟨rfl, rfl⟩)
  exact bodyPost_ret (res_row rfl _ w.heap.size 97 _ _ rfl (blk_at rfl) Tryz.underlying97 rfl sW) rfl ⟨rfl, (Grow.refl _).alloc _⟩
theorem run_add {h1 l1 h2 l2 h l m1 m2 : Nat} (a : Wd h1 l1 m1) (b : Wd h2 l2 m2) (s : Wd h l (m1 + m2)) : ∃ c : Nat, c ≤ 1 ∧ l1 + l2 = c * 18446744073709551616 + l ∧ h1 + h2 + c = h := by
  obtain ⟨a1, a2, a3⟩ := a
  obtain ⟨b1, b2, b3⟩ := b
  obtain ⟨s1, s2, s3⟩ := s
  by_cases e : l1 + l2 < 18446744073709551616
  · exact ⟨0, by omega, by omega, by omega⟩
  · exact ⟨1, by omega, by omega, by omega⟩
set_option maxRecDepth 8000 in
theorem plusW (h1 l1 m1 h2 l2 m2 h l : Nat) (a : Wd h1 l1 m1) (b : Wd h2 l2 m2) (s : Wd h l (m1 + m2)) (w : World) :
    Calls Tryz.prog 76 #[.agg #[.int .u64 (h1 : Int), .int .u64 (l1 : Int)], .agg #[.int .u64 (h2 : Int), .int .u64 (l2 : Int)]] w fun e w' => e = .returned (.agg #[.int .u64 (h : Int), .int .u64 (l : Int)]) ∧ Grow w w' := by
  obtain ⟨c, hc, e1, e2⟩ := run_add a b s
  have k1 : ∀ W, (callFunc 82 #[.int .u64 (l1 : Int), .int .u64 (l2 : Int), .int .u64 0]).run Tryz.prog W = .ok (.value (.tuple #[.int .u64 (l : Int), .int .u64 (c : Int)])) W := fun W => by
    have := add64 l1 l2 0 a.l1 b.l1 (by omega) W
    rw [show (l1 + l2 + 0) % 18446744073709551616 = l by have := s.l1; omega, show (l1 + l2 + 0) / 18446744073709551616 = c by have := s.l1; omega] at this
    exact this
  have k2 : ∀ W, (callFunc 82 #[.int .u64 (h1 : Int), .int .u64 (h2 : Int), .int .u64 (c : Int)]).run Tryz.prog W = .ok (.value (.tuple #[.int .u64 (h : Int), .int .u64 0])) W := fun W => by
    have := add64 h1 h2 c a.h1 b.h1 hc W
    rw [show (h1 + h2 + c) % 18446744073709551616 = h by have := s.h1; omega, show (h1 + h2 + c) / 18446744073709551616 = 0 by have := s.h1; omega] at this
    exact this
  clear a b s hc e1 e2
  go_enter Tryz.func76, Tryz.ntmps76
  go_wp2
  exact bodyPost_ret (res_row rfl _ (w.heap.size + 2) 97 _ _ rfl (blk_at (by simp)) Tryz.underlying97 rfl sW) rfl ⟨rfl, (((Grow.refl _).alloc _).alloc _).alloc _⟩
theorem tenth_split {h l m : Nat} (a : Wd h l m) : (h / 10) * 18446744073709551616 + ((h % 10) * 18446744073709551616 + l) / 10 = m / 10 ∧ ((h % 10) * 18446744073709551616 + l) / 10 < 18446744073709551616 ∧ ((h % 10) * 18446744073709551616 + l) % 10 = m % 10 := by
  obtain ⟨a1, a2, a3⟩ := a
  subst a1
  refine ⟨?_, ?_, ?_⟩ <;> omega
set_option maxRecDepth 8000 in
theorem tenthW (h l m h' l' : Nat) (a : Wd h l m) (s : Wd h' l' (m / 10)) (r : Nat) (hr : m % 10 = r) (w : World) :
    Calls Tryz.prog 127 #[.agg #[.int .u64 (h : Int), .int .u64 (l : Int)]] w fun e w' => e = .returned (.tuple #[.agg #[.int .u64 (h' : Int), .int .u64 (l' : Int)], .int .u64 (r : Int)]) ∧ Grow w w' := by
  obtain ⟨t1, t2, t3⟩ := tenth_split a
  have eh : h / 10 = h' := by have := s.eq; have := s.l1; omega
  have el : ((h % 10) * 18446744073709551616 + l) / 10 = l' := by have := s.eq; have := s.l1; omega
  obtain ⟨g, hg⟩ : ∃ g, h % 10 = g := ⟨_, rfl⟩
  have k := fun W => div_ten g l (by omega) a.l1 W
  rw [← hg, el, t3, hr, hg] at k
  have HK : Hid (∀ W, Calls Tryz.prog 112 #[.int .u64 (g : Int), .int .u64 (l : Int), .int .u64 10] W fun e w' => e = .returned (.tuple #[.int .u64 (l' : Int), .int .u64 (r : Int)]) ∧ Grow W w') := k
  have f1 : (h : Int) / 10 = (h' : Int) := by omega
  have f2 : (h : Int) % 10 = (g : Int) := by omega
  have hb : h < 18446744073709551616 := a.h1
  clear k t1 t2 t3 eh el hg a s hr
  go_enter Tryz.func127, Tryz.ntmps127
  go_wp2
  go_quiet (fail)
  go_wp2_with fail
  obtain ⟨w1, HG1, HB1⟩ : ∃ w1, Hid (Grow w w1 ∧ Blk w1 (w.heap.size + 1) 97 [.int .u64 0, .int .u64 0]) ∧ ((w.alloc (Obj.cells #[Value.int IntKind.u64 (h : Int), Value.int IntKind.u64 (l : Int)] 97)).alloc (Obj.cells #[Value.int IntKind.u64 0, Value.int IntKind.u64 0] 97)).drewN nq = w1 :=
    ⟨_, ⟨(((Grow.refl _).alloc _).alloc _).trans (grow_dq _ _), (blk_at (by simp)).grow (grow_dq _ _)⟩, rfl⟩
  rw [HB1]
  refine (HK.out _).mono ?_
  rintro e w2 ⟨rfl, hg⟩
  have HB2 : Hid (Blk w2 (w.heap.size + 1) 97 [.int .u64 0, .int .u64 0]) := HG1.out.2.grow hg
  have HG2 : Hid (Grow w w2) := HG1.out.1.trans hg
  clear HB1 HG1 HK hg
  go_wp2_with (refine st_all rfl 97 (.tmp 2) (.tmp 22) rfl (w.heap.size + 1) 97 [.int .u64 0, .int .u64 0] [.int .u64 (h' : Int), .int .u64 (l' : Int)] rfl rfl HB2.out rfl sW (ones rfl) ?_)
  intro w3 b3 g3
  have HB3 : Hid (Blk w3 (w.heap.size + 1) 97 [.int .u64 (h' : Int), .int .u64 (l' : Int)]) := b3
  have HG3 : Hid (Grow w w3) := Below.grown HG2.out g3 HG2.out.size (by intro k hk; injection hk with hk; omega)
  clear b3 g3
  go_wp2
  exact bodyPost_ret (res_two rfl _ (w.heap.size + 1) 97 _ _ rfl HB3.out Tryz.underlying97 rfl sW) rfl ⟨rfl, HG3.out⟩
end Go.Proofs.YtpfiejmhnkcjbaaGreatDoor.D6
namespace Go.Proofs.YtpfiejmhnkcjbaaGreatDoor.D6
open Go.RowKit
set_option linter.unusedVariables false
end Go.Proofs.YtpfiejmhnkcjbaaGreatDoor.D6
namespace Go.Proofs.YtpfiejmhnkcjbaaGreatDoor.D6
open Go.RowKit
set_option linter.unusedVariables false
end Go.Proofs.YtpfiejmhnkcjbaaGreatDoor.D6
namespace Go.Proofs.YtpfiejmhnkcjbaaGreatDoor.D6
open Go.RowKit
set_option linter.unusedVariables false
theorem zW : (Tryz.prog.info? 97).map (fun i => i.zero.map (·.cells)) = some (some (List.toArray [.int .u64 0, .int .u64 0])) := by kernel_rfl
end Go.Proofs.YtpfiejmhnkcjbaaGreatDoor.D6
