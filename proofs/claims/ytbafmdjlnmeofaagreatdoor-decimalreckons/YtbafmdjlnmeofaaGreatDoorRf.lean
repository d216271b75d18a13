/-
  The document's own wide numbers: of, ten.
-/
import Derived.Test.YtbafmdjlnmeofaaGreatDoorOq
namespace Go.Proofs.YtbafmdjlnmeofaaGreatDoor
open Go.RowKit
set_option linter.unusedVariables false
theorem zR : (Tryz.prog.info? 57).map (fun i => i.zero.map (·.cells)) = some (some (List.toArray [.int .u64 0, .int .u64 0, .bool false])) := by kernel_rfl
set_option maxRecDepth 8000 in
theorem ofR_any (n : Int) (A : Nat) (hA : n.natAbs = A) (b : Bool) (hb : decide (n < 0) = b) (h0 : -9223372036854775808 ≤ n) (h1 : n < 9223372036854775808) (w : World) :
    Calls Tryz.prog 26 #[.int .i64 n] w fun e w' => e = .returned (.agg #[.int .u64 0, .int .u64 (A : Int), .bool b]) ∧ Grow w w' := by
  have K : Hid (∀ W, Calls Tryz.prog 34 #[.int .i64 n] W fun e w' => e = .returned (.int .u64 (A : Int)) ∧ w' = W) := fun W => by
    have := abs65 n h0 h1 W
    rw [hA] at this
    exact this
  clear hA h0 h1
  go_enter Tryz.func26, Tryz.ntmps26
  go_wp2_with (go_at_call 34; refine (K.out _).mono ?_; rintro e w' ⟨rfl, rfl⟩)
  exact bodyPost_ret (res_row rfl _ w.heap.size 57 _ _ rfl (blk_at rfl) Tryz.underlying57 rfl sR) rfl ⟨rfl, (Grow.refl _).alloc _⟩
set_option maxRecDepth 8000 in
theorem tenR (h l m h' l' : Nat) (b : Bool) (a : Wd h l m) (s : Wd h' l' (m / 10)) (r : Nat) (hr : m % 10 = r) (w : World) :
    Calls Tryz.prog 60 #[.agg #[.int .u64 (h : Int), .int .u64 (l : Int), .bool b]] w fun e w' => e = .returned (.tuple #[.agg #[.int .u64 (h' : Int), .int .u64 (l' : Int), .bool b], .int .u64 (r : Int)]) ∧ Grow w w' := by
  obtain ⟨t1, t2, t3⟩ := tenth_split a
  have eh : h / 10 = h' := by have := s.eq; have := s.l1; omega
  have el : ((h % 10) * 18446744073709551616 + l) / 10 = l' := by have := s.eq; have := s.l1; omega
  obtain ⟨g, hg⟩ : ∃ g, h % 10 = g := ⟨_, rfl⟩
  have k := fun W => div_ten g l (by omega) a.l1 W
  rw [← hg, el, t3, hr, hg] at k
  have HK : Hid (∀ W, Calls Tryz.prog 76 #[.int .u64 (g : Int), .int .u64 (l : Int), .int .u64 10] W fun e w' => e = .returned (.tuple #[.int .u64 (l' : Int), .int .u64 (r : Int)]) ∧ Grow W w') := k
  have f1 : (h : Int) / 10 = (h' : Int) := by omega
  have f2 : (h : Int) % 10 = (g : Int) := by omega
  have hb : h < 18446744073709551616 := a.h1
  clear k t1 t2 t3 eh el hg a s hr
  go_enter Tryz.func60, Tryz.ntmps60
  go_wp2
  go_quiet (fail)
  go_wp2_with fail
  obtain ⟨w1, HG1, HB1⟩ : ∃ w1, Hid (Grow w w1 ∧ Blk w1 w.heap.size 57 [.int .u64 (h : Int), .int .u64 (l : Int), .bool b] ∧ Blk w1 (w.heap.size + 1) 57 [.int .u64 0, .int .u64 0, .bool false]) ∧ ((w.alloc (Obj.cells #[.int .u64 (h : Int), .int .u64 (l : Int), .bool b] 57)).alloc (Obj.cells #[.int .u64 0, .int .u64 0, .bool false] 57)).drewN nq = w1 :=
    ⟨_, ⟨(((Grow.refl _).alloc _).alloc _).trans (grow_dq _ _), (Blk.alloc (blk_at rfl) _).grow (grow_dq _ _), (blk_at (by simp)).grow (grow_dq _ _)⟩, rfl⟩
  rw [HB1]
  refine (HK.out _).mono ?_
  rintro e w2 ⟨rfl, hg⟩
  have HB2 : Hid (Blk w2 (w.heap.size + 1) 57 [.int .u64 0, .int .u64 0, .bool false]) := HG1.out.2.2.grow hg
  have HG2 : Hid (Grow w w2) := HG1.out.1.trans hg
  have c2 : w2.cell? ⟨w.heap.size, 2, none⟩ = some (.bool b) := (HG1.out.2.1.grow hg).cell 2
  clear HB1 HG1 HK hg
  go_wp2_with (refine st_all rfl 57 (.tmp 2) (.tmp 24) rfl (w.heap.size + 1) 57 [.int .u64 0, .int .u64 0, .bool false] [.int .u64 (h' : Int), .int .u64 (l' : Int), .bool b] rfl rfl HB2.out rfl sR (ones rfl) ?_)
  intro w3 b3 g3
  have HB3 : Hid (Blk w3 (w.heap.size + 1) 57 [.int .u64 (h' : Int), .int .u64 (l' : Int), .bool b]) := b3
  have HG3 : Hid (Grow w w3) := Below.grown HG2.out g3 HG2.out.size (by intro k hk; injection hk with hk; omega)
  clear b3 g3 c2
  go_wp2
  exact bodyPost_ret (res_two rfl _ (w.heap.size + 1) 57 _ _ rfl HB3.out Tryz.underlying57 rfl sR) rfl ⟨rfl, HG3.out⟩
end Go.Proofs.YtbafmdjlnmeofaaGreatDoor
