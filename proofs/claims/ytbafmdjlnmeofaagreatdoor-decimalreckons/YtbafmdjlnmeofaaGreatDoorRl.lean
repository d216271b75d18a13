/-
  The document's own least.
-/
import Derived.Test.YtbafmdjlnmeofaaGreatDoorRf
namespace Go.Proofs.YtbafmdjlnmeofaaGreatDoor
open Go.RowKit
set_option linter.unusedVariables false
theorem st_pre {P : Program} {ops : Array Oper} {Q : Exit → Act → World → Prop} {dst} {ty t : TypeId} {p} {af} {rest : List Oper} {a : Act} {w : World} (x y : Operand)
    (h : wpList P ops Q ({ dst := dst, op := .store ty x y, type := t, pos := p, after := af, guard := none } :: rest) a w) :
    wpList P ops Q ({ dst := dst, op := .store ty x y, type := t, pos := p, after := af, guard := none } :: rest) a w := h
theorem conv_pos (l : Nat) (hl : l ≤ 9223372036854775807) : wrap64 (l : Int) = (l : Int) := by
  unfold wrap64
  omega
theorem conv_less (l : Nat) (h0 : 0 < l) (hl : l ≤ 9223372036854775808) : -wrap64 ((l : Int) - 1) - 1 = -(l : Int) := by
  unfold wrap64
  omega
set_option maxRecDepth 8000 in
set_option maxHeartbeats 400000 in
theorem leastR_zero (b : Bool) (s : Int) (w : World) :
    Calls Tryz.prog 30 #[.agg #[.int .u64 0, .int .u64 0, .bool b], .int .i64 s] w fun e w' => e = .returned (.tuple #[.agg #[.int .i64 3, .int .i64 0, .int .i64 0, .string ⟨#[]⟩, .slice none 0 0, .slice none 0 0], .int .i64 0]) ∧ Grow w w' := by
  cases b
  all_goals
    go_enter Tryz.func30, Tryz.ntmps30
    go_wp2
    obtain ⟨w1, HW1⟩ : ∃ w1, w1 = w := ⟨_, rfl⟩
    go_loopw [1] (fun q wr => q = .int .i64 0 ∧ Hid (∃ b, wr = ((w.alloc (Obj.cells #[.int .u64 0, .int .u64 0, .bool b] 57)).alloc (Obj.cells #[.int .i64 0, .int .i64 0, .int .i64 0, .string ⟨#[]⟩, .slice none 0 0, .slice none 0 0] 25)))) (fun _ _ => 0)
    case atStart => exact ⟨rfl, _, rfl⟩
    case round =>
      obtain ⟨rfl, HWr⟩ := hrel
      obtain ⟨b, hb⟩ := HWr.out
      have HX : Hid (Blk wr (w.heap.size + 1) 25 [.int .i64 0, .int .i64 0, .int .i64 0, .string ⟨#[]⟩, .slice none 0 0, .slice none 0 0] ∧ Grow w wr) := by rw [hb]; exact ⟨blk_at (by simp), ((Grow.refl _).alloc _).alloc _⟩
      have yB : Blk wr w.heap.size 57 [.int .u64 0, .int .u64 0, .bool b] := by rw [hb]; exact Blk.alloc (blk_at rfl) _
      clear hb HWr HW1
      have y0 : wr.cell? ⟨w.heap.size, 0, none⟩ = some (.int .u64 0) := (yB).cell 0
      have y1 : wr.cell? ⟨w.heap.size, 1, none⟩ = some (.int .u64 0) := (yB).cell 1
      have y2 : wr.cell? ⟨w.heap.size, 2, none⟩ = some (.bool b) := (yB).cell 2
      clear yB
      obtain ⟨x, hx⟩ : ∃ x, IntKind.u64.wrap (-1) = x := ⟨_, rfl⟩
      obtain ⟨y, hy⟩ : ∃ y, wrap64 x = y := ⟨_, rfl⟩
      cases b
      all_goals
        go_wp2_with ((with_reducible refine st_pre (.tmp 4) (.tmp 72) ?_); refine st_all rfl 25 (.tmp 4) (.tmp 72) rfl (w.heap.size + 1) 25 [.int .i64 0, .int .i64 0, .int .i64 0, .string ⟨#[]⟩, .slice none 0 0, .slice none 0 0] [.int .i64 3, .int .i64 0, .int .i64 0, .string ⟨#[]⟩, .slice none 0 0, .slice none 0 0] rfl rfl HX.out.1 rfl sV (ones rfl) ?_)
        intro w9 b9 g9
        have HG9 : Hid (Grow w w9) := Below.grown HX.out.2 g9 HX.out.2.size (by intro e he; injection he with he; omega)
        have HB9 : Hid (Blk w9 (w.heap.size + 1) 25 [.int .i64 3, .int .i64 0, .int .i64 0, .string ⟨#[]⟩, .slice none 0 0, .slice none 0 0]) := b9
        clear b9 g9
        go_wp2
        exact bodyPost_ret (res_two rfl _ (w.heap.size + 1) 25 _ _ rfl HB9.out Tryz.underlying25 rfl sV) rfl ⟨rfl, HG9.out⟩
end Go.Proofs.YtbafmdjlnmeofaaGreatDoor
