/-
  The law package's got and known.
-/
import Derived.Test.YtbafmdjlnmeofaaGreatDoorTx
import Derived.Test.YtbafmdjlnmeofaaGreatDoorEq
namespace Go.Proofs.YtbafmdjlnmeofaaGreatDoor
open Go.RowKit
set_option linter.unusedVariables false
theorem zV : (Tryz.prog.info? 25).map (fun i => i.zero.map (·.cells)) = some (some (List.toArray [.int .i64 0, .int .i64 0, .int .i64 0, .string ⟨#[]⟩, .slice none 0 0, .slice none 0 0])) := by kernel_rfl
theorem known_make (w : World) : Calls Tryz.prog 41 #[.int .i64 150, .int .i64 2] w fun e w' => e = .returned (.tuple #[.agg #[.int .i64 4, .int .i64 15, .int .i64 1, .string ⟨#[]⟩, .slice none 0 0, .slice none 0 0], .int .i64 0]) ∧ Grow w w' := make_any 150 2 (by omega) (by omega) w
theorem fit15 : Vv.fit ⟨4, 15, 1, ⟨#[]⟩, none, 0, 0, none, 0, 0⟩ := by
  show (-9223372036854775808 : Int) ≤ 15 ∧ (15 : Int) < 9223372036854775808
  omega
theorem known_add (w : World) : Calls Tryz.prog 6 #[.agg #[.int .i64 4, .int .i64 15, .int .i64 1, .string ⟨#[]⟩, .slice none 0 0, .slice none 0 0], .agg #[.int .i64 4, .int .i64 15, .int .i64 1, .string ⟨#[]⟩, .slice none 0 0, .slice none 0 0]] w fun e w' => e = .returned (.tuple #[.agg #[.int .i64 3, .int .i64 3, .int .i64 0, .string ⟨#[]⟩, .slice none 0 0, .slice none 0 0], .int .i64 0]) ∧ Grow w w' := by
  have h := add_any ⟨4, 15, 1, ⟨#[]⟩, none, 0, 0, none, 0, 0⟩ ⟨4, 15, 1, ⟨#[]⟩, none, 0, 0, none, 0, 0⟩ fit15 fit15 w
  have e : wayR .add ⟨4, 15, 1, ⟨#[]⟩, none, 0, 0, none, 0, 0⟩ ⟨4, 15, 1, ⟨#[]⟩, none, 0, 0, none, 0, 0⟩ = .ok 3 0 := by kernel_rfl
  rw [e] at h
  exact h
theorem known_text (w : World) : Calls Tryz.prog 18 #[.agg #[.int .i64 4, .int .i64 (-5), .int .i64 2, .string ⟨#[]⟩, .slice none 0 0, .slice none 0 0]] w fun e w' => e = .returned (.tuple #[.string ⟨#[45, 48, 46, 48, 53]⟩, .int .i64 0]) ∧ Grow w w' := by
  have K : ∀ W, Calls Tryz.prog 42 #[.int .u64 (((-5 : Int).natAbs : Nat) : Int), .int .i64 10] W fun e w' => e = .returned (.string ⟨#[53]⟩) ∧ Grow W w' := fun W => by
    rw [show (((-5 : Int).natAbs : Nat) : Int) = 5 from rfl]
    exact (fmt5 W).mono fun e w' ⟨he, hw⟩ => ⟨he, by rw [hw]; exact Grow.refl _⟩
  have hf : (-9223372036854775808 : Int) ≤ -5 ∧ (-5 : Int) < 9223372036854775808 := by omega
  have hn : isNum 4 (-5) ((2 : Nat) : Int) ⟨#[]⟩ 0 0 = true := by kernel_rfl
  have h := text_num 4 (-5) 2 hn hf none 0 none 0 ⟨#[53]⟩ (by decide) (by decide) K w
  have e : txt (-5) 2 ⟨#[53]⟩ = ⟨#[45, 48, 46, 48, 53]⟩ := by kernel_rfl
  rw [e] at h
  exact h
set_option maxRecDepth 8000 in
theorem known_any (w : World) : Calls Tryz.prog 17 #[] w fun e w' => e = .returned (.bool true) ∧ Grow w w' := by
  go_enter Tryz.func17, Tryz.ntmps17
  go_wp2_with fail
  refine (known_make _).mono ?_
  rintro e w2 ⟨rfl, g2⟩
  go_wp2_with (refine al_zero rfl 25 rfl [.int .i64 0, .int .i64 0, .int .i64 0, .string ⟨#[]⟩, .slice none 0 0, .slice none 0 0] zV ?_)
  intro b1 w3 s3 B3 g3
  go_wp2_with (refine st_all rfl 25 (.tmp 1) (.tmp 9) rfl b1 25 [.int .i64 0, .int .i64 0, .int .i64 0, .string ⟨#[]⟩, .slice none 0 0, .slice none 0 0] [.int .i64 4, .int .i64 15, .int .i64 1, .string ⟨#[]⟩, .slice none 0 0, .slice none 0 0] rfl rfl B3 rfl sV (ones rfl) ?_)
  intro w4 B4 g4
  have H4 : Hid (Blk w4 b1 25 [.int .i64 4, .int .i64 15, .int .i64 1, .string ⟨#[]⟩, .slice none 0 0, .slice none 0 0] ∧ Grow w w4) := by
    refine ⟨B4, ?_⟩
    have x2 : Below w.heap.size w w3 := Below.grown g2 g3 g2.size (by intro e he; cases he)
    exact Below.grown x2 g4 x2.size (by intro e he; injection he with he; have := g2.size; omega)
  clear B4 g4 B3 g3 s3 g2
  have y0 : w4.cell? ⟨b1, 0, none⟩ = some (.int .i64 4) := (H4.out.1).cell 0
  have y1 : w4.cell? ⟨b1, 1, none⟩ = some (.int .i64 15) := (H4.out.1).cell 1
  have y2 : w4.cell? ⟨b1, 2, none⟩ = some (.int .i64 1) := (H4.out.1).cell 2
  have y3 : w4.cell? ⟨b1, 3, none⟩ = some (.string ⟨#[]⟩) := (H4.out.1).cell 3
  have y4 : w4.cell? ⟨b1, 4, none⟩ = some (.slice none 0 0) := (H4.out.1).cell 4
  have y5 : w4.cell? ⟨b1, 5, none⟩ = some (.slice none 0 0) := (H4.out.1).cell 5
  go_wp2_with fail
  clear y0 y1 y2 y3 y4 y5
  refine (known_add _).mono ?_
  rintro e w5 ⟨rfl, g5⟩
  go_wp2_with (refine al_zero rfl 25 rfl [.int .i64 0, .int .i64 0, .int .i64 0, .string ⟨#[]⟩, .slice none 0 0, .slice none 0 0] zV ?_)
  intro b2 w6 s6 B6 g6
  go_wp2_with (refine st_all rfl 25 (.tmp 3) (.tmp 15) rfl b2 25 [.int .i64 0, .int .i64 0, .int .i64 0, .string ⟨#[]⟩, .slice none 0 0, .slice none 0 0] [.int .i64 3, .int .i64 3, .int .i64 0, .string ⟨#[]⟩, .slice none 0 0, .slice none 0 0] rfl rfl B6 rfl sV (ones rfl) ?_)
  intro w7 B7 g7
  have H7 : Hid (Blk w7 b1 25 [.int .i64 4, .int .i64 15, .int .i64 1, .string ⟨#[]⟩, .slice none 0 0, .slice none 0 0] ∧ Blk w7 b2 25 [.int .i64 3, .int .i64 3, .int .i64 0, .string ⟨#[]⟩, .slice none 0 0, .slice none 0 0] ∧ Grow w w7) := by
    have k := H4.out.1.grow g5
    have hl := k.lt
    refine ⟨(k.kept g6 (by simp)).kept g7 (by intro e; injection e with e; omega), B7, ?_⟩
    have x1 := H4.out.2.trans g5
    have x2 : Below w.heap.size w w6 := Below.grown x1 g6 x1.size (by intro e he; cases he)
    exact Below.grown x2 g7 x2.size (by intro e he; injection he with he; have := x1.size; omega)
  clear B7 g7 B6 g6 s6 g5 H4
  go_wp2_with fail
  refine (known_text _).mono ?_
  rintro e w8 ⟨rfl, g8⟩
  have H8 : Hid (Blk w8 b1 25 [.int .i64 4, .int .i64 15, .int .i64 1, .string ⟨#[]⟩, .slice none 0 0, .slice none 0 0] ∧ Blk w8 b2 25 [.int .i64 3, .int .i64 3, .int .i64 0, .string ⟨#[]⟩, .slice none 0 0, .slice none 0 0] ∧ Grow w w8) := ⟨H7.out.1.grow g8, H7.out.2.1.grow g8, H7.out.2.2.trans g8⟩
  clear H7 g8
  have y0 : w8.cell? ⟨b1, 0, none⟩ = some (.int .i64 4) := (H8.out.1).cell 0
  have y1 : w8.cell? ⟨b1, 1, none⟩ = some (.int .i64 15) := (H8.out.1).cell 1
  have y2 : w8.cell? ⟨b1, 2, none⟩ = some (.int .i64 1) := (H8.out.1).cell 2
  have y3 : w8.cell? ⟨b1, 3, none⟩ = some (.string ⟨#[]⟩) := (H8.out.1).cell 3
  have y4 : w8.cell? ⟨b1, 4, none⟩ = some (.slice none 0 0) := (H8.out.1).cell 4
  have y5 : w8.cell? ⟨b1, 5, none⟩ = some (.slice none 0 0) := (H8.out.1).cell 5
  have z0 : w8.cell? ⟨b2, 0, none⟩ = some (.int .i64 3) := (H8.out.2.1).cell 0
  have z1 : w8.cell? ⟨b2, 1, none⟩ = some (.int .i64 3) := (H8.out.2.1).cell 1
  have z2 : w8.cell? ⟨b2, 2, none⟩ = some (.int .i64 0) := (H8.out.2.1).cell 2
  have z3 : w8.cell? ⟨b2, 3, none⟩ = some (.string ⟨#[]⟩) := (H8.out.2.1).cell 3
  have z4 : w8.cell? ⟨b2, 4, none⟩ = some (.slice none 0 0) := (H8.out.2.1).cell 4
  have z5 : w8.cell? ⟨b2, 5, none⟩ = some (.slice none 0 0) := (H8.out.2.1).cell 5
  go_wp2
  go_ret
  exact ⟨rfl, H8.out.2.2⟩
set_option maxRecDepth 8000 in
theorem got_any (k1 n1 s1 k2 n2 s2 e1 e2 : Int) (na1 na2 ka1 ka2 : Option Addr) (nc1 kc1 nc2 kc2 : Nat) (hs : same3 k1 n1 s1 k2 n2 s2 = true) (he : e1 = e2) (w : World) :
    Calls Tryz.prog 16 #[.agg #[.int .i64 k1, .int .i64 n1, .int .i64 s1, .string ⟨#[]⟩, .slice na1 0 nc1, .slice ka1 0 kc1], .int .i64 e1, .agg #[.int .i64 k2, .int .i64 n2, .int .i64 s2, .string ⟨#[]⟩, .slice na2 0 nc2, .slice ka2 0 kc2], .int .i64 e2] w fun e w' => e = .returned (.bool true) ∧ Grow w w' := by
  have K : Hid (∀ W, Calls Tryz.prog 21 #[.agg #[.int .i64 k1, .int .i64 n1, .int .i64 s1, .string ⟨#[]⟩, .slice na1 0 nc1, .slice ka1 0 kc1], .agg #[.int .i64 k2, .int .i64 n2, .int .i64 s2, .string ⟨#[]⟩, .slice na2 0 nc2, .slice ka2 0 kc2]] W fun e w' => e = .returned (.bool true) ∧ Grow W w') := fun W => by
    have := equal_num k1 n1 s1 k2 n2 s2 na1 na2 ka1 ka2 nc1 kc1 nc2 kc2 W
    rw [hs] at this
    exact this
  subst he
  clear hs
  go_enter Tryz.func16, Tryz.ntmps16
  go_wp2_with fail
  refine (K.out _).mono ?_
  rintro e w2 ⟨rfl, g2⟩
  have G : Hid (Grow w w2) := Grow.trans (((Grow.refl _).alloc _).alloc _) g2
  clear g2 K
  go_wp2
  go_ret
  exact ⟨rfl, G.out⟩
end Go.Proofs.YtbafmdjlnmeofaaGreatDoor
