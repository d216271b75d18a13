/-
  A nil tree; MerkleOfNothing's walk.
-/
import Derived.Test.YtehkaploinklmaaDoorEy
import Derived.Test.YtehkaploinklmaaDoorEop
namespace Go.Proofs.YtehkaploinklmaaDoor
open Go Go.RowKit Go.Maps Sh
theorem zS : (Tryd.prog.info? 30).map (·.size) = some (nums .u8 (List.replicate 32 0)).length := by rw [nums_length, List.length_replicate]; exact s25
theorem bd_z (a : Act) : Tryd.prog.built 30 ((#[] : Array (Nat × Operand)).map fun p => (p.1, a.eval p.2)).toList = some (nums .u8 (List.replicate 32 0)).toArray := by kernel_rfl
theorem size_nil (w : World) : Calls Tryd.prog 23 #[.pointer none] w fun e w' => e = .returned (.int .i64 0) ∧ w' = w := by
  go_enter Tryd.func23, Tryd.ntmps23
  go_wp2
  go_ret
  exact ⟨rfl, rfl⟩
set_option maxHeartbeats 1000000 in
set_option maxRecDepth 8000 in
theorem add_nil (h : List Nat) (w : World) : Calls Tryd.prog 22 #[.pointer none, .agg (nums .u8 h).toArray] w fun e w' => e = .returned (.int .i64 (-1)) ∧ Below w.heap.size w w' := by
  go_enter Tryd.func22, Tryd.ntmps22
  go_wp2_with (refine al_box rfl 30 (.tmp 1) rfl (nums .u8 h) rfl ?_)
  intro gl w1 l1 BL G1
  have Z := (Below.refl w.heap.size w).grown G1 (Nat.le_refl _) (by simp)
  clear G1 BL
  go_wp2
  go_ret
  exact ⟨rfl, Z⟩
set_option maxHeartbeats 1000000 in
set_option maxRecDepth 8000 in
theorem root_nil (n : Int) (w : World) : Calls Tryd.prog 10 #[.pointer none, .int .i64 n] w fun e w' => e = .returned (.tuple #[.agg (nums .u8 (List.replicate 32 0)).toArray, .int .i64 1]) ∧ Below w.heap.size w w' := by
  have hz : Hid ((Tryd.prog.info? 30).map (·.size) = some (nums .u8 (List.replicate 32 0)).length) := zS
  go_enter Tryd.func10, Tryd.ntmps10
  go_wp2_with (refine al_zero rfl 30 rfl _ z25 ?_)
  intro g1 w1 l1 B1 G1
  have Z := (Below.refl w.heap.size w).grown G1 (Nat.le_refl _) (by simp)
  clear G1
  go_wp2_with (first | (refine bd_row rfl 30 #[] rfl (nums .u8 (List.replicate 32 0)) (bd_z _) ?_) | (refine st_all rfl 30 (.tmp 4) (.tmp 18) rfl g1 30 (nums .u8 (List.replicate 32 0)) (nums .u8 (List.replicate 32 0)) rfl rfl B1 rfl hz.out (nums_one _ _) ?_))
  intro w2 B2 G2
  go_wp2
  refine bodyPost_ret (res_two rfl _ g1 30 _ _ rfl B2 Tryd.underlying30 rfl hz.out) rfl ⟨rfl, grown_below Z G2 Z.size l1⟩
set_option maxHeartbeats 1000000 in
set_option maxRecDepth 8000 in
theorem prove_nil (n : Int) (w : World) : Calls Tryd.prog 12 #[.pointer none, .int .i64 n, .int .i64 n] w fun e w' => e = .returned (.tuple #[.agg #[.slice none 0 0], .int .i64 1]) ∧ Below w.heap.size w w' := by
  go_enter Tryd.func12, Tryd.ntmps12
  have hle : n ≤ n := Int.le_refl _
  go_wp2
  all_goals refine bodyPost_ret (res_two rfl _ w.heap.size 37 [.slice none 0 0] _ rfl (blk_new w _ _) Tryd.underlying37 rfl (by kernel_rfl)) rfl ⟨rfl, (Below.refl _ _).alloc (Nat.le_refl _) _⟩
set_option maxHeartbeats 1000000 in
set_option maxRecDepth 8000 in
theorem consist_nil (n : Int) (w : World) : Calls Tryd.prog 14 #[.pointer none, .int .i64 n, .int .i64 n] w fun e w' => e = .returned (.tuple #[.agg #[.slice none 0 0], .int .i64 1]) ∧ Below w.heap.size w w' := by
  have K := size_nil
  go_enter Tryd.func14, Tryd.ntmps14
  by_cases h1 : n < 1
  · go_wp2
    all_goals refine bodyPost_ret (res_two rfl _ w.heap.size 37 [.slice none 0 0] _ rfl (blk_new w _ _) Tryd.underlying37 rfl (by kernel_rfl)) rfl ⟨rfl, (Below.refl _ _).alloc (Nat.le_refl _) _⟩
  · have h2 : 0 < n := by omega
    go_wp2_with fail
    refine (K _).mono ?_
    rintro e w2 ⟨rfl, hw2⟩
    rw [hw2]
    go_wp2
    all_goals refine bodyPost_ret (res_two rfl _ w.heap.size 37 [.slice none 0 0] _ rfl (blk_new w _ _) Tryd.underlying37 rfl (by kernel_rfl)) rfl ⟨rfl, (Below.refl _ _).alloc (Nat.le_refl _) _⟩
set_option maxHeartbeats 2000000 in
set_option maxRecDepth 8000 in
theorem nothing_walk (h : List Nat) (hh : Hh h) (n : Int) (w : World) (hT : Tb w) :
    Calls Tryd.prog 8 #[.agg (nums .u8 h).toArray, .int .i64 n] w fun e w' => e = .returned (.bool true) ∧ Below w.heap.size w w' := by
  have HH : Hid (Hh h) := hh
  have HTb : Hid (Tb w) := hT
  have hz : Hid ((Tryd.prog.info? 30).map (·.size) = some (nums .u8 (List.replicate 32 0)).length) := zS
  clear hh hT
  go_enter Tryd.func8, Tryd.ntmps8
  go_wp2_with (refine al_box rfl 30 (.tmp 0) rfl (nums .u8 h) rfl ?_)
  intro gh w1 l1 BH G1
  have Z := (Below.refl w.heap.size w).grown G1 (Nat.le_refl _) (by simp)
  clear G1
  go_wp2_with fail
  refine (root_nil n w1).mono ?_
  rintro e w2 ⟨rfl, Z2⟩
  have BH := BH.below Z2 BH.lt
  have Z := Z.trans (Z2.mono Z.size)
  clear Z2
  go_wp2_with (refine al_zero rfl 30 rfl _ z25 ?_)
  intro g6 w3 l3 B6 G3
  have n6 : gh ≠ g6 := by have := BH.lt; omega
  have BH := BH.kept G3 (by simp)
  have hg6 := Nat.le_trans Z.size l3
  have Z := Z.grown G3 Z.size (by simp)
  clear G3
  go_wp2_with (refine st_all rfl 30 (.tmp 6) (.tmp 16) rfl g6 30 (nums .u8 (List.replicate 32 0)) (nums .u8 (List.replicate 32 0)) rfl rfl B6 rfl hz.out (nums_one _ _) ?_)
  intro w4 B6 G4
  have BH := BH.kept G4 (fun e => n6 (Option.some.inj e))
  have Z := grown_below Z G4 Z.size hg6
  clear G4 B6
  go_wp2_with fail
  refine (prove_nil n w4).mono ?_
  rintro e w5 ⟨rfl, Z5⟩
  have BH := BH.below Z5 BH.lt
  have Z := Z.trans (Z5.mono Z.size)
  clear Z5
  go_wp2_with fail
  obtain ⟨w6, hw6, Z6, B8⟩ : ∃ w6, w5.alloc (Obj.cells #[.slice none 0 0] 37) = w6 ∧ Below w5.heap.size w5 w6 ∧ Blk w6 w5.heap.size 37 [.slice none 0 0] := ⟨_, rfl, (Below.refl _ _).alloc (Nat.le_refl _) _, blk_new w5 _ _⟩
  rw [hw6]
  obtain ⟨g8, hg8⟩ : ∃ g8, w5.heap.size = g8 := ⟨_, rfl⟩
  have BH := BH.below Z6 BH.lt
  have Z := Z.trans (Z6.mono Z.size)
  rw [hg8] at B8 ⊢
  clear hw6 Z6 hg8
  refine (consist_nil n w6).mono ?_
  rintro e w7 ⟨rfl, Z7⟩
  have BH := BH.below Z7 BH.lt
  have B8 := B8.below Z7 B8.lt
  have Z := Z.trans (Z7.mono Z.size)
  clear Z7
  have BHa := BH.alloc (Obj.cells #[.slice none 0 0] 37)
  go_wp2_with (refine ld_mid rfl 30 (.tmp 2) rfl gh 0 rfl (nums .u8 h) _ BHa.all Tryd.underlying30 rfl (sH HH.out) ?_)
  obtain ⟨w8, hw8, Z8, B10⟩ : ∃ w8, w7.alloc (Obj.cells #[.slice none 0 0] 37) = w8 ∧ Below w7.heap.size w7 w8 ∧ Blk w8 w7.heap.size 37 [.slice none 0 0] := ⟨_, rfl, (Below.refl _ _).alloc (Nat.le_refl _) _, blk_new w7 _ _⟩
  rw [hw8]
  obtain ⟨g10, hg10⟩ : ∃ g10, w7.heap.size = g10 := ⟨_, rfl⟩
  have B8 := B8.below Z8 B8.lt
  have Z := Z.trans (Z8.mono Z.size)
  rw [hg10] at B10 ⊢
  clear hw8 Z8 hg10 BHa
  refine (add_nil h w8).mono ?_
  rintro e w9 ⟨rfl, Z9⟩
  have B8 := B8.below Z9 B8.lt
  have B10 := B10.below Z9 B10.lt
  have Z := Z.trans (Z9.mono Z.size)
  have c8 : w9.cell? ⟨g8, 0, none⟩ = some (.slice none 0 0) := by rw [B8.cell]; rfl
  have c10 : w9.cell? ⟨g10, 0, none⟩ = some (.slice none 0 0) := by rw [B10.cell]; rfl
  clear Z9 B8 B10
  go_wp2_with fail
  refine (size_nil w9).mono ?_
  rintro e w10 ⟨rfl, hw10⟩
  rw [hw10]
  clear hw10 w10
  go_wp2_with fail
  refine (known_any w9 (HTb.out.grow Z)).mono ?_
  rintro e w11 ⟨rfl, Z11⟩
  have Z := Z.trans (Z11.mono Z.size)
  clear Z11
  go_wp2
  go_ret
  exact ⟨rfl, Z⟩
#print axioms nothing_walk
end Go.Proofs.YtehkaploinklmaaDoor
