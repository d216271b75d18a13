/-
  The contracts of digest.Node and digest.Chain.
-/
import Derived.Test.YtfkiciejipcgkaaDoorSSum
namespace Go.Proofs.YtfkiciejipcgkaaDoor.Sh
open Go.RowKit Mt
theorem blk_cells {w : World} {g : Nat} {t : TypeId} {l : List Nat} (h : Blk w g t (nums .u8 l)) : Cells w g 0 l := fun i hi => by rw [Nat.zero_add]; exact h.num i hi
set_option maxHeartbeats 1000000 in
set_option maxRecDepth 8000 in
theorem node_any (lh rh : List Nat) (hl : lh.length = 32) (hr : rh.length = 32) (hol : Hid (Oct lh)) (hor : Hid (Oct rh)) (w : World) :
    Calls Tryd.prog 33 #[.agg (nums .u8 lh).toArray, .agg (nums .u8 rh).toArray] w fun e w' => e = .returned (.agg (nums .u8 (D (1 :: (lh ++ rh)))).toArray) ∧ Below w.heap.size w w' := by
  go_enter Tryd.func33, Tryd.ntmps33
  go_wp2_with (refine al_box rfl 30 (.tmp 0) rfl (nums .u8 lh) rfl ?_)
  intro ga wa la BA GA
  have Z := (Below.refl w.heap.size w).grown GA (Nat.le_refl _) (by simp)
  clear GA
  go_wp2_with (refine al_box rfl 30 (.tmp 1) rfl (nums .u8 rh) rfl ?_)
  intro gb wb lb BB GB
  have BA := BA.kept GB (by simp)
  have Z := Z.grown GB Z.size (by simp)
  clear GB
  go_wp2_with (refine al_zero rfl 30 rfl _ z25 ?_)
  intro g1 w1 l1 B1 G1
  have BA := BA.kept G1 (by simp)
  have BB := BB.kept G1 (by simp)
  have hg1 : w.heap.size ≤ g1 := Nat.le_trans Z.size l1
  have Z := Z.grown G1 Z.size (by simp)
  clear G1
  go_wp2_with fail
  refine (begin_c [1] (some ⟨w1.heap.size, 0, none⟩) 1 (w1.alloc (.cells #[.int .u8 1] 5)) (byt_lit w1 [1]) (Nat.le_refl _) (fun x hx => by obtain rfl := List.mem_singleton.1 hx; decide) (by simp)).mono ?_; rintro e w2 ⟨c, HK, rfl, Z2⟩
  have BA := (BA.alloc _).below Z2 (BA.alloc _).lt
  have BB := (BB.alloc _).below Z2 (BB.alloc _).lt
  have B1 := (B1.alloc _).below Z2 (B1.alloc _).lt
  have Z := Z.alloc Z.size (.cells #[.int .u8 1] 5)
  have Z := Z.trans (Z2.mono Z.size)
  clear Z2
  go_wp2_with (refine al_zero rfl 70 rfl _ z45' ?_)
  intro g2 w3 l2 B2 G2
  have n12 : g1 ≠ g2 := by have := B1.lt; omega
  have na2 : ga ≠ g2 := by have := BA.lt; omega
  have nb2 : gb ≠ g2 := by have := BB.lt; omega
  have hg2 : w.heap.size ≤ g2 := Nat.le_trans Z.size l2
  have BA := BA.kept G2 (by simp)
  have BB := BB.kept G2 (by simp)
  have B1 := B1.kept G2 (by simp)
  have Z := Z.grown G2 Z.size (by simp)
  have I1 : Hid ((Tryd.prog.info? 70).map (·.size) = some c.length) := by show _ = _; rw [HK.out.2.1]; exact s45
  have N1 : Hid (c.length = (smc ⟨0, 0, 0, 0, 0, 0, 0, 0⟩ (List.replicate 64 0) 0).length) := by show _ = _; rw [HK.out.2.1, smc_len _ _ _ (by simp)]
  clear G2
  go_wp2_with (refine st_all rfl 70 (.tmp 5) (.tmp 7) rfl g2 70 _ c rfl rfl B2 N1.out I1.out HK.out.2.2 ?_)
  intro w4 B2 G3
  have BA := BA.kept G3 (fun e => na2 (Option.some.inj e))
  have BB := BB.kept G3 (fun e => nb2 (Option.some.inj e))
  have B1 := B1.kept G3 (fun e => n12 (Option.some.inj e))
  have Z := grown_below Z G3 Z.size hg2
  have HS : Hid (Sm w4 g2 [1]) := HK.out.1 _ _ B2
  have HA : Hid (Calls Tryd.prog 28 #[.pointer (some ⟨g2, 0, none⟩), .slice (some ⟨ga, 0, none⟩) 32 32] w4 fun e w' => e = .returned (.tuple #[]) ∧ Sm w' g2 (1 :: lh) ∧ w4.grownBy w' (some g2)) := by
    have := add_any g2 [1] lh (some ⟨ga, 0, none⟩) 32 w4 HS.out (.inr ⟨ga, 0, na2, rfl, blk_cells BA⟩) (by omega) hol.out (by simp; omega)
    rw [hl] at this; exact this
  clear B2 G3 I1 N1 HS HK
  go_wp2_with fail
  refine HA.out.mono ?_; rintro e w5 ⟨rfl, hs, G5⟩
  have HS : Hid (Sm w5 g2 (1 :: lh)) := hs
  have BB := BB.kept G5 (fun e => nb2 (Option.some.inj e))
  have B1 := B1.kept G5 (fun e => n12 (Option.some.inj e))
  have Z := grown_below Z G5 Z.size hg2
  have HA : Hid (Calls Tryd.prog 28 #[.pointer (some ⟨g2, 0, none⟩), .slice (some ⟨gb, 0, none⟩) 32 32] w5 fun e w' => e = .returned (.tuple #[]) ∧ Sm w' g2 (1 :: (lh ++ rh)) ∧ w5.grownBy w' (some g2)) := by
    have := add_any g2 (1 :: lh) rh (some ⟨gb, 0, none⟩) 32 w5 HS.out (.inr ⟨gb, 0, nb2, rfl, blk_cells BB⟩) (by omega) hor.out (by simp; omega)
    rw [hr] at this; exact this
  clear hs G5 HS
  go_wp2_with fail
  refine HA.out.mono ?_; rintro e w6 ⟨rfl, hs, G6⟩
  have HS : Hid (Sm w6 g2 (1 :: (lh ++ rh))) := hs
  have B1 := B1.kept G6 (fun e => n12 (Option.some.inj e))
  have Z := grown_below Z G6 Z.size hg2
  clear hs G6 HA
  go_wp2_with fail
  refine (end_any g2 (1 :: (lh ++ rh)) _ HS.out (by simp; omega)).mono ?_; rintro e w7 ⟨rfl, G7⟩
  have B1 := B1.kept G7 (fun e => n12 (Option.some.inj e))
  have Z := grown_below Z G7 Z.size hg2
  have ID : Hid ((Tryd.prog.info? 30).map (·.size) = some (nums .u8 (D (1 :: (lh ++ rh)))).length) := by show _ = _; rw [nums_length, D_len]; exact s25
  have ND : Hid ((nums .u8 (D (1 :: (lh ++ rh)))).length = (nums .u8 (List.replicate 32 0)).length) := by show _ = _; rw [nums_length, nums_length, D_len, List.length_replicate]
  clear G7 HS
  go_wp2_with (refine st_all rfl 30 (.tmp 4) (.tmp 12) rfl g1 30 (nums .u8 (List.replicate 32 0)) (nums .u8 (D (1 :: (lh ++ rh)))) rfl rfl B1 ND.out ID.out (nums_one _ _) ?_)
  intro we BE GE
  go_wp2
  (try simp only [Exit.inBlock, Exit.then])
  refine bodyPost_ret (res_row rfl _ g1 30 _ _ rfl BE Tryd.underlying30 rfl ID.out) rfl ⟨rfl, grown_below Z GE Z.size hg1⟩
#print axioms node_any
end Go.Proofs.YtfkiciejipcgkaaDoor.Sh
