/-
  The contract of the document's own Node.
-/
import Derived.Test.YtfkiciejipcgkaaDoorSRegn
namespace Go.Proofs.YtfkiciejipcgkaaDoor.Sh
open Go.RowKit Mt
set_option maxHeartbeats 1000000 in
set_option maxRecDepth 8000 in
theorem rnode_any (lh rh : List Nat) (hl : lh.length = 32) (hr : rh.length = 32) (hol : Hid (Oct lh)) (hor : Hid (Oct rh)) (w : World) :
    Calls Tryd.prog 25 #[.agg (nums .u8 lh).toArray, .agg (nums .u8 rh).toArray] w fun e w' => e = .returned (.agg (nums .u8 (D (1 :: (lh ++ rh)))).toArray) ∧ Below w.heap.size w w' := by
  have ID : Hid ((Tryd.prog.info? 30).map (·.size) = some (nums .u8 (D (1 :: (lh ++ rh)))).length) := by show _ = _; rw [nums_length, D_len]; exact s25
  go_enter Tryd.func25, Tryd.ntmps25
  go_wp2_with (refine al_box rfl 30 (.tmp 0) rfl (nums .u8 lh) rfl ?_)
  intro ga wa la BA GA
  have Z := (Below.refl w.heap.size w).grown GA (Nat.le_refl _) (by simp)
  clear GA
  go_wp2_with (refine al_box rfl 30 (.tmp 1) rfl (nums .u8 rh) rfl ?_)
  intro gb wb lb BB GB
  have BA := BA.kept GB (by simp)
  have Z := Z.grown GB Z.size (by simp)
  clear GB
  go_wp2_with (refine al_zero rfl 30 rfl _ z25 ?_)
  intro g1 w1 l1 B1 G1
  have BA := BA.kept G1 (by simp)
  have BB := BB.kept G1 (by simp)
  have hg1 : w.heap.size ≤ g1 := Nat.le_trans Z.size l1
  have Z := Z.grown G1 Z.size (by simp)
  clear G1
  go_wp2
  refine regn ga gb g1 lh rh rfl rfl rfl rfl (fun _ _ _ _ _ h => h) (by kernel_rfl) hl hr hol.out hor.out BA BB B1 ?_
  intro v1 v2 wf BF GF
  have Z := grown_below Z GF Z.size hg1
  clear GF BA BB B1
  simp only [Act.put, List.setIfInBounds_toArray, List.set_cons_succ, List.set_cons_zero]
  go_wp2
  (try simp only [Exit.inBlock, Exit.then])
  refine bodyPost_ret (res_row rfl _ g1 30 _ _ rfl BF Tryd.underlying30 rfl ID.out) rfl ⟨rfl, Z⟩
#print axioms rnode_any
end Go.Proofs.YtfkiciejipcgkaaDoor.Sh
