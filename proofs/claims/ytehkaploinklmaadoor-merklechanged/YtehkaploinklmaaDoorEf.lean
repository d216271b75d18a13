/-
  merkle.half.join: the node of a half's root and that of what stands beside it; others: the halves beside a way.
-/
import Derived.Test.YtehkaploinklmaaDoorEe
import Derived.BigQuiet
namespace Go.Proofs.YtehkaploinklmaaDoor
open Go.RowKit Sh
def nd (a b : List Nat) : List Nat := Mt.D (1 :: (a ++ b))
def em : List Nat := Mt.D []
theorem D_hh (l : List Nat) : Hh (Mt.D l) := ⟨Mt.D_len l, by first | exact Mt.D_oct l | exact fun x hx => Mt.D_lt l x hx⟩
theorem nd_hh (a b : List Nat) : Hh (nd a b) := D_hh _
theorem em_hh : Hh em := D_hh _
theorem sH {h : List Nat} (hh : Hh h) : (Tryd.prog.info? 30).map (·.size) = some (nums .u8 h).length := by rw [nums_length, hh.1]; exact s25
set_option maxHeartbeats 1000000 in
set_option maxRecDepth 8000 in
theorem join_any (l o : Nat) (x y : List Nat) (hx : Hh x) (hy : Hh y) (ho : o ≤ 1000000000000000) (w : World) :
    Calls Tryd.prog 35 #[.agg #[.int .i64 (l : Int), .int .i64 (o : Int)], .agg (nums .u8 x).toArray, .agg (nums .u8 y).toArray] w fun e w' => e = .returned (.agg (nums .u8 (if o % 2 = 0 then nd x y else nd y x)).toArray) ∧ Below w.heap.size w w' := by
  have HX : Hid (Hh x) := hx
  have HY : Hid (Hh y) := hy
  obtain ⟨r, hr⟩ : ∃ r, Hid (r = if o % 2 = 0 then nd x y else nd y x) := ⟨_, rfl⟩
  have Hr : Hid (Hh r) := by show Hh r; rw [hr.out]; split <;> exact nd_hh _ _
  rw [← hr.out]
  clear hx hy
  go_enter Tryd.func35, Tryd.ntmps35
  go_wp2_with (refine al_box rfl 60 (.tmp 0) rfl [.int .i64 (l : Int), .int .i64 (o : Int)] rfl ?_)
  intro gv wv lv BV GV
  have Z := (Below.refl w.heap.size w).grown GV (Nat.le_refl _) (by simp)
  clear GV
  go_wp2_with (refine al_box rfl 30 (.tmp 1) rfl (nums .u8 x) rfl ?_)
  intro ga wa la BA GA
  have BV := BV.kept GA (by simp)
  have Z := Z.grown GA Z.size (by simp)
  clear GA
  go_wp2_with (refine al_box rfl 30 (.tmp 2) rfl (nums .u8 y) rfl ?_)
  intro gb wb lb BB GB
  have BV := BV.kept GB (by simp)
  have BA := BA.kept GB (by simp)
  have Z := Z.grown GB Z.size (by simp)
  clear GB
  go_wp2_with (refine al_zero rfl 30 rfl _ z25 ?_)
  intro g1 w1 l1 B1 G1
  have BV := BV.kept G1 (by simp)
  have BA := BA.kept G1 (by simp)
  have BB := BB.kept G1 (by simp)
  have hg1 : w.heap.size ≤ g1 := Nat.le_trans Z.size l1
  have Z := Z.grown G1 Z.size (by simp)
  clear G1
  go_wp2_with (refine ld_mid rfl 60 (.tmp 3) rfl gv 0 rfl [.int .i64 (l : Int), .int .i64 (o : Int)] _ BV.all Tryd.underlying60 rfl (by kernel_rfl) ?_)
  refine (left_any l o ho w1).mono ?_; rintro e w2 ⟨rfl, Z2⟩
  have BA := BA.below Z2 BA.lt
  have BB := BB.below Z2 BB.lt
  have B1 := B1.below Z2 B1.lt
  have Z := Z.trans (Z2.mono Z.size)
  clear Z2 BV
  have ID : Hid ((Tryd.prog.info? 30).map (·.size) = some (nums .u8 r).length) := sH Hr.out
  have ND : Hid ((nums .u8 r).length = (nums .u8 (List.replicate 32 0)).length) := by show _ = _; rw [nums_length, nums_length, Hr.out.1, List.length_replicate]
  by_cases h2 : o % 2 = 0
  · have hr : r = nd x y := by rw [hr.out, if_pos h2]
    subst hr
    go_wp2_with (first | refine ld_mid rfl 30 (.tmp 4) rfl ga 0 rfl (nums .u8 x) _ BA.all Tryd.underlying30 rfl (sH HX.out) ?_ | refine ld_mid rfl 30 (.tmp 5) rfl gb 0 rfl (nums .u8 y) _ BB.all Tryd.underlying30 rfl (sH HY.out) ?_)
    refine (node_any x y HX.out.1 HY.out.1 HX.out.2 HY.out.2 w2).mono ?_; rintro e w3 ⟨rfl, Z3⟩
    have B1 := B1.below Z3 B1.lt
    have Z := Z.trans (Z3.mono Z.size)
    clear Z3
    go_wp2_with (refine st_all rfl 30 (.tmp 6) (.tmp 11) rfl g1 30 (nums .u8 (List.replicate 32 0)) (nums .u8 (nd x y)) rfl rfl B1 ND.out ID.out (nums_one _ _) ?_)
    intro we BE GE
    go_wp2
    (try simp only [Exit.inBlock, Exit.then])
    refine bodyPost_ret (res_row rfl _ g1 30 _ _ rfl BE Tryd.underlying30 rfl ID.out) rfl ⟨rfl, grown_below Z GE Z.size hg1⟩
  · have hr : r = nd y x := by rw [hr.out, if_neg h2]
    subst hr
    go_wp2_with (first | refine ld_mid rfl 30 (.tmp 5) rfl gb 0 rfl (nums .u8 y) _ BB.all Tryd.underlying30 rfl (sH HY.out) ?_ | refine ld_mid rfl 30 (.tmp 4) rfl ga 0 rfl (nums .u8 x) _ BA.all Tryd.underlying30 rfl (sH HX.out) ?_)
    refine (node_any y x HY.out.1 HX.out.1 HY.out.2 HX.out.2 w2).mono ?_; rintro e w3 ⟨rfl, Z3⟩
    have B1 := B1.below Z3 B1.lt
    have Z := Z.trans (Z3.mono Z.size)
    clear Z3
    go_wp2_with (refine st_all rfl 30 (.tmp 6) (.tmp 14) rfl g1 30 (nums .u8 (List.replicate 32 0)) (nums .u8 (nd y x)) rfl rfl B1 ND.out ID.out (nums_one _ _) ?_)
    intro we BE GE
    go_wp2
    (try simp only [Exit.inBlock, Exit.then])
    refine bodyPost_ret (res_row rfl _ g1 30 _ _ rfl BE Tryd.underlying30 rfl ID.out) rfl ⟨rfl, grown_below Z GE Z.size hg1⟩
end Go.Proofs.YtehkaploinklmaaDoor
