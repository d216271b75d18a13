/-
  The contract of the document's own Chain.
-/
import Derived.Test.YtajikbnnlhokbaaRleaf
import Derived.Test.YtajikbnnlhokbaaNode
namespace Go.Proofs.Ytajikbnnlhokbaa
open Go.RowKit Math
set_option maxHeartbeats 1000000 in
set_option maxRecDepth 8000 in
theorem rchain_any (lh rh : List Nat) (hl : lh.length = 32) (a0 : Option Addr) (cap : Nat) (hn : rh.length ≤ 90000) (hol : Hid (Oct lh)) (hor : Hid (Oct rh)) (w : World) (hc : Hid (Byt w a0 rh)) (hnil : a0 = none → cap = 0) :
    Calls Try.prog 16 #[.agg (nums .u8 lh).toArray, .slice a0 rh.length cap] w fun e w' => e = .returned (.agg (nums .u8 (D (2 :: (lh ++ rh)))).toArray) ∧ Below w.heap.size w w' := by
  go_enter Try.func16, Try.ntmps16
  go_wp2_with (refine al_box rfl 25 (.tmp 0) rfl (nums .u8 lh) rfl ?_)
  intro ga wa la BA GA
  have Z := (Below.refl w.heap.size w).grown GA (Nat.le_refl _) (by simp)
  clear GA
  go_wp2_with (refine al_zero rfl 25 rfl _ z25 ?_)
  intro g1 w1 l1 B1 G1
  have BA := BA.kept G1 (by simp)
  have hg1 : w.heap.size ≤ g1 := Nat.le_trans Z.size l1
  have Z := Z.grown G1 Z.size (by simp)
  have HB : Hid (Byt w1 a0 rh) := hc.out.below Z
  have HL : Hid (Byt (w1.alloc (.cells #[.int .u8 ((2 : Nat) : Int)] 5)) (some ⟨ga, 0, none⟩) lh) := .inr ⟨ga, 0, rfl, blk_cells (BA.alloc _)⟩
  have oe := own_one w1 2 w1.heap.size (Nat.le_refl _)
  have b1 := (Below.refl w1.heap.size w1).alloc (Nat.le_refl _) (.cells #[.int .u8 ((2 : Nat) : Int)] 5)
  clear G1 BA hc
  go_wp2_with (at_builtin; go_must (refine app_bytes rfl (.tmp 5) (.tmp 6) rfl w1.heap.size _ [2] rfl oe (some ⟨ga, 0, none⟩) 32 32 lh hl.symm rfl HL.out (by simp) (by simp; omega) (by simp) ?_))
  intro v1 w2 o1 g2
  have b2 := below_app b1 (by simp) oe g2
  have HB2 : Hid (Byt w2 a0 rh) := HB.out.below b2
  have s2 := b2.size
  clear g2 oe b1 HL HB
  go_wp2_with (at_builtin; go_must (refine app_bytes rfl (.tmp 7) (.tmp 8) rfl w1.heap.size _ (2 :: lh) rfl o1 a0 _ cap rh rfl rfl HB2.out hnil (by simp; omega) s2 ?_))
  intro v2 w3 o2 g3
  have b3 := below_app b2 s2 o1 g3
  have B1 := B1.below b3 B1.lt
  have Z := Z.trans (b3.mono Z.size)
  have HC : Hid (Calls Try.prog 8 #[v2] w3 fun e w' => e = .returned (.agg (nums .u8 (D (2 :: (lh ++ rh)))).toArray) ∧ Below w3.heap.size w3 w') := by
    have o3 : Own w3 w1.heap.size v2 (2 :: (lh ++ rh)) := by simpa using o2
    exact rsum_own o3 (by simp) (by simp; omega) (fun x hx => by
      rcases List.mem_cons.1 hx with rfl | hx
      · decide
      rcases List.mem_append.1 hx with hx | hx
      · exact hol.out x hx
      · exact hor.out x hx)
  clear g3 o1 o2 b2 b3 HB2
  go_wp2_with fail
  refine HC.out.mono ?_; rintro e w4 ⟨rfl, Z3⟩
  have B1 := B1.below Z3 B1.lt
  have Z := Z.trans (Z3.mono Z.size)
  have ID : Hid ((Try.prog.info? 25).map (·.size) = some (nums .u8 (D (2 :: (lh ++ rh)))).length) := by show _ = _; rw [nums_length, D_len]; exact s25
  have ND : Hid ((nums .u8 (D (2 :: (lh ++ rh)))).length = (nums .u8 (List.replicate 32 0)).length) := by show _ = _; rw [nums_length, nums_length, D_len, List.length_replicate]
  clear Z3 HC
  go_wp2_with (refine st_all rfl 25 (.tmp 4) (.tmp 10) rfl g1 25 (nums .u8 (List.replicate 32 0)) (nums .u8 (D (2 :: (lh ++ rh)))) rfl rfl B1 ND.out ID.out (nums_one _ _) ?_)
  intro we BE GE
  go_wp2
  (try simp only [Exit.inBlock, Exit.then])
  refine bodyPost_ret (res_row rfl _ g1 25 _ _ rfl BE Try.underlying25 rfl ID.out) rfl ⟨rfl, grown_below Z GE Z.size hg1⟩
#print axioms rchain_any
end Go.Proofs.Ytajikbnnlhokbaa
