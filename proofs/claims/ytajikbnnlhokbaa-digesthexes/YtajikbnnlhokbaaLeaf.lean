/-
  The contract of digest.Leaf.
-/
import Derived.Test.YtajikbnnlhokbaaSum
namespace Go.Proofs.Ytajikbnnlhokbaa
open Go.RowKit Math
set_option maxHeartbeats 1000000 in
set_option maxRecDepth 8000 in
theorem leaf_any (a0 : Option Addr) (cap : Nat) (l : List Nat) (hn : l.length ≤ 100000) (w : World) (hc : Hid (Byt w a0 l)) (hcap : l.length ≤ cap) (ho : Hid (Oct l)) :
    Calls Try.prog 11 #[.slice a0 l.length cap] w fun e w' => e = .returned (.agg (nums .u8 (D (0 :: l))).toArray) ∧ Below w.heap.size w w' := by
  go_enter Try.func11, Try.ntmps11
  go_wp2_with (refine al_zero rfl 25 rfl _ z25 ?_)
  intro g1 w1 l1 B1 G1
  have Z := (Below.refl w.heap.size w).grown G1 (Nat.le_refl _) (by simp)
  clear G1
  go_wp2_with fail
  refine (begin_c [0] (some ⟨w1.heap.size, 0, none⟩) 1 (w1.alloc (.cells #[.int .u8 0] 5)) (byt_lit w1 [0]) (Nat.le_refl _) (fun x hx => by obtain rfl := List.mem_singleton.1 hx; decide) (by simp)).mono ?_; rintro e w2 ⟨c, HK, rfl, Z2⟩
  have B1 := (B1.alloc _).below Z2 (B1.alloc _).lt
  have Z := Z.alloc Z.size (.cells #[.int .u8 0] 5)
  have Z := Z.trans (Z2.mono Z.size)
  clear Z2
  go_wp2_with (refine al_zero rfl 45 rfl _ z45' ?_)
  intro g2 w3 l2 B2 G2
  have n12 : g1 ≠ g2 := by have := B1.lt; omega
  have hg2 : w.heap.size ≤ g2 := Nat.le_trans Z.size l2
  have B1 := B1.kept G2 (by simp)
  have Z := Z.grown G2 Z.size (by simp)
  have I1 : Hid ((Try.prog.info? 45).map (·.size) = some c.length) := by show _ = _; rw [HK.out.2.1]; exact s45
  have N1 : Hid (c.length = (smc ⟨0, 0, 0, 0, 0, 0, 0, 0⟩ (List.replicate 64 0) 0).length) := by show _ = _; rw [HK.out.2.1, smc_len _ _ _ (by simp)]
  clear G2
  go_wp2_with (refine st_all rfl 45 (.tmp 3) (.tmp 5) rfl g2 45 _ c rfl rfl B2 N1.out I1.out HK.out.2.2 ?_)
  intro w4 B2 G3
  have B1 := B1.kept G3 (fun e => n12 (Option.some.inj e))
  have Z := grown_below Z G3 Z.size hg2
  have HS : Hid (Sm w4 g2 [0]) := HK.out.1 _ _ B2
  have HA : Hid (Calls Try.prog 22 #[.pointer (some ⟨g2, 0, none⟩), .slice a0 l.length cap] w4 fun e w' => e = .returned (.tuple #[]) ∧ Sm w' g2 (0 :: l) ∧ w4.grownBy w' (some g2)) := by
    have := add_any g2 [0] l a0 cap w4 HS.out (byt_src hc.out Z hg2) hcap ho.out (by simp; omega)
    exact this
  clear B2 G3 I1 N1 HS HK hc ho
  go_wp2_with fail
  refine HA.out.mono ?_; rintro e w5 ⟨rfl, hs, G5⟩
  have HS : Hid _ := hs
  have B1 := B1.kept G5 (fun e => n12 (Option.some.inj e))
  have Z := grown_below Z G5 Z.size hg2
  clear hs G5 HA
  go_wp2_with fail
  refine (end_any g2 (0 :: l) _ HS.out (by simp; omega)).mono ?_; rintro e w6 ⟨rfl, G6⟩
  have B1 := B1.kept G6 (fun e => n12 (Option.some.inj e))
  have Z := grown_below Z G6 Z.size hg2
  have ID : Hid ((Try.prog.info? 25).map (·.size) = some (nums .u8 (D (0 :: l))).length) := by show _ = _; rw [nums_length, D_len]; exact s25
  have ND : Hid ((nums .u8 (D (0 :: l))).length = (nums .u8 (List.replicate 32 0)).length) := by show _ = _; rw [nums_length, nums_length, D_len, List.length_replicate]
  clear G6 HS
  go_wp2_with (refine st_all rfl 25 (.tmp 2) (.tmp 8) rfl g1 25 (nums .u8 (List.replicate 32 0)) (nums .u8 (D (0 :: l))) rfl rfl B1 ND.out ID.out (nums_one _ _) ?_)
  intro we BE GE
  go_wp2
  (try simp only [Exit.inBlock, Exit.then])
  refine bodyPost_ret (res_row rfl _ g1 25 _ _ rfl BE Try.underlying25 rfl ID.out) rfl ⟨rfl, grown_below Z GE Z.size l1⟩
#print axioms leaf_any
end Go.Proofs.Ytajikbnnlhokbaa
