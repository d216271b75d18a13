/-
  The contracts of digest.Sum and digest.Leaf.
-/
import Derived.Test.YtfkiciejipcgkaaDoorSEnd
namespace Go.Proofs.YtfkiciejipcgkaaDoor.Sh
open Go.RowKit Mt
theorem sm_of {w : World} {g : Nat} {bl L : List Nat} (h : Smok bl L) (B : Blk w g 70 (smc (blk L (L.length / 64)) bl L.length)) : Sm w g L := ⟨bl, h.1, h.2.1, h.2.2, B⟩
theorem begin_c (L : List Nat) (a0 : Option Addr) (cap : Nat) (w : World) (hsrc : Byt w a0 L) (hcap : L.length ≤ cap) (ho : Oct L) (hn : L.length ≤ 100000) :
    Calls Tryd.prog 27 #[.slice a0 L.length cap] w fun e w' => ∃ c, Hid ((∀ (W : World) g, Blk W g 70 c → Sm W g L) ∧ c.length = 73 ∧ ∀ v ∈ c, v.oneCell' = true) ∧ e = .returned (.agg c.toArray) ∧ Below w.heap.size w w' :=
  (begin_any L a0 cap w hsrc hcap ho hn).mono fun _ _ ⟨_, hk, he, hz⟩ => ⟨_, ⟨fun _ _ B => sm_of hk B, smc_len _ _ _ hk.1, smc_one _ _ _⟩, he, hz⟩
theorem byt_src {w w' : World} {a0 : Option Addr} {l : List Nat} {g : Nat} (h : Byt w a0 l) (z : Below w.heap.size w w') (hg : w.heap.size ≤ g) : l = [] ∨ ∃ pb off, pb ≠ g ∧ a0 = some ⟨pb, off, none⟩ ∧ Cells w' pb off l := by
  by_cases hl : l = []
  · exact .inl hl
  rcases h with h' | ⟨b, off, rfl, h'⟩
  · exact absurd h' hl
  · have hb : b < w.heap.size := cell_lt (h' 0 (List.length_pos_iff.2 hl))
    exact .inr ⟨b, off, by omega, rfl, h'.below z⟩
theorem grown_below {B : Nat} {w w' w'' : World} {g : Nat} (z : Below B w w') (h : w'.grownBy w'' (some g)) (hB : B ≤ w'.heap.size) (hg : B ≤ g) : Below B w w'' := z.grown h hB (fun r e => by obtain rfl := Option.some.inj e; exact hg)
set_option maxHeartbeats 1000000 in
set_option maxRecDepth 8000 in
theorem sum_any (a0 : Option Addr) (cap : Nat) (l : List Nat) (hn : l.length ≤ 100000) (w : World) (hc : Hid (Byt w a0 l)) (hcap : l.length ≤ cap) (ho : Hid (Oct l)) :
    Calls Tryd.prog 16 #[.slice a0 l.length cap] w fun e w' => e = .returned (.agg (nums .u8 (D l)).toArray) ∧ Below w.heap.size w w' := by
  go_enter Tryd.func16, Tryd.ntmps16
  go_wp2_with (refine al_zero rfl 30 rfl _ z25 ?_)
  intro g1 w1 l1 B1 G1
  have Z := (Below.refl w.heap.size w).grown G1 (Nat.le_refl _) (by simp)
  clear G1
  go_wp2_with fail
  refine (begin_c [] none 0 _ (.inl rfl) (Nat.le_refl _) (fun x hx => by cases hx) (by simp)).mono ?_; rintro e w2 ⟨c, HK, rfl, Z2⟩
  have B1 := B1.below Z2 B1.lt
  have Z := Z.trans (Z2.mono Z.size)
  clear Z2
  go_wp2_with (refine al_zero rfl 70 rfl _ z45' ?_)
  intro g2 w3 l2 B2 G2
  have n12 : g1 ≠ g2 := by have := B1.lt; omega
  have hg2 : w.heap.size ≤ g2 := Nat.le_trans Z.size l2
  have B1 := B1.kept G2 (by simp)
  have Z := Z.grown G2 Z.size (by simp)
  have I1 : Hid ((Tryd.prog.info? 70).map (·.size) = some c.length) := by show _ = _; rw [HK.out.2.1]; exact s45
  have N1 : Hid (c.length = (smc ⟨0, 0, 0, 0, 0, 0, 0, 0⟩ (List.replicate 64 0) 0).length) := by show _ = _; rw [HK.out.2.1, smc_len _ _ _ (by simp)]
  clear G2
  go_wp2_with (refine st_all rfl 70 (.tmp 3) (.tmp 4) rfl g2 70 _ c rfl rfl B2 N1.out I1.out HK.out.2.2 ?_)
  intro w4 B2 G3
  have B1 := B1.kept G3 (fun e => n12 (Option.some.inj e))
  have Z := grown_below Z G3 Z.size hg2
  have HS : Hid (Sm w4 g2 []) := HK.out.1 _ _ B2
  have HA : Hid (Calls Tryd.prog 28 #[.pointer (some ⟨g2, 0, none⟩), .slice a0 l.length cap] w4 fun e w' => e = .returned (.tuple #[]) ∧ Sm w' g2 l ∧ w4.grownBy w' (some g2)) := by
    have := add_any g2 [] l a0 cap w4 HS.out (byt_src hc.out Z hg2) hcap ho.out (by simp; omega)
    rw [List.nil_append] at this; exact this
  clear B2 G3 I1 N1 HS HK hc ho
  go_wp2_with fail
  refine HA.out.mono ?_; rintro e w5 ⟨rfl, hs, G5⟩
  have HS : Hid _ := hs
  have B1 := B1.kept G5 (fun e => n12 (Option.some.inj e))
  have Z := grown_below Z G5 Z.size hg2
  clear hs G5 HA
  go_wp2_with fail
  refine (end_any g2 l _ HS.out (by omega)).mono ?_; rintro e w6 ⟨rfl, G6⟩
  have B1 := B1.kept G6 (fun e => n12 (Option.some.inj e))
  have Z := grown_below Z G6 Z.size hg2
  have ID : Hid ((Tryd.prog.info? 30).map (·.size) = some (nums .u8 (D l)).length) := by show _ = _; rw [nums_length, D_len]; exact s25
  have ND : Hid ((nums .u8 (D l)).length = (nums .u8 (List.replicate 32 0)).length) := by show _ = _; rw [nums_length, nums_length, D_len, List.length_replicate]
  clear G6 HS
  go_wp2_with (refine st_all rfl 30 (.tmp 2) (.tmp 7) rfl g1 30 (nums .u8 (List.replicate 32 0)) (nums .u8 (D l)) rfl rfl B1 ND.out ID.out (nums_one _ _) ?_)
  intro we BE GE
  go_wp2
  (try simp only [Exit.inBlock, Exit.then])
  refine bodyPost_ret (res_row rfl _ g1 30 _ _ rfl BE Tryd.underlying30 rfl ID.out) rfl ⟨rfl, grown_below Z GE Z.size l1⟩
#print axioms sum_any
end Go.Proofs.YtfkiciejipcgkaaDoor.Sh
