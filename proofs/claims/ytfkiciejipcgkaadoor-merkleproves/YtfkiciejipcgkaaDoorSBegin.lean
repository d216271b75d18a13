/-
  The contract of digest.begin: a summer to which the first bytes have come.
-/
import Derived.Test.YtfkiciejipcgkaaDoorSAdd
namespace Go.Proofs.YtfkiciejipcgkaaDoor.Sh
open Go.RowKit Mt
def Smok (bl L : List Nat) : Prop := bl.length = 64 ∧ Oct bl ∧ ∀ i, i < L.length % 64 → bl.getD i 0 = L.getD (64 * (L.length / 64) + i) 0
theorem smc_len (s : St) (bl : List Nat) (c : Nat) (h : bl.length = 64) : (smc s bl c).length = 73 := by simp [smc, nums_length, l_len, h]
theorem smc_one (s : St) (bl : List Nat) (c : Nat) : ∀ v ∈ smc s bl c, v.oneCell' = true := by
  intro v hv
  unfold smc at hv
  rcases List.mem_append.1 hv with hv | hv
  · exact nums_one _ _ v hv
  rcases List.mem_append.1 hv with hv | hv
  · exact nums_one _ _ v hv
  · obtain rfl := List.mem_singleton.1 hv; rfl
theorem s_built (a : Act) (h : a.eval (.tmp 4) = .agg (nums .u32 init.l).toArray) : Tryd.prog.built 70 (#[(0, Operand.tmp 4)].map fun p => (p.1, a.eval p.2)).toList = some (smc init (List.replicate 64 0) 0).toArray := by
  simp only [List.map_toArray, List.map_cons, List.map_nil, h]
  kernel_rfl
theorem z45' : (Tryd.prog.info? 70).map (fun i => i.zero.map (·.cells)) = some (some (smc ⟨0, 0, 0, 0, 0, 0, 0, 0⟩ (List.replicate 64 0) 0).toArray) := by kernel_rfl
theorem sm_nil {w : World} {g : Nat} (h : Blk w g 70 (smc init (List.replicate 64 0) 0)) : Sm w g [] :=
  ⟨List.replicate 64 0, by simp, fun x hx => by obtain ⟨_, rfl⟩ := List.mem_replicate.1 hx; decide, fun i hi => by simp at hi, h⟩
set_option maxHeartbeats 1000000 in
set_option maxRecDepth 8000 in
theorem begin_any (L : List Nat) (a0 : Option Addr) (cap : Nat) (w : World) (hsrc : Hid (Byt w a0 L)) (hcap : L.length ≤ cap) (ho : Hid (Oct L)) (hn : L.length ≤ 100000) :
    Calls Tryd.prog 27 #[.slice a0 L.length cap] w fun e w' => ∃ bl, Smok bl L ∧ e = .returned (.agg (smc (blk L (L.length / 64)) bl L.length).toArray) ∧ Below w.heap.size w w' := by
  have N0 : Hid ((smc init (List.replicate 64 0) 0).length = (smc ⟨0, 0, 0, 0, 0, 0, 0, 0⟩ (List.replicate 64 0) 0).length) := by show _ = _; rw [smc_len _ _ _ (by simp), smc_len _ _ _ (by simp)]
  have I0 : Hid ((Tryd.prog.info? 70).map (·.size) = some (smc init (List.replicate 64 0) 0).length) := by show _ = _; rw [smc_len _ _ _ (by simp)]; exact s45
  go_enter Tryd.func27, Tryd.ntmps27
  go_wp2_with (refine al_zero rfl 70 rfl _ z45' ?_)
  intro g1 w1 l1 B1 G1
  go_wp2_with (first | (refine bd_row rfl 66 iParts rfl (nums .u32 Mt.init.l) (i_built _) ?_) | (refine bd_row rfl 70 #[(0, .tmp 4)] rfl (smc Mt.init (List.replicate 64 0) 0) (s_built _ rfl) ?_) | (refine al_zero rfl 70 rfl _ z45' ?_))
  intro g2 w2 l2 B2 G2
  have n12 : g1 ≠ g2 := by have := B1.lt; omega
  have B1 := B1.kept G2 (by simp)
  have Z := ((Below.refl w.heap.size w).grown G1 (Nat.le_refl _) (by simp)).grown G2 G1.size (by simp)
  have hg2 : w.heap.size ≤ g2 := Nat.le_trans G1.size l2
  clear G1 G2
  go_wp2_with (refine st_all rfl 70 (.tmp 3) (.tmp 5) rfl g2 70 _ (smc Mt.init (List.replicate 64 0) 0) rfl rfl B2 N0.out I0.out (smc_one _ _ _) ?_)
  intro w3 B3 G3
  have B1 := B1.kept G3 (fun e => n12 (Option.some.inj e))
  have Z := Z.grown G3 Z.size (fun r e => by obtain rfl := Option.some.inj e; exact hg2)
  have HC : Hid (Calls Tryd.prog 28 #[.pointer (some ⟨g2, 0, none⟩), .slice a0 L.length cap] w3 fun e w' => e = .returned (.tuple #[]) ∧ Sm w' g2 L ∧ w3.grownBy w' (some g2)) := by
    have := add_any g2 [] L a0 cap w3 (sm_nil B3) ?_ hcap ho.out (by simpa using Nat.le_trans hn (by decide))
    · rw [List.nil_append] at this; exact this
    · rcases hsrc.out.below Z with h | ⟨b, off, rfl, h⟩
      · exact .inl h
      · by_cases hl : L = []
        · exact .inl hl
        · refine .inr ⟨b, off, ?_, rfl, h⟩
          have hb : b < w.heap.size := by
            rcases hsrc.out with h' | ⟨b', off', e, h'⟩
            · exact absurd h' hl
            · cases e
              exact cell_lt (h' 0 (List.length_pos_iff.2 hl))
          omega
  clear B3 G3 N0 I0 hsrc ho
  go_wp2_with fail
  refine HC.out.mono ?_; rintro e w4 ⟨rfl, HS, G4⟩
  obtain ⟨bl, h64, hob, hbl, B4⟩ := HS
  have B1 := B1.kept G4 (fun e => n12 (Option.some.inj e))
  have Z := Z.grown G4 Z.size (fun r e => by obtain rfl := Option.some.inj e; exact hg2)
  have HK : Hid (Smok bl L) := ⟨h64, hob, hbl⟩
  obtain ⟨c, hc⟩ : ∃ c, c = smc (blk L (L.length / 64)) bl L.length := ⟨_, rfl⟩
  rw [← hc] at B4
  have HCC : Hid (c = smc (blk L (L.length / 64)) bl L.length) := hc
  have I1 : Hid ((Tryd.prog.info? 70).map (·.size) = some c.length) := by show _ = _; rw [hc, smc_len _ _ _ h64]; exact s45
  have N1 : Hid (c.length = (smc ⟨0, 0, 0, 0, 0, 0, 0, 0⟩ (List.replicate 64 0) 0).length) := by show _ = _; rw [hc, smc_len _ _ _ h64, smc_len _ _ _ (by simp)]
  have O1 : Hid (∀ v ∈ c, v.oneCell' = true) := by rw [hc]; exact smc_one _ _ _
  clear hc hbl HC G4
  go_wp2_with (first | (refine wpList_load_mid rfl 70 (.tmp 3) rfl g2 0 rfl c _ B4.all Tryd.underlying70 rfl I1.out ?_) | (refine st_all rfl 70 (.tmp 2) (.tmp 8) rfl g1 70 _ c rfl rfl B1 N1.out I1.out O1.out ?_))
  intro w5 B5 G5
  go_wp2
  (try simp only [Exit.inBlock, Exit.then])
  refine bodyPost_ret (res_row rfl _ g1 70 _ _ rfl B5 Tryd.underlying70 rfl I1.out) rfl ⟨bl, HK.out, by rw [HCC.out], Z.grown G5 Z.size (fun r e => by obtain rfl := Option.some.inj e; exact l1)⟩
#print axioms begin_any
end Go.Proofs.YtfkiciejipcgkaaDoor.Sh
