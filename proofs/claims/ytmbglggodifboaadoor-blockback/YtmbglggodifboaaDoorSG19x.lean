/-
  The contract of digest.begin: a summer to which the first bytes have come. · The contract of the document's own Sum: SHA-256 of its bytes. · The contract of (*summer).end: the digest of the bytes that have come. · The contracts of digest.Sum and digest.Leaf. · The contracts of block's appendNumbers, headBytes, entryBytes.
-/
import Derived.Test.YtmbglggodifboaaDoorSSAdd
import Derived.Test.YtmbglggodifboaaDoorSG16x
import Derived.Test.YtmbglggodifboaaDoorSG15x
namespace Go.Proofs.YtmbglggodifboaaDoor.Sh
open Go.RowKit Mt
def Smok (bl L : List Nat) : Prop := bl.length = 64 ∧ Oct bl ∧ ∀ i, i < L.length % 64 → bl.getD i 0 = L.getD (64 * (L.length / 64) + i) 0
theorem smc_len (s : St) (bl : List Nat) (c : Nat) (h : bl.length = 64) : (smc s bl c).length = 73 := by simp [smc, nums_length, l_len, h]
theorem smc_one (s : St) (bl : List Nat) (c : Nat) : ∀ v ∈ smc s bl c, v.oneCell' = true := by
  intro v hv
  unfold smc at hv
  rcases List.mem_append.1 hv with hv | hv
  · exact nums_one _ _ v hv
  rcases List.mem_append.1 hv with hv | hv
  · exact nums_one _ _ v hv
  · obtain rfl := List.mem_singleton.1 hv; rfl
theorem s_built (a : Act) (h : a.eval (.tmp 4) = .agg (nums .u32 init.l).toArray) : Tryd.prog.built 102 (#[(0, Operand.tmp 4)].map fun p => (p.1, a.eval p.2)).toList = some (smc init (List.replicate 64 0) 0).toArray := by
  simp only [List.map_toArray, List.map_cons, List.map_nil, h]
  kernel_rfl
theorem z45' : (Tryd.prog.info? 102).map (fun i => i.zero.map (·.cells)) = some (some (smc ⟨0, 0, 0, 0, 0, 0, 0, 0⟩ (List.replicate 64 0) 0).toArray) := by kernel_rfl
theorem sm_nil {w : World} {g : Nat} (h : Blk w g 102 (smc init (List.replicate 64 0) 0)) : Sm w g [] :=
  ⟨List.replicate 64 0, by simp, fun x hx => by obtain ⟨_, rfl⟩ := List.mem_replicate.1 hx; decide, fun i hi => by simp at hi, h⟩
set_option maxHeartbeats 1000000 in
set_option maxRecDepth 8000 in
theorem begin_any (L : List Nat) (a0 : Option Addr) (cap : Nat) (w : World) (hsrc : Hid (Byt w a0 L)) (hcap : L.length ≤ cap) (ho : Hid (Oct L)) (hn : L.length ≤ 100000) :
    Calls Tryd.prog 51 #[.slice a0 L.length cap] w fun e w' => ∃ bl, Smok bl L ∧ e = .returned (.agg (smc (blk L (L.length / 64)) bl L.length).toArray) ∧ Below w.heap.size w w' := by
  have N0 : Hid ((smc init (List.replicate 64 0) 0).length = (smc ⟨0, 0, 0, 0, 0, 0, 0, 0⟩ (List.replicate 64 0) 0).length) := by show _ = _; rw [smc_len _ _ _ (by simp), smc_len _ _ _ (by simp)]
  have I0 : Hid ((Tryd.prog.info? 102).map (·.size) = some (smc init (List.replicate 64 0) 0).length) := by show _ = _; rw [smc_len _ _ _ (by simp)]; exact s45
  go_enter Tryd.func51, Tryd.ntmps51
  go_wp2_with (refine al_zero rfl 102 rfl _ z45' ?_)
  intro g1 w1 l1 B1 G1
  go_wp2_with (first | (refine bd_row rfl 99 iParts rfl (nums .u32 Mt.init.l) (i_built _) ?_) | (refine bd_row rfl 102 #[(0, .tmp 4)] rfl (smc Mt.init (List.replicate 64 0) 0) (s_built _ rfl) ?_) | (refine al_zero rfl 102 rfl _ z45' ?_))
  intro g2 w2 l2 B2 G2
  have n12 : g1 ≠ g2 := by have := B1.lt; omega
  have B1 := B1.kept G2 (by simp)
  have Z := ((Below.refl w.heap.size w).grown G1 (Nat.le_refl _) (by simp)).grown G2 G1.size (by simp)
  have hg2 : w.heap.size ≤ g2 := Nat.le_trans G1.size l2
  clear G1 G2
  go_wp2_with (refine st_all rfl 102 (.tmp 3) (.tmp 5) rfl g2 102 _ (smc Mt.init (List.replicate 64 0) 0) rfl rfl B2 N0.out I0.out (smc_one _ _ _) ?_)
  intro w3 B3 G3
  have B1 := B1.kept G3 (fun e => n12 (Option.some.inj e))
  have Z := Z.grown G3 Z.size (fun r e => by obtain rfl := Option.some.inj e; exact hg2)
  have HC : Hid (Calls Tryd.prog 52 #[.pointer (some ⟨g2, 0, none⟩), .slice a0 L.length cap] w3 fun e w' => e = .returned (.tuple #[]) ∧ Sm w' g2 L ∧ w3.grownBy w' (some g2)) := by
    have := add_any g2 [] L a0 cap w3 (sm_nil B3) ?_ hcap ho.out (by simpa using Nat.le_trans hn (by decide))
    · rw [List.nil_append] at this; exact this
    · rcases hsrc.out.below Z with h | ⟨b, off, rfl, h⟩
      · exact .inl h
      · by_cases hl : L = []
        · exact .inl hl
        · refine .inr ⟨b, off, ?_, rfl, h⟩
          have hb : b < w.heap.size := by
            rcases hsrc.out with h' | ⟨b', off', e, h'⟩
            · exact absurd h' hl
            · cases e
              exact cell_lt (h' 0 (List.length_pos_iff.2 hl))
          omega
  clear B3 G3 N0 I0 hsrc ho
  go_wp2_with fail
  refine HC.out.mono ?_; rintro e w4 ⟨rfl, HS, G4⟩
  obtain ⟨bl, h64, hob, hbl, B4⟩ := HS
  have B1 := B1.kept G4 (fun e => n12 (Option.some.inj e))
  have Z := Z.grown G4 Z.size (fun r e => by obtain rfl := Option.some.inj e; exact hg2)
  have HK : Hid (Smok bl L) := ⟨h64, hob, hbl⟩
  obtain ⟨c, hc⟩ : ∃ c, c = smc (blk L (L.length / 64)) bl L.length := ⟨_, rfl⟩
  rw [← hc] at B4
  have HCC : Hid (c = smc (blk L (L.length / 64)) bl L.length) := hc
  have I1 : Hid ((Tryd.prog.info? 102).map (·.size) = some c.length) := by show _ = _; rw [hc, smc_len _ _ _ h64]; exact s45
  have N1 : Hid (c.length = (smc ⟨0, 0, 0, 0, 0, 0, 0, 0⟩ (List.replicate 64 0) 0).length) := by show _ = _; rw [hc, smc_len _ _ _ h64, smc_len _ _ _ (by simp)]
  have O1 : Hid (∀ v ∈ c, v.oneCell' = true) := by rw [hc]; exact smc_one _ _ _
  clear hc hbl HC G4
  go_wp2_with (first | (refine wpList_load_mid rfl 102 (.tmp 3) rfl g2 0 rfl c _ B4.all Tryd.underlying102 rfl I1.out ?_) | (refine st_all rfl 102 (.tmp 2) (.tmp 8) rfl g1 102 _ c rfl rfl B1 N1.out I1.out O1.out ?_))
  intro w5 B5 G5
  go_wp2
  (try simp only [Exit.inBlock, Exit.then])
  refine bodyPost_ret (res_row rfl _ g1 102 _ _ rfl B5 Tryd.underlying102 rfl I1.out) rfl ⟨bl, HK.out, by rw [HCC.out], Z.grown G5 Z.size (fun r e => by obtain rfl := Option.some.inj e; exact l1)⟩
end Go.Proofs.YtmbglggodifboaaDoor.Sh
namespace Go.Proofs.YtmbglggodifboaaDoor.Sh
open Go.RowKit Mt
theorem pad_oct (n : Nat) : ∀ x ∈ pad n, x < 256 := by
  intro x hx
  unfold pad at hx
  rcases List.mem_cons.1 hx with rfl | hx
  · decide
  rcases List.mem_append.1 hx with hx | hx
  · obtain ⟨_, rfl⟩ := List.mem_replicate.1 hx; decide
  · obtain ⟨i, _, rfl⟩ := List.mem_map.1 hx; exact Nat.mod_lt _ (by decide)
/-- The digest's bytes, the first so many. -/
def outs (S : St) (i : Nat) : List Nat := (List.range i).map (out S) ++ List.replicate (32 - i) 0
theorem outs_len (S : St) (i : Nat) (h : i ≤ 32) : (outs S i).length = 32 := by simp [outs]; omega
theorem outs_set (S : St) (i : Nat) (h : i < 32) : (outs S i).set i (out S i) = outs S (i + 1) := by
  have := set_snoc ((List.range i).map (out S)) (32 - (i + 1)) (out S i)
  rw [List.length_map, List.length_range, show 32 - (i + 1) + 1 = 32 - i by omega] at this
  unfold outs
  rw [this, range_snoc]

end Go.Proofs.YtmbglggodifboaaDoor.Sh
namespace Go.Proofs.YtmbglggodifboaaDoor.Sh
open Go.RowKit Mt
set_option maxHeartbeats 1000000 in
set_option maxRecDepth 8000 in
theorem end_any (g : Nat) (L : List Nat) (w : World) (hS : Hid (Sm w g L)) (hn : L.length ≤ 200000) :
    Calls Tryd.prog 53 #[.pointer (some ⟨g, 0, none⟩)] w fun e w' => e = .returned (.agg (nums .u8 (D L)).toArray) ∧ w.grownBy w' (some g) := by
  have hgl := hS.out.lt
  go_enter Tryd.func53, Tryd.ntmps53
  go_wp2_with (refine al_zero rfl 23 rfl _ z25 ?_)
  intro g1 w1 l1 B1 G1
  have HS1 : Hid (Sm w1 g L) := hS.out.kept G1 (by simp)
  have n1 : g1 ≠ g := by omega
  have c72 : w1.cell? ⟨g, 72, none⟩ = some (.int .u64 (L.length : Int)) := by
    obtain ⟨bl, h1, _, _, h4⟩ := HS1.out
    exact smc_72 h4 h1
  go_wp2_with fail
  refine (ending_any L.length (by omega) _).mono ?_; rintro e w2 ⟨gp, cp, rfl, hgp, hcp, hcell, Z2⟩
  have HS2 : Hid (Sm w2 g L) := HS1.out.below Z2 HS1.out.lt
  have B1 := B1.below Z2 B1.lt
  have G2 : Hid (w.grownBy w2 (some g)) := ⟨Z2.os.trans G1.os, Z2.tape.trans G1.tape, Z2.output.trans G1.output, Nat.le_trans G1.size Z2.size, fun k hk hne => (Z2.block k (Nat.lt_of_lt_of_le hk G1.size)).trans (G1.block k hk (by simp))⟩
  have HC : Hid (Calls Tryd.prog 52 #[.pointer (some ⟨g, 0, none⟩), .slice (some ⟨gp, 0, none⟩) (pad L.length).length cp] w2 fun e w' => e = .returned (.tuple #[]) ∧ Sm w' g (L ++ pad L.length) ∧ w2.grownBy w' (some g)) :=
    add_any g L (pad L.length) _ cp w2 HS2.out (.inr ⟨gp, 0, by have := HS1.out.lt; omega, rfl, hcell⟩) hcp (pad_oct _) (by have := pad_len_le L.length; omega)
  have hl1 : w.heap.size ≤ g1 := l1
  clear hcell Z2 G1 HS1 HS2 c72 hS
  go_wp2_with fail
  refine HC.out.mono ?_; rintro e w3 ⟨rfl, HS3, G3⟩
  have B1 := B1.kept G3 (fun e => n1 (Option.some.inj e))
  have G3 : Hid (w.grownBy w3 (some g)) := G2.out.trans G3
  obtain ⟨S, hSS⟩ : ∃ S, Hid (S = blk (L ++ pad L.length) ((L ++ pad L.length).length / 64)) := ⟨_, rfl⟩
  have HDD : Hid (D L = outs S 32) := by
    show _ = _
    unfold D outs
    rw [hSS.out]; simp
  have hok : Hid S.ok := by rw [hSS.out]; exact blk_ok _ _
  have HR : Hid (∀ i, i < 8 → w3.cell? ⟨g, i, none⟩ = some (.int .u32 ((S.l.getD i 0 : Nat) : Int))) := by
    obtain ⟨bl, h1, _, _, h4⟩ := HS3
    intro i hi
    rw [h4.cell, ← hSS.out]
    unfold smc
    rw [List.getElem?_append_left (by rw [nums_length, l_len]; exact hi), nums_get _ _ _ (by rw [l_len]; exact hi)]
  have hgl3 : g < w3.heap.size := Nat.lt_of_lt_of_le hgl G3.out.size
  clear HS3 HC G2 hSS
  go_wp2_with (refine al_zero rfl 23 rfl _ z25 ?_)
  intro g2 w4 l2 B2 G4
  have n12 : g1 ≠ g2 := by have := B1.lt; omega
  have ng2 : g ≠ g2 := by omega
  have B1 := B1.kept G4 (by simp)
  have HR : Hid (∀ i, i < 8 → w4.cell? ⟨g, i, none⟩ = some (.int .u32 ((S.l.getD i 0 : Nat) : Int))) := fun i hi => G4.cell (HR.out i hi) (by simp)
  have hg2 : w.heap.size ≤ g2 := Nat.le_trans G3.out.size l2
  have G4 : Hid (w.grownBy w4 (some g)) := G3.out.andThen G4 (by simp)
  have B2 : Blk w4 g2 23 (nums .u8 (outs S 0)) := B2
  clear G3
  go_wp2
  go_loopw [12] (fun i wr => ∃ k : Nat, k ≤ 32 ∧ i = .int .i64 (k : Int) ∧ Blk wr g2 23 (nums .u8 (outs S k)) ∧ Blk wr g1 23 (nums .u8 (List.replicate 32 0)) ∧ Hid (∀ i, i < 8 → wr.cell? ⟨g, i, none⟩ = some (.int .u32 ((S.l.getD i 0 : Nat) : Int))) ∧ w.grownBy wr (some g)) (fun i _ => 32 - (intOf i).toNat)
  case atStart => exact ⟨0, by omega, rfl, B2, B1, HR, G4.out⟩
  case round =>
    clear HR B1 B2 G4
    obtain ⟨k, hk, rfl, B4, B1, HR, ZZ⟩ := hrel
    by_cases h32 : k < 32
    · have hc4 := HR.out (k / 4) (by omega)
      have hv := l_lt hok.out (k / 4)
      have HO : Hid (out S k = S.l.getD (k / 4) 0 / 2 ^ (24 - 8 * (k % 4)) % 256) := rfl
      have HS' : Hid _ := outs_set S k h32
      have hcn := B4.num k (by rw [outs_len _ _ hk]; exact h32)
      have hcf := B4.frozen k
      generalize (outs S k).getD k 0 = old at hcn
      generalize hvv : S.l.getD (k / 4) 0 = v at hc4 hv HO
      clear hvv
      have e4 : ((k : Int) / 4).toNat = k / 4 := by omega
      have e5 : (24 - 8 * ((k : Int) % 4)).toNat = 24 - 8 * (k % 4) := by omega
      obtain ⟨y, hy, HY⟩ : ∃ y : Nat, (v : Int) / 2 ^ (24 - 8 * (k % 4)) % 256 = (y : Int) ∧ Hid (y = v / 2 ^ (24 - 8 * (k % 4)) % 256) := ⟨_, by simp, rfl⟩
      go_wp2
      go_roundw
      case rel =>
        refine ⟨k + 1, by omega, by go_num, ?_, B1.setOther (fun e => n12 e.symm) _, fun i hi => ?_, ZZ.andThen (grown_setCell _ _ _) (fun j e => by obtain rfl := Option.some.inj e; exact .inl hg2)⟩
        · rw [← HS'.out, HO.out, ← HY.out]
          exact B4.setNum _ _
        · rw [World.cell?_setCell_other _ _ _ _ (by simp)]; exact HR.out i hi
      case measure => simp [intOf]; omega
    · obtain rfl : k = 32 := by omega
      rw [← HDD.out] at B4
      have ID : Hid ((Tryd.prog.info? 23).map (·.size) = some (nums .u8 (D L)).length) := by show _ = _; rw [nums_length, D_len]; exact s25
      have ND : Hid ((nums .u8 (D L)).length = (nums .u8 (List.replicate 32 0)).length) := by show _ = _; rw [nums_length, nums_length, D_len, List.length_replicate]
      clear HDD hok HR
      go_wp2_with (first | (refine ld_all rfl 23 (.tmp 3) rfl g2 23 (nums .u8 (D L)) 32 5 rfl B4 Tryd.underlying23 ID.out ?_) | (refine st_all rfl 23 (.tmp 2) (.tmp 31) rfl g1 23 (nums .u8 (List.replicate 32 0)) (nums .u8 (D L)) rfl rfl B1 ND.out ID.out (nums_one _ _) ?_))
      intro we BE GE
      go_wp2
      (try simp only [Exit.inBlock, Exit.then])
      refine bodyPost_ret (res_row rfl _ g1 23 _ _ rfl BE Tryd.underlying23 rfl ID.out) rfl ⟨rfl, ZZ.andThen GE (fun j e => by obtain rfl := Option.some.inj e; exact .inl hl1)⟩
end Go.Proofs.YtmbglggodifboaaDoor.Sh
namespace Go.Proofs.YtmbglggodifboaaDoor.Sh
open Go.RowKit Mt
theorem sm_of {w : World} {g : Nat} {bl L : List Nat} (h : Smok bl L) (B : Blk w g 102 (smc (blk L (L.length / 64)) bl L.length)) : Sm w g L := ⟨bl, h.1, h.2.1, h.2.2, B⟩
theorem begin_c (L : List Nat) (a0 : Option Addr) (cap : Nat) (w : World) (hsrc : Byt w a0 L) (hcap : L.length ≤ cap) (ho : Oct L) (hn : L.length ≤ 100000) :
    Calls Tryd.prog 51 #[.slice a0 L.length cap] w fun e w' => ∃ c, Hid ((∀ (W : World) g, Blk W g 102 c → Sm W g L) ∧ c.length = 73 ∧ ∀ v ∈ c, v.oneCell' = true) ∧ e = .returned (.agg c.toArray) ∧ Below w.heap.size w w' :=
  (begin_any L a0 cap w hsrc hcap ho hn).mono fun _ _ ⟨_, hk, he, hz⟩ => ⟨_, ⟨fun _ _ B => sm_of hk B, smc_len _ _ _ hk.1, smc_one _ _ _⟩, he, hz⟩
theorem byt_src {w w' : World} {a0 : Option Addr} {l : List Nat} {g : Nat} (h : Byt w a0 l) (z : Below w.heap.size w w') (hg : w.heap.size ≤ g) : l = [] ∨ ∃ pb off, pb ≠ g ∧ a0 = some ⟨pb, off, none⟩ ∧ Cells w' pb off l := by
  by_cases hl : l = []
  · exact .inl hl
  rcases h with h' | ⟨b, off, rfl, h'⟩
  · exact absurd h' hl
  · have hb : b < w.heap.size := cell_lt (h' 0 (List.length_pos_iff.2 hl))
    exact .inr ⟨b, off, by omega, rfl, h'.below z⟩
theorem grown_below {B : Nat} {w w' w'' : World} {g : Nat} (z : Below B w w') (h : w'.grownBy w'' (some g)) (hB : B ≤ w'.heap.size) (hg : B ≤ g) : Below B w w'' := z.grown h hB (fun r e => by obtain rfl := Option.some.inj e; exact hg)
set_option maxHeartbeats 1000000 in
set_option maxRecDepth 8000 in
theorem sum_any (a0 : Option Addr) (cap : Nat) (l : List Nat) (hn : l.length ≤ 100000) (w : World) (hc : Hid (Byt w a0 l)) (hcap : l.length ≤ cap) (ho : Hid (Oct l)) :
    Calls Tryd.prog 32 #[.slice a0 l.length cap] w fun e w' => e = .returned (.agg (nums .u8 (D l)).toArray) ∧ Below w.heap.size w w' := by
  go_enter Tryd.func32, Tryd.ntmps32
  go_wp2_with (refine al_zero rfl 23 rfl _ z25 ?_)
  intro g1 w1 l1 B1 G1
  have Z := (Below.refl w.heap.size w).grown G1 (Nat.le_refl _) (by simp)
  clear G1
  go_wp2_with fail
  refine (begin_c [] none 0 _ (.inl rfl) (Nat.le_refl _) (fun x hx => by cases hx) (by simp)).mono ?_; rintro e w2 ⟨c, HK, rfl, Z2⟩
  have B1 := B1.below Z2 B1.lt
  have Z := Z.trans (Z2.mono Z.size)
  clear Z2
  go_wp2_with (refine al_zero rfl 102 rfl _ z45' ?_)
  intro g2 w3 l2 B2 G2
  have n12 : g1 ≠ g2 := by have := B1.lt; omega
  have hg2 : w.heap.size ≤ g2 := Nat.le_trans Z.size l2
  have B1 := B1.kept G2 (by simp)
  have Z := Z.grown G2 Z.size (by simp)
  have I1 : Hid ((Tryd.prog.info? 102).map (·.size) = some c.length) := by show _ = _; rw [HK.out.2.1]; exact s45
  have N1 : Hid (c.length = (smc ⟨0, 0, 0, 0, 0, 0, 0, 0⟩ (List.replicate 64 0) 0).length) := by show _ = _; rw [HK.out.2.1, smc_len _ _ _ (by simp)]
  clear G2
  go_wp2_with (refine st_all rfl 102 (.tmp 3) (.tmp 4) rfl g2 102 _ c rfl rfl B2 N1.out I1.out HK.out.2.2 ?_)
  intro w4 B2 G3
  have B1 := B1.kept G3 (fun e => n12 (Option.some.inj e))
  have Z := grown_below Z G3 Z.size hg2
  have HS : Hid (Sm w4 g2 []) := HK.out.1 _ _ B2
  have HA : Hid (Calls Tryd.prog 52 #[.pointer (some ⟨g2, 0, none⟩), .slice a0 l.length cap] w4 fun e w' => e = .returned (.tuple #[]) ∧ Sm w' g2 l ∧ w4.grownBy w' (some g2)) := by
    have := add_any g2 [] l a0 cap w4 HS.out (byt_src hc.out Z hg2) hcap ho.out (by simp; omega)
    rw [List.nil_append] at this; exact this
  clear B2 G3 I1 N1 HS HK hc ho
  go_wp2_with fail
  refine HA.out.mono ?_; rintro e w5 ⟨rfl, hs, G5⟩
  have HS : Hid _ := hs
  have B1 := B1.kept G5 (fun e => n12 (Option.some.inj e))
  have Z := grown_below Z G5 Z.size hg2
  clear hs G5 HA
  go_wp2_with fail
  refine (end_any g2 l _ HS.out (by omega)).mono ?_; rintro e w6 ⟨rfl, G6⟩
  have B1 := B1.kept G6 (fun e => n12 (Option.some.inj e))
  have Z := grown_below Z G6 Z.size hg2
  have ID : Hid ((Tryd.prog.info? 23).map (·.size) = some (nums .u8 (D l)).length) := by show _ = _; rw [nums_length, D_len]; exact s25
  have ND : Hid ((nums .u8 (D l)).length = (nums .u8 (List.replicate 32 0)).length) := by show _ = _; rw [nums_length, nums_length, D_len, List.length_replicate]
  clear G6 HS
  go_wp2_with (refine st_all rfl 23 (.tmp 2) (.tmp 7) rfl g1 23 (nums .u8 (List.replicate 32 0)) (nums .u8 (D l)) rfl rfl B1 ND.out ID.out (nums_one _ _) ?_)
  intro we BE GE
  go_wp2
  (try simp only [Exit.inBlock, Exit.then])
  refine bodyPost_ret (res_row rfl _ g1 23 _ _ rfl BE Tryd.underlying23 rfl ID.out) rfl ⟨rfl, grown_below Z GE Z.size l1⟩
end Go.Proofs.YtmbglggodifboaaDoor.Sh
namespace Go.Proofs.YtmbglggodifboaaDoor.Sh
open Go.RowKit Math Mt
set_option linter.unusedVariables false
set_option linter.unusedSimpArgs false
/-- Numbers in memory. -/
def IntsM (w : World) (g : Nat) (ns : List Int) : Prop := ∀ i n, ns[i]? = some n → w.cell? ⟨g, i, none⟩ = some (.int .i64 n)
theorem flat_take (ns : List Int) (k : Nat) (n : Int) (h : ns[k]? = some n) : (ns.take (k + 1)).flatMap uvI = (ns.take k).flatMap uvI ++ uvI n := by
  obtain ⟨h1, h2⟩ := List.getElem?_eq_some_iff.1 h
  rw [List.take_succ_eq_append_getElem h1, List.flatMap_append, h2]
  simp
theorem flat_uv (ns : List Int) (h : ∀ n ∈ ns, I64 n) : (ns.flatMap uvI).length ≤ 10 * ns.length := by
  induction ns with
  | nil => simp
  | cons x r ih =>
    have a := uvI_len (n := x) (by have := (h x (by simp)).2; omega)
    have b := ih fun n hn => h n (by simp [hn])
    simp only [List.flatMap_cons, List.length_append, List.length_cons]
    omega
set_option maxHeartbeats 1000000 in
set_option maxRecDepth 8000 in
theorem apn_any (v : Value) (l : List Nat) (ns : List Int) (hns : ∀ n ∈ ns, I64 n) (hlen : ns.length ≤ 10) (g c : Nat) (B : Nat) (W : World) (ho : Own W B v l) (hB : B ≤ W.heap.size) (hl : l.length ≤ 800000000) (hg : IntsM W g ns) (hne : v.ownBlock ≠ some g) (hgl : g < W.heap.size) :
    Calls Tryd.prog 23 #[v, .slice (some ⟨g, 0, none⟩) ns.length c] W fun e w' => ∃ v', e = .returned v' ∧ Ap B W w' v v' (l ++ ns.flatMap uvI) := by
  have HA0 : Hid (Ap B W W v v (l ++ (ns.take 0).flatMap uvI)) := by
    show Ap B W W v v (l ++ (ns.take 0).flatMap uvI)
    rw [List.take_zero, List.flatMap_nil, List.append_nil]
    exact Ap.refl ho
  have HG : Hid (IntsM W g ns) := hg
  have HNS : Hid (∀ n ∈ ns, I64 n) := hns
  have HNE : Hid (v.ownBlock ≠ some g) := hne
  have hfl : ∀ k, ((ns.take k).flatMap uvI).length ≤ 100 := fun k => by
    have a := flat_uv (ns.take k) fun n hn => hns n (List.mem_of_mem_take hn)
    have b : (ns.take k).length ≤ 10 := by rw [List.length_take]; omega
    omega
  have HFL : Hid (∀ k, ((ns.take k).flatMap uvI).length ≤ 100) := hfl
  clear ho hg hns hne hfl
  go_enter Tryd.func23, Tryd.ntmps23
  go_wp2
  go_loopw [0, 6, 9] (fun vb _ i wr => ∃ k : Nat, k ≤ ns.length ∧ i = .int .i64 (k : Int) ∧ Hid (Ap B W wr v vb (l ++ (ns.take k).flatMap uvI))) (fun _ _ i _ => ns.length - (intOf i).toNat)
  case atStart => exact ⟨0, by omega, rfl, HA0.out⟩
  case round =>
    clear HA0
    obtain ⟨k, hk, rfl, HK⟩ := hrel
    by_cases hlt : k < ns.length
    case neg =>
      have HF : Hid (Ap B W wr v u0 (l ++ ns.flatMap uvI)) := by
        have := HK.out
        rw [List.take_of_length_le (by omega)] at this
        exact this
      go_wp2
      go_ret
      exact ⟨_, rfl, HF.out⟩
    obtain ⟨n, hn⟩ : ∃ n, ns[k]? = some n := ⟨_, List.getElem?_eq_getElem hlt⟩
    obtain ⟨hn0, hn1⟩ := HNS.out n (List.mem_of_getElem? hn)
    obtain ⟨u, hu⟩ : ∃ u : Nat, Hid (u = n.toNat) := ⟨_, rfl⟩
    have hm : max n 0 = (u : Int) := by rw [hu.out]; omega
    have hu1 : u < 9223372036854775808 := by rw [hu.out]; omega
    have cg : wr.cell? ⟨g, k, none⟩ = some (.int .i64 n) := (cell_keep (HK.out.gr.block g hgl (fun e => HNE.out e.symm))).trans (HG.out k n hn)
    have hs := HK.out.gr.size
    have HX : Hid ((ns.take (k + 1)).flatMap uvI = (ns.take k).flatMap uvI ++ uv u) := by rw [hu.out]; exact flat_take ns k n hn
    have hlk : ((ns.take k).flatMap uvI).length ≤ 100 := HFL.out k
    have h10 := uv_ten u (by omega)
    have KU : ∀ W (z : Int), z = (u : Int) → Calls Tryd.prog 39 #[.int .u64 z] W fun e w' => ∃ r, e = .returned r ∧ Own w' W.heap.size r (uv u) ∧ Below W.heap.size W w' := fun W z hz => by rw [hz]; exact uv_any u (by omega) W
    clear hu hn
    go_wp2_with fail
    all_goals
      refine (KU _ _ (by omega)).mono ?_
      rintro e w1 ⟨r, rfl, o1, b1⟩
      obtain ⟨ax, cx, rfl, hby, hnil, _⟩ := o1.byt
      have hs1 := b1.size
      have HB : Hid (Below wr.heap.size wr w1) := b1
      have HY : Hid (Byt w1 ax (uv u)) := hby
      clear o1 b1 KU hby
      go_wp2_with (at_builtin; go_must (refine ap_bytes rfl (.tmp 13) (.tmp 17) rfl B u0 (l ++ (ns.take k).flatMap uvI) rfl (HK.out.own.below HB.out) ax _ cx (uv u) rfl rfl HY.out hnil (by rw [List.length_append]; omega) (by omega) ?_))
      intro v2 w2 A2
      have HA : Hid (Ap B W w2 v v2 (l ++ (ns.take (k + 1)).flatMap uvI)) := by
        have := HK.out.trans (Ap.after HB.out A2)
        show Ap B W w2 v v2 (l ++ (ns.take (k + 1)).flatMap uvI)
        rw [HX.out]
        exact this
      clear A2 HB HY HX HK hm cg
      go_wp2
      go_roundw
      case rel => exact ⟨k + 1, by omega, by go_num, HA.out⟩
      case measure => simp [intOf]; omega
end Go.Proofs.YtmbglggodifboaaDoor.Sh
