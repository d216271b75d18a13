/-
  The contract of (*summer).end: the digest of the bytes that have come.
-/
import Derived.Test.YtfkiciejipcgkaaDoorSBegin
import Derived.Test.YtfkiciejipcgkaaDoorSRsum
namespace Go.Proofs.YtfkiciejipcgkaaDoor.Sh
open Go.RowKit Mt
set_option maxHeartbeats 1000000 in
set_option maxRecDepth 8000 in
theorem end_any (g : Nat) (L : List Nat) (w : World) (hS : Hid (Sm w g L)) (hn : L.length ≤ 200000) :
    Calls Tryd.prog 29 #[.pointer (some ⟨g, 0, none⟩)] w fun e w' => e = .returned (.agg (nums .u8 (D L)).toArray) ∧ w.grownBy w' (some g) := by
  have hgl := hS.out.lt
  go_enter Tryd.func29, Tryd.ntmps29
  go_wp2_with (refine al_zero rfl 30 rfl _ z25 ?_)
  intro g1 w1 l1 B1 G1
  have HS1 : Hid (Sm w1 g L) := hS.out.kept G1 (by simp)
  have n1 : g1 ≠ g := by omega
  have c72 : w1.cell? ⟨g, 72, none⟩ = some (.int .u64 (L.length : Int)) := by
    obtain ⟨bl, h1, _, _, h4⟩ := HS1.out
    exact smc_72 h4 h1
  go_wp2_with fail
  refine (ending_any L.length (by omega) _).mono ?_; rintro e w2 ⟨gp, cp, rfl, hgp, hcp, hcell, Z2⟩
  have HS2 : Hid (Sm w2 g L) := HS1.out.below Z2 HS1.out.lt
  have B1 := B1.below Z2 B1.lt
  have G2 : Hid (w.grownBy w2 (some g)) := ⟨Z2.os.trans G1.os, Z2.tape.trans G1.tape, Z2.output.trans G1.output, Nat.le_trans G1.size Z2.size, fun k hk hne => (Z2.block k (Nat.lt_of_lt_of_le hk G1.size)).trans (G1.block k hk (by simp))⟩
  have HC : Hid (Calls Tryd.prog 28 #[.pointer (some ⟨g, 0, none⟩), .slice (some ⟨gp, 0, none⟩) (pad L.length).length cp] w2 fun e w' => e = .returned (.tuple #[]) ∧ Sm w' g (L ++ pad L.length) ∧ w2.grownBy w' (some g)) :=
    add_any g L (pad L.length) _ cp w2 HS2.out (.inr ⟨gp, 0, by have := HS1.out.lt; omega, rfl, hcell⟩) hcp (pad_oct _) (by have := pad_len_le L.length; omega)
  have hl1 : w.heap.size ≤ g1 := l1
  clear hcell Z2 G1 HS1 HS2 c72 hS
  go_wp2_with fail
  refine HC.out.mono ?_; rintro e w3 ⟨rfl, HS3, G3⟩
  have B1 := B1.kept G3 (fun e => n1 (Option.some.inj e))
  have G3 : Hid (w.grownBy w3 (some g)) := G2.out.trans G3
  obtain ⟨S, hSS⟩ : ∃ S, Hid (S = blk (L ++ pad L.length) ((L ++ pad L.length).length / 64)) := ⟨_, rfl⟩
  have HDD : Hid (D L = outs S 32) := by
    show _ = _
    unfold D outs
    rw [hSS.out]; simp
  have hok : Hid S.ok := by rw [hSS.out]; exact blk_ok _ _
  have HR : Hid (∀ i, i < 8 → w3.cell? ⟨g, i, none⟩ = some (.int .u32 ((S.l.getD i 0 : Nat) : Int))) := by
    obtain ⟨bl, h1, _, _, h4⟩ := HS3
    intro i hi
    rw [h4.cell, ← hSS.out]
    unfold smc
    rw [List.getElem?_append_left (by rw [nums_length, l_len]; exact hi), nums_get _ _ _ (by rw [l_len]; exact hi)]
  have hgl3 : g < w3.heap.size := Nat.lt_of_lt_of_le hgl G3.out.size
  clear HS3 HC G2 hSS
  go_wp2_with (refine al_zero rfl 30 rfl _ z25 ?_)
  intro g2 w4 l2 B2 G4
  have n12 : g1 ≠ g2 := by have := B1.lt; omega
  have ng2 : g ≠ g2 := by omega
  have B1 := B1.kept G4 (by simp)
  have HR : Hid (∀ i, i < 8 → w4.cell? ⟨g, i, none⟩ = some (.int .u32 ((S.l.getD i 0 : Nat) : Int))) := fun i hi => G4.cell (HR.out i hi) (by simp)
  have hg2 : w.heap.size ≤ g2 := Nat.le_trans G3.out.size l2
  have G4 : Hid (w.grownBy w4 (some g)) := G3.out.andThen G4 (by simp)
  have B2 : Blk w4 g2 30 (nums .u8 (outs S 0)) := B2
  clear G3
  go_wp2
  go_loopw [12] (fun i wr => ∃ k : Nat, k ≤ 32 ∧ i = .int .i64 (k : Int) ∧ Blk wr g2 30 (nums .u8 (outs S k)) ∧ Blk wr g1 30 (nums .u8 (List.replicate 32 0)) ∧ Hid (∀ i, i < 8 → wr.cell? ⟨g, i, none⟩ = some (.int .u32 ((S.l.getD i 0 : Nat) : Int))) ∧ w.grownBy wr (some g)) (fun i _ => 32 - (intOf i).toNat)
  case atStart => exact ⟨0, by omega, rfl, B2, B1, HR, G4.out⟩
  case round =>
    clear HR B1 B2 G4
    obtain ⟨k, hk, rfl, B4, B1, HR, ZZ⟩ := hrel
    by_cases h32 : k < 32
    · have hc4 := HR.out (k / 4) (by omega)
      have hv := l_lt hok.out (k / 4)
      have HO : Hid (out S k = S.l.getD (k / 4) 0 / 2 ^ (24 - 8 * (k % 4)) % 256) := rfl
      have HS' : Hid _ := outs_set S k h32
      have hcn := B4.num k (by rw [outs_len _ _ hk]; exact h32)
      have hcf := B4.frozen k
      generalize (outs S k).getD k 0 = old at hcn
      generalize hvv : S.l.getD (k / 4) 0 = v at hc4 hv HO
      clear hvv
      have e4 : ((k : Int) / 4).toNat = k / 4 := by omega
      have e5 : (24 - 8 * ((k : Int) % 4)).toNat = 24 - 8 * (k % 4) := by omega
      obtain ⟨y, hy, HY⟩ : ∃ y : Nat, (v : Int) / 2 ^ (24 - 8 * (k % 4)) % 256 = (y : Int) ∧ Hid (y = v / 2 ^ (24 - 8 * (k % 4)) % 256) := ⟨_, by simp, rfl⟩
      go_wp2
      go_roundw
      case rel =>
        refine ⟨k + 1, by omega, by go_num, ?_, B1.setOther (fun e => n12 e.symm) _, fun i hi => ?_, ZZ.andThen (grown_setCell _ _ _) (fun j e => by obtain rfl := Option.some.inj e; exact .inl hg2)⟩
        · rw [← HS'.out, HO.out, ← HY.out]
          exact B4.setNum _ _
        · rw [World.cell?_setCell_other _ _ _ _ (by simp)]; exact HR.out i hi
      case measure => simp [intOf]; omega
    · obtain rfl : k = 32 := by omega
      rw [← HDD.out] at B4
      have ID : Hid ((Tryd.prog.info? 30).map (·.size) = some (nums .u8 (D L)).length) := by show _ = _; rw [nums_length, D_len]; exact s25
      have ND : Hid ((nums .u8 (D L)).length = (nums .u8 (List.replicate 32 0)).length) := by show _ = _; rw [nums_length, nums_length, D_len, List.length_replicate]
      clear HDD hok HR
      go_wp2_with (first | (refine ld_all rfl 30 (.tmp 3) rfl g2 30 (nums .u8 (D L)) 32 5 rfl B4 Tryd.underlying30 ID.out ?_) | (refine st_all rfl 30 (.tmp 2) (.tmp 31) rfl g1 30 (nums .u8 (List.replicate 32 0)) (nums .u8 (D L)) rfl rfl B1 ND.out ID.out (nums_one _ _) ?_))
      intro we BE GE
      go_wp2
      (try simp only [Exit.inBlock, Exit.then])
      refine bodyPost_ret (res_row rfl _ g1 30 _ _ rfl BE Tryd.underlying30 rfl ID.out) rfl ⟨rfl, ZZ.andThen GE (fun j e => by obtain rfl := Option.some.inj e; exact .inl hl1)⟩
#print axioms end_any
end Go.Proofs.YtfkiciejipcgkaaDoor.Sh
