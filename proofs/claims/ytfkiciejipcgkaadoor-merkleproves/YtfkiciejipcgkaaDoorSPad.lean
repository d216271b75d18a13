/-
  The contract of digest.ending: what stands behind so many bytes.
-/
import Derived.Test.YtfkiciejipcgkaaDoorSMem
namespace Go.Proofs.YtfkiciejipcgkaaDoor.Sh
open Go.RowKit Mt
def slen : Value → Nat | .slice _ n _ => n | _ => 0
theorem be8_get (v j : Nat) (hj : j < 8) : (be8 v).getD j 0 = v / 2 ^ (56 - 8 * j) % 256 := by
  unfold be8
  rw [List.getD_eq_getElem?_getD, List.getElem?_map, List.getElem?_range hj]; rfl
theorem be8_len (v : Nat) : (be8 v).length = 8 := by simp [be8]
theorem be8_snoc (v j : Nat) (hj : j < 8) : (be8 v).take (j + 1) = (be8 v).take j ++ [v / 2 ^ (56 - 8 * j) % 256] := by
  rw [take_snoc _ _ (by rw [be8_len]; exact hj), be8_get v j hj]
theorem own_one (w : World) (x : Nat) (base : Nat) (hb : base ≤ w.heap.size) : Own (w.alloc (.cells #[.int .u8 (x : Int)] 5)) base (.slice (some ⟨w.heap.size, 0, none⟩) 1 1) [x] :=
  World.ownsRow_lit w #[.int .u8 (x : Int)] 1 hb (by decide) rfl
theorem pad_eq (n z : Nat) (hz : Hid (z = (119 - n % 64) % 64)) : 128 :: (List.replicate z 0 ++ be8 (8 * n)) = pad n := by rw [hz.out]; rfl
set_option maxHeartbeats 1000000 in
set_option maxRecDepth 8000 in
theorem ending_any (n : Nat) (hn : n ≤ 1000000) (w : World) :
    Calls Tryd.prog 39 #[.int .u64 n] w fun e w' => ∃ g c, e = .returned (.slice (some ⟨g, 0, none⟩) (pad n).length c) ∧ w.heap.size ≤ g ∧ (pad n).length ≤ c ∧ Cells w' g 0 (pad n) ∧ Below w.heap.size w w' := by
  obtain ⟨Z, hZ⟩ : ∃ Z : Nat, Hid (Z = (119 - n % 64) % 64) := ⟨_, rfl⟩
  have hZ1 : Hid ((n + Z + 9) % 64 = 0 ∧ Z < 64 ∧ ∀ z, z < Z → (n + z + 9) % 64 ≠ 0) := by
    have := hZ.out
    exact ⟨by omega, by omega, fun z hz => by omega⟩
  have HP : Hid (128 :: (List.replicate Z 0 ++ be8 (8 * n)) = pad n) := pad_eq n Z hZ
  clear hZ
  have O0 := own_one w 128 _ (Nat.le_refl _)
  have b0 : Below w.heap.size w (w.alloc (.cells #[.int .u8 ((128 : Nat) : Int)] 5)) := (Below.refl _ _).alloc (Nat.le_refl _) _
  go_enter Tryd.func39, Tryd.ntmps39
  go_wp2
  go_loopw [3] (fun o wr => ∃ z : Nat, z ≤ Z ∧ Own wr w.heap.size o (128 :: List.replicate z 0) ∧ Below w.heap.size w wr) (fun o _ => 64 - slen o)
  case atStart => exact ⟨0, Nat.zero_le _, O0, b0⟩
  case round =>
    clear O0 b0
    obtain ⟨z, hz, hown, hbel⟩ := hrel
    obtain ⟨h0, hZl, hne⟩ := hZ1.out
    have hs := hbel.size
    obtain ⟨g, cap, rfl, hg, hgl, hlc, hcm, hcell⟩ := hown.form (by simp)
    have el : (128 :: List.replicate z 0).length = z + 1 := by simp
    rw [el] at hlc hown ⊢
    have HO : Hid (Own wr w.heap.size (.slice (some ⟨g, 0, none⟩) (z + 1) cap) (128 :: List.replicate z 0)) := hown
    clear hown hcell el
    by_cases hlt : z < Z
    · have hc : ¬ (((n : Int) + ((z : Int) + 1) + 8) % 64 = 0) := by have := hne z hlt; omega
      clear hne h0
      go_wp2_with (at_builtin; go_must (refine app_bytes rfl (.tmp 15) (.tmp 16) rfl w.heap.size _ (128 :: List.replicate z 0) rfl (Own.alloc HO.out _) _ _ _ [0] rfl rfl (byt_lit wr [0]) (by simp) (by simp; omega) (by simp; omega) ?_))
      intro v1 w1 o1 g1
      have b1 := below_app (hbel.alloc hs _) (by simp; omega) (Own.alloc HO.out _) g1
      have o1 : Own w1 w.heap.size v1 (128 :: List.replicate (z + 1) 0) := by rw [List.replicate_succ']; exact o1
      obtain ⟨g', cap', rfl, _⟩ := o1.form (by simp)
      have el : (128 :: List.replicate (z + 1) 0).length = z + 2 := by simp
      rw [el] at o1 ⊢
      have HO1 : Hid (Own w1 w.heap.size (.slice (some ⟨g', 0, none⟩) (z + 2) cap') (128 :: List.replicate (z + 1) 0)) := o1
      clear g1 o1 el
      go_wp2
      go_roundw
      case rel => exact ⟨z + 1, hlt, HO1.out, b1⟩
      case measure => simp only [slen]; omega
    · obtain rfl : z = Z := by omega
      have hc : ((n : Int) + ((z : Int) + 1) + 8) % 64 = 0 := by omega
      clear hne h0
      go_wp2
      go_loopw [3, 20] (fun o i wr => ∃ j : Nat, j ≤ 8 ∧ i = .int .i64 (j : Int) ∧ Own wr w.heap.size o (128 :: (List.replicate z 0 ++ (be8 (8 * n)).take j)) ∧ Below w.heap.size w wr) (fun _ i _ => 8 - (intOf i).toNat)
      case atStart => exact ⟨0, by omega, rfl, by rw [List.take_zero, List.append_nil]; exact HO.out, hbel⟩
      case round =>
        clear hbel HO hs hc
        obtain ⟨j, hj, rfl, hown, hbel⟩ := hrel
        have hs := hbel.size
        have hll : (128 :: (List.replicate z 0 ++ (be8 (8 * n)).take j)).length ≤ 80 := by simp [be8_len]; omega
        by_cases h8 : j < 8
        · have HO : Hid _ := be8_snoc (8 * n) j h8
          have t0 : (56 - 8 * (j : Int)).toNat = 56 - 8 * j := by omega
          obtain ⟨y, hy, HY⟩ : ∃ y : Nat, 8 * (n : Int) / 2 ^ (56 - 8 * j) % 256 = (y : Int) ∧ Hid (y = 8 * n / 2 ^ (56 - 8 * j) % 256) := ⟨_, by simp, rfl⟩
          go_wp2_with (at_builtin; go_must (refine app_bytes rfl (.tmp 23) (.tmp 30) rfl w.heap.size _ (128 :: (List.replicate z 0 ++ (be8 (8 * n)).take j)) rfl (hown.alloc _) _ _ _ [y] rfl rfl (byt_lit wr [y]) (by simp) (by simp [be8_len]; omega) (by simp; omega) ?_))
          intro v1 w1 o1 g1
          have b1 := below_app (hbel.alloc hs _) (by simp; omega) (hown.alloc _) g1
          have HO1 : Hid (Own w1 w.heap.size v1 (128 :: (List.replicate z 0 ++ (be8 (8 * n)).take (j + 1)))) := by
            show Own _ _ _ _
            rw [HO.out, ← HY.out]; exact o1
          clear g1 o1 hown hll
          go_wp2
          go_roundw
          case rel => exact ⟨j + 1, by omega, by go_num, HO1.out, b1⟩
          case measure => simp [intOf]; omega
        · obtain rfl : j = 8 := by omega
          rw [List.take_of_length_le (by rw [be8_len]; exact Nat.le_refl _), HP.out] at hown
          clear hll
          obtain ⟨g', cap', rfl, hg', _, hlc', _, hcell⟩ := hown.form (by unfold pad; simp)
          have HC : Hid _ := hcell
          clear hcell hown
          go_wp2
          go_ret
          exact ⟨g', cap', rfl, hg', hlc', HC.out, hbel⟩
#print axioms ending_any
end Go.Proofs.YtfkiciejipcgkaaDoor.Sh
