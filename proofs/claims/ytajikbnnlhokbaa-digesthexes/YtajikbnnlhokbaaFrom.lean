/-
  The contract of digest.FromHex: the digest that a text of digits says, or a refusal.
-/
import Derived.Test.YtajikbnnlhokbaaIdx
import Derived.Test.YtajikbnnlhokbaaLit
namespace Go.Proofs.Ytajikbnnlhokbaa
open Go.RowKit Math
theorem or16 (x d : Nat) (hd : d < 16) : bits .or .u8 ((x : Int) * 16 % 256) (d : Int) = (((x * 16 + d) % 256 : Nat) : Int) := by
  have e : ((x : Int) * 16 % 256) = ((x * 16 % 256 : Nat) : Int) := by omega
  have h := u8_or_nat (x * 16 % 256) d (by omega) (by omega)
  rw [e, h]
  have h2 := Nat.shiftLeft_add_eq_or_of_lt (b := d) (i := 4) (by omega) (x % 16)
  rw [Nat.shiftLeft_eq] at h2
  rw [show x * 16 % 256 = x % 16 * 2 ^ 4 by omega, ← h2]
  omega
set_option maxHeartbeats 1000000 in
set_option maxRecDepth 8000 in
theorem from_any (s : ByteArray) (L : List Nat) (hL : Hid (L = bn s)) (w : World) :
    Calls Try.prog 17 #[.string s] w fun e w' => e = .returned (.tuple #[.agg (nums .u8 (unh L).1).toArray, .int .i64 (((unh L).2 : Nat) : Int)]) ∧ Below w.heap.size w w' := by
  have hll : Hid (L.length = s.size) := by show _ = _; rw [hL.out, bn_len]
  have IZ : Hid ((Try.prog.info? 25).map (·.size) = some (nums .u8 zr).length) := by show _ = _; rw [nums_length, zr_len]; exact s25
  go_enter Try.func17, Try.ntmps17
  go_wp2_with (refine al_zero rfl 25 rfl (nums .u8 zr) z25 ?_)
  intro g2 w1 l1 B2 G1
  have Z := (Below.refl w.heap.size w).grown G1 (Nat.le_refl _) (by simp)
  have hg2 : w.heap.size ≤ g2 := l1
  clear G1
  go_wp2_with (refine al_zero rfl 25 rfl (nums .u8 zr) z25 ?_)
  intro g4 w2 l2 B4 G2
  have n24 : g2 ≠ g4 := by have := B2.lt; omega
  have hg4 : w.heap.size ≤ g4 := Nat.le_trans Z.size l2
  have B2 := B2.kept G2 (by simp)
  have Z := Z.grown G2 Z.size (by simp)
  clear G2
  by_cases h64 : s.size = 64
  · have hs64 : Hid (s.size = 64) := h64
    go_wp2
    clear h64
    go_loopw [13] (fun i wr => ∃ (k : Nat) (h : List Nat), k ≤ 64 ∧ i = .int .i64 (k : Int) ∧ Hid (acc L k = some h) ∧ Blk wr g2 25 (nums .u8 zr) ∧ Blk wr g4 25 (nums .u8 h) ∧ Below w.heap.size w wr) (fun i _ => 64 - (intOf i).toNat)
    case atStart => exact ⟨0, zr, by omega, rfl, rfl, B2, B4, Z⟩
    case round =>
      clear B2 B4 Z
      obtain ⟨k, h, hk, rfl, HA, B2, B4, Z⟩ := hrel
      have hhl : h.length = 32 := acc_len HA.out
      by_cases hlt : k < 64
      · have hxe := str_idx s k (by have := hs64.out; omega) wr
        rw [← hL.out] at hxe
        have hc256 : L.getD k 0 < 256 := by rw [hL.out]; exact oct_get (bn_oct s) k
        cases hnd : nd (L.getD k 0) with
        | none =>
          have HF : Hid (unh L = (zr, 3)) := unh_fail (i := k + 1) (by omega) (acc_fail HA.out hnd)
          have hix : ix (L.getD k 0) = -1 := by simp only [ix, hnd]
          generalize L.getD k 0 = c at hxe hc256 hnd hix
          clear hnd
          go_wp2_with (first
            | (go_at_call 27; go_must (refine (ib_any c hc256 _).mono ?_; rintro e w1 ⟨rfl, rfl⟩; rw [hix]))
            | (refine bd_row rfl 25 #[] rfl (nums .u8 zr) (z_built _) ?_)
            | (refine st_all rfl 25 (.tmp 2) (.tmp 22) rfl g2 25 (nums .u8 zr) (nums .u8 zr) rfl rfl B2 rfl IZ.out (nums_one _ _) ?_))
          intro w3 B3 G3
          go_wp2
          (try simp only [Exit.inBlock, Exit.then])
          refine bodyPost_ret (res_two rfl _ g2 25 _ _ rfl B3 Try.underlying25 rfl IZ.out) rfl ⟨?_, Z.grown G3 Z.size (fun r e => by obtain rfl := Option.some.inj e; exact hg2)⟩
          rw [HF.out]
          rfl
        | some d =>
          have HF : Hid (acc L (k + 1) = some (put1 h k d)) := acc_some HA.out hnd
          have hix : ix (L.getD k 0) = (d : Int) := by simp only [ix, hnd]
          have hd16 := nd_lt hnd
          have hcl := B4.num (k / 2) (by omega)
          have HP : Hid (put1 h k d = h.set (k / 2) ((h.getD (k / 2) 0 * 16 + d) % 256)) := rfl
          have hho : h.getD (k / 2) 0 < 256 := oct_get (acc_oct HA.out) _
          generalize L.getD k 0 = c at hxe hc256 hnd hix
          have hcf := B4.frozen (k / 2)
          generalize h.getD (k / 2) 0 = x at hcl HP hho
          clear hnd
          obtain ⟨y, hy, HY⟩ : ∃ y : Nat, bits .or .u8 ((x : Int) * 16 % 256) (d : Int) = (y : Int) ∧ Hid (y = (x * 16 + d) % 256) := ⟨_, or16 x d hd16, rfl⟩
          rw [← HY.out] at HP
          have e2 : ((k : Int) / 2).toNat = k / 2 := by omega
          go_wp2_with (first | (go_at_call 27; go_must (refine (ib_any c hc256 _).mono ?_; rintro e w1 ⟨rfl, rfl⟩; rw [hix])))
          refine ⟨⟨k + 1, _, by omega, by go_num, HF, B2.setOther (fun e => n24 e.symm) _, ?_, Z.grown (grown_setCell _ _ _) Z.size (fun r e => by obtain rfl := Option.some.inj e; exact hg4)⟩, ?_⟩
          · rw [HP.out]; exact B4.setNum _ _
          · simp [intOf]; omega
      · obtain rfl : k = 64 := by omega
        have HU : Hid (unh L = (h, 0)) := unh_good rfl (by rw [hll.out]; exact hs64.out) HA.out
        have IH : Hid ((Try.prog.info? 25).map (·.size) = some (nums .u8 h).length) := by show _ = _; rw [nums_length, hhl]; exact s25
        have NH : Hid ((nums .u8 h).length = (nums .u8 zr).length) := by show _ = _; rw [nums_length, nums_length, hhl, zr_len]
        clear HA
        go_wp2_with (first | (refine ld_all rfl 25 (.tmp 4) rfl g4 25 (nums .u8 h) 32 5 rfl B4 Try.underlying25 IH.out ?_) | (refine st_all rfl 25 (.tmp 2) (.tmp 35) rfl g2 25 (nums .u8 zr) (nums .u8 h) rfl rfl B2 NH.out IH.out (nums_one _ _) ?_))
        intro w3 B3 G3
        go_wp2
        (try simp only [Exit.inBlock, Exit.then])
        refine bodyPost_ret (res_two rfl _ g2 25 _ _ rfl B3 Try.underlying25 rfl IH.out) rfl ⟨?_, Z.grown G3 Z.size (fun r e => by obtain rfl := Option.some.inj e; exact hg2)⟩
        rw [HU.out]
        rfl
  · have hs64 : Hid (unh L = (zr, 3)) := unh_other (by rw [hll.out]; exact h64)
    have hne : ¬ ((s.size : Nat) : Int) = 64 := by omega
    clear h64
    go_wp2_with (first | (refine bd_row rfl 25 #[] rfl (nums .u8 zr) (z_built _) ?_) | (refine st_all rfl 25 (.tmp 2) (.tmp 10) rfl g2 25 (nums .u8 zr) (nums .u8 zr) rfl rfl B2 rfl IZ.out (nums_one _ _) ?_))
    intro w3 B3 G3
    go_wp2
    (try simp only [Exit.inBlock, Exit.then])
    refine bodyPost_ret (res_two rfl _ g2 25 _ _ rfl B3 Try.underlying25 rfl IZ.out) rfl ⟨?_, Z.grown G3 Z.size (fun r e => by obtain rfl := Option.some.inj e; exact hg2)⟩
    rw [hs64.out]
    rfl
#print axioms from_any
end Go.Proofs.Ytajikbnnlhokbaa
