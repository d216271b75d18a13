/-
  The contract of digest.spread: the words of a block.
-/
import Derived.Test.YtfkiciejipcgkaaDoorSTurn
import Derived.BigRegion
namespace Go.Proofs.YtfkiciejipcgkaaDoor.Sh
open Go.RowKit Mt
/-- The words behind so many bytes of the block. -/
def ws (b : Nat → Nat) : Nat → List Nat
  | 0 => List.replicate 64 0
  | i + 1 => (ws b i).set (i / 4) ((ws b i).getD (i / 4) 0 * 256 % 4294967296 ||| b i)
theorem ws_len (b : Nat → Nat) : ∀ i, (ws b i).length = 64
  | 0 => by simp [ws]
  | i + 1 => by rw [ws, List.length_set, ws_len b i]
def pw (b : Nat → Nat) (j : Nat) : Nat → Nat
  | 0 => 0
  | r + 1 => pw b j r * 256 + b (4 * j + r)
theorem pw_lt (b : Nat → Nat) (hb : ∀ i, b i < 256) (j : Nat) : ∀ r, pw b j r < 256 ^ r
  | 0 => by simp [pw]
  | r + 1 => by
    have := pw_lt b hb j r
    have := hb (4 * j + r)
    rw [pw, Nat.pow_succ]; omega
theorem or_add (x y : Nat) (hy : y < 256) : x * 256 ||| y = x * 256 + y := by
  have := Nat.shiftLeft_add_eq_or_of_lt (i := 8) (b := y) hy x
  rw [Nat.shiftLeft_eq] at this
  exact this.symm
theorem or_bits (v x : Nat) (hx : x < 256) : bits .or .u32 ((v : Int) * 256 % 4294967296) (x : Int) = ((v * 256 % 4294967296 ||| x : Nat) : Int) := by
  rw [← u32_or_nat _ _ (Nat.mod_lt _ (by decide)) (by omega)]; congr 1 <;> omega
theorem ws_eq (b : Nat → Nat) (hb : ∀ i, b i < 256) : ∀ i, i ≤ 64 → ws b i = (List.range 64).map fun j => pw b j (min 4 (i - 4 * j))
  | 0, _ => by
    simp only [Nat.zero_sub, Nat.min_zero, pw, ws]
    decide
  | i + 1, hi => by
    rw [ws, ws_eq b hb i (by omega)]
    apply List.ext_getElem
    · simp
    · intro k h1 h2
      have hk : k < 64 := by simpa using h2
      rw [List.getElem_set]
      have hi4 : i / 4 < 64 := by omega
      split
      · rename_i e
        subst e
        simp only [List.getElem_map, List.getElem_range, List.getD_eq_getElem?_getD, List.getElem?_map, List.getElem?_range hi4, Option.map_some, Option.getD_some]
        rw [show min 4 (i - 4 * (i / 4)) = i % 4 by omega, show min 4 (i + 1 - 4 * (i / 4)) = i % 4 + 1 by omega, pw, show 4 * (i / 4) + i % 4 = i by omega]
        have h3 := pw_lt b hb (i / 4) (i % 4)
        have h4 : (256 : Nat) ^ (i % 4) ≤ 256 ^ 3 := Nat.pow_le_pow_right (by decide) (by omega)
        rw [Nat.mod_eq_of_lt (by omega), or_add _ _ (hb i)]
      · rename_i e
        simp only [List.getElem_map, List.getElem_range]
        by_cases hlt : k < i / 4
        · rw [show min 4 (i - 4 * k) = 4 by omega, show min 4 (i + 1 - 4 * k) = 4 by omega]
        · rw [show min 4 (i - 4 * k) = 0 by omega, show min 4 (i + 1 - 4 * k) = 0 by omega]
theorem ws_end (b : Nat → Nat) (hb : ∀ i, b i < 256) : ws b 64 = sched b 0 ++ List.replicate 48 0 := by
  rw [ws_eq b hb 64 (Nat.le_refl _)]
  apply List.ext_getElem
  · simp [sched]
  · intro k h1 h2
    have hk : k < 64 := by simpa using h1
    simp only [List.getElem_map, List.getElem_range]
    rw [List.getElem_append]
    split
    · rename_i hl
      have hl' : k < 16 := by simpa [sched] using hl
      simp only [sched, List.getElem_map, List.getElem_range]
      rw [show min 4 (64 - 4 * k) = 4 by omega]
      simp only [pw, word, Nat.add_zero, Nat.zero_mul, Nat.zero_add]
    · rename_i hl
      have hl' : ¬ k < 16 := by simpa [sched] using hl
      rw [show min 4 (64 - 4 * k) = 0 by omega, List.getElem_replicate]
      rfl
theorem ws_lt (b : Nat → Nat) (hb : ∀ i, b i < 256) (i : Nat) (hi : i ≤ 64) (j : Nat) : (ws b i).getD j 0 < 4294967296 := by
  refine getD_of_mem (p := fun x => x < 4294967296) ?_ (by decide) j
  rw [ws_eq b hb i hi]
  intro x hx
  obtain ⟨k, _, rfl⟩ := List.mem_map.1 hx
  have h3 := pw_lt b hb k (min 4 (i - 4 * k))
  have h4 : (256 : Nat) ^ (min 4 (i - 4 * k)) ≤ 256 ^ 4 := Nat.pow_le_pow_right (by decide) (by omega)
  omega
theorem below_drewN {B : Nat} {a w : World} (h : Below B a w) (q : Nat) : Below B a (w.drewN q) := ⟨h.os, h.tape, h.output, h.size, h.block⟩
theorem set_snoc (l : List Nat) (n x : Nat) : (l ++ List.replicate (n + 1) 0).set l.length x = (l ++ [x]) ++ List.replicate n 0 := by
  rw [List.set_append_right _ _ (Nat.le_refl _), Nat.sub_self, List.replicate_succ]; simp
theorem getD_left (l m : List Nat) (i : Nat) (h : i < l.length) : (l ++ m).getD i 0 = l.getD i 0 := by
  rw [List.getD_eq_getElem?_getD, List.getD_eq_getElem?_getD, List.getElem?_append_left h]

set_option maxRecDepth 8000 in
set_option maxHeartbeats 1000000 in
theorem spread_any (bl : List Nat) (b : Nat → Nat) (hl : bl.length = 64) (hB : Hid (∀ i, bl.getD i 0 = b i)) (hb' : Hid (∀ i, b i < 256)) (N : Nat) (hN : Hid (N = 48)) (w : World) :
    Calls Tryd.prog 46 #[.agg (nums .u8 bl).toArray] w fun e w' => e = .returned (.agg (nums .u32 (sched b N)).toArray) ∧ Below w.heap.size w w' := by
  go_enter Tryd.func46, Tryd.ntmps46
  go_wp2_with (refine al_box rfl 67 (.tmp 0) rfl (nums .u8 bl) rfl ?_)
  intro g1 w1 l1 B1 G1
  go_wp2_with (refine al_zero rfl 83 rfl _ z50 ?_)
  intro g2 w2 l2 B2 G2
  have B1 := B1.kept G2 (by simp)
  go_wp2_with (refine al_zero rfl 83 rfl _ z50 ?_)
  intro g3 w3 l3 B3 G3
  have n23 : g2 ≠ g3 := by have := B2.lt; omega
  have B1 := B1.kept G3 (by simp)
  have B2 := B2.kept G3 (by simp)
  go_wp2_with (refine ld_all rfl 67 (.tmp 1) rfl g1 67 _ 64 5 rfl B1 Tryd.underlying67 (by rw [nums_length, hl]; exact s42) ?_)
  have Z0 := ((((Below.refl w.heap.size w).grown G1 (Nat.le_refl _) (by simp)).grown G2 G1.size (by simp)).grown G3 (by have := G1.size; have := G2.size; omega) (by simp))
  have hg3 : w.heap.size ≤ g3 := by have := G1.size; have := G2.size; omega
  have hg2 : w.heap.size ≤ g2 := by have := G1.size; omega
  clear B1 G1 G2 G3
  go_wp2
  go_loopw [12] (fun i wr => ∃ k : Nat, k ≤ 64 ∧ i = .int .i64 k ∧ Blk wr g3 83 (nums .u32 (ws b k)) ∧ Blk wr g2 83 (nums .u32 (List.replicate 64 0)) ∧ Below w.heap.size w wr) (fun i _ => 64 - (intOf i).toNat)
  case atStart => exact ⟨0, by omega, rfl, B3, B2, Z0⟩
  case round =>
    obtain ⟨k, hk, rfl, C3, C2, Z⟩ := hrel
    by_cases hlt : k < 64
    · have hc := C3.num (k / 4) (by rw [ws_len]; omega)
      have hf := C3.frozen (k / 4)
      have hx := hb'.out k
      have hxe := idx_run (P := Tryd.prog) Tryd.underlying67 Tryd.sizeOf5 Tryd.isAgg5 .u8 bl k hlt (by omega) wr
      rw [hB.out k] at hxe
      have e4 : ((k : Int) / 4).toNat = k / 4 := by omega
      have hv := ws_lt b hb'.out k hk (k / 4)
      have HS : Hid (ws b (k + 1) = (ws b k).set (k / 4) ((ws b k).getD (k / 4) 0 * 256 % 4294967296 ||| b k)) := rfl
      generalize b k = x at hx hxe HS
      generalize (ws b k).getD (k / 4) 0 = v at hc hv HS
      obtain ⟨d, hd, HD⟩ : ∃ d : Nat, bits .or .u32 ((v : Int) * 256 % 4294967296) (x : Int) = (d : Int) ∧ Hid (d = (v * 256 % 4294967296 ||| x)) := ⟨_, or_bits v x hx, rfl⟩
      go_wp2
      go_roundw
      case rel =>
        refine ⟨k + 1, by omega, by go_num, ?_, C2.setOther (fun e => n23 e.symm) _, Z.setCell hg3 _⟩
        rw [HS.out, ← HD.out]
        exact C3.setNum _ _
      case measure => simp [intOf]; omega
    · obtain rfl : k = 64 := by omega
      rw [ws_end b hb'.out] at C3
      go_wp2
      go_loopw [6] (fun i wr => ∃ k : Nat, k ≤ 48 ∧ i = .int .i64 ((k + 16 : Nat) : Int) ∧ Blk wr g3 83 (nums .u32 (sched b k ++ List.replicate (48 - k) 0)) ∧ Blk wr g2 83 (nums .u32 (List.replicate 64 0)) ∧ Below w.heap.size w wr) (fun i _ => 64 - (intOf i).toNat)
      case atStart => exact ⟨0, by omega, rfl, C3, C2, Z⟩
      case round =>
        clear C2 C3 Z
        obtain ⟨k, hk, rfl, C3, C2, Z⟩ := hrel
        have hsl := sched_len b k
        by_cases hlt : k < 48
        · have c15 := C3.num (k + 1) (by simp [hsl]; omega)
          have c2 := C3.num (k + 14) (by simp [hsl]; omega)
          have c16 := C3.num k (by simp [hsl]; omega)
          have c7 := C3.num (k + 9) (by simp [hsl]; omega)
          rw [getD_left _ _ _ (by omega)] at c15 c2 c16 c7
          have cf := C3.frozen (k + 16)
          have cn := C3.num (k + 16) (by simp [hsl]; omega)
          generalize (sched b k ++ List.replicate (48 - k) 0).getD (k + 16) 0 = old at cn
          have HS : Hid (sched b (k + 1) = sched b k ++ [((sched b k).getD k 0 + ss0 ((sched b k).getD (k + 1) 0) + (sched b k).getD (k + 9) 0 + ss1 ((sched b k).getD (k + 14) 0)) % 4294967296]) := by
            show _ = _
            rw [sched, next, hsl]; rfl
          have h15 := sched_get_lt b hb'.out k (k + 1)
          have h2 := sched_get_lt b hb'.out k (k + 14)
          have h16 := sched_get_lt b hb'.out k k
          have h7 := sched_get_lt b hb'.out k (k + 9)
          have Hsl : Hid ((sched b k).length = k + 16) := hsl
          clear hsl
          generalize (sched b k).getD (k + 1) 0 = x at c15 h15 HS
          generalize (sched b k).getD (k + 14) 0 = y at c2 h2 HS
          generalize (sched b k).getD k 0 = u at c16 h16 HS
          generalize (sched b k).getD (k + 9) 0 = v at c7 h7 HS
          have i15 : (((k : Int) + 16 - 15)).toNat = k + 1 := by omega
          have i2 : (((k : Int) + 16 - 2)).toNat = k + 14 := by omega
          have i16 : (((k : Int) + 16 - 16)).toNat = k := by omega
          have i7 : (((k : Int) + 16 - 7)).toNat = k + 9 := by omega
          obtain ⟨p1, hp1, hp1l, P1⟩ : ∃ d : Nat, bits .xor .u32 ((rotr x 7 : Nat) : Int) ((rotr x 18 : Nat) : Int) = (d : Int) ∧ d < 4294967296 ∧ Hid (d = rotr x 7 ^^^ rotr x 18) := ⟨_, u32_xor_nat _ _ (rotr_lt _ _ h15) (rotr_lt _ _ h15), xor_lt (rotr_lt _ _ h15) (rotr_lt _ _ h15), rfl⟩
          obtain ⟨p2, hp2, hp2l, P2⟩ : ∃ d : Nat, bits .xor .u32 (p1 : Int) ((x : Int) / 8) = (d : Int) ∧ d < 4294967296 ∧ Hid (d = p1 ^^^ x / 8) := ⟨_, u32_xor_nat p1 (x / 8) hp1l (by omega), xor_lt hp1l (by omega), rfl⟩
          obtain ⟨q1, hq1, hq1l, Q1⟩ : ∃ d : Nat, bits .xor .u32 ((rotr y 17 : Nat) : Int) ((rotr y 19 : Nat) : Int) = (d : Int) ∧ d < 4294967296 ∧ Hid (d = rotr y 17 ^^^ rotr y 19) := ⟨_, u32_xor_nat _ _ (rotr_lt _ _ h2) (rotr_lt _ _ h2), xor_lt (rotr_lt _ _ h2) (rotr_lt _ _ h2), rfl⟩
          obtain ⟨q2, hq2, hq2l, Q2⟩ : ∃ d : Nat, bits .xor .u32 (q1 : Int) ((y : Int) / 1024) = (d : Int) ∧ d < 4294967296 ∧ Hid (d = q1 ^^^ y / 1024) := ⟨_, u32_xor_nat q1 (y / 1024) hq1l (by omega), xor_lt hq1l (by omega), rfl⟩
          go_wp2
          go_quiet (fail)
          go_wp2_with fail
          refine (turn_any x 7 h15 (by omega) _).mono ?_; rintro e w' ⟨rfl, m1, rfl⟩
          go_wp2_with fail
          refine (turn_any x 18 h15 (by omega) _).mono ?_; rintro e w' ⟨rfl, m2, rfl⟩
          go_wp2_with fail
          refine (turn_any y 17 h2 (by omega) _).mono ?_; rintro e w' ⟨rfl, m3, rfl⟩
          go_wp2_with fail
          refine (turn_any y 19 h2 (by omega) _).mono ?_; rintro e w' ⟨rfl, m4, rfl⟩
          go_wp2_with fail
          go_region
          all_goals go_wp2
          refine ⟨?_, ?measure⟩
          iterate 48 apply Exists.intro
          refine ⟨?rel, rfl⟩
          case rel =>
            refine ⟨k + 1, by omega, by go_num, ?_, ?_, ?_⟩
            · have e1 : ((u : Int) + p2 + v + q2) % 4294967296 = (((u + p2 + v + q2) % 4294967296 : Nat) : Int) := by omega
              have e2 : (sched b k ++ List.replicate (48 - k) 0).set (k + 16) ((u + p2 + v + q2) % 4294967296) = sched b (k + 1) ++ List.replicate (48 - (k + 1)) 0 := by
                rw [show 48 - k = (48 - (k + 1)) + 1 by omega, ← Hsl.out, set_snoc, HS.out, P2.out, P1.out, Q2.out, Q1.out]; rfl
              rw [e1, ← e2]
              exact (C3.drewN _).setNum _ _
            · exact (C2.drewN _).setOther (fun e => n23 e.symm) _
            · exact (below_drewN Z _).setCell hg3 _
          case measure => simp [intOf]; omega
        · obtain rfl : k = N := by have := hN.out; omega
          rw [show 48 - k = 0 by omega, List.replicate_zero, List.append_nil] at C3
          have hsl : (sched b k).length = 64 := by rw [hsl, hN.out]
          have n64 : (nums .u32 (sched b k)).length = (nums .u32 (List.replicate 64 0)).length := by rw [nums_length, nums_length, hsl, List.length_replicate]
          have i64 : (Tryd.prog.info? 83).map (·.size) = some (nums .u32 (sched b k)).length := by rw [nums_length, hsl]; exact s50
          have N64 : Hid _ := n64
          have I64 : Hid _ := i64
          clear n64 i64
          go_wp2_with (first | (refine ld_all rfl 83 (.tmp 3) rfl g3 83 _ 64 65 rfl C3 Tryd.underlying83 I64.out ?_) | (refine st_all rfl 83 (.tmp 2) (.tmp 71) rfl g2 83 _ (nums .u32 (sched b k)) rfl rfl C2 N64.out I64.out (nums_one _ _) ?_))
          intro w4 D2 G4
          go_wp2
          (try simp only [Exit.inBlock, Exit.then])
          refine bodyPost_ret (res_row rfl _ g2 83 _ _ rfl D2 Tryd.underlying83 rfl I64.out) rfl ⟨rfl, Z.grown G4 Z.size (fun r e => by obtain rfl := Option.some.inj e; exact hg2)⟩
#print axioms spread_any
end Go.Proofs.YtfkiciejipcgkaaDoor.Sh
