/-
  The contracts of digest.turn and of the document's own r: a word turned to the right. · The contract of digest.spread: the words of a block. · The two tables of the program as array literals: the rounds' numbers, the first state; and the law on an array literal. · The contract of digest.stir: the state once a block has gone through the rounds.
-/
import Derived.Test.YtmbglggodifboaaGreatQG15x
import Derived.BigRegion
namespace Go.Proofs.YtmbglggodifboaaGreat.Sh
open Go.RowKit Mt
theorem rot_bits (x n : Nat) (hx : x < 4294967296) : bits .or .u32 ((x : Int) / 2 ^ n) ((x : Int) * 2 ^ (32 - n) % 4294967296) = ((rotr x n : Nat) : Int) := by
  have := u32_or_nat (x / 2 ^ n) (x * 2 ^ (32 - n) % 4294967296) (Nat.lt_of_le_of_lt (Nat.div_le_self _ _) hx) (Nat.mod_lt _ (by decide))
  unfold rotr
  rw [← this]
  simp
set_option maxRecDepth 8000 in
set_option maxHeartbeats 400000 in
theorem turn_any (x n : Nat) (hx : x < 4294967296) (hn : n ≤ 32) (w : World) :
    Calls Tryz.prog 102 #[.int .u32 x, .int .i64 n] w fun e w' => e = .returned (.int .u32 ((rotr x n : Nat) : Int)) ∧ ∃ q, w' = w.drewN q := by
  have HR : Hid (bits .or .u32 ((x : Int) / 2 ^ n) ((x : Int) * 2 ^ (32 - n) % 4294967296) = ((rotr x n : Nat) : Int)) := rot_bits x n hx
  have e1 : ((32 : Int) - (n : Int)).toNat = 32 - n := by omega
  go_enter Tryz.func102, Tryz.ntmps102
  go_wp2
  go_quiet (fail)
  go_wp2
  go_ret
  exact ⟨ret_int HR.out, _, rfl⟩
set_option maxRecDepth 8000 in
set_option maxHeartbeats 400000 in
theorem r_any (x n : Nat) (hx : x < 4294967296) (hn : n ≤ 32) (w : World) :
    Calls Tryz.prog 107 #[.int .u32 x, .int .u64 n] w fun e w' => e = .returned (.int .u32 ((rotr x n : Nat) : Int)) ∧ w' = w := by
  have HR : Hid (bits .or .u32 ((x : Int) / 2 ^ n) ((x : Int) * 2 ^ (32 - n) % 4294967296) = ((rotr x n : Nat) : Int)) := rot_bits x n hx
  have e1 : ((32 : Int) - (n : Int)).toNat = 32 - n := by omega
  go_enter Tryz.func107, Tryz.ntmps107
  go_wp2
  go_ret
  exact ⟨ret_int HR.out, rfl⟩
theorem turn_lit (x n : Nat) (hx : x < 4294967296) (hn : n ≤ 32) (w : World) :
    Calls Tryz.prog 102 #[.int .u32 (x : Int), .int .i64 (@OfNat.ofNat Int n instOfNat)] w fun e w' => e = .returned (.int .u32 ((rotr x n : Nat) : Int)) ∧ ∃ q, w' = w.drewN q := turn_any x n hx hn w
theorem r_lit (x n : Nat) (hx : x < 4294967296) (hn : n ≤ 32) (w : World) :
    Calls Tryz.prog 107 #[.int .u32 (x : Int), .int .u64 (@OfNat.ofNat Int n instOfNat)] w fun e w' => e = .returned (.int .u32 ((rotr x n : Nat) : Int)) ∧ w' = w := r_any x n hx hn w
end Go.Proofs.YtmbglggodifboaaGreat.Sh
namespace Go.Proofs.YtmbglggodifboaaGreat.Sh
open Go.RowKit Mt
/-- The words behind so many bytes of the block. -/
def ws (b : Nat → Nat) : Nat → List Nat
  | 0 => List.replicate 64 0
  | i + 1 => (ws b i).set (i / 4) ((ws b i).getD (i / 4) 0 * 256 % 4294967296 ||| b i)
theorem ws_len (b : Nat → Nat) : ∀ i, (ws b i).length = 64
  | 0 => by simp [ws]
  | i + 1 => by rw [ws, List.length_set, ws_len b i]
def pw (b : Nat → Nat) (j : Nat) : Nat → Nat
  | 0 => 0
  | r + 1 => pw b j r * 256 + b (4 * j + r)
theorem pw_lt (b : Nat → Nat) (hb : ∀ i, b i < 256) (j : Nat) : ∀ r, pw b j r < 256 ^ r
  | 0 => by simp [pw]
  | r + 1 => by
    have := pw_lt b hb j r
    have := hb (4 * j + r)
    rw [pw, Nat.pow_succ]; omega
theorem or_add (x y : Nat) (hy : y < 256) : x * 256 ||| y = x * 256 + y := by
  have := Nat.shiftLeft_add_eq_or_of_lt (i := 8) (b := y) hy x
  rw [Nat.shiftLeft_eq] at this
  exact this.symm
theorem or_bits (v x : Nat) (hx : x < 256) : bits .or .u32 ((v : Int) * 256 % 4294967296) (x : Int) = ((v * 256 % 4294967296 ||| x : Nat) : Int) := by
  rw [← u32_or_nat _ _ (Nat.mod_lt _ (by decide)) (by omega)]; congr 1 <;> omega
theorem ws_eq (b : Nat → Nat) (hb : ∀ i, b i < 256) : ∀ i, i ≤ 64 → ws b i = (List.range 64).map fun j => pw b j (min 4 (i - 4 * j))
  | 0, _ => by
    simp only [Nat.zero_sub, Nat.min_zero, pw, ws]
    decide
  | i + 1, hi => by
    rw [ws, ws_eq b hb i (by omega)]
    apply List.ext_getElem
    · simp
    · intro k h1 h2
      have hk : k < 64 := by simpa using h2
      rw [List.getElem_set]
      have hi4 : i / 4 < 64 := by omega
      split
      · rename_i e
        subst e
        simp only [List.getElem_map, List.getElem_range, List.getD_eq_getElem?_getD, List.getElem?_map, List.getElem?_range hi4, Option.map_some, Option.getD_some]
        rw [show min 4 (i - 4 * (i / 4)) = i % 4 by omega, show min 4 (i + 1 - 4 * (i / 4)) = i % 4 + 1 by omega, pw, show 4 * (i / 4) + i % 4 = i by omega]
        have h3 := pw_lt b hb (i / 4) (i % 4)
        have h4 : (256 : Nat) ^ (i % 4) ≤ 256 ^ 3 := Nat.pow_le_pow_right (by decide) (by omega)
        rw [Nat.mod_eq_of_lt (by omega), or_add _ _ (hb i)]
      · rename_i e
        simp only [List.getElem_map, List.getElem_range]
        by_cases hlt : k < i / 4
        · rw [show min 4 (i - 4 * k) = 4 by omega, show min 4 (i + 1 - 4 * k) = 4 by omega]
        · rw [show min 4 (i - 4 * k) = 0 by omega, show min 4 (i + 1 - 4 * k) = 0 by omega]
theorem ws_end (b : Nat → Nat) (hb : ∀ i, b i < 256) : ws b 64 = sched b 0 ++ List.replicate 48 0 := by
  rw [ws_eq b hb 64 (Nat.le_refl _)]
  apply List.ext_getElem
  · simp [sched]
  · intro k h1 h2
    have hk : k < 64 := by simpa using h1
    simp only [List.getElem_map, List.getElem_range]
    rw [List.getElem_append]
    split
    · rename_i hl
      have hl' : k < 16 := by simpa [sched] using hl
      simp only [sched, List.getElem_map, List.getElem_range]
      rw [show min 4 (64 - 4 * k) = 4 by omega]
      simp only [pw, word, Nat.add_zero, Nat.zero_mul, Nat.zero_add]
    · rename_i hl
      have hl' : ¬ k < 16 := by simpa [sched] using hl
      rw [show min 4 (64 - 4 * k) = 0 by omega, List.getElem_replicate]
      rfl
theorem ws_lt (b : Nat → Nat) (hb : ∀ i, b i < 256) (i : Nat) (hi : i ≤ 64) (j : Nat) : (ws b i).getD j 0 < 4294967296 := by
  refine getD_of_mem (p := fun x => x < 4294967296) ?_ (by decide) j
  rw [ws_eq b hb i hi]
  intro x hx
  obtain ⟨k, _, rfl⟩ := List.mem_map.1 hx
  have h3 := pw_lt b hb k (min 4 (i - 4 * k))
  have h4 : (256 : Nat) ^ (min 4 (i - 4 * k)) ≤ 256 ^ 4 := Nat.pow_le_pow_right (by decide) (by omega)
  omega
theorem below_drewN {B : Nat} {a w : World} (h : Below B a w) (q : Nat) : Below B a (w.drewN q) := ⟨h.os, h.tape, h.output, h.size, h.block⟩
theorem set_snoc (l : List Nat) (n x : Nat) : (l ++ List.replicate (n + 1) 0).set l.length x = (l ++ [x]) ++ List.replicate n 0 := by
  rw [List.set_append_right _ _ (Nat.le_refl _), Nat.sub_self, List.replicate_succ]; simp
theorem getD_left (l m : List Nat) (i : Nat) (h : i < l.length) : (l ++ m).getD i 0 = l.getD i 0 := by
  rw [List.getD_eq_getElem?_getD, List.getD_eq_getElem?_getD, List.getElem?_append_left h]

set_option maxRecDepth 8000 in
set_option maxHeartbeats 1000000 in
theorem spread_any (bl : List Nat) (b : Nat → Nat) (hl : bl.length = 64) (hB : Hid (∀ i, bl.getD i 0 = b i)) (hb' : Hid (∀ i, b i < 256)) (N : Nat) (hN : Hid (N = 48)) (w : World) :
    Calls Tryz.prog 101 #[.agg (nums .u8 bl).toArray] w fun e w' => e = .returned (.agg (nums .u32 (sched b N)).toArray) ∧ Below w.heap.size w w' := by
  go_enter Tryz.func101, Tryz.ntmps101
  go_wp2_with (refine al_box rfl 127 (.tmp 0) rfl (nums .u8 bl) rfl ?_)
  intro g1 w1 l1 B1 G1
  go_wp2_with (refine al_zero rfl 148 rfl _ z50 ?_)
  intro g2 w2 l2 B2 G2
  have B1 := B1.kept G2 (by simp)
  go_wp2_with (refine al_zero rfl 148 rfl _ z50 ?_)
  intro g3 w3 l3 B3 G3
  have n23 : g2 ≠ g3 := by have := B2.lt; omega
  have B1 := B1.kept G3 (by simp)
  have B2 := B2.kept G3 (by simp)
  go_wp2_with (refine ld_all rfl 127 (.tmp 1) rfl g1 127 _ 64 5 rfl B1 Tryz.underlying127 (by rw [nums_length, hl]; exact s42) ?_)
  have Z0 := ((((Below.refl w.heap.size w).grown G1 (Nat.le_refl _) (by simp)).grown G2 G1.size (by simp)).grown G3 (by have := G1.size; have := G2.size; omega) (by simp))
  have hg3 : w.heap.size ≤ g3 := by have := G1.size; have := G2.size; omega
  have hg2 : w.heap.size ≤ g2 := by have := G1.size; omega
  clear B1 G1 G2 G3
  go_wp2
  go_loopw [12] (fun i wr => ∃ k : Nat, k ≤ 64 ∧ i = .int .i64 k ∧ Blk wr g3 148 (nums .u32 (ws b k)) ∧ Blk wr g2 148 (nums .u32 (List.replicate 64 0)) ∧ Below w.heap.size w wr) (fun i _ => 64 - (intOf i).toNat)
  case atStart => exact ⟨0, by omega, rfl, B3, B2, Z0⟩
  case round =>
    obtain ⟨k, hk, rfl, C3, C2, Z⟩ := hrel
    by_cases hlt : k < 64
    · have hc := C3.num (k / 4) (by rw [ws_len]; omega)
      have hf := C3.frozen (k / 4)
      have hx := hb'.out k
      have hxe := idx_run (P := Tryz.prog) Tryz.underlying127 Tryz.sizeOf5 Tryz.isAgg5 .u8 bl k hlt (by omega) wr
      rw [hB.out k] at hxe
      have e4 : ((k : Int) / 4).toNat = k / 4 := by omega
      have hv := ws_lt b hb'.out k hk (k / 4)
      have HS : Hid (ws b (k + 1) = (ws b k).set (k / 4) ((ws b k).getD (k / 4) 0 * 256 % 4294967296 ||| b k)) := rfl
      generalize b k = x at hx hxe HS
      generalize (ws b k).getD (k / 4) 0 = v at hc hv HS
      obtain ⟨d, hd, HD⟩ : ∃ d : Nat, bits .or .u32 ((v : Int) * 256 % 4294967296) (x : Int) = (d : Int) ∧ Hid (d = (v * 256 % 4294967296 ||| x)) := ⟨_, or_bits v x hx, rfl⟩
      go_wp2
      go_roundw
      case rel =>
        refine ⟨k + 1, by omega, by go_num, ?_, C2.setOther (fun e => n23 e.symm) _, Z.setCell hg3 _⟩
        rw [HS.out, ← HD.out]
        exact C3.setNum _ _
      case measure => simp [intOf]; omega
    · obtain rfl : k = 64 := by omega
      rw [ws_end b hb'.out] at C3
      go_wp2
      go_loopw [6] (fun i wr => ∃ k : Nat, k ≤ 48 ∧ i = .int .i64 ((k + 16 : Nat) : Int) ∧ Blk wr g3 148 (nums .u32 (sched b k ++ List.replicate (48 - k) 0)) ∧ Blk wr g2 148 (nums .u32 (List.replicate 64 0)) ∧ Below w.heap.size w wr) (fun i _ => 64 - (intOf i).toNat)
      case atStart => exact ⟨0, by omega, rfl, C3, C2, Z⟩
      case round =>
        clear C2 C3 Z
        obtain ⟨k, hk, rfl, C3, C2, Z⟩ := hrel
        have hsl := sched_len b k
        by_cases hlt : k < 48
        · have c15 := C3.num (k + 1) (by simp [hsl]; omega)
          have c2 := C3.num (k + 14) (by simp [hsl]; omega)
          have c16 := C3.num k (by simp [hsl]; omega)
          have c7 := C3.num (k + 9) (by simp [hsl]; omega)
          rw [getD_left _ _ _ (by omega)] at c15 c2 c16 c7
          have cf := C3.frozen (k + 16)
          have cn := C3.num (k + 16) (by simp [hsl]; omega)
          generalize (sched b k ++ List.replicate (48 - k) 0).getD (k + 16) 0 = old at cn
          have HS : Hid (sched b (k + 1) = sched b k ++ [((sched b k).getD k 0 + ss0 ((sched b k).getD (k + 1) 0) + (sched b k).getD (k + 9) 0 + ss1 ((sched b k).getD (k + 14) 0)) % 4294967296]) := by
            show _ = _
            rw [sched, next, hsl]; rfl
          have h15 := sched_get_lt b hb'.out k (k + 1)
          have h2 := sched_get_lt b hb'.out k (k + 14)
          have h16 := sched_get_lt b hb'.out k k
          have h7 := sched_get_lt b hb'.out k (k + 9)
          have Hsl : Hid ((sched b k).length = k + 16) := hsl
          clear hsl
          generalize (sched b k).getD (k + 1) 0 = x at c15 h15 HS
          generalize (sched b k).getD (k + 14) 0 = y at c2 h2 HS
          generalize (sched b k).getD k 0 = u at c16 h16 HS
          generalize (sched b k).getD (k + 9) 0 = v at c7 h7 HS
          have i15 : (((k : Int) + 16 - 15)).toNat = k + 1 := by omega
          have i2 : (((k : Int) + 16 - 2)).toNat = k + 14 := by omega
          have i16 : (((k : Int) + 16 - 16)).toNat = k := by omega
          have i7 : (((k : Int) + 16 - 7)).toNat = k + 9 := by omega
          obtain ⟨p1, hp1, hp1l, P1⟩ : ∃ d : Nat, bits .xor .u32 ((rotr x 7 : Nat) : Int) ((rotr x 18 : Nat) : Int) = (d : Int) ∧ d < 4294967296 ∧ Hid (d = rotr x 7 ^^^ rotr x 18) := ⟨_, u32_xor_nat _ _ (rotr_lt _ _ h15) (rotr_lt _ _ h15), xor_lt (rotr_lt _ _ h15) (rotr_lt _ _ h15), rfl⟩
          obtain ⟨p2, hp2, hp2l, P2⟩ : ∃ d : Nat, bits .xor .u32 (p1 : Int) ((x : Int) / 8) = (d : Int) ∧ d < 4294967296 ∧ Hid (d = p1 ^^^ x / 8) := ⟨_, u32_xor_nat p1 (x / 8) hp1l (by omega), xor_lt hp1l (by omega), rfl⟩
          obtain ⟨q1, hq1, hq1l, Q1⟩ : ∃ d : Nat, bits .xor .u32 ((rotr y 17 : Nat) : Int) ((rotr y 19 : Nat) : Int) = (d : Int) ∧ d < 4294967296 ∧ Hid (d = rotr y 17 ^^^ rotr y 19) := ⟨_, u32_xor_nat _ _ (rotr_lt _ _ h2) (rotr_lt _ _ h2), xor_lt (rotr_lt _ _ h2) (rotr_lt _ _ h2), rfl⟩
          obtain ⟨q2, hq2, hq2l, Q2⟩ : ∃ d : Nat, bits .xor .u32 (q1 : Int) ((y : Int) / 1024) = (d : Int) ∧ d < 4294967296 ∧ Hid (d = q1 ^^^ y / 1024) := ⟨_, u32_xor_nat q1 (y / 1024) hq1l (by omega), xor_lt hq1l (by omega), rfl⟩
          go_wp2
          go_quiet (fail)
          go_wp2_with fail
          refine (turn_any x 7 h15 (by omega) _).mono ?_; rintro e w' ⟨rfl, m1, rfl⟩
          go_wp2_with fail
          refine (turn_any x 18 h15 (by omega) _).mono ?_; rintro e w' ⟨rfl, m2, rfl⟩
          go_wp2_with fail
          refine (turn_any y 17 h2 (by omega) _).mono ?_; rintro e w' ⟨rfl, m3, rfl⟩
          go_wp2_with fail
          refine (turn_any y 19 h2 (by omega) _).mono ?_; rintro e w' ⟨rfl, m4, rfl⟩
          go_wp2_with fail
          go_region
          all_goals go_wp2
          refine ⟨?_, ?measure⟩
          iterate 48 apply Exists.intro
          refine ⟨?rel, rfl⟩
          case rel =>
            refine ⟨k + 1, by omega, by go_num, ?_, ?_, ?_⟩
            · have e1 : ((u : Int) + p2 + v + q2) % 4294967296 = (((u + p2 + v + q2) % 4294967296 : Nat) : Int) := by omega
              have e2 : (sched b k ++ List.replicate (48 - k) 0).set (k + 16) ((u + p2 + v + q2) % 4294967296) = sched b (k + 1) ++ List.replicate (48 - (k + 1)) 0 := by
                rw [show 48 - k = (48 - (k + 1)) + 1 by omega, ← Hsl.out, set_snoc, HS.out, P2.out, P1.out, Q2.out, Q1.out]; rfl
              rw [e1, ← e2]
              exact (C3.drewN _).setNum _ _
            · exact (C2.drewN _).setOther (fun e => n23 e.symm) _
            · exact (below_drewN Z _).setCell hg3 _
          case measure => simp [intOf]; omega
        · obtain rfl : k = N := by have := hN.out; omega
          rw [show 48 - k = 0 by omega, List.replicate_zero, List.append_nil] at C3
          have hsl : (sched b k).length = 64 := by rw [hsl, hN.out]
          have n64 : (nums .u32 (sched b k)).length = (nums .u32 (List.replicate 64 0)).length := by rw [nums_length, nums_length, hsl, List.length_replicate]
          have i64 : (Tryz.prog.info? 148).map (·.size) = some (nums .u32 (sched b k)).length := by rw [nums_length, hsl]; exact s50
          have N64 : Hid _ := n64
          have I64 : Hid _ := i64
          clear n64 i64
          go_wp2_with (first | (refine ld_all rfl 148 (.tmp 3) rfl g3 148 _ 64 125 rfl C3 Tryz.underlying148 I64.out ?_) | (refine st_all rfl 148 (.tmp 2) (.tmp 71) rfl g2 148 _ (nums .u32 (sched b k)) rfl rfl C2 N64.out I64.out (nums_one _ _) ?_))
          intro w4 D2 G4
          go_wp2
          (try simp only [Exit.inBlock, Exit.then])
          refine bodyPost_ret (res_row rfl _ g2 148 _ _ rfl D2 Tryz.underlying148 rfl I64.out) rfl ⟨rfl, Z.grown G4 Z.size (fun r e => by obtain rfl := Option.some.inj e; exact hg2)⟩
end Go.Proofs.YtmbglggodifboaaGreat.Sh
namespace Go.Proofs.YtmbglggodifboaaGreat.Sh
open Go.RowKit Mt
def kParts : Array (Nat × Operand) := #[(0, .const (.int .u32 1116352408)), (1, .const (.int .u32 1899447441)), (2, .const (.int .u32 3049323471)), (3, .const (.int .u32 3921009573)), (4, .const (.int .u32 961987163)), (5, .const (.int .u32 1508970993)), (6, .const (.int .u32 2453635748)), (7, .const (.int .u32 2870763221)), (8, .const (.int .u32 3624381080)), (9, .const (.int .u32 310598401)), (10, .const (.int .u32 607225278)), (11, .const (.int .u32 1426881987)), (12, .const (.int .u32 1925078388)), (13, .const (.int .u32 2162078206)), (14, .const (.int .u32 2614888103)), (15, .const (.int .u32 3248222580)), (16, .const (.int .u32 3835390401)), (17, .const (.int .u32 4022224774)), (18, .const (.int .u32 264347078)), (19, .const (.int .u32 604807628)), (20, .const (.int .u32 770255983)), (21, .const (.int .u32 1249150122)), (22, .const (.int .u32 1555081692)), (23, .const (.int .u32 1996064986)), (24, .const (.int .u32 2554220882)), (25, .const (.int .u32 2821834349)), (26, .const (.int .u32 2952996808)), (27, .const (.int .u32 3210313671)), (28, .const (.int .u32 3336571891)), (29, .const (.int .u32 3584528711)), (30, .const (.int .u32 113926993)), (31, .const (.int .u32 338241895)), (32, .const (.int .u32 666307205)), (33, .const (.int .u32 773529912)), (34, .const (.int .u32 1294757372)), (35, .const (.int .u32 1396182291)), (36, .const (.int .u32 1695183700)), (37, .const (.int .u32 1986661051)), (38, .const (.int .u32 2177026350)), (39, .const (.int .u32 2456956037)), (40, .const (.int .u32 2730485921)), (41, .const (.int .u32 2820302411)), (42, .const (.int .u32 3259730800)), (43, .const (.int .u32 3345764771)), (44, .const (.int .u32 3516065817)), (45, .const (.int .u32 3600352804)), (46, .const (.int .u32 4094571909)), (47, .const (.int .u32 275423344)), (48, .const (.int .u32 430227734)), (49, .const (.int .u32 506948616)), (50, .const (.int .u32 659060556)), (51, .const (.int .u32 883997877)), (52, .const (.int .u32 958139571)), (53, .const (.int .u32 1322822218)), (54, .const (.int .u32 1537002063)), (55, .const (.int .u32 1747873779)), (56, .const (.int .u32 1955562222)), (57, .const (.int .u32 2024104815)), (58, .const (.int .u32 2227730452)), (59, .const (.int .u32 2361852424)), (60, .const (.int .u32 2428436474)), (61, .const (.int .u32 2756734187)), (62, .const (.int .u32 3204031479)), (63, .const (.int .u32 3329325298))]
def iParts : Array (Nat × Operand) := #[(0, .const (.int .u32 1779033703)), (1, .const (.int .u32 3144134277)), (2, .const (.int .u32 1013904242)), (3, .const (.int .u32 2773480762)), (4, .const (.int .u32 1359893119)), (5, .const (.int .u32 2600822924)), (6, .const (.int .u32 528734635)), (7, .const (.int .u32 1541459225))]
theorem bd_row {P : Program} {ops : Array Oper} {rest : List Oper} {o : Oper} {a : Act} {w : World} {Q : Exit → Act → World → Prop} (hg : o.guard = none) (t : TypeId) (parts : Array (Nat × Operand)) (ho : o.op = .build t parts) (cs : List Value)
    (hf : P.built t (parts.map fun p => (p.1, a.eval p.2)).toList = some cs.toArray) (h : wpList P ops Q rest (a.put o.dst (.agg cs.toArray)) w) : wpList P ops Q (o :: rest) a w :=
  wpList_plain hg fun _ hK => by
    have e : P.built t (parts.map fun (i, x) => (i, a.eval x)).toList = some cs.toArray := hf
    exact wp_build t parts ho (by rw [e]; rfl) (by rw [e]; exact hK _ _ h)
theorem k_built (a : Act) : Tryz.prog.built 148 (kParts.map fun p => (p.1, a.eval p.2)).toList = some (nums .u32 K).toArray := by kernel_rfl
theorem i_built (a : Act) : Tryz.prog.built 126 (iParts.map fun p => (p.1, a.eval p.2)).toList = some (nums .u32 init.l).toArray := by kernel_rfl
theorem v_built (a b c d e f g h : Nat) : Tryz.prog.built 126 [(0, .int .u32 (a : Int)), (1, .int .u32 (b : Int)), (2, .int .u32 (c : Int)), (3, .int .u32 (d : Int)), (4, .int .u32 (e : Int)), (5, .int .u32 (f : Int)), (6, .int .u32 (g : Int)), (7, .int .u32 (h : Int))] = some (nums .u32 [a, b, c, d, e, f, g, h]).toArray := by kernel_rfl
theorem bd_eight {ops : Array Oper} {rest : List Oper} {o : Oper} {a : Act} {w : World} {Q : Exit → Act → World → Prop} (hg : o.guard = none) (t0 t1 t2 t3 t4 t5 t6 t7 : Nat)
    (ho : o.op = .build 126 #[(0, .tmp t0), (1, .tmp t1), (2, .tmp t2), (3, .tmp t3), (4, .tmp t4), (5, .tmp t5), (6, .tmp t6), (7, .tmp t7)]) (r : St)
    (h0 : a.eval (.tmp t0) = .int .u32 (r.a : Int)) (h1 : a.eval (.tmp t1) = .int .u32 (r.b : Int)) (h2 : a.eval (.tmp t2) = .int .u32 (r.c : Int)) (h3 : a.eval (.tmp t3) = .int .u32 (r.d : Int))
    (h4 : a.eval (.tmp t4) = .int .u32 (r.e : Int)) (h5 : a.eval (.tmp t5) = .int .u32 (r.f : Int)) (h6 : a.eval (.tmp t6) = .int .u32 (r.g : Int)) (h7 : a.eval (.tmp t7) = .int .u32 (r.h : Int))
    (h : wpList Tryz.prog ops Q rest (a.put o.dst (.agg (nums .u32 r.l).toArray)) w) : wpList Tryz.prog ops Q (o :: rest) a w := by
  refine bd_row hg 126 _ ho (nums .u32 r.l) ?_ h
  simp only [List.map_toArray, List.map_cons, List.map_nil, h0, h1, h2, h3, h4, h5, h6, h7]
  exact v_built _ _ _ _ _ _ _ _
end Go.Proofs.YtmbglggodifboaaGreat.Sh
namespace Go.Proofs.YtmbglggodifboaaGreat.Sh
open Go.RowKit Mt
/-- What a round's operations on digits yield, each under a name. -/
theorem xor_nm {a b : Nat} (ha : a < 4294967296) (hb : b < 4294967296) : ∃ d : Nat, bits .xor .u32 (a : Int) (b : Int) = (d : Int) ∧ d < 4294967296 ∧ Hid (d = a ^^^ b) := ⟨_, u32_xor_nat a b ha hb, xor_lt ha hb, rfl⟩
theorem and_nm {a b : Nat} (ha : a < 4294967296) (hb : b < 4294967296) : ∃ d : Nat, bits .and .u32 (a : Int) (b : Int) = (d : Int) ∧ d < 4294967296 ∧ Hid (d = a &&& b) := ⟨_, u32_and_nat a b ha hb, and_lt ha, rfl⟩
theorem not_nm {c : Nat} (h : c < 4294967296) : ∃ d : Nat, bits .xor .u32 IntKind.u32.max (c : Int) = (d : Int) ∧ d < 4294967296 ∧ Hid (d = 4294967295 - c) := by
  refine ⟨4294967295 - c, ?_, by omega, rfl⟩
  show IntKind.u32.wrap ((BitVec.ofInt 32 4294967295 ^^^ BitVec.ofInt 32 (c : Int)).toNat : Int) = _
  rw [show BitVec.ofInt 32 4294967295 = BitVec.allOnes 32 by decide, BitVec.allOnes_xor, BitVec.toNat_not, BitVec.ofInt_natCast, BitVec.toNat_ofNat, Nat.mod_eq_of_lt (by omega), IntKind.wrap_u32']
  omega
/-- The state's words, the first so many grown. -/
def mixL (s v : St) : Nat → List Nat
  | 0 => s.l
  | k + 1 => (mixL s v k).set k (add32 ((mixL s v k).getD k 0) (v.l.getD k 0))
theorem mixL_len (s v : St) : ∀ k, (mixL s v k).length = 8
  | 0 => rfl
  | k + 1 => by rw [mixL, List.length_set, mixL_len s v k]
theorem mixL_end (s v : St) : mixL s v 8 = (plus s v).l := rfl

set_option maxHeartbeats 1000000 in
set_option maxRecDepth 8000 in
theorem stir_any (s : St) (hs : Hid s.ok) (bl : List Nat) (b : Nat → Nat) (hl : bl.length = 64) (hB : Hid (∀ i, bl.getD i 0 = b i)) (hb' : Hid (∀ i, b i < 256)) (N : Nat) (hN : Hid (N = 48)) (M : Nat) (hM : Hid (M = 64)) (w : World) :
    Calls Tryz.prog 94 #[.agg (nums .u32 s.l).toArray, .agg (nums .u8 bl).toArray] w fun e w' => e = .returned (.agg (nums .u32 (plus s (run s (sched b N) M)).l).toArray) ∧ Below w.heap.size w w' := by
  go_enter Tryz.func94, Tryz.ntmps94
  go_wp2_with (refine al_box rfl 126 (.tmp 0) rfl (nums .u32 s.l) rfl ?_)
  intro g1 w1 l1 B1 G1
  go_wp2_with (refine al_box rfl 127 (.tmp 1) rfl (nums .u8 bl) rfl ?_)
  intro g2 w2 l2 B2 G2
  have hg1 := l1
  have Z := ((Below.refl w.heap.size w).grown G1 (Nat.le_refl _) (by simp)).grown G2 G1.size (by simp)
  have B1 := B1.kept G2 (by simp)
  clear G1 G2
  go_wp2_with (refine al_zero rfl 126 rfl _ z41 ?_)
  intro g3 w3 l3 B3 G3
  have n13 : g1 ≠ g3 := by have := B1.lt; omega
  have B1 := B1.kept G3 (by simp)
  have B2 := B2.kept G3 (by simp)
  have hg3 : w.heap.size ≤ g3 := Nat.le_trans Z.size l3
  have Z := Z.grown G3 Z.size (by simp)
  clear G3
  go_wp2_with (first | (refine bd_row rfl 148 kParts rfl (nums .u32 K) (k_built _) ?_) | (refine al_zero rfl 148 rfl _ z50 ?_))
  intro g4 w4 l4 B4 G4
  have n14 : g1 ≠ g4 := by have := B1.lt; omega
  have n24 : g2 ≠ g4 := by have := B2.lt; omega
  have n34 : g3 ≠ g4 := by have := B3.lt; omega
  have B1 := B1.kept G4 (by simp)
  have B2 := B2.kept G4 (by simp)
  have B3 := B3.kept G4 (by simp)
  have hg4 : w.heap.size ≤ g4 := Nat.le_trans Z.size l4
  have Z := Z.grown G4 Z.size (by simp)
  clear G4
  have NK : Hid ((nums .u32 K).length = (nums .u32 (List.replicate 64 0)).length) := by show _ = _; rw [nums_length, nums_length, K_len, List.length_replicate]
  have IK : Hid ((Tryz.prog.info? 148).map (·.size) = some (nums .u32 K).length) := by show _ = _; rw [nums_length, K_len]; exact s50
  go_wp2_with (refine st_all rfl 148 (.tmp 5) (.tmp 20) rfl g4 148 _ (nums .u32 K) rfl rfl B4 NK.out IK.out (nums_one _ _) ?_)
  intro w5 B4 G5
  have B1 := B1.kept G5 (fun e => n14 (Option.some.inj e))
  have B2 := B2.kept G5 (fun e => n24 (Option.some.inj e))
  have B3 := B3.kept G5 (fun e => n34 (Option.some.inj e))
  have Z := Z.grown G5 Z.size (fun r e => by obtain rfl := Option.some.inj e; exact hg4)
  clear G5 NK IK
  have c0 := B1.num 0 (by rw [l_len]; decide)
  have c1 := B1.num 1 (by rw [l_len]; decide)
  have c2 := B1.num 2 (by rw [l_len]; decide)
  have c3 := B1.num 3 (by rw [l_len]; decide)
  have c4 := B1.num 4 (by rw [l_len]; decide)
  have c5 := B1.num 5 (by rw [l_len]; decide)
  have c6 := B1.num 6 (by rw [l_len]; decide)
  have c7 := B1.num 7 (by rw [l_len]; decide)
  simp only [St.l, List.getD_cons_zero, List.getD_cons_succ] at c0 c1 c2 c3 c4 c5 c6 c7
  go_wp2
  go_quiet (fail)
  go_wp2
  go_quiet (fail)
  have I42 : Hid ((Tryz.prog.info? 127).map (·.size) = some (nums .u8 bl).length) := by show _ = _; rw [nums_length, hl]; exact s42
  clear c0 c1 c2 c3 c4 c5 c6 c7
  go_wp2_with (refine ld_all rfl 127 (.tmp 3) rfl g2 127 (nums .u8 bl) 64 5 rfl ((B2.drewN _).drewN _) Tryz.underlying127 I42.out ?_)
  refine (spread_any bl b hl hB hb' N hN _).mono ?_; rintro e w6 ⟨rfl, Z6⟩
  have B1 := (B1.drewN _).below Z6 (B1.drewN _).lt
  have B3 := (B3.drewN _).below Z6 (B3.drewN _).lt
  have B4 := (B4.drewN _).below Z6 (B4.drewN _).lt
  have Z := (below_drewN Z _).trans (Z6.mono Z.size)
  have hSl : Hid ((sched b N).length = 64) := by show _ = _; rw [sched_len, hN.out]
  have hSb : Hid (∀ i, (sched b N).getD i 0 < 4294967296) := fun i => sched_get_lt b hb'.out N i
  clear Z6 I42 B2
  generalize hWW : sched b N = W at hSl hSb
  have HWW : Hid (sched b N = W) := hWW
  clear hWW
  go_wp2
  go_loopw [6, 7, 8, 9, 10, 11, 12, 13, 39] (fun v1 v2 v3 v4 v5 v6 v7 v8 i wr => ∃ (k q : Nat) (r : St), k ≤ 64 ∧ i = .int .i64 k ∧ r = run s W k ∧ v1 = .int .u32 r.a ∧ v2 = .int .u32 r.b ∧ v3 = .int .u32 r.c ∧ v4 = .int .u32 r.d ∧ v5 = .int .u32 r.e ∧ v6 = .int .u32 r.f ∧ v7 = .int .u32 r.g ∧ v8 = .int .u32 r.h ∧ wr = w6.drewN q) (fun _ _ _ _ _ _ _ _ i _ => 64 - (intOf i).toNat)
  case atStart => exact ⟨0, 0, s, by omega, rfl, rfl, rfl, rfl, rfl, rfl, rfl, rfl, rfl, rfl, rfl⟩
  case round =>
    obtain ⟨k, q, r, hk, rfl, hr, rfl, rfl, rfl, rfl, rfl, rfl, rfl, rfl, rfl⟩ := hrel
    have HR : Hid (r = run s W k) := hr
    clear hr
    by_cases hlt : k < 64
    · have hok : r.ok := by rw [HR.out]; exact run_ok hs.out W k
      have hxe := idx_run (P := Tryz.prog) Tryz.underlying148 Tryz.sizeOf125 Tryz.isAgg125 .u32 W k hlt (by have := hSl.out; omega) (w6.drewN q)
      have hck := (B4.drewN q).num k (by rw [K_len]; exact hlt)
      obtain ⟨wq, hwq⟩ : ∃ wq, wq = w6.drewN q := ⟨_, rfl⟩
      rw [← hwq] at hck hxe ⊢
      have HW : Hid (wq = w6.drewN q) := hwq
      clear hwq
      have hx := hSb.out k
      have HS : Hid (run s W (k + 1) = Mt.step r (K.getD k 0) (W.getD k 0)) := by show _ = _; rw [HR.out]; rfl
      have hkl := K_lt k
      generalize W.getD k 0 = x at hxe hx HS
      generalize K.getD k 0 = c at hck hkl HS
      obtain ⟨a, b1, c1, d, e, f, g, h⟩ := r
      obtain ⟨h1, h2, h3, h4, h5, h6, h7, h8⟩ := hok
      clear HR
      simp only at h1 h2 h3 h4 h5 h6 h7 h8
      obtain ⟨p1, hp1, hp1l, P1⟩ := xor_nm (rotr_lt e 6 h5) (rotr_lt e 11 h5)
      obtain ⟨p2, hp2, hp2l, P2⟩ := xor_nm hp1l (rotr_lt e 25 h5)
      obtain ⟨p3, hp3, hp3l, P3⟩ := and_nm h5 h6
      obtain ⟨p4, hp4, hp4l, P4⟩ := not_nm h5
      have hp4' : bits .xor .u32 (if IntKind.u32.signed = true then -1 else IntKind.u32.max) (e : Int) = (p4 : Int) := hp4
      obtain ⟨p5, hp5, hp5l, P5⟩ := and_nm hp4l h7
      obtain ⟨p6, hp6, hp6l, P6⟩ := xor_nm hp3l hp5l
      obtain ⟨q1, hq1, hq1l, Q1⟩ := xor_nm (rotr_lt a 2 h1) (rotr_lt a 13 h1)
      obtain ⟨q2, hq2, hq2l, Q2⟩ := xor_nm hq1l (rotr_lt a 22 h1)
      obtain ⟨q3, hq3, hq3l, Q3⟩ := and_nm h1 h2
      obtain ⟨q4, hq4, hq4l, Q4⟩ := and_nm h1 h3
      obtain ⟨q5, hq5, hq5l, Q5⟩ := xor_nm hq3l hq4l
      obtain ⟨q6, hq6, hq6l, Q6⟩ := and_nm h2 h3
      obtain ⟨q7, hq7, hq7l, Q7⟩ := xor_nm hq5l hq6l
      go_wp2
      go_quiet (exact Calls.quiet_of (turn_lit _ _ (by assumption) (by decide) _))
      go_wp2_with (go_at_call 102; go_must (refine (turn_lit _ _ (by assumption) (by decide) _).mono ?_; rintro e w' ⟨rfl, m, rfl⟩))
      go_roundw
      case rel =>
        have e1 : bs1 e = p2 := by rw [P2.out, P1.out]; rfl
        have e2 : cho e f g = p6 := by rw [P6.out, P3.out, P5.out, P4.out]; rfl
        have e3 : bs0 a = q2 := by rw [Q2.out, Q1.out]; rfl
        have e4 : maj a b1 c1 = q7 := by rw [Q7.out, Q5.out, Q3.out, Q4.out, Q6.out]; rfl
        have eT : tee ⟨a, b1, c1, d, e, f, g, h⟩ c x = (h + p2 + p6 + c + x) % 4294967296 := by rw [← e1, ← e2]; rfl
        have eU : you ⟨a, b1, c1, d, e, f, g, h⟩ = (q2 + q7) % 4294967296 := by rw [← e3, ← e4]; rfl
        refine ⟨k + 1, _, Mt.step ⟨a, b1, c1, d, e, f, g, h⟩ c x, by omega, by go_num, HS.out.symm, ?_, rfl, rfl, rfl, ?_, rfl, rfl, rfl, (congrArg (fun w : World => w.drewN _) HW.out).trans (World.drewN_drewN _ _ _)⟩
        · show _ = Value.int .u32 (((tee ⟨a, b1, c1, d, e, f, g, h⟩ c x + you ⟨a, b1, c1, d, e, f, g, h⟩) % 4294967296 : Nat) : Int)
          rw [eT, eU]; congr 1
        · show _ = Value.int .u32 (((d + tee ⟨a, b1, c1, d, e, f, g, h⟩ c x) % 4294967296 : Nat) : Int)
          rw [eT]; congr 1
      case measure => simp [intOf]; omega
    · obtain rfl : k = M := by have := hM.out; omega
      have B1 := B1.drewN q
      have B3 := B3.drewN q
      have Z := below_drewN Z q
      generalize w6.drewN q = w7 at B1 B3 Z
      have HV : Hid (plus s r = plus s (run s W k)) := by show _ = _; rw [HR.out]
      go_wp2_with (refine bd_eight rfl 101 102 103 104 105 106 107 108 rfl r rfl rfl rfl rfl rfl rfl rfl rfl ?_)
      go_loopw [110] (fun i wr => ∃ j : Nat, j ≤ 8 ∧ i = .int .i64 j ∧ Blk wr g1 126 (nums .u32 (mixL s r j)) ∧ Blk wr g3 126 (nums .u32 (List.replicate 8 0)) ∧ Below w.heap.size w wr) (fun i _ => 8 - (intOf i).toNat)
      case atStart => exact ⟨0, by omega, rfl, B1, B3, Z⟩
      case round =>
        clear B1 B3 Z
        obtain ⟨j, hj, rfl, C1, C3, Z⟩ := hrel
        by_cases hlt8 : j < 8
        · have hxe := idx_run (P := Tryz.prog) Tryz.underlying126 Tryz.sizeOf125 Tryz.isAgg125 .u32 r.l j hlt8 hlt8 wr
          have hc := C1.num j (by rw [mixL_len]; exact hlt8)
          have hf := C1.frozen j
          have HS : Hid (mixL s r (j + 1) = (mixL s r j).set j (((mixL s r j).getD j 0 + r.l.getD j 0) % 4294967296)) := rfl
          generalize r.l.getD j 0 = x at hxe HS
          generalize (mixL s r j).getD j 0 = y at hc HS
          go_wp2
          go_roundw
          case rel =>
            refine ⟨j + 1, by omega, by go_num, ?_, C3.setOther n13 _, Z.setCell hg1 _⟩
            rw [HS.out, show ((y : Int) + (x : Int)) % 4294967296 = (((y + x) % 4294967296 : Nat) : Int) by omega]
            exact C1.setNum _ _
          case measure => simp [intOf]; omega
        · obtain rfl : j = 8 := by omega
          rw [mixL_end, HV.out] at C1
          have IV : Hid ((Tryz.prog.info? 126).map (·.size) = some (nums .u32 (plus s (run s W k)).l).length) := by show _ = _; rw [nums_length, l_len]; exact s41
          have NV : Hid ((nums .u32 (plus s (run s W k)).l).length = (nums .u32 (List.replicate 8 0)).length) := by show _ = _; rw [nums_length, nums_length, l_len, List.length_replicate]
          go_wp2_with (first | (refine ld_all rfl 126 (.tmp 2) rfl g1 126 _ 8 125 rfl C1 Tryz.underlying126 IV.out ?_) | (refine st_all rfl 126 (.tmp 4) (.tmp 121) rfl g3 126 _ (nums .u32 (plus s (run s W k)).l) rfl rfl C3 NV.out IV.out (nums_one _ _) ?_))
          intro w8 D3 G8
          go_wp2
          (try simp only [Exit.inBlock, Exit.then])
          refine bodyPost_ret (res_row rfl _ g3 126 _ _ rfl D3 Tryz.underlying126 rfl IV.out) rfl ⟨by rw [HWW.out], Z.grown G8 Z.size (fun r e => by obtain rfl := Option.some.inj e; exact hg3)⟩
end Go.Proofs.YtmbglggodifboaaGreat.Sh
