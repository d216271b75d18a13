/-
  The contract of digest.Hex: a digest in hexadecimal digits.
-/
import Derived.Test.YtajikbnnlhokbaaSpr
import Derived.Laws.BytesArg
namespace Go.Proofs.Ytajikbnnlhokbaa
open Go.RowKit Math
def digs : List Nat := [48, 49, 50, 51, 52, 53, 54, 55, 56, 57, 97, 98, 99, 100, 101, 102]
def dig (d : Nat) : Nat := digs.getD d 0
theorem dig_lt (d : Nat) : dig d < 256 := getD_of_mem (p := fun x => x < 256) (by decide) (by decide) d
def hexT : ByteArray := { data := #[48, 49, 50, 51, 52, 53, 54, 55, 56, 57, 97, 98, 99, 100, 101, 102] }
theorem hexT_at : ∀ d : Nat, d < 16 → hexT[d]? = some (UInt8.ofNat (dig d)) := by
  intro d hd
  match d, hd with
  | 0, _ | 1, _ | 2, _ | 3, _ | 4, _ | 5, _ | 6, _ | 7, _ | 8, _ | 9, _ | 10, _ | 11, _ | 12, _ | 13, _ | 14, _ | 15, _ => rfl
  | n + 16, h => omega
theorem hex_idx (d : Nat) (hd : d < 16) (w : World) : (Instr.index 9 (.string hexT) (.int .u8 (d : Int))).run Try.prog w = .ok (.int .u8 ((dig d : Nat) : Int)) w := by
  have e : (UInt8.ofNat (dig d)).toNat = dig d := by
    have := dig_lt d
    simp [UInt8.toNat_ofNat']; omega
  simp [Instr.index, asIntOf, run_underlying Try.underlying9, hexT_at d hd, e]
/-- The digits behind so many bytes. -/
def hexL (h : List Nat) : Nat → List Nat
  | 0 => List.replicate 64 0
  | k + 1 => ((hexL h k).set (2 * k) (dig (h.getD k 0 / 16))).set (2 * k + 1) (dig (h.getD k 0 % 16))
theorem hexL_len (h : List Nat) : ∀ k, (hexL h k).length = 64
  | 0 => by simp [hexL]
  | k + 1 => by rw [hexL, List.length_set, List.length_set, hexL_len h k]
def hexS (h : List Nat) : ByteArray := strOfNums ((hexL h 32).map fun n : Nat => (n : Int))
theorem and15 (x : Nat) (hx : x < 256) : bits .and .u8 (x : Int) 15 = ((x % 16 : Nat) : Int) := by
  have := u8_and_nat x 15 hx (by omega)
  rw [nat_mask4] at this
  exact this
set_option maxHeartbeats 1000000 in
set_option maxRecDepth 8000 in
theorem hex_any (h : List Nat) (hl : h.length = 32) (ho : Hid (Oct h)) (M : Nat) (hM : Hid (M = 32)) (w : World) :
    Calls Try.prog 18 #[.agg (nums .u8 h).toArray] w fun e w' => e = .returned (.string (strOfNums ((hexL h M).map fun n : Nat => (n : Int)))) ∧ Below w.heap.size w w' := by
  have IH : Hid ((Try.prog.info? 25).map (·.size) = some (nums .u8 h).length) := by show _ = _; rw [nums_length, hl]; exact s25
  go_enter Try.func18, Try.ntmps18
  go_wp2_with (refine al_box rfl 25 (.tmp 0) rfl (nums .u8 h) rfl ?_)
  intro g1 w1 l1 B1 G1
  have Z := (Below.refl w.heap.size w).grown G1 (Nat.le_refl _) (by simp)
  clear G1
  go_wp2_with (refine al_zero rfl 42 rfl _ z42 ?_)
  intro g2 w2 l2 B2 G2
  have B1 := B1.kept G2 (by simp)
  have hg2 : w.heap.size ≤ g2 := Nat.le_trans Z.size l2
  have Z := Z.grown G2 Z.size (by simp)
  clear G2
  go_wp2_with (refine ld_all rfl 25 (.tmp 1) rfl g1 25 (nums .u8 h) 32 5 rfl B1 Try.underlying25 IH.out ?_)
  clear B1 IH
  go_loopw [7] (fun i wr => ∃ k : Nat, k ≤ 32 ∧ i = .int .i64 (k : Int) ∧ Blk wr g2 42 (nums .u8 (hexL h k)) ∧ Below w.heap.size w wr) (fun i _ => 32 - (intOf i).toNat)
  case atStart => exact ⟨0, by omega, rfl, B2, Z⟩
  case round =>
    clear B2 Z
    obtain ⟨k, hk, rfl, B2, Z⟩ := hrel
    by_cases hlt : k < 32
    · have hxe := idx_run (P := Try.prog) Try.underlying25 Try.sizeOf5 Try.isAgg5 .u8 h k hlt (by omega) wr
      have hx := oct_get ho.out k
      have HS : Hid (hexL h (k + 1) = ((hexL h k).set (2 * k) (dig (h.getD k 0 / 16))).set (2 * k + 1) (dig (h.getD k 0 % 16))) := rfl
      have hll := hexL_len h k
      generalize h.getD k 0 = x at hxe hx HS
      obtain ⟨d1, h1, h1l, D1⟩ : ∃ d1 : Nat, (x : Int) / 16 = (d1 : Int) ∧ d1 < 16 ∧ Hid (d1 = x / 16) := ⟨x / 16, by omega, by omega, rfl⟩
      obtain ⟨d2, h2, h2l, D2⟩ : ∃ d2 : Nat, bits .and .u8 (x : Int) 15 = (d2 : Int) ∧ d2 < 16 ∧ Hid (d2 = x % 16) := ⟨x % 16, and15 x hx, by omega, rfl⟩
      have i1 := hex_idx d1 h1l wr
      unfold hexT at i1
      have I2 : Hid (∀ W, (Instr.index 9 (.string hexT) (.int .u8 (d2 : Int))).run Try.prog W = .ok (.int .u8 ((dig d2 : Nat) : Int)) W) := fun W => hex_idx d2 h2l W
      rw [← D1.out, ← D2.out] at HS
      have t0 : (2 * (k : Int)).toNat = 2 * k := by omega
      have t1 : (2 * (k : Int) + 1).toNat = 2 * k + 1 := by omega
      go_wp2_with (refine st_num rfl 5 (.tmp 16) (.tmp 15) rfl g2 (2 * k) 42 .u8 (hexL h k) _ (dig d1) rfl rfl rfl B2 (by omega) s5 ?_)
      intro w3 B3 G3
      have i2 := I2.out w3
      unfold hexT at i2
      clear i1
      go_wp2_with (refine st_num rfl 5 (.tmp 23) (.tmp 22) rfl g2 (2 * k + 1) 42 .u8 _ _ (dig d2) rfl rfl rfl B3 (by rw [List.length_set]; omega) s5 ?_)
      intro w4 B4 G4
      have HB : Hid (Blk w4 g2 42 (nums .u8 (hexL h (k + 1)))) := by rw [HS.out]; exact B4
      have HZ : Hid (Below w.heap.size w w4) := (Z.grown G3 Z.size (fun r e => by obtain rfl := Option.some.inj e; exact hg2)).grown G4 (Nat.le_trans Z.size G3.size) (fun r e => by obtain rfl := Option.some.inj e; exact hg2)
      clear B4 G3 G4 B3 B2 i2 t0 t1 HS I2
      go_wp2
      go_roundw
      case rel => exact ⟨k + 1, by omega, by go_num, HB.out, HZ.out⟩
      case measure => simp [intOf]; omega
    · obtain rfl : k = M := by have := hM.out; omega
      have hcv := run_convert_bytes_arg (P := Try.prog) wr 22 5 Try.underlying22 Try.underlying5 g2 0 64 64 ((hexL h k).map fun n : Nat => (n : Int)) (by rw [List.length_map, hexL_len]) (fun i hi => by
        rw [Nat.zero_add, B2.num i (by rw [hexL_len]; exact hi)]
        simp [List.getD_eq_getElem?_getD, hexL_len, hi]) 9 Try.underlying9
      clear B2
      generalize hSS : strOfNums ((hexL h k).map fun n : Nat => (n : Int)) = S at hcv
      have HSS : Hid (strOfNums ((hexL h k).map fun n : Nat => (n : Int)) = S) := hSS
      clear hSS
      go_wp2
      go_ret
      exact ⟨congrArg (fun s => Ending.returned (Value.string s)) HSS.out.symm, Z⟩
#print axioms hex_any
end Go.Proofs.Ytajikbnnlhokbaa
