/-
  How many bits a number has (mathematics), and how many of its last ones are nought: math/bits.TrailingZeros.
-/
import Derived.Test.YtfkiciejipcgkaaDoorSMem
import Derived.Test.YtfkiciejipcgkaaDoorEb
import Derived.Lib.ItoaNum
import Derived.Shelf.Spec.TrailingZeros
namespace Go.Proofs.YtfkiciejipcgkaaDoor
open Go.RowKit Sh
theorem bitLen_pow {x : Nat} (h0 : 0 < x) (h : x < 18446744073709551616) : ∃ k, Lib.bitLen x = k + 1 ∧ 2 ^ k ≤ x ∧ x < 2 ^ (k + 1) := by
  obtain ⟨a, b, c⟩ := Lib.bitLenAux_bounds 64 x h (by omega)
  exact ⟨Lib.bitLenAux 64 x - 1, by show Lib.bitLenAux 64 x = _; omega, b, by rw [show Lib.bitLenAux 64 x - 1 + 1 = Lib.bitLenAux 64 x by omega]; exact c⟩
theorem bitLen_of {x k : Nat} (h1 : 2 ^ k ≤ x) (h2 : x < 2 ^ (k + 1)) (h : x < 18446744073709551616) : Lib.bitLen x = k + 1 := by
  have := Mk.pow_pos2 k
  obtain ⟨j, e, a, b⟩ := bitLen_pow (x := x) (by omega) h
  rw [e]
  rcases Nat.lt_trichotomy j k with c | c | c
  · have := Nat.pow_le_pow_right (n := 2) (by decide) (show j + 1 ≤ k by omega); omega
  · rw [c]
  · have := Nat.pow_le_pow_right (n := 2) (by decide) (show k + 1 ≤ j by omega); omega
/-- the table of the last noughts, in its variable. -/
def Tb (w : World) : Prop := TabAt 1 Lib.deBruijn64tab w
theorem tb_lt {w : World} (h : Tb w) : 1 < w.heap.size := World.block_lt_of_cell? w _ (h 0 (by decide))
theorem Tb.grow {w w' : World} (h : Tb w) (g : Below w.heap.size w w') : Tb w' := fun j hj => (g.cell (p := ⟨1, j, none⟩) (tb_lt h)).trans (h j hj)
set_option maxHeartbeats 1000000 in
theorem tz64_any (x k idx : Nat) (w : World) (hx0 : ((x : Int) == 0) = false)
    (key : IntKind.u64.wrap (bits BinOp.and IntKind.u64 (x : Int) (IntKind.u64.wrap (-(x : Int))) * 285870213051353865) / 288230376151711744 = (idx : Int))
    (hi : idx < 64) (hk : k < 64) (hcell : w.cell? ⟨1, idx, none⟩ = some (.int .u8 k)) :
    Calls Tryd.prog 45 #[.int .u64 (x : Int)] w fun e w' => e = .returned (.int .i64 (k : Int)) ∧ w' = w := by
  go_enter Tryd.func45, Tryd.ntmps45
  go_wp2_with (simp only [key])
  go_ret
  exact ⟨rfl, rfl⟩
theorem odd_of (x : Nat) (h0 : 0 < x) (h : x < 18446744073709551616) : ∃ c u, x = (2 * u + 1) * 2 ^ c ∧ Lib.ctz 64 x = c ∧ c < 64 := by
  obtain ⟨m, a, b⟩ := Lib.ctzFrom_spec 64 x h0 h
  refine ⟨_, m, ?_, by unfold Lib.ctz; rw [if_neg (by omega)], b⟩
  rw [Nat.mul_comm]; exact a
theorem tz_any (x : Nat) (h0 : 0 < x) (hx : x < 18446744073709551616) (w : World) (hT : Tb w) :
    Calls Tryd.prog 37 #[.int .u64 (x : Int)] w fun e w' => e = .returned (.int .i64 (Lib.ctz 64 x : Int)) ∧ w' = w := by
  obtain ⟨hlow, hk⟩ := Lib.lowest_bit 64 x (by omega) hx
  obtain ⟨hi, htab⟩ := Lib.deBruijn64_at _ hk
  have hcell := hT _ hi
  rw [htab] at hcell
  have K := tz64_any x _ _ w (by simp; omega) (tz64_key x _ hx (by omega) hlow) hi hk hcell
  clear hlow hk hi htab hcell
  go_enter Tryd.func37, Tryd.ntmps37
  go_wp2_with fail
  refine K.mono ?_
  rintro e w' ⟨rfl, rfl⟩
  go_wp2
  go_ret
  exact ⟨rfl, rfl⟩
end Go.Proofs.YtfkiciejipcgkaaDoor
