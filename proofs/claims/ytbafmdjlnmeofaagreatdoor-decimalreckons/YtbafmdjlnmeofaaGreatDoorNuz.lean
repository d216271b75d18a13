/-
  The document's own sign and Ten.
-/
import Derived.Test.YtbafmdjlnmeofaaGreatDoorNu
namespace Go.Proofs.YtbafmdjlnmeofaaGreatDoor
open Go.RowKit
set_option linter.unusedVariables false
theorem sign47 (x y : Int) (w : World) : Calls Tryz.prog 66 #[.int .i64 x, .int .i64 y] w fun e w' => e = .returned (.int .i64 (sg x y)) ∧ w' = w := by
  go_enter Tryz.func66, Tryz.ntmps66
  go_wp2
  all_goals
    go_ret
    refine ⟨ret_sg ?_, rfl⟩
    simp only [sg]
    split <;> (try split) <;> omega
theorem ten66 (n : Nat) (hn : n ≤ 18) (w : World) : Calls Tryz.prog 28 #[.int .i64 (n : Int)] w fun e w' => e = .returned (.int .u64 ((10 ^ n : Nat) : Int)) ∧ w' = w := by
  go_enter Tryz.func28, Tryz.ntmps28
  go_wp2
  go_loopw [3, 4] (fun p i wr => ∃ k v : Nat, k ≤ n ∧ i = .int .i64 (k : Int) ∧ p = .int .u64 (v : Int) ∧ wr = w ∧ Hid (v = 10 ^ k)) (fun _ i _ => n - (intOf i).toNat)
  case atStart => exact ⟨0, 1, by omega, rfl, rfl, rfl, rfl⟩
  case round =>
    obtain ⟨k, v, hk, rfl, rfl, rfl, HV⟩ := hrel
    by_cases hlt : k < n
    case neg =>
      go_wp2
      go_ret
      exact ⟨ret_num (by rw [HV.out, show k = n by omega]), rfl⟩
    have hv : v * 10 < 18446744073709551616 := by
      have h1 := pow_le (k := k + 1) (n := 18) (by omega)
      rw [Nat.pow_succ, ← HV.out] at h1
      omega
    go_wp2
    go_roundw
    case rel => exact ⟨k + 1, v * 10, by omega, by go_num, by go_num, trivial, show v * 10 = 10 ^ (k + 1) by rw [Nat.pow_succ, HV.out]⟩
    case measure => simp [intOf]; omega
end Go.Proofs.YtbafmdjlnmeofaaGreatDoor
