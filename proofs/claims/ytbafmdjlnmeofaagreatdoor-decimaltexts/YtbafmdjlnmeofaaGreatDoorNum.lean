/-
  Small functions over numbers: the library's cmp.Compare, math/bits.Mul64, Add64, Sub64, Div64 by ten; sign, magnitude, tens, Abs. · math/bits.Div64 by ten.
-/
import Derived.Test.YtbafmdjlnmeofaaGreatDoorOrg
import Derived.Lib.Mul64
import Derived.Laws.Bits64b
import Derived.Shelf.Spec.BitsCarry
import Derived.Deep.Cut
namespace Go.Proofs.YtbafmdjlnmeofaaGreatDoor
open Go.RowKit
set_option linter.unusedVariables false
/-- -1, 0 or 1. -/
def sg (a b : Int) : Int := if a < b then -1 else if b < a then 1 else 0
set_option linter.unusedVariables false
theorem ret_num {k : IntKind} {a b : Int} (h : a = b) : Ending.returned (.int k a) = .returned (.int k b) := by rw [h]
theorem ret_sg {k : IntKind} {a b c : Int} (h : a = sg b c) : Ending.returned (.int k a) = .returned (.int k (sg b c)) := by rw [h]
theorem nan57 (x : Int) (w : World) : Calls Tryz.prog 108 #[.int .u64 x] w fun e w' => e = .returned (.bool false) ∧ w' = w := by
  go_enter Tryz.func108, Tryz.ntmps108
  go_wp2
  go_ret
  exact ⟨by simp, rfl⟩
theorem nan58 (x : Int) (w : World) : Calls Tryz.prog 109 #[.int .i64 x] w fun e w' => e = .returned (.bool false) ∧ w' = w := by
  go_enter Tryz.func109, Tryz.ntmps109
  go_wp2
  go_ret
  exact ⟨by simp, rfl⟩
theorem cmp39 (x y : Int) (w : World) : Calls Tryz.prog 79 #[.int .u64 x, .int .u64 y] w fun e w' => e = .returned (.int .i64 (sg x y)) ∧ w' = w := by
  go_enter Tryz.func79, Tryz.ntmps79
  go_wp2_with (go_at_call 108; refine (nan57 _ _).mono ?_; rintro e w' ⟨rfl, rfl⟩)
  all_goals
    go_ret
    refine ⟨ret_sg ?_, rfl⟩
    simp only [sg]
    split <;> (try split) <;> omega
theorem cmp41 (x y : Int) (w : World) : Calls Tryz.prog 81 #[.int .i64 x, .int .i64 y] w fun e w' => e = .returned (.int .i64 (sg x y)) ∧ w' = w := by
  go_enter Tryz.func81, Tryz.ntmps81
  go_wp2_with (go_at_call 109; refine (nan58 _ _).mono ?_; rintro e w' ⟨rfl, rfl⟩)
  all_goals
    go_ret
    refine ⟨ret_sg ?_, rfl⟩
    simp only [sg]
    split <;> (try split) <;> omega
theorem sign59 (x : Int) (w : World) : Calls Tryz.prog 110 #[.int .i64 x] w fun e w' => e = .returned (.int .i64 (sg x 0)) ∧ w' = w := by
  go_enter Tryz.func110, Tryz.ntmps110
  go_wp2_with (go_at_call 81; refine (cmp41 _ _ _).mono ?_; rintro e w' ⟨rfl, rfl⟩)
  go_ret
  exact ⟨rfl, rfl⟩
theorem mag61 (x : Int) (h0 : -9223372036854775808 ≤ x) (h1 : x < 9223372036854775808) (w : World) : Calls Tryz.prog 111 #[.int .i64 x] w fun e w' => e = .returned (.int .u64 (x.natAbs : Int)) ∧ w' = w := by
  go_enter Tryz.func111, Tryz.ntmps111
  go_wp2
  all_goals
    go_ret
    refine ⟨ret_num ?_, rfl⟩
    try simp only [IntKind.wrap_u64]
    omega
theorem abs65 (x : Int) (h0 : -9223372036854775808 ≤ x) (h1 : x < 9223372036854775808) (w : World) : Calls Tryz.prog 34 #[.int .i64 x] w fun e w' => e = .returned (.int .u64 (x.natAbs : Int)) ∧ w' = w := by
  go_enter Tryz.func34, Tryz.ntmps34
  go_wp2
  all_goals
    go_ret
    refine ⟨ret_num ?_, rfl⟩
    try simp only [IntKind.wrap_u64]
    omega
theorem pow_le {k n : Nat} (h : k ≤ n) : 10 ^ k ≤ 10 ^ n := Nat.pow_le_pow_right (by decide) h
theorem tens62 (n : Nat) (hn : n ≤ 18) (w : World) : Calls Tryz.prog 112 #[.int .i64 (n : Int)] w fun e w' => e = .returned (.int .u64 ((10 ^ n : Nat) : Int)) ∧ w' = w := by
  go_enter Tryz.func112, Tryz.ntmps112
  go_wp2
  go_loopw [3, 5] (fun p i wr => ∃ k v : Nat, k ≤ n ∧ i = .int .i64 (k : Int) ∧ p = .int .u64 (v : Int) ∧ wr = w ∧ Hid (v = 10 ^ k)) (fun _ i _ => n - (intOf i).toNat)
  case atStart => exact ⟨0, 1, by omega, rfl, rfl, rfl, rfl⟩
  case round =>
    obtain ⟨k, v, hk, rfl, rfl, rfl, HV⟩ := hrel
    by_cases hlt : k < n
    case neg =>
      go_wp2
      go_ret
      exact ⟨ret_num (by rw [HV.out, show k = n by omega]), rfl⟩
    have hv : v * 10 < 18446744073709551616 := by
      have h1 := pow_le (k := k + 1) (n := 18) (by omega)
      rw [Nat.pow_succ, ← HV.out] at h1
      omega
    go_wp2
    go_roundw
    case rel => exact ⟨k + 1, v * 10, by omega, by go_num, by go_num, trivial, show v * 10 = 10 ^ (k + 1) by rw [Nat.pow_succ, HV.out]⟩
    case measure => simp [intOf]; omega
theorem tensD (n : Nat) (hn : n ≤ 18) (w : World) : Calls Tryz.prog 52 #[.int .i64 (n : Int)] w fun e w' => e = .returned (.int .u64 ((10 ^ n : Nat) : Int)) ∧ w' = w := by
  go_enter Tryz.func52, Tryz.ntmps52
  go_wp2
  go_loopw [3, 5] (fun p i wr => ∃ k v : Nat, k ≤ n ∧ i = .int .i64 (k : Int) ∧ p = .int .u64 (v : Int) ∧ wr = w ∧ Hid (v = 10 ^ k)) (fun _ i _ => n - (intOf i).toNat)
  case atStart => exact ⟨0, 1, by omega, rfl, rfl, rfl, rfl⟩
  case round =>
    obtain ⟨k, v, hk, rfl, rfl, rfl, HV⟩ := hrel
    by_cases hlt : k < n
    case neg =>
      go_wp2
      go_ret
      exact ⟨ret_num (by rw [HV.out, show k = n by omega]), rfl⟩
    have hv : v * 10 < 18446744073709551616 := by
      have h1 := pow_le (k := k + 1) (n := 18) (by omega)
      rw [Nat.pow_succ, ← HV.out] at h1
      omega
    go_wp2
    go_roundw
    case rel => exact ⟨k + 1, v * 10, by omega, by go_num, by go_num, trivial, show v * 10 = 10 ^ (k + 1) by rw [Nat.pow_succ, HV.out]⟩
    case measure => simp [intOf]; omega
namespace Mul
theorem maskN (a : Nat) (ha : a < 18446744073709551616) : bits .and .u64 (a : Int) 4294967295 = ((a % 4294967296 : Nat) : Int) := by
  have h := bits_and_u64_nat a 4294967295 ha (by omega)
  have e : a &&& 4294967295 = a % 4294967296 := Nat.and_two_pow_sub_one_eq_mod a 32
  rw [e] at h
  exact h
theorem divN (a : Nat) : (a : Int) / 4294967296 = ((a / 4294967296 : Nat) : Int) := by omega
theorem mulN (a b : Nat) : (a : Int) * (b : Int) = ((a * b : Nat) : Int) := (Int.natCast_mul a b).symm
theorem addN (a b : Nat) : (a : Int) + (b : Int) = ((a + b : Nat) : Int) := (Int.natCast_add a b).symm
theorem wrapN (a : Nat) (ha : a < 18446744073709551616) : IntKind.u64.wrap (a : Int) = (a : Int) := by rw [IntKind.wrap_u64]; omega
theorem wrapM (a : Nat) : IntKind.u64.wrap (a : Int) = ((a % 18446744073709551616 : Nat) : Int) := by rw [IntKind.wrap_u64]; omega
end Mul
set_option maxHeartbeats 1000000 in
theorem mul60 (x y : Nat) (hx : x < 18446744073709551616) (hy : y < 18446744073709551616) (w : World) :
    Calls Tryz.prog 57 #[.int .u64 x, .int .u64 y] w fun e w' => e = .returned (.tuple #[.int .u64 ((x * y / 18446744073709551616 : Nat) : Int), .int .u64 ((x * y % 18446744073709551616 : Nat) : Int)]) ∧ w' = w := by
  obtain ⟨bd, bt, bw, hhi⟩ := Lib.mul64_hi x y hx hy
  have ba := Lib.half_mul_le (a := x / 4294967296) (b := y / 4294967296) (by omega) (by omega)
  have bb := Lib.half_mul_le (a := x / 4294967296) (b := y % 4294967296) (by omega) (by omega)
  have bc := Lib.half_mul_le (a := x % 4294967296) (b := y / 4294967296) (by omega) (by omega)
  have ba' : x / 4294967296 * (y / 4294967296) < 18446744073709551616 := by omega
  have bb' : x / 4294967296 * (y % 4294967296) < 18446744073709551616 := by omega
  have bc' : x % 4294967296 * (y / 4294967296) < 18446744073709551616 := by omega
  have hlt : x * y / 18446744073709551616 < 18446744073709551616 := by
    apply Nat.div_lt_of_lt_mul
    exact Nat.mul_lt_mul'' hx hy
  have bh : x / 4294967296 * (y / 4294967296) + (x / 4294967296 * (y % 4294967296) + x % 4294967296 * (y % 4294967296) / 4294967296) / 4294967296 + ((x / 4294967296 * (y % 4294967296) + x % 4294967296 * (y % 4294967296) / 4294967296) % 4294967296 + x % 4294967296 * (y / 4294967296)) / 4294967296 < 18446744073709551616 := by rw [hhi]; exact hlt
  have bh1 : x / 4294967296 * (y / 4294967296) + (x / 4294967296 * (y % 4294967296) + x % 4294967296 * (y % 4294967296) / 4294967296) / 4294967296 < 18446744073709551616 := by omega
  go_enter Tryz.func57, Tryz.ntmps57
  go_wp2
  simp only [Mul.maskN x hx, Mul.maskN y hy, Mul.divN, Mul.mulN, Mul.addN, Mul.wrapN _ bd, Mul.wrapN _ bb', Mul.wrapN _ bt, Mul.maskN _ bt, Mul.wrapN _ bc', Mul.wrapN _ bw, Mul.wrapN _ ba', Mul.wrapN _ bh1, Mul.wrapN _ bh, Mul.wrapM (x * y)]
  rw [hhi]
  go_ret2
  exact ⟨rfl, rfl⟩
theorem or63 (b x y : Int) (g c : Nat) (w : World) (c0 : w.cell? ⟨g, 0, none⟩ = some (.int .i64 x)) (c1 : w.cell? ⟨g, 1, none⟩ = some (.int .i64 y)) : Calls Tryz.prog 113 #[.slice (some ⟨g, 0, none⟩) 2 c] w fun e w' => e = .returned (.int .i64 (if x ≠ 0 then x else y)) ∧ w' = w := by
  go_enter Tryz.func113, Tryz.ntmps113
  go_wp2
  go_loopw [5, 8] (fun _ i wr => ∃ k : Nat, k ≤ 2 ∧ i = .int .i64 (k : Int) ∧ wr = w ∧ (0 < k → x = 0) ∧ (1 < k → y = 0)) (fun _ i _ => 2 - (intOf i).toNat)
  case atStart => exact ⟨0, by omega, rfl, rfl, by omega, by omega⟩
  case round =>
    obtain ⟨k, hk, rfl, rfl, h1, h2⟩ := hrel
    match k, hk, h1, h2 with
    | 0, hk, h1, h2 =>
      by_cases hx : x = 0
      · subst hx
        go_wp2
        go_roundw
        case rel => exact ⟨1, by omega, by go_num, trivial, by simp, by simp⟩
        case measure => simp [intOf]
      · go_wp2
        go_ret
        exact ⟨ret_num (by simp), rfl⟩
    | 1, hk, h1, h2 =>
      have hx := h1 (by omega)
      subst hx
      by_cases hy : y = 0
      · subst hy
        go_wp2
        go_roundw
        case rel => exact ⟨2, by omega, by go_num, trivial, by simp, by simp⟩
        case measure => simp [intOf]
      · go_wp2
        go_ret
        exact ⟨ret_num (by simp), rfl⟩
    | 2, hk, h1, h2 =>
      have hx := h1 (by omega)
      have hy := h2 (by omega)
      subst hx hy
      go_wp2
      go_ret
      exact ⟨ret_num (by simp), rfl⟩
    | k + 3, hk, h1, h2 => omega
theorem add64 (x y c : Nat) (hx : x < 18446744073709551616) (hy : y < 18446744073709551616) (hc : c ≤ 1) (w : World) :
    (callFunc 58 #[.int .u64 (x : Int), .int .u64 (y : Int), .int .u64 (c : Int)]).run Tryz.prog w =
      .ok (.value (.tuple #[.int .u64 (((x + y + c) % 18446744073709551616 : Nat) : Int), .int .u64 (((x + y + c) / 18446744073709551616 : Nat) : Int)])) w := by
  rw [run_callFunc_extern Tryz.func58 (by kernel_rfl) (by kernel_rfl) (by kernel_rfl) (e := add64Entry) (by kernel_rfl), run_add64 x y c (by omega) (by omega) (by omega) (by omega)]
  simp only [Result.andThen]
  congr 5 <;> omega
theorem sub64 (x y c : Nat) (hc : c ≤ 1) (w : World) :
    (callFunc 59 #[.int .u64 (x : Int), .int .u64 (y : Int), .int .u64 (c : Int)]).run Tryz.prog w =
      .ok (.value (.tuple #[.int .u64 (((x + 18446744073709551616 - y - c) % 18446744073709551616 : Nat) : Int), .int .u64 ((if x < y + c then 1 else 0 : Nat) : Int)])) w := by
  rw [run_callFunc_extern Tryz.func59 (by kernel_rfl) (by kernel_rfl) (by kernel_rfl) (e := sub64Entry) (by kernel_rfl), run_sub64 x y c hc]
  rfl
set_option maxRecDepth 20000 in
theorem len10 (w : World) : Calls Tryz.prog 116 #[.int .u64 10] w fun e w' => e = .returned (.int .i64 4) ∧ w' = w := by
  go_enter Tryz.func116, Tryz.ntmps116
  go_wp2
  go_ret
  exact ⟨by kernel_rfl, rfl⟩
theorem lead10 (w : World) : Calls Tryz.prog 105 #[.int .u64 10] w fun e w' => e = .returned (.int .i64 60) ∧ w' = w := by
  go_enter Tryz.func105, Tryz.ntmps105
  go_wp2_with (go_at_call 116; refine (len10 _).mono ?_; rintro e w' ⟨rfl, rfl⟩)
  go_ret
  exact ⟨rfl, rfl⟩
end Go.Proofs.YtbafmdjlnmeofaaGreatDoor
namespace Go.Proofs.YtbafmdjlnmeofaaGreatDoor
open Go.RowKit
set_option linter.unusedVariables false
theorem grow_dq (w : World) (q : Nat) : Grow w (w.drewN q) := ⟨rfl, rfl, rfl, Nat.le_refl _, fun _ _ => rfl⟩
theorem ret_pair {a b c d : Int} (h : a = b) (h2 : c = d) : Ending.returned (.tuple #[.int .u64 a, .int .u64 c]) = .returned (.tuple #[.int .u64 b, .int .u64 d]) := by rw [h, h2]
theorem div_small (l : Nat) (hl : l < 18446744073709551616) (w : World) :
    Calls Tryz.prog 76 #[.int .u64 0, .int .u64 (l : Int), .int .u64 10] w fun e w' => e = .returned (.tuple #[.int .u64 ((l / 10 : Nat) : Int), .int .u64 ((l % 10 : Nat) : Int)]) ∧ Grow w w' := by
  go_enter Tryz.func76, Tryz.ntmps76
  go_wp2
  go_quiet (fail)
  go_wp2
  go_ret2
  exact ⟨ret_pair (by omega) (by omega), grow_dq _ _⟩
theorem or_split (h x : Nat) (hh : h < 10) (hx : x < 1152921504606846976) : bits .or .u64 ((h : Int) * 1152921504606846976) (x : Int) = ((h * 1152921504606846976 + x : Nat) : Int) := by
  have e : (h : Int) * 1152921504606846976 = ((h * 1152921504606846976 : Nat) : Int) := by omega
  rw [e, bits_or_u64_nat _ _ (by omega) (by omega)]
  congr 1
  have := Nat.two_pow_add_eq_or_of_lt (i := 60) (b := x) (by simpa using hx) h
  have e2 : 2 ^ 60 * h = h * 1152921504606846976 := by omega
  rw [e2] at this
  exact this.symm
theorem v_div (x : Nat) : x * 1152921504606846976 / 4294967296 * 4294967296 = x * 1152921504606846976 := by omega
theorem dv_i1 (U q1 r1 v1 X : Nat) (hU : U = 2684354560 * q1 + r1) (hX : r1 * 4294967296 + v1 = X) (c2 : r1 < 2684354560) (c4 : v1 < 4294967296) :
    IntKind.u64.wrap (IntKind.u64.wrap (IntKind.u64.wrap ((U : Int) * 4294967296) + (v1 : Int)) - IntKind.u64.wrap ((q1 : Int) * 11529215046068469760)) = (X : Int) := by
  have e : (U : Int) * 4294967296 + (v1 : Int) - (q1 : Int) * 11529215046068469760 = (X : Int) := by omega
  simp only [IntKind.wrap_u64]
  rw [Int.emod_add_emod, ← Int.sub_emod, e]
  omega
theorem dv_j1 (X q0 : Nat) (hq0 : X / 2684354560 = q0) (d1 : q0 < 4294967296) : IntKind.u64.wrap ((X : Int) / 2684354560) = (q0 : Int) := by
  rw [show (X : Int) / 2684354560 = ((X / 2684354560 : Nat) : Int) from rfl, hq0, IntKind.wrap_u64]
  omega
theorem dv_j2 (X q0 r0 : Nat) (hX : X = 2684354560 * q0 + r0) (d1 : q0 < 4294967296) (d2 : r0 < 2684354560) : IntKind.u64.wrap ((X : Int) - (q0 : Int) * 2684354560) = (r0 : Int) := by
  rw [IntKind.wrap_u64, show (X : Int) - (q0 : Int) * 2684354560 = (r0 : Int) by omega]
  omega
theorem dv_sb (x : Int) : ∃ S : Nat, IntKind.u64.wrap x = (S : Int) ∧ S < 18446744073709551616 := ⟨(IntKind.u64.wrap x).toNat, by simp only [IntKind.wrap_u64]; omega, by simp only [IntKind.wrap_u64]; omega⟩
theorem dv_s (x : Int) : ∃ S : Nat, IntKind.u64.wrap x = (S : Int) := ⟨(IntKind.u64.wrap x).toNat, by simp only [IntKind.wrap_u64]; omega⟩
theorem dv_A (q1 q0 A : Nat) (h1 : q1 < 4294967296) (h0 : q0 < 4294967296) (hA : IntKind.u64.wrap (IntKind.u64.wrap ((q1 : Int) * 4294967296) + (q0 : Int)) = (A : Int)) : A = q1 * 4294967296 + q0 := by
  simp only [IntKind.wrap_u64] at hA
  rw [Int.emod_add_emod] at hA
  omega
theorem dv_D (X q0 r0 B D : Nat) (hX : X = 2684354560 * q0 + r0) (h0 : r0 < 2684354560) (hB : IntKind.u64.wrap ((X : Int) * 4294967296) = (B : Int)) (hD : IntKind.u64.wrap ((B : Int) - IntKind.u64.wrap ((q0 : Int) * 11529215046068469760)) = (D : Int)) : D = r0 * 4294967296 := by
  rw [← hB] at hD
  simp only [IntKind.wrap_u64] at hD
  rw [← Int.sub_emod, show (X : Int) * 4294967296 - (q0 : Int) * 11529215046068469760 = ((r0 * 4294967296 : Nat) : Int) by omega] at hD
  omega
theorem dv_s1 (v1 d V : Nat) (e2 : v1 * 4294967296 = V) (hV : d * 1152921504606846976 = V) : v1 = d * 268435456 := by omega
theorem dv_s2 (U q1 r1 v1 X q0 r0 : Nat) (e1 : U = 2684354560 * q1 + r1) (e3 : X = 2684354560 * q0 + r0) (e4 : r1 * 4294967296 + v1 = X) : 2684354560 * (q1 * 4294967296 + q0) + r0 = U * 4294967296 + v1 := by omega
theorem dv_s3 (h c d : Nat) : (h * 18446744073709551616 + (16 * c + d)) * 268435456 = (h * 1152921504606846976 + c) * 4294967296 + d * 268435456 := by omega
theorem dv_N (h l U V q1 r1 v1 X q0 r0 : Nat) (hU : h * 1152921504606846976 + l / 16 = U) (hV : l % 16 * 1152921504606846976 = V) (e1 : U = 2684354560 * q1 + r1) (e2 : v1 * 4294967296 = V) (e3 : X = 2684354560 * q0 + r0) (e4 : r1 * 4294967296 + v1 = X) :
    (h * 18446744073709551616 + l) * 268435456 = 2684354560 * (q1 * 4294967296 + q0) + r0 := by
  rw [dv_s2 U q1 r1 v1 X q0 r0 e1 e3 e4, dv_s1 v1 (l % 16) V e2 hV, ← hU, ← dv_s3, Nat.div_add_mod]
theorem dv_fin (N A r0 D : Nat) (hN : N * 268435456 = 2684354560 * A + r0) (h0 : r0 < 2684354560) (hD : D = r0 * 4294967296) : A = N / 10 ∧ D / 1152921504606846976 = N % 10 := by omega
set_option maxRecDepth 100000 in
set_option maxHeartbeats 1000000 in
theorem div_great (h l : Nat) (h0 : 0 < h) (h1 : h < 10) (hl : l < 18446744073709551616) (w : World) :
    Calls Tryz.prog 76 #[.int .u64 (h : Int), .int .u64 (l : Int), .int .u64 10] w fun e w' => e = .returned (.tuple #[.int .u64 (((h * 18446744073709551616 + l) / 10 : Nat) : Int), .int .u64 (((h * 18446744073709551616 + l) % 10 : Nat) : Int)]) ∧ Grow w w' := by
  have e1 : bits .or .u64 ((h : Int) * 1152921504606846976) ((l : Int) / 16) = ((h * 1152921504606846976 + l / 16 : Nat) : Int) := by
    have := or_split h (l / 16) h1 (by omega)
    rw [← this]
    congr 1
  have e2 : bits .and .u64 11529215046068469760 4294967295 = 0 := by decide +kernel
  have e3 : IntKind.u64.wrap ((l : Int) * 1152921504606846976) = (((l % 16) * 1152921504606846976 : Nat) : Int) := by rw [IntKind.wrap_u64]; omega
  have e4 : bits .and .u64 (((l % 16) * 1152921504606846976 : Nat) : Int) 4294967295 = 0 := by
    rw [Mul.maskN _ (by omega)]
    have : (l % 16) * 1152921504606846976 % 4294967296 = 0 := by omega
    rw [this]
    rfl
  obtain ⟨U, hU⟩ : ∃ U, h * 1152921504606846976 + l / 16 = U := ⟨_, rfl⟩
  obtain ⟨V, hV⟩ : ∃ V, (l % 16) * 1152921504606846976 = V := ⟨_, rfl⟩
  have HR : Hid (h * 1152921504606846976 + l / 16 = U ∧ (l % 16) * 1152921504606846976 = V) := ⟨hU, hV⟩
  rw [hU] at e1
  rw [hV] at e3 e4
  have bU : U < 11529215046068469760 := by omega
  have bV : V < 18446744073709551616 := by omega
  obtain ⟨q1, hq1⟩ : ∃ q1, U / 2684354560 = q1 := ⟨_, rfl⟩
  obtain ⟨r1, hr1⟩ : ∃ r1, U % 2684354560 = r1 := ⟨_, rfl⟩
  obtain ⟨v1, hv1⟩ : ∃ v1, V / 4294967296 = v1 := ⟨_, rfl⟩
  have c1 : q1 < 4294967296 := by omega
  have c2 : r1 < 2684354560 := by omega
  have c4 : v1 < 4294967296 := by omega
  have HU : Hid (U = 2684354560 * q1 + r1) := by rw [← hq1, ← hr1]; exact (Nat.div_add_mod U 2684354560).symm
  have HV : Hid (v1 * 4294967296 = V) := by
    have := v_div (l % 16)
    rw [HR.out.2, hv1] at this
    exact this
  have f1 : (U : Int) / 2684354560 = (q1 : Int) := by omega
  have f2 : (U : Int) - (q1 : Int) * 2684354560 = (r1 : Int) := by omega
  have f3 : (V : Int) / 4294967296 = (v1 : Int) := by omega
  clear hU hV hq1 hr1 hv1
  go_enter Tryz.func76, Tryz.ntmps76
  go_wp2_with (go_at_call 105; refine (lead10 _).mono ?_; rintro e w' ⟨rfl, rfl⟩)
  clear e1 e2 e3 e4
  go_loopw [15, 16] (fun q r wr => q = .int .u64 (q1 : Int) ∧ r = .int .u64 (r1 : Int) ∧ wr = w') (fun _ _ _ => 0)
  case atStart => exact ⟨rfl, rfl, rfl⟩
  case round =>
    obtain ⟨rfl, rfl, rfl⟩ := hrel
    clear f1 f2 f3 bU bV
    obtain ⟨S, hS⟩ : ∃ S : Nat, IntKind.u64.wrap (IntKind.u64.wrap (4294967296 * (r1 : Int)) + (v1 : Int)) = (S : Int) := dv_s _
    have g2 : ¬ (4294967296 : Int) ≤ (q1 : Int) := by omega
    obtain ⟨X, hX⟩ : ∃ X : Nat, r1 * 4294967296 + v1 = X := ⟨_, rfl⟩
    have i1 : IntKind.u64.wrap (IntKind.u64.wrap (IntKind.u64.wrap ((U : Int) * 4294967296) + (v1 : Int)) - IntKind.u64.wrap ((q1 : Int) * 11529215046068469760)) = (X : Int) := by
      exact dv_i1 U q1 r1 v1 X HU.out hX c2 c4
    obtain ⟨q0, hq0⟩ : ∃ q0, X / 2684354560 = q0 := ⟨_, rfl⟩
    obtain ⟨r0, hr0⟩ : ∃ r0, X % 2684354560 = r0 := ⟨_, rfl⟩
    have d1 : q0 < 4294967296 := by omega
    have d2 : r0 < 2684354560 := by omega
    have HX : Hid (X = 2684354560 * q0 + r0 ∧ r1 * 4294967296 + v1 = X ∧ q0 < 4294967296 ∧ r0 < 2684354560 ∧ q1 < 4294967296) := by rw [← hq0, ← hr0]; exact ⟨(Nat.div_add_mod X 2684354560).symm, hX, by omega, by omega, c1⟩
    have j1 : IntKind.u64.wrap ((X : Int) / 2684354560) = (q0 : Int) := by
      exact dv_j1 X q0 hq0 d1
    have j2 : IntKind.u64.wrap ((X : Int) - (q0 : Int) * 2684354560) = (r0 : Int) := by
      exact dv_j2 X q0 r0 HX.out.1 d1 d2
    have g3 : ¬ (4294967296 : Int) ≤ (q0 : Int) := by omega
    clear c1 c2 c4 d1 d2 hX hq0 hr0
    go_wp2
    clear hS i1 j1 j2 g2
    go_loopw [18, 16] (fun q r wr2 => q = .int .u64 (q0 : Int) ∧ r = .int .u64 (r0 : Int) ∧ wr2 = wr) (fun _ _ _ => 0)
    case atStart => exact ⟨rfl, rfl, rfl⟩
    case round =>
      obtain ⟨rfl, rfl, rfl⟩ := hrel
      have g5 : ¬ (4294967296 : Int) ≤ (q0 : Int) := by omega
      clear g3
      obtain ⟨S2, hS2, bS2⟩ : ∃ S : Nat, IntKind.u64.wrap (4294967296 * (r0 : Int)) = (S : Int) ∧ S < 18446744073709551616 := dv_sb _
      obtain ⟨A, hA⟩ : ∃ S : Nat, IntKind.u64.wrap (IntKind.u64.wrap ((q1 : Int) * 4294967296) + (q0 : Int)) = (S : Int) := dv_s _
      obtain ⟨B, hB, bB⟩ : ∃ S : Nat, IntKind.u64.wrap ((X : Int) * 4294967296) = (S : Int) ∧ S < 18446744073709551616 := dv_sb _
      obtain ⟨D, hD⟩ : ∃ S : Nat, IntKind.u64.wrap ((B : Int) - IntKind.u64.wrap ((q0 : Int) * 11529215046068469760)) = (S : Int) := dv_s _
      have HF : Hid (A = (h * 18446744073709551616 + l) / 10 ∧ D / 1152921504606846976 = (h * 18446744073709551616 + l) % 10) := by
        obtain ⟨x1, x2, x3, x4, x5⟩ := HX.out
        have y1 := dv_A q1 q0 A x5 x3 hA
        have y2 := dv_D X q0 r0 B D x1 x4 hB hD
        have y3 := dv_N h l U V q1 r1 v1 X q0 r0 HR.out.1 HR.out.2 HU.out HV.out x1 x2
        rw [← y1] at y3
        exact dv_fin _ A r0 D y3 x4 y2
      go_wp2
      go_ret2
      exact ⟨ret_pair (by rw [HF.out.1]; simp) (by rw [show (D : Int) / 1152921504606846976 = ((D / 1152921504606846976 : Nat) : Int) from rfl, HF.out.2]; simp), Grow.refl _⟩
/-- What is divided by ten, in two words. -/
theorem div_ten (h l : Nat) (h1 : h < 10) (hl : l < 18446744073709551616) (w : World) :
    Calls Tryz.prog 76 #[.int .u64 (h : Int), .int .u64 (l : Int), .int .u64 10] w fun e w' => e = .returned (.tuple #[.int .u64 (((h * 18446744073709551616 + l) / 10 : Nat) : Int), .int .u64 (((h * 18446744073709551616 + l) % 10 : Nat) : Int)]) ∧ Grow w w' := by
  by_cases h0 : h = 0
  · subst h0
    have := div_small l hl w
    simpa using this
  · exact div_great h l (by omega) h1 hl w
end Go.Proofs.YtbafmdjlnmeofaaGreatDoor
